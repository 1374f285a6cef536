/-
  The specification's purges by their contracts: what is read.
-/
import Derived.Test.YtkoikofaebfbjaaPgB
import Derived.Deep.DeepCutAuto
namespace Go.Proofs.Ytkoikofaebfbjaa
open Go.RowKit Pg
set_option linter.unusedVariables false
set_option linter.unusedSimpArgs false

/-- What is read, the first m words tried. -/
def rdT (s : ByteArray) : Nat → Int × ByteArray
  | 0 => (4, ⟨#[]⟩)
  | m + 1 => if preB (wrd ((m : Int) + 1)) s = true then ((m : Int) + 1, s.extract (wrd ((m : Int) + 1)).size s.size) else rdT s m
theorem rdT_is (s : ByteArray) : rdT s 3 = rdP s := by
  have h1 : wrd (((0 : Nat) : Int) + 1) = kyW := rfl
  have h2 : wrd (((1 : Nat) : Int) + 1) = tgW := rfl
  have h3 : wrd (((2 : Nat) : Int) + 1) = bgW := rfl
  show (if preB (wrd (((2 : Nat) : Int) + 1)) s = true then _ else if preB (wrd (((1 : Nat) : Int) + 1)) s = true then _ else if preB (wrd (((0 : Nat) : Int) + 1)) s = true then _ else _) = _
  rw [h1, h2, h3]
  rfl
theorem rdT_size (s : ByteArray) : ∀ m, (rdT s m).2.size ≤ s.size
  | 0 => Nat.zero_le _
  | m + 1 => by
    unfold rdT
    split
    · show (s.extract _ _).size ≤ _
      rw [ByteArray.size_extract]
      omega
    · exact rdT_size s m
theorem same15 {a b : ByteArray} : (a.toList == b.toList) = decide (a = b) := by
  by_cases h : a = b
  · subst h; simp
  · rw [decide_eq_false h]
    have : ¬ a.toList = b.toList := fun e => h (by rw [ByteArray.toList_eq, ByteArray.toList_eq] at e; exact ByteArray.ext (Array.toList_inj.1 e))
    simp [this]
/-- The answer's box, the purge's, and the words. -/
structure Pr (w W : World) (k : Int) (t : ByteArray) : Prop where
  low : Below w.heap.size w W
  rx : Bx W w.heap.size 26 #[.int .i64 0, .string ⟨#[]⟩]
  bx : Bx W (w.heap.size + 1) 26 #[.int .i64 k, .string t]
  tx : Bx W (w.heap.size + 1 + 1) 9 #[.string kyW, .string tgW, .string bgW]
theorem Pr.kept {w W W' : World} {k : Int} {t : ByteArray} (h : Pr w W k t) (hb : Below W.heap.size W W') : Pr w W' k t :=
  ⟨h.low.trans (hb.mono h.low.size), h.rx.kept hb, h.bx.kept hb, h.tx.kept hb⟩
theorem Pr.drew {w W : World} {k : Int} {t : ByteArray} (h : Pr w W k t) : Pr w W.drew k t := h.kept ⟨rfl, rfl, rfl, Nat.le_refl _, fun _ _ => rfl⟩
theorem Pr.put {w W : World} {k : Int} {t : ByteArray} (h : Pr w W k t) (k' : Int) (t' : ByteArray) : Pr w ((W.setCell ⟨w.heap.size + 1, 0, none⟩ (.int .i64 k')).setCell ⟨w.heap.size + 1, 1, none⟩ (.string t')) k' t' :=
  ⟨(h.low.setCell (Nat.le_succ _) _).setCell (Nat.le_succ _) _, (h.rx.other _ _ (by omega)).other _ _ (by omega), (h.bx.put 0 _).put 1 _, (h.tx.other _ _ (by omega)).other _ _ (by omega)⟩
theorem Pr.word {w W : World} {k : Int} {t : ByteArray} (h : Pr w W k t) {m : Nat} (hm : m < 3) : W.cell? ⟨w.heap.size + 1 + 1, m, none⟩ = some (.string (wrd ((m : Int) + 1))) := by
  rw [h.tx.cell]
  rcases (by omega : m = 0 ∨ m = 1 ∨ m = 2) with rfl | rfl | rfl <;> rfl
theorem Pr.new (w : World) : Pr w (((w.alloc (.cells #[.int .i64 0, .string ⟨#[]⟩] 26)).alloc (.cells #[.int .i64 4, .string ⟨#[]⟩] 26)).alloc (.cells #[.string kyW, .string tgW, .string bgW] 9)) 4 ⟨#[]⟩ := by
  have e1 : (w.alloc (.cells #[.int .i64 0, .string ⟨#[]⟩] 26)).heap.size = w.heap.size + 1 := by simp
  have e2 : ((w.alloc (.cells #[.int .i64 0, .string ⟨#[]⟩] 26)).alloc (.cells #[.int .i64 4, .string ⟨#[]⟩] 26)).heap.size = w.heap.size + 1 + 1 := by simp
  have b1 := Bx.new (w.alloc (.cells #[.int .i64 0, .string ⟨#[]⟩] 26)) 26 #[.int .i64 4, .string ⟨#[]⟩]
  rw [e1] at b1
  have b2 := Bx.new ((w.alloc (.cells #[.int .i64 0, .string ⟨#[]⟩] 26)).alloc (.cells #[.int .i64 4, .string ⟨#[]⟩] 26)) 9 #[.string kyW, .string tgW, .string bgW]
  rw [e2] at b2
  exact ⟨(((Below.refl _ w).alloc (Nat.le_refl _) _).alloc (by omega) _).alloc (by omega) _, ((Bx.new w 26 _).alloc _).alloc _, b1.alloc _, b2⟩
set_option maxRecDepth 100000 in
set_option maxHeartbeats 4000000 in
theorem specRdp (s : ByteArray) (w : World) (hs : s.size ≤ 1048576) :
    Calls Try.prog 13 #[.string s] w fun e w' => e = .returned (.tuple #[pgV (rdV s).1 (rdV s).2, .bool (rdB s)]) ∧ Below w.heap.size w w' := by
  have hS := fun W => specShp (rdP s).1 (rdP s).2 W (by rw [← rdT_is]; have := rdT_size s 3; omega)
  have P0 : Hid (Pr w (((w.alloc (.cells #[.int .i64 0, .string ⟨#[]⟩] 26)).alloc (.cells #[.int .i64 4, .string ⟨#[]⟩] 26)).alloc (.cells #[.string kyW, .string tgW, .string bgW] 9)) (rdT s 0).1 (rdT s 0).2) := (show Pr w _ _ _ from Pr.new w)
  have HT : Hid (rdT s 3 = rdP s) := rdT_is s
  unfold pgV at *
  go_enter Try.func13, Try.ntmps13
  go_wp2_with fail
  unfold kyW tgW bgW at P0
  generalize ((w.alloc (.cells #[.int .i64 0, .string ⟨#[]⟩] 26)).alloc (.cells #[.int .i64 4, .string ⟨#[]⟩] 26)).alloc (.cells #[.string ⟨#[107, 101, 121, 32]⟩, .string ⟨#[116, 97, 103, 32]⟩, .string ⟨#[98, 101, 103, 105, 110, 32]⟩] 9) = W0 at P0 ⊢
  go_loopw [6] (fun i wr => ∃ m : Nat, m ≤ 3 ∧ i = .int .i64 m ∧ Hid (Pr w wr (rdT s m).1 (rdT s m).2)) (fun i _ => 3 - (intOf i).toNat)
  case atStart => exact ⟨0, Nat.zero_le _, rfl, P0⟩
  case round =>
    clear P0
    obtain ⟨m, hm, rfl, hP⟩ := hrel
    by_cases hlt : m < 3
    · have hmi : (m : Int) < 3 := by omega
      have c1 := hP.out.word hlt
      have HN : Hid (rdT s (m + 1) = if preB (wrd ((m : Int) + 1)) s = true then ((m : Int) + 1, s.extract (wrd ((m : Int) + 1)).size s.size) else rdT s m) := (show _ = _ from rfl)
      have hw9 : (wrd ((m : Int) + 1)).size ≤ 6 := by unfold wrd; split; decide; split; decide; decide
      have HPB : Hid (preB (wrd ((m : Int) + 1)) s = (decide ((wrd ((m : Int) + 1)).size < s.size) && decide (s.extract 0 (wrd ((m : Int) + 1)).size = wrd ((m : Int) + 1)))) := (show _ = _ from rfl)
      generalize rdT s m = q at hP HN
      obtain ⟨q1, q2⟩ := q
      generalize wrd ((m : Int) + 1) = W at c1 HN hw9 HPB
      generalize preB W s = pb at HN HPB
      by_cases hW : W.size < s.size
      · have hWi : (W.size : Int) < (s.size : Int) := by omega
        have hcmp : ((s.extract 0 W.size).toList == W.toList) = pb := by rw [HPB.out, same15, decide_eq_true hW, Bool.true_and]
        clear HPB
        cases pb with
        | true =>
          have P1 : Hid (Pr w ((wr.setCell ⟨w.heap.size + 1, 0, none⟩ (.int .i64 ((m : Int) + 1))).setCell ⟨w.heap.size + 1, 1, none⟩ (.string (s.extract W.size s.size))) (rdT s (m + 1)).1 (rdT s (m + 1)).2) := by
            show Pr w _ _ _
            rw [HN.out]
            exact hP.out.put _ _
          have y0 := hP.out.bx.cell 0
          have y1 := hP.out.bx.cell 1
          have f0 := hP.out.bx.free 0
          have f1 := hP.out.bx.free 1
          clear HN hP
          go_wp2_with fail
          go_region
          all_goals
            go_wp2
            go_roundw
            case rel => exact ⟨m + 1, by omega, by go_num, (show Hid _ from P1.out.drew)⟩
            case measure => simp [intOf]; omega
        | false =>
          have P1 : Hid (Pr w wr (rdT s (m + 1)).1 (rdT s (m + 1)).2) := by
            show Pr w _ _ _
            rw [HN.out]
            exact hP.out
          clear HN hP
          go_wp2_with fail
          go_region
          all_goals
            go_wp2
            go_roundw
            case rel => exact ⟨m + 1, by omega, by go_num, (show Hid _ from P1.out.drew)⟩
            case measure => simp [intOf]; omega
      · have hWi : ¬ (W.size : Int) < (s.size : Int) := by omega
        obtain rfl : pb = false := by rw [HPB.out, decide_eq_false hW]; rfl
        have P1 : Hid (Pr w wr (rdT s (m + 1)).1 (rdT s (m + 1)).2) := by
          show Pr w _ _ _
          rw [HN.out]
          exact hP.out
        clear HN hP HPB
        go_wp2_with fail
        go_region
        all_goals
          go_wp2
          go_roundw
          case rel => exact ⟨m + 1, by omega, by go_num, (show Hid _ from P1.out.drew)⟩
          case measure => simp [intOf]; omega
    · obtain rfl : m = 3 := by omega
      rw [HT.out] at hP
      have HB : Hid (rdB s = decide (shwP (rdP s).1 (rdP s).2 = s)) := (show _ = _ from rfl)
      have HV : Hid (rdV s = if rdB s = true then rdP s else (0, ⟨#[]⟩)) := (show _ = _ from rfl)
      generalize rdP s = q at hP hS HB HV
      obtain ⟨q1, q2⟩ := q
      have hcmp : ((shwP q1 q2).toList == s.toList) = rdB s := by rw [HB.out, same15]
      have y0 := hP.out.bx.cell 0
      have y1 := hP.out.bx.cell 1
      simp only at hS y0 y1
      generalize shwP q1 q2 = T at hS hcmp
      obtain ⟨V, hV⟩ : ∃ V, rdV s = V := ⟨_, rfl⟩
      obtain ⟨rb, hrb⟩ : ∃ rb, rdB s = rb := ⟨_, rfl⟩
      have HV1 : Hid (rdV s = V) := hV
      have HB1 : Hid (rdB s = rb) := hrb
      rw [hV, hrb] at HV
      rw [hrb] at hcmp
      clear HB HT hV hrb
      go_wp2_with fail
      refine (hS _).mono ?_
      rintro e w1 ⟨rfl, hb1⟩
      have P1 : Hid (Pr w w1 q1 q2) := (show Pr w _ _ _ from hP.out.kept hb1)
      clear hb1 hP y0 y1 hS
      have y0 := P1.out.bx.cell 0
      have y1 := P1.out.bx.cell 1
      have z0 := P1.out.rx.cell 0
      have z1 := P1.out.rx.cell 1
      have f0 := P1.out.rx.free 0
      have f1 := P1.out.rx.free 1
      have HL := P1.out.low
      have hne : w.heap.size ≠ w.heap.size + 1 := by omega
      cases rb with
      | false =>
        have hcm2 : (T.toList != s.toList) = true := by simp [bne, hcmp]
        obtain rfl : V = (0, ⟨#[]⟩) := HV.out
        go_wp2
        refine bodyPost_ret (v := .tuple #[.agg #[.int .i64 0, .string ⟨#[]⟩], .bool false]) (by simp [results, Try.results13, go_sem, z0, z1]) rfl ⟨by rw [HV1.out, HB1.out], (HL.setCell (Nat.le_refl _) _).setCell (Nat.le_refl _) _⟩
      | true =>
        have hcm2 : (T.toList != s.toList) = false := by simp [bne, hcmp]
        obtain rfl : V = (q1, q2) := HV.out
        go_wp2
        refine bodyPost_ret (v := .tuple #[.agg #[.int .i64 q1, .string q2], .bool true]) (by simp [results, Try.results13, go_sem, z0, z1]) rfl ⟨by rw [HV1.out, HB1.out], (HL.setCell (Nat.le_refl _) _).setCell (Nat.le_refl _) _⟩
end Go.Proofs.Ytkoikofaebfbjaa
