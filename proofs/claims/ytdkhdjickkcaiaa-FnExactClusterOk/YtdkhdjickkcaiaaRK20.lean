/-
  The specification's purges by their contracts: right ones, what is shown.
  The specification's purges by their contracts: what is shown, what is read.
  The specification's purges by their contracts: what is read.
-/
import Derived.Test.YtdkhdjickkcaiaaRK13
import Derived.Test.YtdkhdjickkcaiaaRK15
import Derived.WalkKit
import Derived.WalkSpells
import Derived.Deep.RegionWith
import Derived.Deep.DeepCutAuto
namespace Go.Proofs.Ytdkhdjickkcaiaa
open Go.RowKit Pg
set_option linter.unusedVariables false
set_option linter.unusedSimpArgs false

/-- A purge by value. -/
def pgV (k : Int) (s : ByteArray) : Value := .agg #[.int .i64 k, .string s]
theorem pgIn1 (n lo hi : Int) (w : World) : Calls Try.prog 24 #[.int .i64 n, .int .i64 lo, .int .i64 hi] w fun e w' => e = .returned (.bool (decide (lo ≤ n ∧ n ≤ hi))) ∧ w = w' := by
  by_cases h1 : lo ≤ n
  · by_cases h2 : n ≤ hi
    · rw [decide_eq_true (show lo ≤ n ∧ n ≤ hi from ⟨h1, h2⟩)]
      go_enter Try.func24, Try.ntmps24
      go_wp2
      go_ret
      exact ⟨rfl, rfl⟩
    · rw [decide_eq_false (fun h : lo ≤ n ∧ n ≤ hi => h2 h.2)]
      go_enter Try.func24, Try.ntmps24
      go_wp2
      go_ret
      exact ⟨rfl, rfl⟩
  · rw [decide_eq_false (fun h : lo ≤ n ∧ n ≤ hi => h1 h.1)]
    go_enter Try.func24, Try.ntmps24
    go_wp2
    go_ret
    exact ⟨rfl, rfl⟩
theorem all_at {p : Int → Bool} {l : List UInt8} {k : Nat} (h : k < l.length) (ha : (l.take k).all (fun c => p (c.toNat : Int)) = true) (hp : p (l[k].toNat : Int) = true) : (l.take (k + 1)).all (fun c => p (c.toNat : Int)) = true := by
  rw [List.take_succ_eq_append_getElem h, List.all_append, ha]
  simp [hp]
theorem all_bad {p : Int → Bool} {l : List UInt8} {k : Nat} (h : k < l.length) (hp : p (l[k].toNat : Int) = false) : l.all (fun c => p (c.toNat : Int)) = false := by
  rw [List.all_eq_false]
  exact ⟨l[k], List.getElem_mem h, by simp [hp]⟩
set_option maxRecDepth 100000 in
set_option maxHeartbeats 2000000 in
theorem specPgo (k : Int) (s : ByteArray) (w : World) (hs : s.size ≤ maxLen) :
    Calls Try.prog 94 #[pgV k s] w fun e w' => e = .returned (.bool (pgOk k s)) ∧ Below w.heap.size w w' := by
  have hin := fun W => pgIn1 k 1 3 W
  have B0 : Hid (Below w.heap.size w (w.alloc (.cells #[.int .i64 k, .string s] 99))) := (Below.refl _ w).alloc (Nat.le_refl _) _
  have X0 := Bx.new w 99 #[.int .i64 k, .string s]
  unfold pgV
  unfold maxLen at hs
  have hlen : s.data.toList.length = s.size := by simp
  go_enter Try.func94, Try.ntmps94
  generalize hwA : w.alloc (.cells #[.int .i64 k, .string s] 99) = wA at B0 X0
  have x0 := X0.cell 0
  have x1 := X0.cell 1
  clear X0
  by_cases h4 : k = 4
  · subst h4
    have HR : Hid (pgOk 4 s = s.toList.isEmpty) := by
      show decide (s.size = 0) = _
      rw [ByteArray.toList_eq, ← hlen]
      cases s.data.toList <;> simp
    clear hin
    go_wp2
    go_ret
    exact ⟨congrArg (fun b => Ending.returned (.bool b)) HR.out.symm, B0.out⟩
  · have HR : Hid (pgOk k s = (decide (1 ≤ k ∧ k ≤ 3) && txOk s)) := by show _ = _; unfold pgOk; rw [if_neg h4]
    by_cases h13 : 1 ≤ k ∧ k ≤ 3
    · rw [decide_eq_true h13] at hin
      by_cases hz : s.size < 1
      · have HE : Hid (false = pgOk k s) := by show _ = _; rw [HR.out]; unfold txOk; rw [decide_eq_false (fun h : 1 ≤ s.size ∧ s.size ≤ 200 => by omega)]; simp
        have hzi : (s.size : Int) < 1 := by omega
        go_wp2_with fail
        refine (hin _).mono ?_
        rintro e w1 ⟨rfl, rfl⟩
        go_wp2
        go_ret
        exact ⟨congrArg (fun b => Ending.returned (.bool b)) HE.out, B0.out⟩
      · by_cases hb : 200 < s.size
        · have HE : Hid (false = pgOk k s) := by show _ = _; rw [HR.out]; unfold txOk; rw [decide_eq_false (fun h : 1 ≤ s.size ∧ s.size ≤ 200 => by omega)]; simp
          have hzi : ¬ (s.size : Int) < 1 := by omega
          have hbi : 200 < (s.size : Int) := by omega
          go_wp2_with fail
          refine (hin _).mono ?_
          rintro e w1 ⟨rfl, rfl⟩
          go_wp2
          go_ret
          exact ⟨congrArg (fun b => Ending.returned (.bool b)) HE.out, B0.out⟩
        · have HT : Hid (pgOk k s = s.data.toList.all fun c => keyN (c.toNat : Int)) := by
            show _ = _
            rw [HR.out]
            unfold txOk allB
            rw [decide_eq_true h13, decide_eq_true (show 1 ≤ s.size ∧ s.size ≤ 200 from ⟨by omega, by omega⟩)]
            rfl
          have hzi : ¬ (s.size : Int) < 1 := by omega
          have hbi : ¬ 200 < (s.size : Int) := by omega
          go_wp2_with fail
          refine (hin _).mono ?_
          rintro e w1 ⟨rfl, rfl⟩
          go_wp2_with fail
          clear hin
          go_loop [3] (fun i => ∃ j : Nat, j ≤ s.size ∧ i = .int .i64 j ∧ Hid ((s.data.toList.take j).all (fun c => keyN (c.toNat : Int)) = true)) (fun i => s.size - (intOf i).toNat)
          case atStart => exact ⟨0, Nat.zero_le _, rfl, (show Hid _ from rfl)⟩
          case round =>
            obtain ⟨j, hj, rfl, hall⟩ := hrel
            by_cases hlt : j < s.size
            · have hji : (j : Int) < (s.size : Int) := by omega
              have hj2 : j < s.data.toList.length := by omega
              have e1 : s.data.toList[j]'hj2 = s[j] := by simp; rfl
              have HA := fun (h : keyN ((s.data.toList[j]'hj2).toNat : Int) = true) => all_at hj2 hall.out h
              have HN := fun (h : keyN ((s.data.toList[j]'hj2).toNat : Int) = false) => all_bad hj2 h
              rw [e1] at HA HN
              have hb8 : s[j].toNat < 256 := s[j].toNat_lt
              by_cases hk1 : s[j].toNat < 33
              · have HE : Hid (false = pgOk k s) := by show _ = _; rw [HT.out, HN (keyN_no (by omega))]
                have hk1i : (s[j].toNat : Int) < 33 := by omega
                clear HA HN
                go_wp2
                go_ret
                exact ⟨congrArg (fun b => Ending.returned (.bool b)) HE.out, B0.out⟩
              · by_cases hk2 : 126 < s[j].toNat
                · have HE : Hid (false = pgOk k s) := by show _ = _; rw [HT.out, HN (keyN_no (by omega))]
                  have hk1i : ¬ (s[j].toNat : Int) < 33 := by omega
                  have hk2i : 126 < (s[j].toNat : Int) := by omega
                  clear HA HN
                  go_wp2
                  go_ret
                  exact ⟨congrArg (fun b => Ending.returned (.bool b)) HE.out, B0.out⟩
                · have HA2 : Hid _ := HA (keyN_yes (by omega))
                  have hk1i : ¬ (s[j].toNat : Int) < 33 := by omega
                  have hk2i : ¬ 126 < (s[j].toNat : Int) := by omega
                  clear HA HN
                  go_wp2
                  go_round
                  case rel => exact ⟨j + 1, by omega, by go_num, HA2⟩
                  case measure => simp [intOf]; omega
            · obtain rfl : j = s.size := by omega
              have HE : Hid (true = pgOk k s) := by
                have := hall.out
                rw [← hlen, List.take_length] at this
                show _ = _
                rw [HT.out, this]
              go_wp2
              go_ret
              exact ⟨congrArg (fun b => Ending.returned (.bool b)) HE.out, B0.out⟩
    · have HE : Hid (false = pgOk k s) := by show _ = _; rw [HR.out, decide_eq_false h13]; rfl
      rw [decide_eq_false h13] at hin
      go_wp2_with fail
      refine (hin _).mono ?_
      rintro e w1 ⟨rfl, rfl⟩
      go_wp2
      go_ret
      exact ⟨congrArg (fun b => Ending.returned (.bool b)) HE.out, B0.out⟩
end Go.Proofs.Ytdkhdjickkcaiaa
namespace Go.Proofs.Ytdkhdjickkcaiaa
open Go.RowKit Pg
set_option linter.unusedVariables false
set_option linter.unusedSimpArgs false

set_option maxRecDepth 100000 in
set_option maxHeartbeats 2000000 in
theorem specSho (k : Int) (s : ByteArray) (w : World) (hs : s.size ≤ 2000000) (hk : 1 ≤ k ∧ k ≤ 4) :
    Calls Try.prog 95 #[pgV k s] w fun e w' => e = .returned (.string (shoP k s)) ∧ Below w.heap.size w w' := by
  have B0 : Hid (Below w.heap.size w (w.alloc (.cells #[.int .i64 k, .string s] 99))) := (Below.refl _ w).alloc (Nat.le_refl _) _
  have X0 : Hid (Bx (w.alloc (.cells #[.int .i64 k, .string s] 99)) w.heap.size 99 #[.int .i64 k, .string s]) := (show Hid _ from Bx.new w 99 #[.int .i64 k, .string s])
  unfold pgV
  go_enter Try.func95, Try.ntmps95
  generalize hwA : w.alloc (.cells #[.int .i64 k, .string s] 99) = wA at B0 X0
  have x0 := X0.out.cell 0
  have x1 := X0.out.cell 1
  have xl := X0.out.lt
  have hsz : w.heap.size ≤ wA.heap.size := by omega
  have HD : Hid (∀ o, Below w.heap.size w (wA.drew.alloc o) ∧ Below w.heap.size w ((wA.alloc o).drew)) := (show ∀ _, _ from fun o => ⟨B0.out.drew.alloc hsz _, (B0.out.alloc hsz _).drew⟩)
  rcases (show k = 1 ∨ k = 2 ∨ k = 3 ∨ k = 4 by omega) with rfl | rfl | rfl | rfl
  · go_wp2_with fail
    go_region
    all_goals
      go_wp2
      go_ret
      exact ⟨rfl, by first | exact (HD.out _).1 | exact (HD.out _).2⟩
  · go_wp2_with fail
    go_region
    all_goals
      go_wp2
      go_ret
      exact ⟨rfl, by first | exact (HD.out _).1 | exact (HD.out _).2⟩
  · go_wp2_with fail
    go_region
    all_goals
      go_wp2
      go_ret
      exact ⟨rfl, by first | exact (HD.out _).1 | exact (HD.out _).2⟩
  · go_wp2
    go_ret
    exact ⟨rfl, B0.out⟩
theorem pg_kind {k : Int} {s : ByteArray} (h : pgOk k s = true) : 1 ≤ k ∧ k ≤ 4 := by
  unfold pgOk at h
  split at h
  · omega
  · rw [Bool.and_eq_true, decide_eq_true_eq] at h
    omega
theorem specShp (k : Int) (s : ByteArray) (w : World) (hs : s.size ≤ 2000000) :
    Calls Try.prog 87 #[pgV k s] w fun e w' => e = .returned (.string (shwP k s)) ∧ Below w.heap.size w w' := by
  have hO := fun W => specPgo k s W (by unfold maxLen; omega)
  have hS := fun W h => specSho k s W hs h
  have B0 : Hid (Below w.heap.size w (w.alloc (.cells #[.int .i64 k, .string s] 99))) := (Below.refl _ w).alloc (Nat.le_refl _) _
  have X0 : Hid (Bx (w.alloc (.cells #[.int .i64 k, .string s] 99)) w.heap.size 99 #[.int .i64 k, .string s]) := (show Hid _ from Bx.new w 99 #[.int .i64 k, .string s])
  unfold pgV at *
  go_enter Try.func87, Try.ntmps87
  generalize hwA : w.alloc (.cells #[.int .i64 k, .string s] 99) = wA at B0 X0
  have x0 := X0.out.cell 0
  have x1 := X0.out.cell 1
  go_wp2_with fail
  refine (hO _).mono ?_
  rintro e w1 ⟨rfl, hb1⟩
  have B1 : Hid (Below w.heap.size w w1) := (show Hid _ from B0.out.trans (hb1.mono B0.out.size))
  have X1 : Hid (Bx w1 w.heap.size 99 #[.int .i64 k, .string s]) := X0.out.kept hb1
  clear hb1 x0 x1 hO B0 X0 hwA
  cases hok : pgOk k s with
  | false =>
    have HE : Hid (shwP k s = ⟨#[]⟩) := by show _ = _; unfold shwP; rw [hok]; rfl
    go_wp2
    go_ret
    exact ⟨by rw [HE.out]; rfl, B1.out⟩
  | true =>
    have HE : Hid (shwP k s = shoP k s) := by show _ = _; unfold shwP; rw [if_pos hok]
    have hS := fun W => hS W (pg_kind hok)
    have x0 := X1.out.cell 0
    have x1 := X1.out.cell 1
    clear hok
    go_wp2_with fail
    refine (hS _).mono ?_
    rintro e w2 ⟨rfl, hb2⟩
    have B2 : Hid (Below w.heap.size w w2) := (show Hid _ from B1.out.trans (hb2.mono B1.out.size))
    clear hb2 B1 X1 x0 x1
    go_wp2
    go_ret
    exact ⟨by rw [HE.out]; rfl, B2.out⟩
end Go.Proofs.Ytdkhdjickkcaiaa
namespace Go.Proofs.Ytdkhdjickkcaiaa
open Go.RowKit Pg
set_option linter.unusedVariables false
set_option linter.unusedSimpArgs false

/-- What is read, the first m words tried. -/
def rdT (s : ByteArray) : Nat → Int × ByteArray
  | 0 => (4, ⟨#[]⟩)
  | m + 1 => if preB (wrd ((m : Int) + 1)) s = true then ((m : Int) + 1, s.extract (wrd ((m : Int) + 1)).size s.size) else rdT s m
theorem rdT_is (s : ByteArray) : rdT s 3 = rdP s := by
  have h1 : wrd (((0 : Nat) : Int) + 1) = kyW := rfl
  have h2 : wrd (((1 : Nat) : Int) + 1) = tgW := rfl
  have h3 : wrd (((2 : Nat) : Int) + 1) = bgW := rfl
  show (if preB (wrd (((2 : Nat) : Int) + 1)) s = true then _ else if preB (wrd (((1 : Nat) : Int) + 1)) s = true then _ else if preB (wrd (((0 : Nat) : Int) + 1)) s = true then _ else _) = _
  rw [h1, h2, h3]
  rfl
theorem rdT_size (s : ByteArray) : ∀ m, (rdT s m).2.size ≤ s.size
  | 0 => Nat.zero_le _
  | m + 1 => by
    unfold rdT
    split
    · show (s.extract _ _).size ≤ _
      rw [ByteArray.size_extract]
      omega
    · exact rdT_size s m
theorem same15 {a b : ByteArray} : (a.toList == b.toList) = decide (a = b) := by
  by_cases h : a = b
  · subst h; simp
  · rw [decide_eq_false h]
    have : ¬ a.toList = b.toList := fun e => h (by rw [ByteArray.toList_eq, ByteArray.toList_eq] at e; exact ByteArray.ext (Array.toList_inj.1 e))
    simp [this]
/-- The answer's box, the purge's, and the words. -/
structure Pr (w W : World) (k : Int) (t : ByteArray) : Prop where
  low : Below w.heap.size w W
  rx : Bx W w.heap.size 99 #[.int .i64 0, .string ⟨#[]⟩]
  bx : Bx W (w.heap.size + 1) 99 #[.int .i64 k, .string t]
  tx : Bx W (w.heap.size + 1 + 1) 9 #[.string kyW, .string tgW, .string bgW]
theorem Pr.kept {w W W' : World} {k : Int} {t : ByteArray} (h : Pr w W k t) (hb : Below W.heap.size W W') : Pr w W' k t :=
  ⟨h.low.trans (hb.mono h.low.size), h.rx.kept hb, h.bx.kept hb, h.tx.kept hb⟩
theorem Pr.drew {w W : World} {k : Int} {t : ByteArray} (h : Pr w W k t) : Pr w W.drew k t := h.kept ⟨rfl, rfl, rfl, Nat.le_refl _, fun _ _ => rfl⟩
theorem Pr.put {w W : World} {k : Int} {t : ByteArray} (h : Pr w W k t) (k' : Int) (t' : ByteArray) : Pr w ((W.setCell ⟨w.heap.size + 1, 0, none⟩ (.int .i64 k')).setCell ⟨w.heap.size + 1, 1, none⟩ (.string t')) k' t' :=
  ⟨(h.low.setCell (Nat.le_succ _) _).setCell (Nat.le_succ _) _, (h.rx.other _ _ (by omega)).other _ _ (by omega), (h.bx.put 0 _).put 1 _, (h.tx.other _ _ (by omega)).other _ _ (by omega)⟩
theorem Pr.word {w W : World} {k : Int} {t : ByteArray} (h : Pr w W k t) {m : Nat} (hm : m < 3) : W.cell? ⟨w.heap.size + 1 + 1, m, none⟩ = some (.string (wrd ((m : Int) + 1))) := by
  rw [h.tx.cell]
  rcases (by omega : m = 0 ∨ m = 1 ∨ m = 2) with rfl | rfl | rfl <;> rfl
theorem Pr.new (w : World) : Pr w (((w.alloc (.cells #[.int .i64 0, .string ⟨#[]⟩] 99)).alloc (.cells #[.int .i64 4, .string ⟨#[]⟩] 99)).alloc (.cells #[.string kyW, .string tgW, .string bgW] 9)) 4 ⟨#[]⟩ := by
  have e1 : (w.alloc (.cells #[.int .i64 0, .string ⟨#[]⟩] 99)).heap.size = w.heap.size + 1 := by simp
  have e2 : ((w.alloc (.cells #[.int .i64 0, .string ⟨#[]⟩] 99)).alloc (.cells #[.int .i64 4, .string ⟨#[]⟩] 99)).heap.size = w.heap.size + 1 + 1 := by simp
  have b1 := Bx.new (w.alloc (.cells #[.int .i64 0, .string ⟨#[]⟩] 99)) 99 #[.int .i64 4, .string ⟨#[]⟩]
  rw [e1] at b1
  have b2 := Bx.new ((w.alloc (.cells #[.int .i64 0, .string ⟨#[]⟩] 99)).alloc (.cells #[.int .i64 4, .string ⟨#[]⟩] 99)) 9 #[.string kyW, .string tgW, .string bgW]
  rw [e2] at b2
  exact ⟨(((Below.refl _ w).alloc (Nat.le_refl _) _).alloc (by omega) _).alloc (by omega) _, ((Bx.new w 99 _).alloc _).alloc _, b1.alloc _, b2⟩
set_option maxRecDepth 100000 in
set_option maxHeartbeats 4000000 in
theorem specRdp (s : ByteArray) (w : World) (hs : s.size ≤ 1048576) :
    Calls Try.prog 75 #[.string s] w fun e w' => e = .returned (.tuple #[pgV (rdV s).1 (rdV s).2, .bool (rdB s)]) ∧ Below w.heap.size w w' := by
  have hS := fun W => specShp (rdP s).1 (rdP s).2 W (by rw [← rdT_is]; have := rdT_size s 3; omega)
  have P0 : Hid (Pr w (((w.alloc (.cells #[.int .i64 0, .string ⟨#[]⟩] 99)).alloc (.cells #[.int .i64 4, .string ⟨#[]⟩] 99)).alloc (.cells #[.string kyW, .string tgW, .string bgW] 9)) (rdT s 0).1 (rdT s 0).2) := (show Pr w _ _ _ from Pr.new w)
  have HT : Hid (rdT s 3 = rdP s) := rdT_is s
  unfold pgV at *
  go_enter Try.func75, Try.ntmps75
  go_wp2_with fail
  unfold kyW tgW bgW at P0
  generalize ((w.alloc (.cells #[.int .i64 0, .string ⟨#[]⟩] 99)).alloc (.cells #[.int .i64 4, .string ⟨#[]⟩] 99)).alloc (.cells #[.string ⟨#[107, 101, 121, 32]⟩, .string ⟨#[116, 97, 103, 32]⟩, .string ⟨#[98, 101, 103, 105, 110, 32]⟩] 9) = W0 at P0 ⊢
  go_loopw [6] (fun i wr => ∃ m : Nat, m ≤ 3 ∧ i = .int .i64 m ∧ Hid (Pr w wr (rdT s m).1 (rdT s m).2)) (fun i _ => 3 - (intOf i).toNat)
  case atStart => exact ⟨0, Nat.zero_le _, rfl, P0⟩
  case round =>
    clear P0
    obtain ⟨m, hm, rfl, hP⟩ := hrel
    by_cases hlt : m < 3
    · have hmi : (m : Int) < 3 := by omega
      have c1 := hP.out.word hlt
      have HN : Hid (rdT s (m + 1) = if preB (wrd ((m : Int) + 1)) s = true then ((m : Int) + 1, s.extract (wrd ((m : Int) + 1)).size s.size) else rdT s m) := (show _ = _ from rfl)
      have hw9 : (wrd ((m : Int) + 1)).size ≤ 6 := by unfold wrd; split; decide; split; decide; decide
      have HPB : Hid (preB (wrd ((m : Int) + 1)) s = (decide ((wrd ((m : Int) + 1)).size < s.size) && decide (s.extract 0 (wrd ((m : Int) + 1)).size = wrd ((m : Int) + 1)))) := (show _ = _ from rfl)
      generalize rdT s m = q at hP HN
      obtain ⟨q1, q2⟩ := q
      generalize wrd ((m : Int) + 1) = W at c1 HN hw9 HPB
      generalize preB W s = pb at HN HPB
      by_cases hW : W.size < s.size
      · have hWi : (W.size : Int) < (s.size : Int) := by omega
        have hcmp : ((s.extract 0 W.size).toList == W.toList) = pb := by rw [HPB.out, same15, decide_eq_true hW, Bool.true_and]
        clear HPB
        cases pb with
        | true =>
          have P1 : Hid (Pr w ((wr.setCell ⟨w.heap.size + 1, 0, none⟩ (.int .i64 ((m : Int) + 1))).setCell ⟨w.heap.size + 1, 1, none⟩ (.string (s.extract W.size s.size))) (rdT s (m + 1)).1 (rdT s (m + 1)).2) := by
            show Pr w _ _ _
            rw [HN.out]
            exact hP.out.put _ _
          have y0 := hP.out.bx.cell 0
          have y1 := hP.out.bx.cell 1
          have f0 := hP.out.bx.free 0
          have f1 := hP.out.bx.free 1
          clear HN hP
          go_wp2_with fail
          go_region
          all_goals
            go_wp2
            go_roundw
            case rel => exact ⟨m + 1, by omega, by go_num, (show Hid _ from P1.out.drew)⟩
            case measure => simp [intOf]; omega
        | false =>
          have P1 : Hid (Pr w wr (rdT s (m + 1)).1 (rdT s (m + 1)).2) := by
            show Pr w _ _ _
            rw [HN.out]
            exact hP.out
          clear HN hP
          go_wp2_with fail
          go_region
          all_goals
            go_wp2
            go_roundw
            case rel => exact ⟨m + 1, by omega, by go_num, (show Hid _ from P1.out.drew)⟩
            case measure => simp [intOf]; omega
      · have hWi : ¬ (W.size : Int) < (s.size : Int) := by omega
        obtain rfl : pb = false := by rw [HPB.out, decide_eq_false hW]; rfl
        have P1 : Hid (Pr w wr (rdT s (m + 1)).1 (rdT s (m + 1)).2) := by
          show Pr w _ _ _
          rw [HN.out]
          exact hP.out
        clear HN hP HPB
        go_wp2_with fail
        go_region
        all_goals
          go_wp2
          go_roundw
          case rel => exact ⟨m + 1, by omega, by go_num, (show Hid _ from P1.out.drew)⟩
          case measure => simp [intOf]; omega
    · obtain rfl : m = 3 := by omega
      rw [HT.out] at hP
      have HB : Hid (rdB s = decide (shwP (rdP s).1 (rdP s).2 = s)) := (show _ = _ from rfl)
      have HV : Hid (rdV s = if rdB s = true then rdP s else (0, ⟨#[]⟩)) := (show _ = _ from rfl)
      generalize rdP s = q at hP hS HB HV
      obtain ⟨q1, q2⟩ := q
      have hcmp : ((shwP q1 q2).toList == s.toList) = rdB s := by rw [HB.out, same15]
      have y0 := hP.out.bx.cell 0
      have y1 := hP.out.bx.cell 1
      simp only at hS y0 y1
      generalize shwP q1 q2 = T at hS hcmp
      obtain ⟨V, hV⟩ : ∃ V, rdV s = V := ⟨_, rfl⟩
      obtain ⟨rb, hrb⟩ : ∃ rb, rdB s = rb := ⟨_, rfl⟩
      have HV1 : Hid (rdV s = V) := hV
      have HB1 : Hid (rdB s = rb) := hrb
      rw [hV, hrb] at HV
      rw [hrb] at hcmp
      clear HB HT hV hrb
      go_wp2_with fail
      refine (hS _).mono ?_
      rintro e w1 ⟨rfl, hb1⟩
      have P1 : Hid (Pr w w1 q1 q2) := (show Pr w _ _ _ from hP.out.kept hb1)
      clear hb1 hP y0 y1 hS
      have y0 := P1.out.bx.cell 0
      have y1 := P1.out.bx.cell 1
      have z0 := P1.out.rx.cell 0
      have z1 := P1.out.rx.cell 1
      have f0 := P1.out.rx.free 0
      have f1 := P1.out.rx.free 1
      have HL := P1.out.low
      have hne : w.heap.size ≠ w.heap.size + 1 := by omega
      cases rb with
      | false =>
        have hcm2 : (T.toList != s.toList) = true := by simp [bne, hcmp]
        obtain rfl : V = (0, ⟨#[]⟩) := HV.out
        go_wp2
        refine bodyPost_ret (v := .tuple #[.agg #[.int .i64 0, .string ⟨#[]⟩], .bool false]) (by simp [results, Try.results75, go_sem, z0, z1]) rfl ⟨by rw [HV1.out, HB1.out], (HL.setCell (Nat.le_refl _) _).setCell (Nat.le_refl _) _⟩
      | true =>
        have hcm2 : (T.toList != s.toList) = false := by simp [bne, hcmp]
        obtain rfl : V = (q1, q2) := HV.out
        go_wp2
        refine bodyPost_ret (v := .tuple #[.agg #[.int .i64 q1, .string q2], .bool true]) (by simp [results, Try.results75, go_sem, z0, z1]) rfl ⟨by rw [HV1.out, HB1.out], (HL.setCell (Nat.le_refl _) _).setCell (Nat.le_refl _) _⟩
end Go.Proofs.Ytdkhdjickkcaiaa
