/-
  The program's ReadSpans by its contract.
-/
import Derived.Test.YtamfgjgmnnnjpaaDoorSpnZ
import Derived.Test.YtamfgjgmnnnjpaaDoorSpnH
import Derived.Test.YtamfgjgmnnnjpaaDoorShelfI
import Derived.Lib.Strings
namespace Go.Proofs.YtamfgjgmnnnjpaaDoor
open Go.RowKit Go.Sort
set_option linter.unusedVariables false

def hpB (s : ByteArray) : Bool := Lib.hasPrefix s.data.toList [98, 121, 116, 101, 115, 61]
def cpB (s : ByteArray) : ByteArray := ⟨(Lib.trimPrefix s.data.toList [98, 121, 116, 101, 115, 61]).toArray⟩
theorem hpB_iff (s : ByteArray) : hpB s = true ↔ (6 ≤ s.size ∧ s.extract 0 6 = byE) := by
  have hl : s.data.toList.length = s.size := by simp
  have e1 : (s.extract 0 6 = byE) ↔ s.data.toList.take 6 = [98, 121, 116, 101, 115, 61] := by
    constructor
    · intro h
      have h2 := congrArg (fun b => b.data.toList) h
      simpa [byE, List.extract_eq_take_drop] using h2
    · intro h
      apply ByteArray.ext
      apply Array.ext'
      simpa [byE, List.extract_eq_take_drop] using h
  unfold hpB Lib.hasPrefix
  rw [List.isPrefixOf_iff_prefix, List.prefix_iff_eq_take, e1]
  constructor
  · intro h
    have h2 := congrArg List.length h
    simp at h2
    exact ⟨by omega, h.symm⟩
  · intro h
    exact h.2.symm
theorem hpB_rdH (s : ByteArray) (n : Int) : rdH s n = (hpB s && (decide (0 ≤ n) && decide (n ≤ 4000))) := by
  unfold rdH
  cases h : hpB s with
  | true =>
    obtain ⟨h1, h2⟩ := (hpB_iff s).1 h
    rw [decide_eq_true h1, decide_eq_true h2]
    rfl
  | false =>
    by_cases h1 : 6 ≤ s.size
    · rw [decide_eq_true h1, decide_eq_false (fun h2 => by rw [(hpB_iff s).2 ⟨h1, h2⟩] at h; cases h)]
      rfl
    · rw [decide_eq_false h1]
      rfl
theorem cpB_is {s : ByteArray} (h : hpB s = true) : cpB s = s.extract 6 s.size := by
  have hl : s.data.toList.length = s.size := by simp
  have h6 := ((hpB_iff s).1 h).1
  have h' : Lib.hasPrefix s.data.toList [98, 121, 116, 101, 115, 61] = true := h
  unfold cpB Lib.trimPrefix
  rw [if_pos h']
  apply ByteArray.ext
  apply Array.ext'
  simp only [ByteArray.data_extract, Array.toList_extract, List.extract_eq_take_drop]
  rw [List.take_of_length_le (by rw [List.length_drop]; omega)]
  rfl
theorem cutP8 (s : ByteArray) (w : World) : Calls Tryd.prog 29 #[.string s, .string ⟨#[98, 121, 116, 101, 115, 61]⟩] w fun e w' => e = .returned (.tuple #[.string (cpB s), .bool (hpB s)]) ∧ w = w' :=
  (Tryd.strings_CutPrefix s ⟨#[98, 121, 116, 101, 115, 61]⟩ w).mono fun e w' h => ⟨h.1, h.2.symm⟩
set_option maxHeartbeats 8000000 in
theorem implRS (s : ByteArray) (n : Int) (m : Int) (w : World) (hm : w.cell? ⟨1, 0, Option.none⟩ = some (.int .i64 m)) (hs : s.size ≤ 1048576) (hr0 : -9223372036854775808 ≤ n) (hr1 : n ≤ 9223372036854775807) :
    Calls Tryd.prog 8 #[.string s, .int .i64 n] w fun e w' => ∃ u, e = .returned (.tuple #[u, .bool (decide (0 < (rdS s n).length))]) ∧ HasS8 w' w.heap.size u (rdS s n) ∧ Below w.heap.size w w' := by
  have hcp := fun W => cutP8 s W
  have hrd := hpB_rdH s n
  have HF : Hid (rdS s n = [] → ∃ u, Ending.returned (.tuple #[.slice (some ⟨w.heap.size, 0, Option.none⟩) 0 0, .bool false]) = .returned (.tuple #[u, .bool (decide (0 < (rdS s n).length))]) ∧ HasS8 (w.alloc (.cells #[] 30)) w.heap.size u (rdS s n) ∧ Below w.heap.size w (w.alloc (.cells #[] 30))) := fun h => by
    rw [h]
    exact ⟨_, rfl, (OwnsE.born w).has, (Below.refl _ w).alloc (Nat.le_refl _) _⟩
  by_cases hgood : hpB s = true ∧ 0 ≤ n ∧ n ≤ 4000
  · obtain ⟨hp, hn0, hn1⟩ := hgood
    have hh : rdH s n = true := by rw [hrd, hp, decide_eq_true hn0, decide_eq_true hn1]; rfl
    have hyes := @rdS_yes s n hh
    have hno := @rdS_no s n
    rw [hp] at hcp
    rw [cpB_is hp] at hcp
    have M : Hid (∀ W, Below w.heap.size w W → W.cell? ⟨1, 0, Option.none⟩ = some (.int .i64 m)) := fun W hW => (hW.cell (p := ⟨1, 0, Option.none⟩) (cell_lt8z hm)).trans hm
    have hit := fun W => implItems (s.extract 6 s.size) W (by unfold maxLen; simp; omega)
    have hsz := items_size (s.extract 6 s.size)
    have hlen : (itemsA (s.extract 6 s.size)).length ≤ 1000 := by have := itemsA_length (s.extract 6 s.size); omega
    have him := fun (t : ByteArray) W (h : t ∈ itemsA (s.extract 6 s.size)) hW => implItm t n m W (by have := hsz t h; omega) hn0 hn1 hW
    generalize rdS s n = RR at hyes hno ⊢
    generalize itemsA (s.extract 6 s.size) = l at hyes hno hit hsz hlen him
    generalize s.extract 6 s.size = S at hcp hit
    have HY : Hid (l.length ≤ 10 → okI l n = true → RR = outI l n) := hyes
    have HO : Hid (10 < l.length ∨ okI l n = false → RR = []) := fun h => hno (fun h2 => by rcases h with h | h; omega; rw [h] at h2; cases h2.2.2)
    clear hyes hno hsz hh hrd HF hm
    go_enter Tryd.func8, Tryd.ntmps8
    go_wp2_with fail
    refine (hcp _).mono ?_
    rintro e w0 ⟨rfl, rfl⟩
    go_wp2_with fail
    refine (hit _).mono ?_
    rintro e w1 ⟨v, rfl, ho, hb1⟩
    have ho' := ho
    obtain ⟨⟨g, cap, rfl, hg0, hg1⟩, _⟩ := ho
    have O1 : Hid (∀ j (hj : j < l.length), w1.cell? ⟨g, j, Option.none⟩ = some (.string l[j])) := ho'.at rfl
    have B1 : Hid (Below w.heap.size w w1) := hb1
    have Z1 : Hid (w.heap.size ≤ w1.heap.size) := hb1.size
    have HG : Hid (g < w1.heap.size) := hg1
    clear hb1 ho' hg0 hg1 hit hcp
    by_cases h10 : 10 < l.length
    · have HR : Hid (RR = []) := HO.out (.inl h10)
      clear HY HO him
      go_wp2
      go_ret2
      refine ⟨.slice (some ⟨w1.heap.size, 0, Option.none⟩) 0 0, by rw [HR.out]; rfl, ?_, B1.out.alloc B1.out.size _⟩
      rw [HR.out]
      exact ((OwnsE.born w1).low Z1.out).has
    · go_wp2
      go_loopw [9, 39] (fun u i wr => ∃ (k : Nat) (out : List Sp), k ≤ l.length ∧ i = .int .i64 k ∧ Hid (outI (l.take k) n = out) ∧ out.length ≤ k ∧ Hid (OwnsS8 wr w1.heap.size u out) ∧ (∃ gg cc, u = .slice (some ⟨gg, 0, Option.none⟩) out.length cc) ∧ Hid (Below w1.heap.size w1 wr) ∧ Hid (okI (l.take k) n = true)) (fun _ i _ => l.length - (intOf i).toNat)
      case atStart => exact ⟨0, [], Nat.zero_le _, rfl, rfl, Nat.le_refl _, OwnsE.born w1, ⟨_, _, rfl⟩, (Below.refl _ w1).alloc (Nat.le_refl _) _, rfl⟩
      case round =>
        obtain ⟨k, out, hk, rfl, hout, hol, ho2, ⟨gg, cc, rfl⟩, hb, hok⟩ := hrel
        by_cases hlt : k < l.length
        · have hc : wr.cell? ⟨g, k, Option.none⟩ = some (.string l[k]) := (hb.out.cell (p := ⟨g, k, Option.none⟩) HG.out).trans (O1.out k hlt)
          have hr := him l[k] wr (List.getElem_mem hlt) (M.out wr (B1.out.trans (hb.out.mono Z1.out)))
          have HS := @okI_step l n k hlt hok.out
          have HB := @okI_bad l n k hlt
          have HT := @outI_step l n k hlt
          rw [hout.out] at HT
          unfold pickI at HT
          generalize l[k] = t at hc hr HS HB HT
          go_wp2_with fail
          refine hr.mono ?_
          rintro e w2 ⟨x, ok, rfl, ⟨hq1, hq2⟩, hb2⟩
          have B2 : Hid (Below w1.heap.size w1 w2) := hb.out.trans (hb2.mono hb.out.size)
          have O2 : Hid (OwnsS8 w2 w1.heap.size (.slice (some ⟨gg, 0, Option.none⟩) out.length cc) out) := ho2.out.kept hb2
          have Z2 : Hid (w1.heap.size ≤ w2.heap.size) := B2.out.size
          have hsp := fun W => implSpn x W
          unfold spV at hsp ⊢
          clear hb2 hr hc hb ho2
          cases hro : itmS t n with
          | none =>
            have HR : Hid (RR = []) := HO.out (.inr (HB (by rw [hro]; rfl)))
            obtain rfl : ok = false := by rw [hq1, hro]; rfl
            clear HS HB HT hro hq1 hq2 hsp
            go_wp2
            go_ret2
            refine ⟨.slice (some ⟨w2.heap.size + 1, 0, Option.none⟩) 0 0, by rw [HR.out]; rfl, ?_, ?_⟩
            · rw [HR.out]
              have := (OwnsE.born (E := spnE) (ty := 30) (w2.alloc (.cells #[.int .i64 x.1, .int .i64 x.2] 30))).low (B' := w.heap.size) (by have := Z2.out; have := Z1.out; simp; omega)
              simp only [World.size_alloc] at this
              exact this.has
            · have := B1.out.trans (B2.out.mono Z1.out)
              exact (this.alloc this.size _).alloc (by have := this.size; simp; omega) _
          | some yq =>
            obtain ⟨y, q⟩ := yq
            obtain ⟨hq3, hq4⟩ := hq2 y q hro
            obtain rfl : ok = true := by rw [hq1, hro]; rfl
            have HK : Hid (okI (l.take (k + 1)) n = true) := HS (by rw [hro]; rfl)
            simp only [hro] at HT
            rw [hq3] at hsp
            clear HS HB hro hq1 hq2 hq3
            have bW : Hid (Below w1.heap.size w1 (w2.alloc (.cells #[.int .i64 x.1, .int .i64 x.2] 30))) := B2.out.alloc B2.out.size _
            have oW : Hid (OwnsS8 (w2.alloc (.cells #[.int .i64 x.1, .int .i64 x.2] 30)) w1.heap.size (.slice (some ⟨gg, 0, Option.none⟩) out.length cc) out) := O2.out.alloc _
            have T2 : Hid (SpBk (w2.alloc (.cells #[.int .i64 x.1, .int .i64 x.2] 30)) w2.heap.size x) := SpBk.new w2 x 30
            clear B2 O2
            go_wp2_with fail
            refine (hsp _).mono ?_
            rintro e w3 ⟨rfl, hg3⟩
            have bX : Hid (Below w1.heap.size w1 w3) := bW.out.trans (hg3.1.mono bW.out.size)
            have oX : Hid (OwnsS8 w3 w1.heap.size (.slice (some ⟨gg, 0, Option.none⟩) out.length cc) out) := oW.out.kept hg3.1
            have T3 : Hid (SpBk w3 w2.heap.size x) := T2.out.kept hg3.1
            clear hg3 bW oW T2 hsp
            cases q with
            | false =>
              have HN : Hid (outI (l.take (k + 1)) n = out) := (by rw [HT]; simp : outI (l.take (k + 1)) n = out)
              clear HT hq4
              go_wp2
              go_roundw
              case rel => exact ⟨k + 1, out, by omega, by go_num, HN, by omega, oX, ⟨gg, cc, rfl⟩, bX, HK⟩
              case measure => simp [intOf]; omega
            | true =>
              obtain rfl := hq4 rfl
              have HN : Hid (outI (l.take (k + 1)) n = out ++ [x]) := (by rw [HT]; rfl : outI (l.take (k + 1)) n = out ++ [x])
              have t0 := T3.out.c0
              have t1 := T3.out.c1
              clear HT hq4
              go_wp2_with (at_builtin; refine wpList_rowE (E := spnE) _ rfl (.tmp 54) (.tmp 56) 26 30 (.agg #[.int .i64 0, .int .i64 0]) 16 Tryd.underlying26 Tryd.infoSP rfl rfl w1.heap.size _ out (by simp [Act.eval]) (oX.out.alloc _) ⟨w3.heap.size, 0, Option.none⟩ 1 [x] (by simp [Act.eval]) (fresh_cell w3 x #[.int .i64 x.1, .int .i64 x.2] 30 rfl) (by simp only [List.length_singleton]; unfold maxLen; omega) (by simp only [List.length_singleton]; omega) (by have := bX.out.size; simp; omega) ?_; intro v6 w6 ho6 hg6 hn6; have O6 : Hid (OwnsS8 w6 w1.heap.size v6 (out ++ [x])) := ho6; have G6 : Hid _ := hg6; clear ho6 hg6 hn6)
              have b6 : Hid (Below w1.heap.size w1 w6) := belowE (bX.out.alloc bX.out.size _) G6.out (by have := bX.out.size; simp; omega) (fun q hq => oX.out.from q hq)
              obtain ⟨a6, c6, rfl, hl6, hm6, hf6⟩ := O6.out.form
              obtain ⟨g6, rfl⟩ : ∃ g6, a6 = some ⟨g6, 0, Option.none⟩ := by
                rcases hf6 with ⟨rfl, rfl⟩ | hf6
                · exact absurd hl6 (by simp)
                · exact hf6
              clear hf6 G6
              go_roundw
              case rel => exact ⟨k + 1, out ++ [x], by omega, by go_num, HN, by simp; omega, O6, ⟨g6, c6, rfl⟩, b6, HK⟩
              case measure => simp [intOf]; omega
        · obtain rfl : k = l.length := by omega
          rw [List.take_length] at *
          have HR : Hid (RR = out) := (HY.out (by omega) hok.out).trans hout.out
          have O9 : Hid (HasS8 wr w.heap.size (.slice (some ⟨gg, 0, Option.none⟩) out.length cc) RR) := by show HasS8 _ _ _ _; rw [HR.out]; exact (ho2.out.low Z1.out).has
          have HD : Hid (decide (0 < out.length) = decide (0 < RR.length)) := by show _ = _; rw [HR.out]
          clear ho2 hout
          go_wp2
          go_ret2
          exact ⟨.slice (some ⟨gg, 0, Option.none⟩) out.length cc, by rw [← HD.out]; rfl, O9.out, B1.out.trans (hb.out.mono Z1.out)⟩
  · have hh : rdH s n = false := by
      cases e : rdH s n with
      | false => rfl
      | true =>
        rw [hrd, Bool.and_eq_true, Bool.and_eq_true] at e
        exact absurd ⟨e.1, of_decide_eq_true e.2.1, of_decide_eq_true e.2.2⟩ hgood
    have HR : Hid (rdS s n = []) := rdS_no (fun h => by rw [hh] at h; cases h.1)
    clear hrd hh hm
    cases hp : hpB s with
    | false =>
      rw [hp] at hcp
      generalize cpB s = S at hcp
      go_enter Tryd.func8, Tryd.ntmps8
      go_wp2_with (go_at_call 29; refine (hcp _).mono ?_; rintro e w0 ⟨rfl, rfl⟩)
      go_ret2
      exact HF.out HR.out
    | true =>
      rw [hp] at hcp hgood
      generalize cpB s = S at hcp
      by_cases hn0 : n < 0
      · go_enter Tryd.func8, Tryd.ntmps8
        go_wp2_with (go_at_call 29; refine (hcp _).mono ?_; rintro e w0 ⟨rfl, rfl⟩)
        go_ret2
        exact HF.out HR.out
      · have hn1 : 4000 < n := by
          refine Int.not_le.1 fun h => hgood ⟨rfl, by omega, h⟩
        go_enter Tryd.func8, Tryd.ntmps8
        go_wp2_with (go_at_call 29; refine (hcp _).mono ?_; rintro e w0 ⟨rfl, rfl⟩)
        go_ret2
        exact HF.out HR.out
end Go.Proofs.YtamfgjgmnnnjpaaDoor
