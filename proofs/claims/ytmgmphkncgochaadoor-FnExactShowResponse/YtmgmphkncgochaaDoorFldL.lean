/-
  The contracts of FieldsOk, the specification's and the program's.
-/
import Derived.Test.YtmgmphkncgochaaDoorFldO2
namespace Go.Proofs.YtmgmphkncgochaaDoor
open Go.RowKit Go.Sort

set_option maxHeartbeats 400000 in
theorem specOk (v : Value) (l : List Fl) (w : World) (h : Fls w v l) (hz : szL l ≤ 1048576) :
    Calls Tryd.prog 38 #[v] w fun e w' => e = .returned (.bool (fldsOk l)) ∧ Below w.heap.size w w' := by
  obtain ⟨a, cap, rfl, h1, h2, h3⟩ := h
  unfold maxLen at h2
  by_cases hbig : 30 < l.length
  · have HN : Hid (false = fldsOk l) := fldsOk_long hbig
    go_enter Tryd.func38, Tryd.ntmps38
    go_wp2
    go_ret
    exact ⟨ret_bool HN.out, Below.refl _ _⟩
  · have HF : Hid (∀ b, b = l.all fldOk → b = fldsOk l) := fun b => fldsOk_all (by omega) b
    go_enter Tryd.func38, Tryd.ntmps38
    go_wp2
    go_loopw [3] (fun i wr => ∃ (k : Nat), k ≤ l.length ∧ i = .int .i64 k ∧ Hid ((l.take k).all fldOk = true) ∧ Below w.heap.size w wr) (fun i _ => l.length - (intOf i).toNat)
    case atStart => exact ⟨0, Nat.zero_le _, rfl, rfl, Below.refl _ _⟩
    case round =>
      obtain ⟨k, hk, rfl, hall, hb⟩ := hrel
      by_cases hlt : k < l.length
      · obtain ⟨g, o, rfl, hg, hc⟩ := h3 (by omega)
        have c1 := (hb.cell (p := ⟨g, o + k * 2, none⟩) hg).trans (hc k hlt).1
        have c2 := (hb.cell (p := ⟨g, o + k * 2 + 1, none⟩) hg).trans (hc k hlt).2
        have hsz := szL_at hlt
        cases hf : fldOk l[k] with
        | false =>
          have HN : Hid (false = fldsOk l) := HF.out _ (all_no hlt hf)
          generalize l[k] = f at c1 c2 hsz hf
          clear hc h3
          go_wp2_with (go_at_call 56; refine (specFld f _ (by omega) (by omega)).mono ?_; rw [hf]; rintro e w1 ⟨rfl, hb1⟩)
          go_ret
          exact ⟨ret_bool HN.out, hb.trans (hb1.mono hb.size)⟩
        | true =>
          have HN : Hid ((l.take (k + 1)).all fldOk = true) := all_yes hlt hall.out hf
          generalize l[k] = f at c1 c2 hsz hf
          clear hc h3
          go_wp2_with (go_at_call 56; refine (specFld f _ (by omega) (by omega)).mono ?_; rw [hf]; rintro e w1 ⟨rfl, hb1⟩)
          go_roundw
          case rel => exact ⟨k + 1, by omega, by go_num, HN, hb.trans (hb1.mono hb.size)⟩
          case measure => simp [intOf]; omega
      · have HN : Hid (true = fldsOk l) := HF.out _ (all_end hlt hall.out)
        go_wp2
        go_ret
        exact ⟨ret_bool HN.out, hb⟩

set_option maxHeartbeats 400000 in
theorem implOk (v : Value) (l : List Fl) (w : World) (h : Fls w v l) (hz : szL l ≤ 1048576) :
    Calls Tryd.prog 43 #[v] w fun e w' => e = .returned (.bool (fldsOk l)) ∧ Below w.heap.size w w' := by
  obtain ⟨a, cap, rfl, h1, h2, h3⟩ := h
  unfold maxLen at h2
  by_cases hbig : 30 < l.length
  · have HN : Hid (false = fldsOk l) := fldsOk_long hbig
    go_enter Tryd.func43, Tryd.ntmps43
    go_wp2
    go_ret
    exact ⟨ret_bool HN.out, Below.refl _ _⟩
  · have HF : Hid (∀ b, b = l.all fldOk → b = fldsOk l) := fun b => fldsOk_all (by omega) b
    go_enter Tryd.func43, Tryd.ntmps43
    go_wp2
    go_loopw [10] (fun i wr => ∃ (k : Nat), k ≤ l.length ∧ i = .int .i64 k ∧ Hid ((l.take k).all fldOk = true) ∧ Below w.heap.size w wr) (fun i _ => l.length - (intOf i).toNat)
    case atStart => exact ⟨0, Nat.zero_le _, rfl, rfl, Below.refl _ _⟩
    case round =>
      obtain ⟨k, hk, rfl, hall, hb⟩ := hrel
      by_cases hlt : k < l.length
      · obtain ⟨g, o, rfl, hg, hc⟩ := h3 (by omega)
        have c1 := (hb.cell (p := ⟨g, o + k * 2, none⟩) hg).trans (hc k hlt).1
        have c2 := (hb.cell (p := ⟨g, o + k * 2 + 1, none⟩) hg).trans (hc k hlt).2
        have hsz := szL_at hlt
        cases hf : fldOk l[k] with
        | false =>
          have HN : Hid (false = fldsOk l) := HF.out _ (all_no hlt hf)
          generalize l[k] = f at c1 c2 hsz hf
          clear hc h3
          go_wp2_with (go_at_call 57; refine (implFld f _ (by omega) (by omega)).mono ?_; rw [hf]; rintro e w1 ⟨rfl, hb1⟩)
          go_ret
          exact ⟨ret_bool HN.out, (hb.alloc hb.size _).trans (hb1.mono (by have := hb.size; simp; omega))⟩
        | true =>
          have HN : Hid ((l.take (k + 1)).all fldOk = true) := all_yes hlt hall.out hf
          generalize l[k] = f at c1 c2 hsz hf
          clear hc h3
          go_wp2_with (go_at_call 57; refine (implFld f _ (by omega) (by omega)).mono ?_; rw [hf]; rintro e w1 ⟨rfl, hb1⟩)
          go_roundw
          case rel => exact ⟨k + 1, by omega, by go_num, HN, (hb.alloc hb.size _).trans (hb1.mono (by have := hb.size; simp; omega))⟩
          case measure => simp [intOf]; omega
      · have HN : Hid (true = fldsOk l) := HF.out _ (all_end hlt hall.out)
        go_wp2
        go_ret
        exact ⟨ret_bool HN.out, hb⟩
end Go.Proofs.YtmgmphkncgochaaDoor
