/-
  The contract of 'a field is right', the program's.
-/
import Derived.Test.YtkaogmdhjcgcdaaDoorD09
namespace Go.Proofs.YtkaogmdhjcgcdaaDoor
open Go.RowKit Go.Sort

set_option maxHeartbeats 1000000 in
theorem implFld (f : Fl) (w : World) (h1 : f.1.size ≤ 1048576) (h2 : f.2.size ≤ 1048576) :
    Calls Tryd.prog 42 #[.agg #[.string f.1, .string f.2]] w fun e w' => e = .returned (.bool (fldOk f)) ∧ Below w.heap.size w w' := by
  have z1 : f.1.size ≤ maxLen := by unfold maxLen; omega
  have z2 : f.2.size ≤ maxLen := by unfold maxLen; omega
  have b0 := box0 w f 56
  have b1 := box1 w f 56
  have bl := box_lt w (.cells #[.string f.1, .string f.2] 56)
  have hbb := (Below.refl w.heap.size w).alloc (Nat.le_refl _) (.cells #[.string f.1, .string f.2] 56)
  cases ht : tokB f.1 with
  | false =>
    have HN : Hid (false = fldOk f) := fldOk_tok ht
    go_enter Tryd.func42, Tryd.ntmps42
    go_wp2
    first | go_region_with (go_at_call 58; refine (implTok _ _ z1).mono ?_; rw [ht]; rintro e w1 ⟨rfl, hb1⟩) | fail
    all_goals
      go_wp2
      go_ret
      exact ⟨ret_bool HN.out, hbb.trans ((show Below (w.alloc (.cells #[.string f.1, .string f.2] 56)).heap.size (w.alloc (.cells #[.string f.1, .string f.2] 56)) _ from ⟨hb1.os, hb1.tape, hb1.output, hb1.size, hb1.block⟩).mono (Nat.le_of_lt bl))⟩
  | true =>
    cases hv : visB f.2 with
    | false =>
      have HN : Hid (false = fldOk f) := fldOk_vis ht hv
      go_enter Tryd.func42, Tryd.ntmps42
      go_wp2
      first | go_region_with (first | (go_at_call 58; refine (implTok _ _ z1).mono ?_; rw [ht]; rintro e w1 ⟨rfl, hb1⟩; have x1 := (hb1.cell (p := ⟨w.heap.size, 1, none⟩) bl).trans b1; have hb01 := hbb.trans ((show Below (w.alloc (.cells #[.string f.1, .string f.2] 56)).heap.size (w.alloc (.cells #[.string f.1, .string f.2] 56)) w1 from ⟨hb1.os, hb1.tape, hb1.output, hb1.size, hb1.block⟩).mono (Nat.le_of_lt bl)); have bl1 := Nat.lt_of_lt_of_le bl hb1.size) | (go_at_call 59; refine (implVis _ _ z2).mono ?_; rw [hv]; rintro e w2 ⟨rfl, hb2⟩; have x2 := (hb2.cell (p := ⟨w.heap.size, 1, none⟩) bl1).trans x1; have bl2 := Nat.lt_of_lt_of_le bl1 hb2.size; have hb02 := hb01.trans ((show Below w1.heap.size w1 w2 from ⟨hb2.os, hb2.tape, hb2.output, hb2.size, hb2.block⟩).mono hb01.size))) | fail
      all_goals
        go_wp2
        go_ret
        exact ⟨ret_bool HN.out, hb02⟩
    | true =>
      have HN : Hid (((trimB f.2).toList == f.2.toList) = fldOk f) := fldOk_same ht hv
      go_enter Tryd.func42, Tryd.ntmps42
      go_wp2
      first | go_region_with (first | (go_at_call 58; refine (implTok _ _ z1).mono ?_; rw [ht]; rintro e w1 ⟨rfl, hb1⟩; have x1 := (hb1.cell (p := ⟨w.heap.size, 1, none⟩) bl).trans b1; have hb01 := hbb.trans ((show Below (w.alloc (.cells #[.string f.1, .string f.2] 56)).heap.size (w.alloc (.cells #[.string f.1, .string f.2] 56)) w1 from ⟨hb1.os, hb1.tape, hb1.output, hb1.size, hb1.block⟩).mono (Nat.le_of_lt bl)); have bl1 := Nat.lt_of_lt_of_le bl hb1.size) | (go_at_call 59; refine (implVis _ _ z2).mono ?_; rw [hv]; rintro e w2 ⟨rfl, hb2⟩; have x2 := (hb2.cell (p := ⟨w.heap.size, 1, none⟩) bl1).trans x1; have bl2 := Nat.lt_of_lt_of_le bl1 hb2.size; have hb02 := hb01.trans ((show Below w1.heap.size w1 w2 from ⟨hb2.os, hb2.tape, hb2.output, hb2.size, hb2.block⟩).mono hb01.size)) | (go_at_call 60; refine (implTrim _ _ h2).mono ?_; rintro e w3 ⟨rfl, hb3⟩; have x3 := (hb3.cell (p := ⟨w.heap.size, 1, none⟩) bl2).trans x2; have hb03 := hb02.trans ((show Below w2.heap.size w2 w3 from ⟨hb3.os, hb3.tape, hb3.output, hb3.size, hb3.block⟩).mono hb02.size))) | fail
      all_goals
        go_wp2
        go_ret
        exact ⟨ret_bool HN.out, hb03⟩
end Go.Proofs.YtkaogmdhjcgcdaaDoor
