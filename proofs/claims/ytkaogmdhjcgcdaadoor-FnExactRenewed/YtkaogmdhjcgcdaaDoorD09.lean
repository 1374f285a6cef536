/-
  The contracts of 'a field is right', the specification's and the program's.
-/
import Derived.Test.YtkaogmdhjcgcdaaDoorD06
import Derived.Test.YtkaogmdhjcgcdaaDoorD08
import Derived.Deep.RegionWith
namespace Go.Proofs.YtkaogmdhjcgcdaaDoor
open Go.RowKit Go.Sort

theorem box0 (w : World) (f : Fl) (t : TypeId) : (w.alloc (.cells #[.string f.1, .string f.2] t)).cell? ⟨w.heap.size, 0, none⟩ = some (.string f.1) := by rw [World.cell?_alloc_mark]; rfl
theorem box1 (w : World) (f : Fl) (t : TypeId) : (w.alloc (.cells #[.string f.1, .string f.2] t)).cell? ⟨w.heap.size, 1, none⟩ = some (.string f.2) := by rw [World.cell?_alloc_mark]; rfl
theorem box_lt (w : World) (o : Obj) : w.heap.size < (w.alloc o).heap.size := by simp

set_option maxHeartbeats 1000000 in
theorem specFld (f : Fl) (w : World) (h1 : f.1.size ≤ 1048576) (h2 : f.2.size ≤ 1048576) :
    Calls Tryd.prog 38 #[.agg #[.string f.1, .string f.2]] w fun e w' => e = .returned (.bool (fldOk f)) ∧ Below w.heap.size w w' := by
  have z1 : f.1.size ≤ maxLen := by unfold maxLen; omega
  have z2 : f.2.size ≤ maxLen := by unfold maxLen; omega
  have b0 := box0 w f 56
  have b1 := box1 w f 56
  have bl := box_lt w (.cells #[.string f.1, .string f.2] 56)
  have hbb := (Below.refl w.heap.size w).alloc (Nat.le_refl _) (.cells #[.string f.1, .string f.2] 56)
  cases ht : tokB f.1 with
  | false =>
    have HN : Hid (false = fldOk f) := fldOk_tok ht
    go_enter Tryd.func38, Tryd.ntmps38
    go_wp2
    first | go_region_with (go_at_call 54; refine (specTok _ _ z1).mono ?_; rw [ht]; rintro e w1 ⟨rfl, hb1⟩) | fail
    all_goals
      go_wp2
      go_ret
      exact ⟨ret_bool HN.out, hbb.trans ((show Below (w.alloc (.cells #[.string f.1, .string f.2] 56)).heap.size (w.alloc (.cells #[.string f.1, .string f.2] 56)) _ from ⟨hb1.os, hb1.tape, hb1.output, hb1.size, hb1.block⟩).mono (Nat.le_of_lt bl))⟩
  | true =>
    cases hv : visB f.2 with
    | false =>
      have HN : Hid (false = fldOk f) := fldOk_vis ht hv
      go_enter Tryd.func38, Tryd.ntmps38
      go_wp2
      first | go_region_with (first | (go_at_call 54; refine (specTok _ _ z1).mono ?_; rw [ht]; rintro e w1 ⟨rfl, hb1⟩; have x1 := (hb1.cell (p := ⟨w.heap.size, 1, none⟩) bl).trans b1) | (go_at_call 55; refine (specVis _ _ z2).mono ?_; rw [hv]; rintro e w2 ⟨rfl, rfl⟩)) | fail
      all_goals
        go_wp2
        go_ret
        exact ⟨ret_bool HN.out, hbb.trans ((show Below (w.alloc (.cells #[.string f.1, .string f.2] 56)).heap.size (w.alloc (.cells #[.string f.1, .string f.2] 56)) _ from ⟨hb1.os, hb1.tape, hb1.output, hb1.size, hb1.block⟩).mono (Nat.le_of_lt bl))⟩
    | true =>
      have HN : Hid (((trimB f.2).toList == f.2.toList) = fldOk f) := fldOk_same ht hv
      go_enter Tryd.func38, Tryd.ntmps38
      go_wp2
      first | go_region_with (first | (go_at_call 54; refine (specTok _ _ z1).mono ?_; rw [ht]; rintro e w1 ⟨rfl, hb1⟩; have x1 := (hb1.cell (p := ⟨w.heap.size, 1, none⟩) bl).trans b1) | (go_at_call 55; refine (specVis _ _ z2).mono ?_; rw [hv]; rintro e w2 ⟨rfl, rfl⟩) | (go_at_call 56; refine (specTrim _ _ h2).mono ?_; rintro e w3 ⟨rfl, rfl⟩)) | fail
      all_goals
        go_wp2
        go_ret
        exact ⟨ret_bool HN.out, hbb.trans ((show Below (w.alloc (.cells #[.string f.1, .string f.2] 56)).heap.size (w.alloc (.cells #[.string f.1, .string f.2] 56)) _ from ⟨hb1.os, hb1.tape, hb1.output, hb1.size, hb1.block⟩).mono (Nat.le_of_lt bl))⟩
end Go.Proofs.YtkaogmdhjcgcdaaDoor
