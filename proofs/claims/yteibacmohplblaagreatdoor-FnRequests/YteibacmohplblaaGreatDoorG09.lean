/-
  The contracts of the law's own helpers on fields: how large, turned into the program's, compared.
  The contracts of 'a field is right', the specification's and the program's.
  The contract of 'a field is right', the program's.
-/
import Derived.Test.YteibacmohplblaaGreatDoorG02
import Derived.Test.YteibacmohplblaaGreatDoorG08
import Derived.Laws.OwnMore
import Derived.Test.YteibacmohplblaaGreatDoorG05
import Derived.Deep.RegionWith
namespace Go.Proofs.YteibacmohplblaaGreatDoor
open Go.RowKit Go.Sort

theorem eqF1 (f : Fl) (w : World) :
    Calls Tryz.prog 114 #[.agg #[.string f.1, .string f.2], .agg #[.string f.1, .string f.2]] w fun e w' => e = .returned (.bool true) ∧ Grew w w' := by
  go_enter Tryz.func114, Tryz.ntmps114
  go_wp2
  go_ret
  exact ⟨rfl, ((Grew.refl w).alloc _).alloc _⟩

theorem rep_zero : cellsF (List.replicate 0 (⟨#[]⟩, ⟨#[]⟩)) = [] := rfl
theorem made_cells (n : Nat) : (madeCells (Value.cells (.agg #[.string ⟨#[]⟩, .string ⟨#[]⟩])) (n * 2)).toList = cellsF (List.replicate n (⟨#[]⟩, ⟨#[]⟩)) := by
  apply List.ext_getElem?
  intro j
  by_cases hj : j < n * 2
  · have e : (madeCells (Value.cells (.agg #[.string ⟨#[]⟩, .string ⟨#[]⟩])) (n * 2)).toList[j]? = some (.string ⟨#[]⟩) := by
      have h2 : j % 2 = 0 ∨ j % 2 = 1 := by omega
      rcases h2 with h2 | h2 <;> simp [madeCells, hj, Value.cells, h2]
    rw [e]
    obtain ⟨c1, c2⟩ := cellsF_at (List.replicate n (⟨#[]⟩, ⟨#[]⟩)) (j / 2) (by simp; omega)
    have h2 : j = j / 2 * 2 ∨ j = j / 2 * 2 + 1 := by omega
    rcases h2 with h2 | h2
    · rw [h2, c1]; simp
    · rw [h2, c2]; simp
  · rw [List.getElem?_eq_none (by simp [madeCells]; omega), List.getElem?_eq_none (by rw [cellsF_length]; simp; omega)]
theorem putF (l : List Fl) (k : Nat) (hk : k < l.length) (f : Fl) : (l.set k (f.1, l[k].2)).set k (((l.set k (f.1, l[k].2))[k]'(by rw [List.length_set]; exact hk)).1, f.2) = l.set k f := by
  rw [List.set_set]; simp
/-- Turned so far: the first k, and behind them empty ones. -/
def turned (l : List Fl) (k : Nat) : List Fl := l.take k ++ List.replicate (l.length - k) (⟨#[]⟩, ⟨#[]⟩)
theorem turned_length (l : List Fl) (k : Nat) (hk : k ≤ l.length) : (turned l k).length = l.length := by unfold turned; simp; omega
theorem turned_zero (l : List Fl) : turned l 0 = List.replicate l.length (⟨#[]⟩, ⟨#[]⟩) := by simp [turned]
theorem turned_all (l : List Fl) : turned l l.length = l := by simp [turned]
theorem turned_next (l : List Fl) (k : Nat) (hk : k < l.length) : (turned l k).set k l[k] = turned l (k + 1) := by
  unfold turned
  have e : (l.take k).length = k := by simp; omega
  rw [List.set_append_right _ _ (by omega), e, Nat.sub_self, List.take_succ_eq_append_getElem hk, List.append_assoc]
  congr 1
  rw [show l.length - k = (l.length - (k + 1)) + 1 from by omega, List.replicate_succ, List.set_cons_zero]
  rfl

set_option maxHeartbeats 400000 in
theorem eqFS (va vb : Value) (l : List Fl) (w : World) (ha : Fls w va l) (hb : Fls w vb l) (hl : l.length ≤ 1048576) :
    Calls Tryz.prog 84 #[va, vb] w fun e w' => e = .returned (.bool true) ∧ Grew w w' := by
  obtain ⟨a, ca, rfl, a1, a2, a3⟩ := ha
  obtain ⟨b, cb, rfl, b1, b2, b3⟩ := hb
  have hmx := mixed
  go_enter Tryz.func84, Tryz.ntmps84
  go_wp2
  go_loopw [5] (fun i wr => ∃ (k : Nat), k ≤ l.length ∧ i = .int .i64 k ∧ Grew w wr) (fun i _ => l.length - (intOf i).toNat)
  case atStart => exact ⟨0, Nat.zero_le _, rfl, Grew.refl _⟩
  case round =>
    obtain ⟨k, hk, rfl, hg⟩ := hrel
    by_cases hlt : k < l.length
    · obtain ⟨ga, oa, rfl, hga, hca⟩ := a3 (by omega)
      obtain ⟨gb, ob, rfl, hgb, hcb⟩ := b3 (by omega)
      have c1 := hg.cell (hca k hlt).1 hga
      have c2 := hg.cell (hca k hlt).2 hga
      have c3 := hg.cell (hcb k hlt).1 hgb
      have c4 := hg.cell (hcb k hlt).2 hgb
      have hsz := hg.1.size
      generalize l[k] = f at c1 c2 c3 c4
      have k1 : ∀ n os, (grow (wr.drewN n) os).cell? ⟨ga, oa + k * 2, none⟩ = some (.string f.1) := fun n os => (cell?_grow _ _ _ (by show ga < wr.heap.size; omega)).trans c1
      have k2 : ∀ n os, (grow (wr.drewN n) os).cell? ⟨ga, oa + k * 2 + 1, none⟩ = some (.string f.2) := fun n os => (cell?_grow _ _ _ (by show ga < wr.heap.size; omega)).trans c2
      have k3 : ∀ n os, (grow (wr.drewN n) os).cell? ⟨gb, ob + k * 2, none⟩ = some (.string f.1) := fun n os => (cell?_grow _ _ _ (by show gb < wr.heap.size; omega)).trans c3
      have k4 : ∀ n os, (grow (wr.drewN n) os).cell? ⟨gb, ob + k * 2 + 1, none⟩ = some (.string f.2) := fun n os => (cell?_grow _ _ _ (by show gb < wr.heap.size; omega)).trans c4
      clear c1 c2 c3 c4 a3 b3 hca hcb
      go_wp2
      go_quiet_grown ((go_at_call 114; refine callGrew (eqF1 f _)))
      clear k1 k2 k3 k4
      have hg2 : Grew w (grow (wr.drewN nq) osq) := (hg.drewN _).more _
      generalize grow (wr.drewN nq) osq = w1 at hg2 ⊢
      go_wp2
      go_roundw
      case rel => exact ⟨k + 1, by omega, by go_num, hg2⟩
      case measure => simp [intOf]; omega
    · go_wp2
      go_ret
      exact ⟨rfl, hg⟩
end Go.Proofs.YteibacmohplblaaGreatDoor
namespace Go.Proofs.YteibacmohplblaaGreatDoor
open Go.RowKit Go.Sort

theorem box0 (w : World) (f : Fl) (t : TypeId) : (w.alloc (.cells #[.string f.1, .string f.2] t)).cell? ⟨w.heap.size, 0, none⟩ = some (.string f.1) := by rw [World.cell?_alloc_mark]; rfl
theorem box1 (w : World) (f : Fl) (t : TypeId) : (w.alloc (.cells #[.string f.1, .string f.2] t)).cell? ⟨w.heap.size, 1, none⟩ = some (.string f.2) := by rw [World.cell?_alloc_mark]; rfl
theorem box_lt (w : World) (o : Obj) : w.heap.size < (w.alloc o).heap.size := by simp

set_option maxHeartbeats 1000000 in
theorem specFld (f : Fl) (w : World) (h1 : f.1.size ≤ 1048576) (h2 : f.2.size ≤ 1048576) :
    Calls Tryz.prog 111 #[.agg #[.string f.1, .string f.2]] w fun e w' => e = .returned (.bool (fldOk f)) ∧ Below w.heap.size w w' := by
  have z1 : f.1.size ≤ maxLen := by unfold maxLen; omega
  have z2 : f.2.size ≤ maxLen := by unfold maxLen; omega
  have b0 := box0 w f 81
  have b1 := box1 w f 81
  have bl := box_lt w (.cells #[.string f.1, .string f.2] 81)
  have hbb := (Below.refl w.heap.size w).alloc (Nat.le_refl _) (.cells #[.string f.1, .string f.2] 81)
  cases ht : tokB f.1 with
  | false =>
    have HN : Hid (false = fldOk f) := fldOk_tok ht
    go_enter Tryz.func111, Tryz.ntmps111
    go_wp2
    first | go_region_with (go_at_call 83; refine (specTok _ _ z1).mono ?_; rw [ht]; rintro e w1 ⟨rfl, hb1⟩) | fail
    all_goals
      go_wp2
      go_ret
      exact ⟨ret_bool HN.out, hbb.trans ((show Below (w.alloc (.cells #[.string f.1, .string f.2] 81)).heap.size (w.alloc (.cells #[.string f.1, .string f.2] 81)) _ from ⟨hb1.os, hb1.tape, hb1.output, hb1.size, hb1.block⟩).mono (Nat.le_of_lt bl))⟩
  | true =>
    cases hv : visB f.2 with
    | false =>
      have HN : Hid (false = fldOk f) := fldOk_vis ht hv
      go_enter Tryz.func111, Tryz.ntmps111
      go_wp2
      first | go_region_with (first | (go_at_call 83; refine (specTok _ _ z1).mono ?_; rw [ht]; rintro e w1 ⟨rfl, hb1⟩; have x1 := (hb1.cell (p := ⟨w.heap.size, 1, none⟩) bl).trans b1) | (go_at_call 135; refine (specVis _ _ z2).mono ?_; rw [hv]; rintro e w2 ⟨rfl, rfl⟩)) | fail
      all_goals
        go_wp2
        go_ret
        exact ⟨ret_bool HN.out, hbb.trans ((show Below (w.alloc (.cells #[.string f.1, .string f.2] 81)).heap.size (w.alloc (.cells #[.string f.1, .string f.2] 81)) _ from ⟨hb1.os, hb1.tape, hb1.output, hb1.size, hb1.block⟩).mono (Nat.le_of_lt bl))⟩
    | true =>
      have HN : Hid (((trimB f.2).toList == f.2.toList) = fldOk f) := fldOk_same ht hv
      go_enter Tryz.func111, Tryz.ntmps111
      go_wp2
      first | go_region_with (first | (go_at_call 83; refine (specTok _ _ z1).mono ?_; rw [ht]; rintro e w1 ⟨rfl, hb1⟩; have x1 := (hb1.cell (p := ⟨w.heap.size, 1, none⟩) bl).trans b1) | (go_at_call 135; refine (specVis _ _ z2).mono ?_; rw [hv]; rintro e w2 ⟨rfl, rfl⟩) | (go_at_call 131; refine (specTrim _ _ h2).mono ?_; rintro e w3 ⟨rfl, rfl⟩)) | fail
      all_goals
        go_wp2
        go_ret
        exact ⟨ret_bool HN.out, hbb.trans ((show Below (w.alloc (.cells #[.string f.1, .string f.2] 81)).heap.size (w.alloc (.cells #[.string f.1, .string f.2] 81)) _ from ⟨hb1.os, hb1.tape, hb1.output, hb1.size, hb1.block⟩).mono (Nat.le_of_lt bl))⟩
end Go.Proofs.YteibacmohplblaaGreatDoor
namespace Go.Proofs.YteibacmohplblaaGreatDoor
open Go.RowKit Go.Sort

set_option maxHeartbeats 1000000 in
theorem implFld (f : Fl) (w : World) (h1 : f.1.size ≤ 1048576) (h2 : f.2.size ≤ 1048576) :
    Calls Tryz.prog 109 #[.agg #[.string f.1, .string f.2]] w fun e w' => e = .returned (.bool (fldOk f)) ∧ Below w.heap.size w w' := by
  have z1 : f.1.size ≤ maxLen := by unfold maxLen; omega
  have z2 : f.2.size ≤ maxLen := by unfold maxLen; omega
  have b0 := box0 w f 81
  have b1 := box1 w f 81
  have bl := box_lt w (.cells #[.string f.1, .string f.2] 81)
  have hbb := (Below.refl w.heap.size w).alloc (Nat.le_refl _) (.cells #[.string f.1, .string f.2] 81)
  cases ht : tokB f.1 with
  | false =>
    have HN : Hid (false = fldOk f) := fldOk_tok ht
    go_enter Tryz.func109, Tryz.ntmps109
    go_wp2
    first | go_region_with (go_at_call 90; refine (implTok _ _ z1).mono ?_; rw [ht]; rintro e w1 ⟨rfl, hb1⟩) | fail
    all_goals
      go_wp2
      go_ret
      exact ⟨ret_bool HN.out, hbb.trans ((show Below (w.alloc (.cells #[.string f.1, .string f.2] 81)).heap.size (w.alloc (.cells #[.string f.1, .string f.2] 81)) _ from ⟨hb1.os, hb1.tape, hb1.output, hb1.size, hb1.block⟩).mono (Nat.le_of_lt bl))⟩
  | true =>
    cases hv : visB f.2 with
    | false =>
      have HN : Hid (false = fldOk f) := fldOk_vis ht hv
      go_enter Tryz.func109, Tryz.ntmps109
      go_wp2
      first | go_region_with (first | (go_at_call 90; refine (implTok _ _ z1).mono ?_; rw [ht]; rintro e w1 ⟨rfl, hb1⟩; have x1 := (hb1.cell (p := ⟨w.heap.size, 1, none⟩) bl).trans b1; have hb01 := hbb.trans ((show Below (w.alloc (.cells #[.string f.1, .string f.2] 81)).heap.size (w.alloc (.cells #[.string f.1, .string f.2] 81)) w1 from ⟨hb1.os, hb1.tape, hb1.output, hb1.size, hb1.block⟩).mono (Nat.le_of_lt bl)); have bl1 := Nat.lt_of_lt_of_le bl hb1.size) | (go_at_call 91; refine (implVis _ _ z2).mono ?_; rw [hv]; rintro e w2 ⟨rfl, hb2⟩; have x2 := (hb2.cell (p := ⟨w.heap.size, 1, none⟩) bl1).trans x1; have bl2 := Nat.lt_of_lt_of_le bl1 hb2.size; have hb02 := hb01.trans ((show Below w1.heap.size w1 w2 from ⟨hb2.os, hb2.tape, hb2.output, hb2.size, hb2.block⟩).mono hb01.size))) | fail
      all_goals
        go_wp2
        go_ret
        exact ⟨ret_bool HN.out, hb02⟩
    | true =>
      have HN : Hid (((trimB f.2).toList == f.2.toList) = fldOk f) := fldOk_same ht hv
      go_enter Tryz.func109, Tryz.ntmps109
      go_wp2
      first | go_region_with (first | (go_at_call 90; refine (implTok _ _ z1).mono ?_; rw [ht]; rintro e w1 ⟨rfl, hb1⟩; have x1 := (hb1.cell (p := ⟨w.heap.size, 1, none⟩) bl).trans b1; have hb01 := hbb.trans ((show Below (w.alloc (.cells #[.string f.1, .string f.2] 81)).heap.size (w.alloc (.cells #[.string f.1, .string f.2] 81)) w1 from ⟨hb1.os, hb1.tape, hb1.output, hb1.size, hb1.block⟩).mono (Nat.le_of_lt bl)); have bl1 := Nat.lt_of_lt_of_le bl hb1.size) | (go_at_call 91; refine (implVis _ _ z2).mono ?_; rw [hv]; rintro e w2 ⟨rfl, hb2⟩; have x2 := (hb2.cell (p := ⟨w.heap.size, 1, none⟩) bl1).trans x1; have bl2 := Nat.lt_of_lt_of_le bl1 hb2.size; have hb02 := hb01.trans ((show Below w1.heap.size w1 w2 from ⟨hb2.os, hb2.tape, hb2.output, hb2.size, hb2.block⟩).mono hb01.size)) | (go_at_call 133; refine (implTrim _ _ h2).mono ?_; rintro e w3 ⟨rfl, hb3⟩; have x3 := (hb3.cell (p := ⟨w.heap.size, 1, none⟩) bl2).trans x2; have hb03 := hb02.trans ((show Below w2.heap.size w2 w3 from ⟨hb3.os, hb3.tape, hb3.output, hb3.size, hb3.block⟩).mono hb02.size))) | fail
      all_goals
        go_wp2
        go_ret
        exact ⟨ret_bool HN.out, hb03⟩
end Go.Proofs.YteibacmohplblaaGreatDoor
