/-
  Drawn tags: whatever the code, a tag whose text has at most 41 bytes.
-/
import Derived.Test.YteeclocldjmgaaaDoorTagB
import Derived.Test.YteeclocldjmgaaaDoorDrT
import Derived.Laws.OwnMore
import Derived.Laws.Rows
import Derived.Deep.RegionWith
namespace Go.Proofs.YteeclocldjmgaaaDoor
open Go.RowKit
set_option linter.unusedVariables false

theorem TgB.bs {w w' : World} {b k : Nat} {x : Tg} (h : TgB w k x) (hb : Beside b w w') (hne : k ≠ b) : TgB w' k x := by
  have e : w'.heap[k]? = w.heap[k]? := hb.2.2.2.2 k h.hi hne
  have q : ∀ j, w'.cell? ⟨k, j, none⟩ = w.cell? ⟨k, j, none⟩ := fun j => World.cell?_of_block (a := ⟨k, j, none⟩) e
  exact ⟨(q 0).trans h.c0, (q 1).trans h.c1, fun j => (World.frozen?_of_block (a := ⟨k, j, none⟩) e).trans (h.fz j), Nat.lt_of_lt_of_le h.hi hb.2.2.2.1⟩
theorem Beside.far7 {g b k : Nat} {a w : World} (h : Beside g a w) (hb : a.heap.size ≤ b) (v : Value) : Beside g a (w.setCell ⟨b, k, none⟩ v) :=
  ⟨h.1, h.2.1, h.2.2.1, by rw [World.size_setCell]; exact h.2.2.2.1, fun j hj hg => (Below.heap_setCell _ _ _ _ (by show j ≠ b; omega)).trans (h.2.2.2.2 j hj hg)⟩
theorem Cur.far7 {w : World} {b k j : Nat} {sa : Option Addr} {sl sc : Nat} (h : Cur w b sa sl sc) (hk : b < k) (v : Value) : Cur (w.setCell ⟨k, j, none⟩ v) b sa sl sc :=
  h.kept ((Below.refl (b + 1) w).setCell (show b + 1 ≤ k from hk) v) (Nat.lt_succ_self _)
theorem Cur.more7 {w : World} {b : Nat} {sa : Option Addr} {sl sc : Nat} (h : Cur w b sa sl sc) (o : Obj) : Cur (w.alloc o) b sa sl sc := h.kept ((Below.refl _ w).alloc (Nat.le_refl _) _) h.2.2.1
theorem Beside.more7 {g : Nat} {a w : World} (h : Beside g a w) (o : Obj) : Beside g a (w.alloc o) := h.below ((Below.refl _ w).alloc (Nat.le_refl _) _)
def isS7 (v : Value) : Bool := match v with | .string s => decide (s.size ≤ 40) | _ => false
theorem isS7_out {v : Value} (h : isS7 v = true) : ∃ s : ByteArray, v = .string s ∧ s.size ≤ 40 := by
  unfold isS7 at h
  split at h
  · exact ⟨_, rfl, of_decide_eq_true h⟩
  · cases h
theorem tabS7 {b : Nat} {w w' : World} {C : Array Value} {t : TypeId} (hb : Beside b (w.alloc (.cells C t)) w') (hne : w.heap.size ≠ b) (y : Nat) (hy : y < C.size) (hall : C.toList.all isS7 = true) : ∃ z : ByteArray, w'.cell? ⟨w.heap.size, y, none⟩ = some (.string z) ∧ z.size ≤ 40 := by
  have hm : C[y] ∈ C.toList := by simp
  obtain ⟨z, hz, hs⟩ := isS7_out (List.all_eq_true.1 hall _ hm)
  refine ⟨z, besideCell hb hne ?_, hs⟩
  rw [World.cell?_alloc_mark, Array.getElem?_eq_getElem hy, hz]
theorem make_own7 (w : World) (n : Nat) (hn : n ≤ 10000) : ∃ w', (Instr.makeSlice 22 (.int .i64 (n : Int)) (.int .i64 (n : Int))).run Tryd.prog w = .ok (.slice (some ⟨w.heap.size, 0, none⟩) n n) w' ∧ Below w.heap.size w w' ∧ OwnsB w' w.heap.size (.slice (some ⟨w.heap.size, 0, none⟩) n n) (List.replicate n 0) := by
  obtain ⟨i0, hi, hz0, hz1, hz2⟩ := info_parts Tryd.info5
  obtain ⟨w', h1, h2, h3⟩ := run_makeSlice_full (P := Tryd.prog) w w.heap.size 22 5 i0 (.int .u8 0) 1 Tryd.underlying22 hi hz0 hz1 .i64 .i64 n (by omega) (by rw [hz2]; omega) (by unfold maxLen; omega) (Nat.le_refl _)
  have hl : (madeCells (Value.int IntKind.u8 0).cells (n * 1)).toList = bytesV (List.replicate n 0) := by
    have e := toList_madeCells_one (.int .u8 0) (n * 1)
    rw [show (Value.int IntKind.u8 0).cells = #[.int .u8 0] from rfl, e, Nat.mul_one]
    unfold bytesV
    rw [List.map_replicate]
    rfl
  rw [hl] at h2
  refine ⟨w', h1, (Below.refl _ w).grown h3 (Nat.le_refl _) (fun j hj => by cases hj), ?_⟩
  unfold OwnsB
  rw [List.length_replicate]
  exact h2
theorem pick7Z (w : World) (k : Nat) (z : ByteArray) (hz : z.size ≤ 41) (hk : k < 4) : ∃ s : ByteArray, (w.alloc (.cells #[.string ⟨#[34]⟩, .string ⟨#[97, 32, 98]⟩, .string ⟨#[127]⟩, .string z] 9)).cell? ⟨w.heap.size, k, none⟩ = some (.string s) ∧ (#[.string ⟨#[34]⟩, .string ⟨#[97, 32, 98]⟩, .string ⟨#[127]⟩, .string z] : Array Value)[k]? = some (.string s) ∧ s.size ≤ 41 := by
  rw [World.cell?_alloc_mark]
  rcases (show k = 0 ∨ k = 1 ∨ k = 2 ∨ k = 3 by omega) with rfl | rfl | rfl | rfl
  · exact ⟨_, rfl, rfl, by decide⟩
  · exact ⟨_, rfl, rfl, by decide⟩
  · exact ⟨_, rfl, rfl, by decide⟩
  · exact ⟨z, rfl, rfl, hz⟩
set_option maxRecDepth 100000 in
set_option maxHeartbeats 4000000 in
theorem l7Draw (b : Nat) (sa : Option Addr) (sl sc : Nat) (w : World) (hc : Cur w b sa sl sc) :
    Calls Tryd.prog 33 #[.pointer (some ⟨b, 0, none⟩)] w fun e w' => (∃ x : Tg, e = .returned (tgV x) ∧ x.t.size ≤ 41) ∧ Cur w' b sa sl sc ∧ Beside b w w' := by
  have hbz : b < w.heap.size := hc.2.2.1
  have T0 : Hid (TgB (w.alloc (.cells #[.bool false, .string ⟨#[]⟩] 25)) w.heap.size noT) := TgB.new w noT 25
  unfold tgV
  go_enter Tryd.func33, Tryd.ntmps33
  go_wp2_with fail
  refine (l1Once b sa sl sc 3 (by decide) (by decide) _ (hc.more7 _)).mono ?_
  rintro e w1 ⟨wk, rfl, hc1, hb1⟩
  have T1 : Hid (TgB w1 w.heap.size noT) := T0.out.bs hb1 (by omega)
  have B1 : Hid (Beside b w w1) := ((Beside.refl b w).more7 _).trans hb1
  have z1 : w.heap.size < w1.heap.size := T1.out.hi
  clear T0 hb1 hc
  go_wp2_with fail
  refine (l1Below b sa sl sc 6 (by decide) (by decide) _ (hc1.more7 _)).mono ?_
  rintro e w2 ⟨y, rfl, hy0, hy1, hc2, hb2⟩
  obtain ⟨y, rfl⟩ := Int.eq_ofNat_of_zero_le hy0
  obtain ⟨s, hs, hss⟩ := tabS7 hb2 (by omega) y (by simp; omega) rfl
  have T2 : Hid (TgB w2 w.heap.size noT) := (T1.out.alloc _).bs hb2 (by omega)
  have B2 : Hid (Beside b w w2) := (B1.out.more7 _).trans hb2
  have z2 : w1.heap.size < w2.heap.size := by have := hb2.2.2.2.1; simp at this; omega
  clear T1 B1 hb2 hc1
  go_wp2_with fail
  refine (l1Once b sa sl sc 16 (by decide) (by decide) _ (hc2.more7 _)).mono ?_
  rintro e w3 ⟨tt, rfl, hc3, hb3⟩
  have X3 : Hid (TgB w3 w2.heap.size ⟨wk, s⟩) := (TgB.new w2 ⟨wk, s⟩ 25).bs hb3 (by omega)
  have T3 : Hid (TgB w3 w.heap.size noT) := (T2.out.alloc _).bs hb3 (by omega)
  have B3 : Hid (Beside b w w3) := (B2.out.more7 _).trans hb3
  have z3 : w2.heap.size < w3.heap.size := X3.out.hi
  clear T2 B2 hb3 hc2 hs
  cases tt with
  | false =>
    have a0 := X3.out.c0
    have a1 := X3.out.c1
    have r0 := T3.out.c0
    have r1 := T3.out.c1
    have rf := T3.out.fz
    have HC : Hid (Cur w3 b sa sl sc) := hc3
    clear X3 T3 hc3
    go_wp2
    refine bodyPost_ret (v := .agg #[.bool wk, .string s]) (by simp [results, Tryd.results33, go_sem, r0, r1]) rfl ⟨⟨⟨wk, s⟩, rfl, by show s.size ≤ 41; omega⟩, ?_, ?_⟩
    · repeat (with_reducible refine Cur.far7 ?_ ?_ _; rotate_left; omega)
      exact HC.out
    · repeat (with_reducible refine Beside.far7 ?_ ?_ _; rotate_left; omega)
      exact B3.out
  | true =>
    obtain ⟨m1, hrun1, hbm1, hob1⟩ := make_own7 w3.drew 41 (by omega)
    rw [show ((41 : Nat) : Int) = 41 from rfl] at hrun1
    have hcv1 : (convert 22 9 (.slice (some ⟨w3.heap.size, 0, none⟩) 41 41)).run Tryd.prog m1 = .ok (.string ⟨(List.replicate 41 (0 : UInt8)).toArray⟩) m1 := hob1.text
    have hrun1' : (Instr.makeSlice 22 (.int .i64 41) (.int .i64 41)).run Tryd.prog w3.drew = .ok (.slice (some ⟨w3.heap.size, 0, none⟩) 41 41) m1 := hrun1
    clear hrun1
    have hz41 : (⟨(List.replicate 41 (0 : UInt8)).toArray⟩ : ByteArray).size ≤ 41 := by show (List.replicate 41 (0 : UInt8)).toArray.size ≤ 41; rw [List.size_toArray, List.length_replicate]; omega
    have hbm1' : Below w3.heap.size w3 m1 := ⟨hbm1.os, hbm1.tape, hbm1.output, hbm1.size, hbm1.block⟩
    have X1 : Hid (TgB m1 w2.heap.size ⟨wk, s⟩) := X3.out.kept hbm1'
    have T1 : Hid (TgB m1 w.heap.size noT) := T3.out.kept hbm1'
    have HOB : Hid (OwnsB m1 w3.heap.size (.slice (some ⟨w3.heap.size, 0, none⟩) 41 41) (List.replicate 41 0)) := hob1
    have HC2 : Hid (Cur w3.drew b sa sl sc) := hc3
    have HC1 : Hid (Cur m1 b sa sl sc) := hc3.kept hbm1' hc3.2.2.1
    have HW1 : Hid (Beside b w m1) := B3.out.below hbm1'
    have HMS : w3.heap.size < m1.heap.size := by
      rcases hob1.2 with ⟨h0, _⟩ | ⟨g', cap, cur, hv, hbg, hg', _⟩
      · cases h0
      · injection hv with e _ _; injection e with e; injection e with e _ _; rw [← e] at hg'; exact (Array.getElem?_eq_some_iff.1 hg').1
    generalize hZ : (⟨(List.replicate 41 (0 : UInt8)).toArray⟩ : ByteArray) = Z at hcv1 hz41
    clear hob1 hc3 hbm1 hbm1'
    go_wp2
    go_region_with (first
      | (go_at_call 36; go_loud (first
        | (refine (l1Below b sa sl sc 4 (by decide) (by decide) _ HC2.out).mono ?_; rintro e y3 ⟨k', rfl, hk0, hk1, hc3, hb3⟩; obtain ⟨k, rfl⟩ : ∃ k : Nat, k' = k := ⟨k'.toNat, by omega⟩; obtain ⟨m3, hrun3, hbm3, hob3⟩ := make_own7 y3 41 (by omega); rw [show ((41 : Nat) : Int) = 41 from rfl] at hrun3; have hcv3 := hob3.text; rw [hZ] at hcv3; obtain ⟨S, hS1, hS2, hS3⟩ := pick7Z m3 k Z hz41 (by omega); have XY := (X3.out.bs (show Beside b w3 y3 from hb3) (by omega)).kept hbm3; have TY := (T3.out.bs (show Beside b w3 y3 from hb3) (by omega)).kept hbm3; have C3 := hc3.kept hbm3 hc3.2.2.1; have W3 := (B3.out.trans (show Beside b w3 y3 from hb3)).below hbm3; have c0 := XY.c0; have c1 := XY.c1; have cf := XY.fz; have d0 := TY.c0; have d1 := TY.c1; have df := TY.fz; have hg3 : w2.heap.size < m3.heap.size := XY.hi; have hn3 : w.heap.size < m3.heap.size := TY.hi; have HCY : Hid (Cur m3 b sa sl sc) := C3; have HBY : Hid (Beside b w m3) := W3; clear XY TY C3 W3 hb3 hbm3 hob3 hc3)
        | (refine (l1Below b sa sl sc 4 (by decide) (by decide) _ (HC1.out.more7 _)).mono ?_; rintro e y3 ⟨k', rfl, hk0, hk1, hc3, hb3⟩; obtain ⟨k, rfl⟩ : ∃ k : Nat, k' = k := ⟨k'.toNat, by omega⟩; obtain ⟨S, hS1', hS2, hS3⟩ := pick7Z m1 k Z hz41 (by omega); have hS1 := besideCell hb3 (by omega) hS1'; have XY := (X1.out.alloc (.cells #[.string ⟨#[34]⟩, .string ⟨#[97, 32, 98]⟩, .string ⟨#[127]⟩, .string Z] 9)).bs hb3 (by omega); have TY := (T1.out.alloc (.cells #[.string ⟨#[34]⟩, .string ⟨#[97, 32, 98]⟩, .string ⟨#[127]⟩, .string Z] 9)).bs hb3 (by omega); have W3 := (HW1.out.more7 (.cells #[.string ⟨#[34]⟩, .string ⟨#[97, 32, 98]⟩, .string ⟨#[127]⟩, .string Z] 9)).trans hb3; have c0 := XY.c0; have c1 := XY.c1; have cf := XY.fz; have d0 := TY.c0; have d1 := TY.c1; have df := TY.fz; have hg3 : w2.heap.size < y3.heap.size := XY.hi; have hn3 : w.heap.size < y3.heap.size := TY.hi; have HCY : Hid (Cur y3 b sa sl sc) := hc3; have HBY : Hid (Beside b w y3) := W3; clear XY TY W3 hb3 hc3 hS1')
        | (refine (l1Below b sa sl sc 4 (by decide) (by decide) _ HC1.out).mono ?_; rintro e y3 ⟨k', rfl, hk0, hk1, hc3, hb3⟩; obtain ⟨k, rfl⟩ : ∃ k : Nat, k' = k := ⟨k'.toNat, by omega⟩; have hcv3 : (convert 22 9 (.slice (some ⟨w3.heap.size, 0, none⟩) 41 41)).run Tryd.prog y3 = .ok (.string ⟨(List.replicate 41 (0 : UInt8)).toArray⟩) y3 := (HOB.out.beside hb3 (by omega)).text; rw [hZ] at hcv3; obtain ⟨S, hS1, hS2, hS3⟩ := pick7Z y3 k Z hz41 (by omega); have XY := X1.out.bs hb3 (by omega); have TY := T1.out.bs hb3 (by omega); have W3 := HW1.out.trans hb3; have c0 := XY.c0; have c1 := XY.c1; have cf := XY.fz; have d0 := TY.c0; have d1 := TY.c1; have df := TY.fz; have hg3 : w2.heap.size < y3.heap.size := XY.hi; have hn3 : w.heap.size < y3.heap.size := TY.hi; have HCY : Hid (Cur y3 b sa sl sc) := hc3; have HBY : Hid (Beside b w y3) := W3; clear XY TY W3 hb3 hc3))))
    all_goals
      go_wp2
      refine bodyPost_ret (v := .agg #[.bool wk, .string S]) (by simp [results, Tryd.results33, go_sem, d0, d1, hn3]) rfl ⟨⟨⟨wk, S⟩, rfl, hS3⟩, ?_, ?_⟩
      · repeat (first | (with_reducible refine Cur.far7 ?_ ?_ _; rotate_left; omega) | (with_reducible refine Cur.more7 ?_ _))
        exact HCY.out
      · repeat (first | (with_reducible refine Beside.far7 ?_ ?_ _; rotate_left; omega) | (with_reducible refine Beside.more7 ?_ _))
        exact HBY.out
end Go.Proofs.YteeclocldjmgaaaDoor
