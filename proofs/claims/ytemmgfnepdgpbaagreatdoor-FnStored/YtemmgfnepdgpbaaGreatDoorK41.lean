/-
  A state of chunks by value in a block of four cells; what all bytes of a text come to.
  The specification's Eat, EatAll and Unchunked by their contracts.
  Drawn states of chunks: whatever is drawn, a small state.
  Drawn requests: whatever the code, a small request.
-/
import Derived.Test.YtemmgfnepdgpbaaGreatDoorK09
import Derived.Test.YtemmgfnepdgpbaaGreatDoorK04
import Derived.Test.YtemmgfnepdgpbaaGreatDoorK13
import Derived.Test.YtemmgfnepdgpbaaGreatDoorK40
import Derived.Deep.RegionWith
namespace Go.Proofs.YtemmgfnepdgpbaaGreatDoor
open Go.RowKit

/-- The four cells of a state by value in block b. -/
structure Four (w : World) (b : Nat) (c : Ck) : Prop where
  c0 : w.cell? ⟨b, 0, none⟩ = some (.int .i64 c.st)
  c1 : w.cell? ⟨b, 1, none⟩ = some (.int .i64 c.lf)
  c2 : w.cell? ⟨b, 2, none⟩ = some (.string c.dg)
  c3 : w.cell? ⟨b, 3, none⟩ = some (.string c.bd)
  fz : ∀ k, w.frozen? ⟨b, k, none⟩ = false
  hi : b < w.heap.size
theorem Four.kept {w w' : World} {n b : Nat} {c : Ck} (h : Four w b c) (hb : Below n w w') (hn : b < n) : Four w' b c := by
  have e : w'.heap[b]? = w.heap[b]? := hb.block b hn
  have k : ∀ k, w'.cell? ⟨b, k, none⟩ = w.cell? ⟨b, k, none⟩ := fun k => World.cell?_of_block (a := ⟨b, k, none⟩) e
  exact ⟨(k 0).trans h.c0, (k 1).trans h.c1, (k 2).trans h.c2, (k 3).trans h.c3, fun j => (World.frozen?_of_block (a := ⟨b, j, none⟩) e).trans (h.fz j), Nat.lt_of_lt_of_le h.hi hb.size⟩
theorem Four.alloc {w : World} {b : Nat} {c : Ck} (h : Four w b c) (o : Obj) : Four (w.alloc o) b c := h.kept (n := w.heap.size) ((Below.refl _ w).alloc (Nat.le_refl _) _) h.hi

theorem Four.put {w : World} {b : Nat} {c : Ck} (h : Four w b c) (d : Ck) : Four ((((w.setCell ⟨b, 0, none⟩ (.int .i64 d.st)).setCell ⟨b, 1, none⟩ (.int .i64 d.lf)).setCell ⟨b, 2, none⟩ (.string d.dg)).setCell ⟨b, 3, none⟩ (.string d.bd)) b d where
  c0 := by rw [World.cell?_setCell_other _ _ _ _ (by simp), World.cell?_setCell_other _ _ _ _ (by simp), World.cell?_setCell_other _ _ _ _ (by simp)]; exact World.cell?_setCell_same _ _ _ h.c0
  c1 := by rw [World.cell?_setCell_other _ _ _ _ (by simp), World.cell?_setCell_other _ _ _ _ (by simp)]; exact World.cell?_setCell_same _ _ _ (by rw [World.cell?_setCell_other _ _ _ _ (by simp)]; exact h.c1)
  c2 := by rw [World.cell?_setCell_other _ _ _ _ (by simp)]; exact World.cell?_setCell_same _ _ _ (by rw [World.cell?_setCell_other _ _ _ _ (by simp), World.cell?_setCell_other _ _ _ _ (by simp)]; exact h.c2)
  c3 := World.cell?_setCell_same _ _ _ (by rw [World.cell?_setCell_other _ _ _ _ (by simp), World.cell?_setCell_other _ _ _ _ (by simp), World.cell?_setCell_other _ _ _ _ (by simp)]; exact h.c3)
  fz := fun k => by rw [World.frozen?_setCell, World.frozen?_setCell, World.frozen?_setCell, World.frozen?_setCell]; exact h.fz k
  hi := by rw [World.size_setCell, World.size_setCell, World.size_setCell, World.size_setCell]; exact h.hi

end Go.Proofs.YtemmgfnepdgpbaaGreatDoor
namespace Go.Proofs.YtemmgfnepdgpbaaGreatDoor
open Go.RowKit
set_option linter.unusedVariables false

theorem Four.drew {w : World} {b : Nat} {c : Ck} (h : Four w b c) : Four w.drew b c := ⟨h.c0, h.c1, h.c2, h.c3, h.fz, h.hi⟩
theorem Four.beside {w : World} {b b' k : Nat} {c : Ck} (h : Four w b c) (hne : b ≠ b') (v : Value) : Four (w.setCell ⟨b', k, none⟩ v) b c := by
  have e : (w.setCell ⟨b', k, none⟩ v).heap[b]? = w.heap[b]? := Below.heap_setCell w ⟨b', k, none⟩ v b hne
  have k' : ∀ j, (w.setCell ⟨b', k, none⟩ v).cell? ⟨b, j, none⟩ = w.cell? ⟨b, j, none⟩ := fun j => World.cell?_of_block (a := ⟨b, j, none⟩) e
  exact ⟨(k' 0).trans h.c0, (k' 1).trans h.c1, (k' 2).trans h.c2, (k' 3).trans h.c3, fun j => (World.frozen?_of_block (a := ⟨b, j, none⟩) e).trans (h.fz j), by rw [World.size_setCell]; exact h.hi⟩
end Go.Proofs.YtemmgfnepdgpbaaGreatDoor
namespace Go.Proofs.YtemmgfnepdgpbaaGreatDoor
open Go.RowKit
set_option linter.unusedVariables false

theorem Four.bs {w w' : World} {b k : Nat} {c : Ck} (h : Four w k c) (hb : Beside b w w') (hne : k ≠ b) : Four w' k c := by
  have e : w'.heap[k]? = w.heap[k]? := hb.2.2.2.2 k h.hi hne
  have q : ∀ j, w'.cell? ⟨k, j, none⟩ = w.cell? ⟨k, j, none⟩ := fun j => World.cell?_of_block (a := ⟨k, j, none⟩) e
  exact ⟨(q 0).trans h.c0, (q 1).trans h.c1, (q 2).trans h.c2, (q 3).trans h.c3, fun j => (World.frozen?_of_block (a := ⟨k, j, none⟩) e).trans (h.fz j), Nat.lt_of_lt_of_le h.hi hb.2.2.2.1⟩
theorem Beside.far {g b k : Nat} {a w : World} (h : Beside g a w) (hb : a.heap.size ≤ b) (v : Value) : Beside g a (w.setCell ⟨b, k, none⟩ v) :=
  ⟨h.1, h.2.1, h.2.2.1, by rw [World.size_setCell]; exact h.2.2.2.1, fun j hj hg => (Below.heap_setCell _ _ _ _ (by show j ≠ b; omega)).trans (h.2.2.2.2 j hj hg)⟩
theorem Cur.far {w : World} {b k j : Nat} {sa : Option Addr} {sl sc : Nat} (h : Cur w b sa sl sc) (hk : b < k) (v : Value) : Cur (w.setCell ⟨k, j, none⟩ v) b sa sl sc :=
  h.kept ((Below.refl (b + 1) w).setCell (show b + 1 ≤ k from hk) v) (Nat.lt_succ_self _)
theorem Cur.more {w : World} {b : Nat} {sa : Option Addr} {sl sc : Nat} (h : Cur w b sa sl sc) (o : Obj) : Cur (w.alloc o) b sa sl sc := h.kept ((Below.refl _ w).alloc (Nat.le_refl _) _) h.2.2.1
theorem Beside.more {g : Nat} {a w : World} (h : Beside g a w) (o : Obj) : Beside g a (w.alloc o) := h.below ((Below.refl _ w).alloc (Nat.le_refl _) _)
end Go.Proofs.YtemmgfnepdgpbaaGreatDoor
namespace Go.Proofs.YtemmgfnepdgpbaaGreatDoor
open Go.RowKit Go.Sort
set_option linter.unusedVariables false

def TabT (b : Nat) (w : World) (g : Nat) (tab : Array Value) (ty : TypeId) : Prop := w.heap[g]? = some (.cells tab ty (0, 0)) ∧ g ≠ b
def hasTabT (b : Nat) (w : World) (v : Value) (n : Nat) (tab : Array Value) (ty : TypeId) : Prop := ∃ g, v = .slice (some ⟨g, 0, none⟩) n n ∧ TabT b w g tab ty
def hasPtT (b : Nat) (w : World) (v : Value) (n : Nat) (tab : Array Value) (ty : TypeId) : Prop := ∃ g x, v = .pointer (some ⟨g, x, none⟩) ∧ x < n ∧ TabT b w g tab ty
def hasIt (v : Value) : Prop := ∃ z : Int, v = .int .i64 z
theorem hasTabT.keep {b : Nat} {w w' : World} {v : Value} {n : Nat} {tab : Array Value} {ty : TypeId} (h : hasTabT b w v n tab ty) (k : Keep b w w') : hasTabT b w' v n tab ty := by obtain ⟨g, h1, h2⟩ := h; exact ⟨g, h1, k g _ h2.2 h2.1, h2.2⟩
theorem hasPtT.keep {b : Nat} {w w' : World} {v : Value} {n : Nat} {tab : Array Value} {ty : TypeId} (h : hasPtT b w v n tab ty) (k : Keep b w w') : hasPtT b w' v n tab ty := by obtain ⟨g, x, h1, h2, h3⟩ := h; exact ⟨g, x, h1, h2, k g _ h3.2 h3.1, h3.2⟩
theorem frozen_of_row {w : World} {g : Nat} {c : Array Value} {T : TypeId} (h : w.heap[g]? = some (.cells c T (0, 0))) (k : Nat) : w.frozen? ⟨g, k, none⟩ = false := by simp [World.frozen?, h]
theorem OwnsF.farG {w : World} {B b k : Nat} {v : Value} {l : List Fl} (h : OwnsF w B v l) (hb : b < B) (x : Value) : OwnsF (w.setCell ⟨b, k, none⟩ x) B v l := by
  refine ⟨h.1, ?_⟩
  rcases h.2 with h0 | ⟨g, cap, cur, hv, hbg, hg, rest⟩
  · exact .inl h0
  · exact .inr ⟨g, cap, cur, hv, hbg, by rw [Below.heap_setCell _ _ _ _ (by show g ≠ b; omega)]; exact hg, rest⟩
theorem small_more {l : List Fl} (h : SmallG l) (hl : l.length ≤ 39) (f : Fl) (hf : f.1.size ≤ 20 ∧ f.2.size ≤ 20) : SmallG (l ++ [f]) := ⟨by rw [List.length_append, List.length_singleton]; omega, fun x hx => by rcases List.mem_append.1 hx with hx | hx; exact h.2 x hx; simp at hx; subst hx; exact hf⟩
/-- A row lies in no block of another type. -/
theorem own_ne {w : World} {B g : Nat} {v : Value} {l : List Fl} {c : Array Value} {T : TypeId} {fr : Nat × Nat} (h : OwnsF w B v l) (hg : w.heap[g]? = some (.cells c T fr)) (hT : T ≠ 83) : ∀ k, v.ownBlock = some k → k ≠ g := by
  intro k hk e
  subst e
  rcases h.2 with ⟨h0, _⟩ | ⟨g', cap, cur, hv, hbg, hg', rest⟩
  · rw [h0] at hk; cases hk
  · rw [hv] at hk
    injection hk with hk
    rw [← hk, hg'] at hg
    injection hg with e
    injection e with _ e _
    exact hT e.symm
theorem OwnsF.butG {w : World} {B g k : Nat} {v : Value} {l : List Fl} (h : OwnsF w B v l) (hne : ∀ j, v.ownBlock = some j → j ≠ g) (x : Value) : OwnsF (w.setCell ⟨g, k, none⟩ x) B v l := by
  refine ⟨h.1, ?_⟩
  rcases h.2 with h0 | ⟨g', cap, cur, hv, hbg, hg', rest⟩
  · exact .inl h0
  · exact .inr ⟨g', cap, cur, hv, hbg, by rw [Below.heap_setCell _ _ _ _ (hne g' (by rw [hv]; rfl))]; exact hg', rest⟩
def hasFl0 (n : Nat) (w : World) (v : Value) : Prop := ∃ l, OwnsF w n v l ∧ SmallF l
end Go.Proofs.YtemmgfnepdgpbaaGreatDoor
