/-
  A struct in a block, whatever its cells.
-/
import Derived.Test.YtccnkmffadmfhaaGreatDoorRowE
namespace Go.Proofs.YtccnkmffadmfhaaGreatDoor
open Go.RowKit
set_option linter.unusedVariables false

/-- The struct x lies in the block b. -/
structure BlkE {α : Type} (E : Enc α) (w : World) (b : Nat) (x : α) : Prop where
  c : ∀ i u, (E.c x)[i]? = some u → w.cell? ⟨b, i, Option.none⟩ = some u
  fz : ∀ k, w.frozen? ⟨b, k, Option.none⟩ = false
  hi : b < w.heap.size
theorem BlkE.new {α : Type} {E : Enc α} (w : World) (x : α) (C : Array Value) (t : TypeId) (h : C.toList = E.c x) : BlkE E (w.alloc (.cells C t)) w.heap.size x where
  c := fun i u hu => by rw [World.cell?_alloc_mark]; rw [← h] at hu; simpa using hu
  fz := fun k => by rw [World.frozen?_alloc_mark]; simp
  hi := by simp
theorem BlkE.same {α : Type} {E : Enc α} {w w' : World} {b : Nat} {x : α} (h : BlkE E w b x) (e : w'.heap[b]? = w.heap[b]?) (hs : w.heap.size ≤ w'.heap.size) : BlkE E w' b x where
  c := fun i u hu => (World.cell?_of_block (a := ⟨b, i, Option.none⟩) e).trans (h.c i u hu)
  fz := fun k => (World.frozen?_of_block (a := ⟨b, k, Option.none⟩) e).trans (h.fz k)
  hi := Nat.lt_of_lt_of_le h.hi hs
theorem BlkE.kept {α : Type} {E : Enc α} {w w' : World} {b : Nat} {x : α} (h : BlkE E w b x) (hb : Below w.heap.size w w') : BlkE E w' b x := h.same (hb.block b h.hi) hb.size
theorem BlkE.alloc {α : Type} {E : Enc α} {w : World} {b : Nat} {x : α} (h : BlkE E w b x) (o : Obj) : BlkE E (w.alloc o) b x := h.kept ((Below.refl _ w).alloc (Nat.le_refl _) o)
theorem BlkE.drewN {α : Type} {E : Enc α} {w : World} {b : Nat} {x : α} (h : BlkE E w b x) (n : Nat) : BlkE E (w.drewN n) b x := h.same rfl (Nat.le_refl _)
/-- One cell stored. -/
theorem BlkE.put {α : Type} {E : Enc α} {w : World} {b : Nat} {x : α} (h : BlkE E w b x) {i : Nat} (hi : i < E.k) (u : Value) (y : α) (hy : E.c y = (E.c x).set i u) : BlkE E (w.setCell ⟨b, i, Option.none⟩ u) b y where
  c := fun j v hv => by
    rw [hy] at hv
    by_cases e : j = i
    · subst e
      have hlt : j < (E.c x).length := by rw [E.len]; exact hi
      have e2 : v = u := by rw [List.getElem?_set_self hlt] at hv; exact (Option.some.inj hv).symm
      subst e2
      exact World.cell?_setCell_same _ _ _ (h.c j ((E.c x)[j]'hlt) (List.getElem?_eq_getElem hlt))
    · rw [List.getElem?_set_ne (fun h => e h.symm)] at hv
      rw [World.cell?_setCell_other _ _ _ _ (by simp <;> omega)]
      exact h.c j v hv
  fz := fun k => by rw [World.frozen?_setCell]; exact h.fz k
  hi := by rw [World.size_setCell]; exact h.hi
/-- A cell of another block stored. -/
theorem BlkE.other {α : Type} {E : Enc α} {w : World} {b : Nat} {x : α} (h : BlkE E w b x) (a : Addr) (u : Value) (hne : b ≠ a.block) : BlkE E (w.setCell a u) b x := h.same (Below.heap_setCell _ _ _ _ hne) (by rw [World.size_setCell]; exact Nat.le_refl _)
/-- All its cells stored, one behind the other. -/
def putL (w : World) (b : Nat) : List Value → Nat → World
  | [], _ => w
  | v :: vs, i => putL (w.setCell ⟨b, i, Option.none⟩ v) b vs (i + 1)
theorem putL_block (b : Nat) : ∀ (vs : List Value) (i : Nat) (w : World) (k : Nat), k ≠ b → (putL w b vs i).heap[k]? = w.heap[k]?
  | [], _, _, _, _ => rfl
  | v :: vs, i, w, k, hk => (putL_block b vs (i + 1) _ k hk).trans (Below.heap_setCell _ _ _ _ hk)
theorem putL_size (b : Nat) : ∀ (vs : List Value) (i : Nat) (w : World), (putL w b vs i).heap.size = w.heap.size
  | [], _, _ => rfl
  | v :: vs, i, w => (putL_size b vs (i + 1) _).trans (World.size_setCell _ _ _)
theorem putL_below {B b : Nat} (hB : B ≤ b) {w0 : World} : ∀ (vs : List Value) (i : Nat) {w : World}, Below B w0 w → Below B w0 (putL w b vs i)
  | [], _, _, h => h
  | v :: vs, i, _, h => putL_below hB vs (i + 1) (h.setCell (p := ⟨b, i, Option.none⟩) hB v)
theorem putL_cells {w0 : World} (b : Nat) : ∀ (vs : List Value) (i : Nat) (w : World), (∀ j, i ≤ j → j < i + vs.length → ∃ u, w.cell? ⟨b, j, Option.none⟩ = some u) → ∀ j, (∀ v, (vs[j - i]? = some v ∧ i ≤ j) → (putL w b vs i).cell? ⟨b, j, Option.none⟩ = some v) ∧ (j < i → (putL w b vs i).cell? ⟨b, j, Option.none⟩ = w.cell? ⟨b, j, Option.none⟩)
  | [], i, w, _, j => ⟨fun v h => by simp at h, fun _ => rfl⟩
  | v :: vs, i, w, hc, j => by
    have ih := putL_cells (w0 := w0) b vs (i + 1) (w.setCell ⟨b, i, Option.none⟩ v) (fun q h1 h2 => by
      obtain ⟨u, hu⟩ := hc q (by omega) (by simp at h2 ⊢; omega)
      exact ⟨u, by rw [World.cell?_setCell_other _ _ _ _ (by simp <;> omega)]; exact hu⟩) j
    obtain ⟨u0, hu0⟩ := hc i (Nat.le_refl _) (by simp)
    refine ⟨fun x hx => ?_, fun hj => ?_⟩
    · by_cases e : j = i
      · subst e
        have : x = v := by have := hx.1; simp at this; exact this.symm
        subst this
        show (putL (w.setCell ⟨b, j, Option.none⟩ x) b vs (j + 1)).cell? _ = _
        rw [ih.2 (by omega)]
        exact World.cell?_setCell_same _ _ _ hu0
      · refine ih.1 x ⟨?_, by omega⟩
        have h1 := hx.1
        rw [show j - i = (j - (i + 1)) + 1 by omega, List.getElem?_cons_succ] at h1
        exact h1
    · show (putL (w.setCell ⟨b, i, Option.none⟩ v) b vs (i + 1)).cell? _ = _
      rw [ih.2 (by omega), World.cell?_setCell_other _ _ _ _ (by simp <;> omega)]
theorem putL_frozen (b : Nat) : ∀ (vs : List Value) (i : Nat) (w : World) (k : Nat), (putL w b vs i).frozen? ⟨b, k, Option.none⟩ = w.frozen? ⟨b, k, Option.none⟩
  | [], _, _, _ => rfl
  | v :: vs, i, w, k => (putL_frozen b vs (i + 1) _ k).trans (World.frozen?_setCell _ _ _ _)
theorem BlkE.puts {α : Type} {E : Enc α} {w : World} {b : Nat} {x : α} (h : BlkE E w b x) (y : α) : BlkE E (putL w b (E.c y) 0) b y where
  c := fun i u hu => by
    refine (putL_cells (w0 := w) b (E.c y) 0 w (fun j _ h2 => ?_) i).1 u ⟨by simpa using hu, Nat.zero_le _⟩
    have hlt : j < (E.c x).length := by rw [E.len]; rw [E.len] at h2; omega
    exact ⟨_, h.c j _ (List.getElem?_eq_getElem hlt)⟩
  fz := fun k => by rw [putL_frozen]; exact h.fz k
  hi := by rw [putL_size]; exact h.hi
end Go.Proofs.YtccnkmffadmfhaaGreatDoor
