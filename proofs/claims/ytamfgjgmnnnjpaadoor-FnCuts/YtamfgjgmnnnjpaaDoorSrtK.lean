/-
  A row that a call owns, put in order in its place by the library: what becomes of the row and of the rest.
-/
import Derived.Test.YtamfgjgmnnnjpaaDoorRowE
import Derived.Shelf.SlSortCmp.InsertionK
namespace Go.Proofs.YtamfgjgmnnnjpaaDoor
open Go.RowKit Go.Sort
set_option linter.unusedVariables false

theorem flat_cells {α : Type} [Inhabited α] (E : Enc α) (d : Array α) : (flatK E.c E.k d).toList = cellsE E d.toList := by
  apply List.ext_getElem?
  intro t
  have hp := E.pos
  by_cases ht : t < d.size * E.k
  · have hj : t / E.k < d.toList.length := by rw [Array.length_toList]; exact Nat.div_lt_of_lt_mul (by rw [Nat.mul_comm]; exact ht)
    have hi : t % E.k < E.k := Nat.mod_lt _ hp
    have e1 : t / E.k * E.k + t % E.k = t := by rw [Nat.mul_comm]; exact Nat.div_add_mod t E.k
    have k1 := cellsE_at E d.toList (t / E.k) hj (t % E.k) hi
    rw [e1] at k1
    have hj2 : t / E.k < d.size := by simpa using hj
    have hc : t % E.k < (E.c d[t / E.k]).length := by rw [E.len]; exact hi
    rw [k1, List.getElem?_eq_getElem (by rw [Array.length_toList, size_flatK]; exact ht), Array.getElem_toList, ← getElem!_pos (flatK E.c E.k d) t (by rw [size_flatK]; exact ht), get_flatK _ _ _ _ ht, getElem!_pos d (t / E.k) hj2, Array.getElem_toList, getElem!_pos (E.c d[t / E.k]) (t % E.k) hc, List.getElem?_eq_getElem hc]
  · rw [List.getElem?_eq_none (by rw [Array.length_toList, size_flatK]; omega), List.getElem?_eq_none (by rw [cellsE_length, Array.length_toList]; omega)]
theorem OwnsE.holds {α : Type} [Inhabited α] {E : Enc α} {ty : TypeId} {w : World} {B g n cap : Nat} {l : List α} (hn : n = l.length) (h : OwnsE E ty w B (.slice (some ⟨g, 0, Option.none⟩) n cap) l) : HoldsK E.c E.k w g 0 l.toArray := by
  intro j hj
  refine ⟨?_, by rw [Nat.zero_add]; exact h.free hn j⟩
  have k1 := World.ownsRow.cells h (g := g) rfl j (flatK E.c E.k l.toArray)[j]! (by
    rw [getElem!_pos _ j hj, show cellsE E l = (flatK E.c E.k l.toArray).toList from (flat_cells E l.toArray).symm, List.getElem?_eq_getElem (by simpa using hj), Array.getElem_toList])
  rw [addr_add] at k1
  exact k1
theorem heap_sorted {α : Type} [Inhabited α] (E : Enc α) (w : World) (g m : Nat) (d : Array α) (os : Array Obj) (k : Nat) (hk : k < w.heap.size) (hne : k ≠ g) : (sortWorldK E.c E.k w g 0 m d os).heap[k]? = w.heap[k]? := by
  unfold sortWorldK
  rw [heap_grow_old _ _ (by rw [size_putRowK]; exact hk)]
  show (w.heap.modify g _)[k]? = _
  rw [Array.getElem?_modify, if_neg (Ne.symm hne)]
theorem heap_sorted_at {α : Type} [Inhabited α] (E : Enc α) (w : World) (g m : Nat) (d : Array α) (os : Array Obj) (c : Array Value) (ty : TypeId) (fr : Nat × Nat) (h : w.heap[g]? = some (.cells c ty fr)) : (sortWorldK E.c E.k w g 0 m d os).heap[g]? = some (.cells (putCells id 0 (flatK E.c E.k d) c) ty fr) := by
  unfold sortWorldK
  rw [heap_grow_old _ _ (by rw [size_putRowK]; exact (Array.getElem?_eq_some_iff.1 h).1)]
  show (w.heap.modify g _)[g]? = _
  rw [Array.getElem?_modify, if_pos rfl, h]
  rfl
/-- The row, put in order. -/
theorem OwnsE.sorted {α : Type} [Inhabited α] {E : Enc α} {ty : TypeId} {w : World} {B g n cap : Nat} {l : List α} (hn : n = l.length) (h : OwnsE E ty w B (.slice (some ⟨g, 0, Option.none⟩) n cap) l) (m : Nat) (d : Array α) (os : Array Obj) (hd : d.size = l.length) :
    OwnsE E ty (sortWorldK E.c E.k w g 0 m d os) B (.slice (some ⟨g, 0, Option.none⟩) n cap) d.toList := by
  subst hn
  rcases h.2 with ⟨e, _⟩ | ⟨g', cap', cur, e, hb, hg, hc, hx, hz, rest⟩
  · cases e
  · simp only [Value.slice.injEq, Option.some.injEq, Addr.mk.injEq, and_true, true_and] at e
    obtain ⟨rfl, rfl⟩ := e
    refine ⟨cellsE_length E _, .inr ⟨g, cap, _, by simp [hd], hb, heap_sorted_at E w g m d os cur ty (0, 0) hg, by rw [Array.length_toList, hd]; exact hc, hx, by simp [putCells, hz], ?_⟩⟩
    rw [← flat_cells, Array.length_toList]
    have hle : d.size * E.k ≤ cur.size := by rw [hz, hd]; exact Nat.mul_le_mul_right _ hc
    apply List.ext_getElem?
    intro t
    by_cases ht : t < d.size * E.k
    · have ht2 : t < (flatK E.c E.k d).size := by rw [size_flatK]; exact ht
      have htc : t < cur.size := Nat.lt_of_lt_of_le ht hle
      rw [List.getElem?_take_of_lt ht, Array.getElem?_toList, Array.getElem?_toList]
      simp only [putCells, Array.getElem?_mapIdx]
      rw [Array.getElem?_eq_getElem htc, Option.map_some, if_pos ⟨Nat.zero_le _, by rw [Nat.zero_add]; exact ht2⟩, Nat.sub_zero, getElem!_pos _ t ht2, Array.getElem?_eq_getElem ht2]
      rfl
    · rw [List.getElem?_eq_none (by rw [List.length_take]; omega), List.getElem?_eq_none (by rw [Array.length_toList, size_flatK]; omega)]
theorem sorted_below {α : Type} [Inhabited α] (E : Enc α) {w : World} {B g : Nat} (m : Nat) (d : Array α) (os : Array Obj) (hB : B ≤ g) (hg : g < w.heap.size) : Below B w (sortWorldK E.c E.k w g 0 m d os) :=
  ⟨rfl, rfl, rfl, size_sortWorldK_c E.c E.k w g 0 m d os, fun k hk => heap_sorted E w g m d os k (by omega) (by omega)⟩
end Go.Proofs.YtamfgjgmnnnjpaaDoor
