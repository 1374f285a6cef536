/-
  Texts in rows: the laws' helpers on them: measured, turned, compared, marked, held.
  A block of cells of one's own: what lies in it, and for how long.
  What lives in some blocks of memory, and calls that change but those of one thing: for walks with many things in memory.
-/
import Derived.Lib.QuietBelow
import Derived.Test.YtemmgfnepdgpbaaDoorR10
import Derived.Test.YtemmgfnepdgpbaaDoorR07
import Derived.Deep.QuietTactic
import Derived.BigQuiet
import Derived.Deep.RegionWith
import Derived.Laws.IdiomStrings
import Derived.Test.YtemmgfnepdgpbaaDoorR13
namespace Go.Proofs.YtemmgfnepdgpbaaDoor
open Go.RowKit Go.Sort
set_option linter.unusedVariables false
set_option linter.unusedSimpArgs false

abbrev OwnsX := OwnsE txtE 9
theorem cellsX_map (l : List ByteArray) : cellsE txtE l = l.map Value.string := by
  induction l with
  | nil => rfl
  | cons x l ih => rw [cellsE_cons, ih]; rfl
theorem OwnsP.x {w : World} {B : Nat} {v : Value} {l : List ByteArray} (h : OwnsP w B v l) : OwnsX w B v l := by
  show w.ownsRow B 9 1 v l.length (cellsE txtE l)
  rw [cellsX_map]
  exact h
end Go.Proofs.YtemmgfnepdgpbaaDoor
namespace Go.Proofs.YtemmgfnepdgpbaaDoor
open Go.RowKit
set_option linter.unusedVariables false

/-- The block b holds just these cells, and may be written. -/
def Bx (W : World) (b : Nat) (ty : TypeId) (vs : Array Value) : Prop := W.heap[b]? = some (.cells vs ty (0, 0))
theorem Bx.cell {W : World} {b : Nat} {ty : TypeId} {vs : Array Value} (h : Bx W b ty vs) (i : Nat) : W.cell? ⟨b, i, none⟩ = vs[i]? := by
  have h : W.heap[b]? = some (.cells vs ty (0, 0)) := h
  simp [World.cell?, h]
theorem Bx.free {W : World} {b : Nat} {ty : TypeId} {vs : Array Value} (h : Bx W b ty vs) (i : Nat) : W.frozen? ⟨b, i, none⟩ = false := by
  have h : W.heap[b]? = some (.cells vs ty (0, 0)) := h
  simp [World.frozen?, h]
theorem Bx.lt {W : World} {b : Nat} {ty : TypeId} {vs : Array Value} (h : Bx W b ty vs) : b < W.heap.size := (Array.getElem?_eq_some_iff.1 h).1
theorem Bx.low {W W' : World} {b B : Nat} {ty : TypeId} {vs : Array Value} (h : Bx W b ty vs) (hb : Below B W W') (hB : b < B) : Bx W' b ty vs := (hb.block b hB).trans h
theorem Bx.kept {W W' : World} {b : Nat} {ty : TypeId} {vs : Array Value} (h : Bx W b ty vs) (hb : Below W.heap.size W W') : Bx W' b ty vs := h.low hb h.lt
theorem Bx.grown {W W' : World} {b : Nat} {ty : TypeId} {vs : Array Value} {r : Option Nat} (h : Bx W b ty vs) (hg : W.grownBy W' r) (hr : r ≠ some b) : Bx W' b ty vs := (hg.block b h.lt fun e => hr e.symm).trans h
theorem Bx.put {W : World} {b : Nat} {ty : TypeId} {vs : Array Value} (h : Bx W b ty vs) (i : Nat) (v : Value) : Bx (W.setCell ⟨b, i, none⟩ v) b ty (vs.setIfInBounds i v) := heap_setCell_same W b i _ _ v h
theorem Bx.alloc {W : World} {b : Nat} {ty : TypeId} {vs : Array Value} (h : Bx W b ty vs) (o : Obj) : Bx (W.alloc o) b ty vs := h.kept ((Below.refl _ W).alloc (Nat.le_refl _) _)
theorem Bx.drew {W : World} {b : Nat} {ty : TypeId} {vs : Array Value} (h : Bx W b ty vs) : Bx W.drew b ty vs := h
end Go.Proofs.YtemmgfnepdgpbaaDoor
namespace Go.Proofs.YtemmgfnepdgpbaaDoor
open Go.RowKit
set_option linter.unusedVariables false

/-- Of what was there, blocks from lo to hi alone may have changed. -/
structure Chg (lo hi : Nat) (W W' : World) : Prop where
  os : W'.os = W.os
  tape : W'.tape = W.tape
  output : W'.output = W.output
  size : W.heap.size ≤ W'.heap.size
  block : ∀ k, k < W.heap.size → ¬ (lo ≤ k ∧ k < hi) → W'.heap[k]? = W.heap[k]?
theorem Chg.below {lo hi B : Nat} {w W W' : World} (h : Chg lo hi W W') (hb : Below B w W) (h1 : B ≤ W.heap.size) (h2 : B ≤ lo) : Below B w W' :=
  ⟨h.os.trans hb.os, h.tape.trans hb.tape, h.output.trans hb.output, Nat.le_trans hb.size h.size, fun k hk => (h.block k (by omega) (by omega)).trans (hb.block k hk)⟩
/-- F holds, and hangs on the blocks from lo to hi alone. -/
structure Liv (lo hi : Nat) (F : World → Prop) (W : World) : Prop where
  now : F W
  top : hi ≤ W.heap.size
  mov : ∀ W', (∀ k, lo ≤ k → k < hi → W'.heap[k]? = W.heap[k]?) → W.heap.size ≤ W'.heap.size → F W'
theorem Liv.kept {lo hi : Nat} {F : World → Prop} {W W' : World} (h : Liv lo hi F W) (hb : Below W.heap.size W W') : Liv lo hi F W' := by
  have e : ∀ k, lo ≤ k → k < hi → W'.heap[k]? = W.heap[k]? := fun k _ hk => hb.block k (Nat.lt_of_lt_of_le hk h.top)
  exact ⟨h.mov W' e hb.size, Nat.le_trans h.top hb.size, fun V hV hz => h.mov V (fun k h1 h2 => (hV k h1 h2).trans (e k h1 h2)) (Nat.le_trans hb.size hz)⟩
theorem Liv.off {lo hi a b : Nat} {F : World → Prop} {W W' : World} (h : Liv lo hi F W) (hc : Chg a b W W') (hd : hi ≤ a ∨ b ≤ lo) : Liv lo hi F W' := by
  have e : ∀ k, lo ≤ k → k < hi → W'.heap[k]? = W.heap[k]? := fun k h1 h2 => hc.block k (Nat.lt_of_lt_of_le h2 h.top) (by omega)
  exact ⟨h.mov W' e hc.size, Nat.le_trans h.top hc.size, fun V hV hz => h.mov V (fun k h1 h2 => (hV k h1 h2).trans (e k h1 h2)) (Nat.le_trans hc.size hz)⟩
theorem Liv.and {lo hi : Nat} {F G : World → Prop} {W : World} (h : Liv lo hi F W) (h' : Liv lo hi G W) : Liv lo hi (fun V => F V ∧ G V) W := ⟨⟨h.now, h'.now⟩, h.top, fun V h1 h2 => ⟨h.mov V h1 h2, h'.mov V h1 h2⟩⟩
/-- A row in blocks from lo to hi. -/
def RowF {α : Type} (E : Enc α) (ty : TypeId) (lo hi : Nat) (v : Value) (l : List α) (W : World) : Prop := HasE E ty W lo v l ∧ ∀ k, v.ownBlock = some k → k < hi
theorem HasE.off {α : Type} {E : Enc α} {ty : TypeId} {w w' : World} {B : Nat} {v : Value} {l : List α} (h : HasE E ty w B v l) (hk : ∀ k, v.ownBlock = some k → w'.heap[k]? = w.heap[k]?) : HasE E ty w' B v l := by
  rcases h with h0 | ⟨g, cap, cur, hv, hbg, hh, rest⟩
  · exact .inl h0
  · exact .inr ⟨g, cap, cur, hv, hbg, by rw [hk g (by rw [hv]; rfl)]; exact hh, rest⟩
theorem Liv.row {α : Type} {E : Enc α} {ty : TypeId} {W : World} {lo hi : Nat} {v : Value} {l : List α} (h : HasE E ty W lo v l) (hu : ∀ k, v.ownBlock = some k → k < hi) (ht : hi ≤ W.heap.size) : Liv lo hi (RowF E ty lo hi v l) W :=
  ⟨⟨h, hu⟩, ht, fun W' hW _ => ⟨h.off fun k hk => hW k (h.from k hk) (hu k hk), hu⟩⟩
end Go.Proofs.YtemmgfnepdgpbaaDoor
