/-
  A block of cells of one's own: what lies in it, and for how long.
  What lives in some blocks of memory, and calls that change but those of one thing: for walks with many things in memory.
  The laws' measure of texts, messages, rows of messages.
-/
import Derived.Test.YtdahfhkeeemdiaaK09
import Derived.Test.YtdahfhkeeemdiaaK13
import Derived.Lib.QuietBelow
import Derived.BigQuiet
import Derived.Deep.RegionWith
import Derived.Deep.DeepCutAuto
namespace Go.Proofs.Ytdahfhkeeemdiaa
open Go.RowKit
set_option linter.unusedVariables false

/-- The block b holds just these cells, and may be written. -/
def Bx (W : World) (b : Nat) (ty : TypeId) (vs : Array Value) : Prop := W.heap[b]? = some (.cells vs ty (0, 0))
theorem Bx.new (W : World) (ty : TypeId) (vs : Array Value) : Bx (W.alloc (.cells vs ty)) W.heap.size ty vs := by
  show (W.heap.push _)[W.heap.size]? = _
  simp
theorem Bx.cell {W : World} {b : Nat} {ty : TypeId} {vs : Array Value} (h : Bx W b ty vs) (i : Nat) : W.cell? ⟨b, i, none⟩ = vs[i]? := by
  have h : W.heap[b]? = some (.cells vs ty (0, 0)) := h
  simp [World.cell?, h]
theorem Bx.free {W : World} {b : Nat} {ty : TypeId} {vs : Array Value} (h : Bx W b ty vs) (i : Nat) : W.frozen? ⟨b, i, none⟩ = false := by
  have h : W.heap[b]? = some (.cells vs ty (0, 0)) := h
  simp [World.frozen?, h]
theorem Bx.lt {W : World} {b : Nat} {ty : TypeId} {vs : Array Value} (h : Bx W b ty vs) : b < W.heap.size := (Array.getElem?_eq_some_iff.1 h).1
theorem Bx.low {W W' : World} {b B : Nat} {ty : TypeId} {vs : Array Value} (h : Bx W b ty vs) (hb : Below B W W') (hB : b < B) : Bx W' b ty vs := (hb.block b hB).trans h
theorem Bx.kept {W W' : World} {b : Nat} {ty : TypeId} {vs : Array Value} (h : Bx W b ty vs) (hb : Below W.heap.size W W') : Bx W' b ty vs := h.low hb h.lt
theorem Bx.grown {W W' : World} {b : Nat} {ty : TypeId} {vs : Array Value} {r : Option Nat} (h : Bx W b ty vs) (hg : W.grownBy W' r) (hr : r ≠ some b) : Bx W' b ty vs := (hg.block b h.lt fun e => hr e.symm).trans h
theorem Bx.put {W : World} {b : Nat} {ty : TypeId} {vs : Array Value} (h : Bx W b ty vs) (i : Nat) (v : Value) : Bx (W.setCell ⟨b, i, none⟩ v) b ty (vs.setIfInBounds i v) := heap_setCell_same W b i _ _ v h
theorem Bx.other {W : World} {b g : Nat} {ty : TypeId} {vs : Array Value} (h : Bx W b ty vs) (i : Nat) (v : Value) (hne : b ≠ g) : Bx (W.setCell ⟨g, i, none⟩ v) b ty vs := (Below.heap_setCell _ _ _ _ hne).trans h
theorem Bx.alloc {W : World} {b : Nat} {ty : TypeId} {vs : Array Value} (h : Bx W b ty vs) (o : Obj) : Bx (W.alloc o) b ty vs := h.kept ((Below.refl _ W).alloc (Nat.le_refl _) _)
theorem Bx.drew {W : World} {b : Nat} {ty : TypeId} {vs : Array Value} (h : Bx W b ty vs) : Bx W.drew b ty vs := h
end Go.Proofs.Ytdahfhkeeemdiaa
namespace Go.Proofs.Ytdahfhkeeemdiaa
open Go.RowKit
set_option linter.unusedVariables false

/-- Of what was there, blocks from lo to hi alone may have changed. -/
structure Chg (lo hi : Nat) (W W' : World) : Prop where
  os : W'.os = W.os
  tape : W'.tape = W.tape
  output : W'.output = W.output
  size : W.heap.size ≤ W'.heap.size
  block : ∀ k, k < W.heap.size → ¬ (lo ≤ k ∧ k < hi) → W'.heap[k]? = W.heap[k]?
theorem Chg.below {lo hi B : Nat} {w W W' : World} (h : Chg lo hi W W') (hb : Below B w W) (h1 : B ≤ W.heap.size) (h2 : B ≤ lo) : Below B w W' :=
  ⟨h.os.trans hb.os, h.tape.trans hb.tape, h.output.trans hb.output, Nat.le_trans hb.size h.size, fun k hk => (h.block k (by omega) (by omega)).trans (hb.block k hk)⟩
/-- F holds, and hangs on the blocks from lo to hi alone. -/
structure Liv (lo hi : Nat) (F : World → Prop) (W : World) : Prop where
  now : F W
  top : hi ≤ W.heap.size
  mov : ∀ W', (∀ k, lo ≤ k → k < hi → W'.heap[k]? = W.heap[k]?) → W.heap.size ≤ W'.heap.size → F W'
theorem Liv.kept {lo hi : Nat} {F : World → Prop} {W W' : World} (h : Liv lo hi F W) (hb : Below W.heap.size W W') : Liv lo hi F W' := by
  have e : ∀ k, lo ≤ k → k < hi → W'.heap[k]? = W.heap[k]? := fun k _ hk => hb.block k (Nat.lt_of_lt_of_le hk h.top)
  exact ⟨h.mov W' e hb.size, Nat.le_trans h.top hb.size, fun V hV hz => h.mov V (fun k h1 h2 => (hV k h1 h2).trans (e k h1 h2)) (Nat.le_trans hb.size hz)⟩
theorem Liv.off {lo hi a b : Nat} {F : World → Prop} {W W' : World} (h : Liv lo hi F W) (hc : Chg a b W W') (hd : hi ≤ a ∨ b ≤ lo) : Liv lo hi F W' := by
  have e : ∀ k, lo ≤ k → k < hi → W'.heap[k]? = W.heap[k]? := fun k h1 h2 => hc.block k (Nat.lt_of_lt_of_le h2 h.top) (by omega)
  exact ⟨h.mov W' e hc.size, Nat.le_trans h.top hc.size, fun V hV hz => h.mov V (fun k h1 h2 => (hV k h1 h2).trans (e k h1 h2)) (Nat.le_trans hc.size hz)⟩
theorem Liv.and {lo hi : Nat} {F G : World → Prop} {W : World} (h : Liv lo hi F W) (h' : Liv lo hi G W) : Liv lo hi (fun V => F V ∧ G V) W := ⟨⟨h.now, h'.now⟩, h.top, fun V h1 h2 => ⟨h.mov V h1 h2, h'.mov V h1 h2⟩⟩
theorem Liv.wide {lo hi lo' hi' : Nat} {F : World → Prop} {W : World} (h : Liv lo hi F W) (h1 : lo' ≤ lo) (h2 : hi ≤ hi') (h3 : hi' ≤ W.heap.size) : Liv lo' hi' F W := ⟨h.now, h3, fun V hV hz => h.mov V (fun k k1 k2 => hV k (by omega) (by omega)) hz⟩
theorem Liv.box {W : World} {b : Nat} {ty : TypeId} {vs : Array Value} (h : Bx W b ty vs) : Liv b (b + 1) (fun V => Bx V b ty vs) W :=
  ⟨h, h.lt, fun V hV _ => (hV b (Nat.le_refl _) (Nat.lt_succ_self _)).trans h⟩
/-- A row in blocks from lo to hi. -/
def RowF {α : Type} (E : Enc α) (ty : TypeId) (lo hi : Nat) (v : Value) (l : List α) (W : World) : Prop := HasE E ty W lo v l ∧ ∀ k, v.ownBlock = some k → k < hi
theorem HasE.off {α : Type} {E : Enc α} {ty : TypeId} {w w' : World} {B : Nat} {v : Value} {l : List α} (h : HasE E ty w B v l) (hk : ∀ k, v.ownBlock = some k → w'.heap[k]? = w.heap[k]?) : HasE E ty w' B v l := by
  rcases h with h0 | ⟨g, cap, cur, hv, hbg, hh, rest⟩
  · exact .inl h0
  · exact .inr ⟨g, cap, cur, hv, hbg, by rw [hk g (by rw [hv]; rfl)]; exact hh, rest⟩
theorem Liv.row {α : Type} {E : Enc α} {ty : TypeId} {W : World} {lo hi : Nat} {v : Value} {l : List α} (h : HasE E ty W lo v l) (hu : ∀ k, v.ownBlock = some k → k < hi) (ht : hi ≤ W.heap.size) : Liv lo hi (RowF E ty lo hi v l) W :=
  ⟨⟨h, hu⟩, ht, fun W' hW _ => ⟨h.off fun k hk => hW k (h.from k hk) (hu k hk), hu⟩⟩
theorem Liv.new {α : Type} {E : Enc α} {ty : TypeId} {W : World} {lo : Nat} {v : Value} {l : List α} (h : HasE E ty W lo v l) : Liv lo W.heap.size (RowF E ty lo W.heap.size v l) W := Liv.row h h.under (Nat.le_refl _)
theorem RowF.sls {α : Type} {E : Enc α} {ty : TypeId} {lo hi : Nat} {v : Value} {l : List α} {W : World} (h : RowF E ty lo hi v l W) : Sls E W v l := h.1.sls
theorem RowF.chg {α : Type} {E : Enc α} {ty : TypeId} {lo hi : Nat} {v : Value} {l : List α} {W W' : World} (h : RowF E ty lo hi v l W) (hg : W.grownBy W' v.ownBlock) : Chg lo hi W W' :=
  ⟨hg.os, hg.tape, hg.output, hg.size, fun k hk hn => hg.block k hk fun e => hn ⟨h.1.from k e.symm, h.2 k e.symm⟩⟩
theorem Liv.marked {α : Type} {E : Enc α} {ty : TypeId} {lo hi : Nat} {v : Value} {l l' : List α} {W W' : World} (h : Liv lo hi (RowF E ty lo hi v l) W) (ho : HasE E ty W' lo v l') (hg : W.grownBy W' v.ownBlock) : Liv lo hi (RowF E ty lo hi v l') W' :=
  Liv.row ho h.now.2 (Nat.le_trans h.top hg.size)
end Go.Proofs.Ytdahfhkeeemdiaa
namespace Go.Proofs.Ytdahfhkeeemdiaa.Rl
open Go.RowKit Go.Sort
set_option linter.unusedVariables false
set_option linter.unusedSimpArgs false

/-- A log that is small enough. -/
def Sm (l : List ByteArray) : Prop := l.length ≤ 1048576 ∧ ∀ x ∈ l, x.size ≤ 1048576
structure Fit (r : Rp) : Prop where
  l : Sm r.l
  ok : r.ok.length ≤ 1048576
  ch : r.ch.length ≤ 1048576
  te : r.te.length ≤ 1048576 ∧ ∀ m ∈ r.te, Sm m.l
/-- How many texts there are in all logs. -/
def cL (T : List Mx) : Nat := (T.map fun x => x.m.l.length).sum
theorem cL_next {T : List Mx} {k : Nat} (h : k < T.length) : cL (T.take (k + 1)) = cL (T.take k) + T[k].m.l.length := by
  unfold cL
  rw [List.take_succ_eq_append_getElem h, List.map_append, List.sum_append]
  simp
end Go.Proofs.Ytdahfhkeeemdiaa.Rl
