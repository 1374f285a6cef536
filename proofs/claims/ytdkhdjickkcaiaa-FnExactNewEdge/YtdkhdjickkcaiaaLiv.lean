/-
  What lives in some blocks of memory, and calls that change but those of one thing: for walks with many things in memory.
-/
import Derived.Test.YtdkhdjickkcaiaaRowE
import Derived.Test.YtdkhdjickkcaiaaBx
namespace Go.Proofs.Ytdkhdjickkcaiaa
open Go.RowKit
set_option linter.unusedVariables false

/-- Of what was there, blocks from lo to hi alone may have changed. -/
structure Chg (lo hi : Nat) (W W' : World) : Prop where
  os : W'.os = W.os
  tape : W'.tape = W.tape
  output : W'.output = W.output
  size : W.heap.size ≤ W'.heap.size
  block : ∀ k, k < W.heap.size → ¬ (lo ≤ k ∧ k < hi) → W'.heap[k]? = W.heap[k]?
theorem Chg.below {lo hi B : Nat} {w W W' : World} (h : Chg lo hi W W') (hb : Below B w W) (h1 : B ≤ W.heap.size) (h2 : B ≤ lo) : Below B w W' :=
  ⟨h.os.trans hb.os, h.tape.trans hb.tape, h.output.trans hb.output, Nat.le_trans hb.size h.size, fun k hk => (h.block k (by omega) (by omega)).trans (hb.block k hk)⟩
/-- F holds, and hangs on the blocks from lo to hi alone. -/
structure Liv (lo hi : Nat) (F : World → Prop) (W : World) : Prop where
  now : F W
  top : hi ≤ W.heap.size
  mov : ∀ W', (∀ k, lo ≤ k → k < hi → W'.heap[k]? = W.heap[k]?) → W.heap.size ≤ W'.heap.size → F W'
theorem Liv.kept {lo hi : Nat} {F : World → Prop} {W W' : World} (h : Liv lo hi F W) (hb : Below W.heap.size W W') : Liv lo hi F W' := by
  have e : ∀ k, lo ≤ k → k < hi → W'.heap[k]? = W.heap[k]? := fun k _ hk => hb.block k (Nat.lt_of_lt_of_le hk h.top)
  exact ⟨h.mov W' e hb.size, Nat.le_trans h.top hb.size, fun V hV hz => h.mov V (fun k h1 h2 => (hV k h1 h2).trans (e k h1 h2)) (Nat.le_trans hb.size hz)⟩
theorem Liv.off {lo hi a b : Nat} {F : World → Prop} {W W' : World} (h : Liv lo hi F W) (hc : Chg a b W W') (hd : hi ≤ a ∨ b ≤ lo) : Liv lo hi F W' := by
  have e : ∀ k, lo ≤ k → k < hi → W'.heap[k]? = W.heap[k]? := fun k h1 h2 => hc.block k (Nat.lt_of_lt_of_le h2 h.top) (by omega)
  exact ⟨h.mov W' e hc.size, Nat.le_trans h.top hc.size, fun V hV hz => h.mov V (fun k h1 h2 => (hV k h1 h2).trans (e k h1 h2)) (Nat.le_trans hc.size hz)⟩
theorem Liv.turn {lo hi : Nat} {F G : World → Prop} {W : World} (h : Liv lo hi F W) (hg : ∀ V, F V → G V) : Liv lo hi G W := ⟨hg _ h.now, h.top, fun V h1 h2 => hg V (h.mov V h1 h2)⟩
theorem Liv.and {lo hi : Nat} {F G : World → Prop} {W : World} (h : Liv lo hi F W) (h' : Liv lo hi G W) : Liv lo hi (fun V => F V ∧ G V) W := ⟨⟨h.now, h'.now⟩, h.top, fun V h1 h2 => ⟨h.mov V h1 h2, h'.mov V h1 h2⟩⟩
theorem Liv.wide {lo hi lo' hi' : Nat} {F : World → Prop} {W : World} (h : Liv lo hi F W) (h1 : lo' ≤ lo) (h2 : hi ≤ hi') (h3 : hi' ≤ W.heap.size) : Liv lo' hi' F W := ⟨h.now, h3, fun V hV hz => h.mov V (fun k k1 k2 => hV k (by omega) (by omega)) hz⟩
theorem Liv.box {W : World} {b : Nat} {ty : TypeId} {vs : Array Value} (h : Bx W b ty vs) : Liv b (b + 1) (fun V => Bx V b ty vs) W :=
  ⟨h, h.lt, fun V hV _ => (hV b (Nat.le_refl _) (Nat.lt_succ_self _)).trans h⟩
/-- A row in blocks from lo to hi. -/
def RowF {α : Type} (E : Enc α) (ty : TypeId) (lo hi : Nat) (v : Value) (l : List α) (W : World) : Prop := HasE E ty W lo v l ∧ ∀ k, v.ownBlock = some k → k < hi
theorem HasE.off {α : Type} {E : Enc α} {ty : TypeId} {w w' : World} {B : Nat} {v : Value} {l : List α} (h : HasE E ty w B v l) (hk : ∀ k, v.ownBlock = some k → w'.heap[k]? = w.heap[k]?) : HasE E ty w' B v l := by
  rcases h with h0 | ⟨g, cap, cur, hv, hbg, hh, rest⟩
  · exact .inl h0
  · exact .inr ⟨g, cap, cur, hv, hbg, by rw [hk g (by rw [hv]; rfl)]; exact hh, rest⟩
theorem Liv.row {α : Type} {E : Enc α} {ty : TypeId} {W : World} {lo hi : Nat} {v : Value} {l : List α} (h : HasE E ty W lo v l) (hu : ∀ k, v.ownBlock = some k → k < hi) (ht : hi ≤ W.heap.size) : Liv lo hi (RowF E ty lo hi v l) W :=
  ⟨⟨h, hu⟩, ht, fun W' hW _ => ⟨h.off fun k hk => hW k (h.from k hk) (hu k hk), hu⟩⟩
theorem Liv.new {α : Type} {E : Enc α} {ty : TypeId} {W : World} {lo : Nat} {v : Value} {l : List α} (h : HasE E ty W lo v l) : Liv lo W.heap.size (RowF E ty lo W.heap.size v l) W := Liv.row h h.under (Nat.le_refl _)
theorem RowF.sls {α : Type} {E : Enc α} {ty : TypeId} {lo hi : Nat} {v : Value} {l : List α} {W : World} (h : RowF E ty lo hi v l W) : Sls E W v l := h.1.sls
theorem RowF.chg {α : Type} {E : Enc α} {ty : TypeId} {lo hi : Nat} {v : Value} {l : List α} {W W' : World} (h : RowF E ty lo hi v l W) (hg : W.grownBy W' v.ownBlock) : Chg lo hi W W' :=
  ⟨hg.os, hg.tape, hg.output, hg.size, fun k hk hn => hg.block k hk fun e => hn ⟨h.1.from k e.symm, h.2 k e.symm⟩⟩
theorem Liv.marked {α : Type} {E : Enc α} {ty : TypeId} {lo hi : Nat} {v : Value} {l l' : List α} {W W' : World} (h : Liv lo hi (RowF E ty lo hi v l) W) (ho : HasE E ty W' lo v l') (hg : W.grownBy W' v.ownBlock) : Liv lo hi (RowF E ty lo hi v l') W' :=
  Liv.row ho h.now.2 (Nat.le_trans h.top hg.size)
end Go.Proofs.Ytdkhdjickkcaiaa
