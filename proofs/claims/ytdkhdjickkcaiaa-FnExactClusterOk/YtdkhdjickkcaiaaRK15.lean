/-
  The laws' marks in rows of numbers, from any start; how much such a row holds.
  A block of cells of one's own: what lies in it, and for how long.
  What lives in some blocks of memory, and calls that change but those of one thing: for walks with many things in memory.
-/
import Derived.Test.YtdkhdjickkcaiaaRK06
import Derived.Test.YtdkhdjickkcaiaaRK04
namespace Go.Proofs.Ytdkhdjickkcaiaa
open Go.RowKit Go.Sort
set_option linter.unusedVariables false
set_option linter.unusedSimpArgs false

def szU (left : Int) (l : List Int) : Int := if (l.length : Int) ≤ left then left - (l.length : Int) else -1
theorem szNu (v : Value) (l : List Int) (left : Int) (h0 : 0 ≤ left) (h1 : left ≤ 1048576) (w : World) (h : Sls intE w v l) :
    Calls Try.prog 74 #[v, .int .i64 left] w fun e w' => e = .returned (.int .i64 (szU left l)) ∧ w = w' := by
  obtain ⟨a, cap, rfl, _, h2, _⟩ := h.one
  unfold maxLen at h2
  have ew : IntKind.i64.wrap (left - (l.length : Int)) = left - (l.length : Int) := by rw [IntKind.wrap_i64]; omega
  clear h
  by_cases hf : (l.length : Int) ≤ left
  · have HE : Hid (left - (l.length : Int) = szU left l) := by show _ = _; unfold szU; rw [if_pos hf]
    have hn : ¬ (left - (l.length : Int) < 0) := by omega
    go_enter Try.func74, Try.ntmps74
    go_wp2
    go_ret
    exact ⟨congrArg (fun z => Ending.returned (.int .i64 z)) HE.out, rfl⟩
  · have HE : Hid (-1 = szU left l) := by show _ = _; unfold szU; rw [if_neg hf]
    have hn : left - (l.length : Int) < 0 := by omega
    go_enter Try.func74, Try.ntmps74
    go_wp2
    go_ret
    exact ⟨congrArg (fun z => Ending.returned (.int .i64 z)) HE.out, rfl⟩
end Go.Proofs.Ytdkhdjickkcaiaa
namespace Go.Proofs.Ytdkhdjickkcaiaa
open Go.RowKit
set_option linter.unusedVariables false

/-- The block b holds just these cells, and may be written. -/
def Bx (W : World) (b : Nat) (ty : TypeId) (vs : Array Value) : Prop := W.heap[b]? = some (.cells vs ty (0, 0))
theorem Bx.new (W : World) (ty : TypeId) (vs : Array Value) : Bx (W.alloc (.cells vs ty)) W.heap.size ty vs := by
  show (W.heap.push _)[W.heap.size]? = _
  simp
theorem Bx.cell {W : World} {b : Nat} {ty : TypeId} {vs : Array Value} (h : Bx W b ty vs) (i : Nat) : W.cell? ⟨b, i, none⟩ = vs[i]? := by
  have h : W.heap[b]? = some (.cells vs ty (0, 0)) := h
  simp [World.cell?, h]
theorem Bx.free {W : World} {b : Nat} {ty : TypeId} {vs : Array Value} (h : Bx W b ty vs) (i : Nat) : W.frozen? ⟨b, i, none⟩ = false := by
  have h : W.heap[b]? = some (.cells vs ty (0, 0)) := h
  simp [World.frozen?, h]
theorem Bx.lt {W : World} {b : Nat} {ty : TypeId} {vs : Array Value} (h : Bx W b ty vs) : b < W.heap.size := (Array.getElem?_eq_some_iff.1 h).1
theorem Bx.low {W W' : World} {b B : Nat} {ty : TypeId} {vs : Array Value} (h : Bx W b ty vs) (hb : Below B W W') (hB : b < B) : Bx W' b ty vs := (hb.block b hB).trans h
theorem Bx.kept {W W' : World} {b : Nat} {ty : TypeId} {vs : Array Value} (h : Bx W b ty vs) (hb : Below W.heap.size W W') : Bx W' b ty vs := h.low hb h.lt
theorem Bx.put {W : World} {b : Nat} {ty : TypeId} {vs : Array Value} (h : Bx W b ty vs) (i : Nat) (v : Value) : Bx (W.setCell ⟨b, i, none⟩ v) b ty (vs.setIfInBounds i v) := heap_setCell_same W b i _ _ v h
theorem Bx.other {W : World} {b g : Nat} {ty : TypeId} {vs : Array Value} (h : Bx W b ty vs) (i : Nat) (v : Value) (hne : b ≠ g) : Bx (W.setCell ⟨g, i, none⟩ v) b ty vs := (Below.heap_setCell _ _ _ _ hne).trans h
theorem Bx.alloc {W : World} {b : Nat} {ty : TypeId} {vs : Array Value} (h : Bx W b ty vs) (o : Obj) : Bx (W.alloc o) b ty vs := h.kept ((Below.refl _ W).alloc (Nat.le_refl _) _)
end Go.Proofs.Ytdkhdjickkcaiaa
namespace Go.Proofs.Ytdkhdjickkcaiaa
open Go.RowKit
set_option linter.unusedVariables false

theorem HasE.off {α : Type} {E : Enc α} {ty : TypeId} {w w' : World} {B : Nat} {v : Value} {l : List α} (h : HasE E ty w B v l) (hk : ∀ k, v.ownBlock = some k → w'.heap[k]? = w.heap[k]?) : HasE E ty w' B v l := by
  rcases h with h0 | ⟨g, cap, cur, hv, hbg, hh, rest⟩
  · exact .inl h0
  · exact .inr ⟨g, cap, cur, hv, hbg, by rw [hk g (by rw [hv]; rfl)]; exact hh, rest⟩
end Go.Proofs.Ytdkhdjickkcaiaa
