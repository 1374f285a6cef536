/-
  The contracts of Without, the specification's and the program's.
  A call of a function of the program, met by its contract, as one step of a region that draws its order.
  How many items a text has at most, and what is kept of an owned slice where another one is marked.
  A slice of fields that came in, opened.
-/
import Derived.Test.YtemmgfnepdgpbaaGreatDoorK16
import Derived.Laws.Append
import Derived.Test.YtemmgfnepdgpbaaGreatDoorK05
import Derived.ScopeJumps
import Derived.WalkMore
import Derived.Test.YtemmgfnepdgpbaaGreatDoorK14
import Derived.Test.YtemmgfnepdgpbaaGreatDoorK04
import Derived.Deep.SlicePairs
import Derived.ChangeArms
import Derived.Lib.LaidU8
namespace Go.Proofs.YtemmgfnepdgpbaaGreatDoor
open Go.RowKit Go.Sort Go.Maps

/-- A slice of fields as the program answers it. -/
def GivesF (w w' : World) (e : Ending) (l : List Fl) : Prop := (∃ g, e = .returned (.slice (some ⟨g, 0, none⟩) l.length l.length) ∧ HasF w' w.heap.size (.slice (some ⟨g, 0, none⟩) l.length l.length) l) ∧ Below w.heap.size w w'
theorem GivesF.any {w w' : World} {e : Ending} {l : List Fl} (h : GivesF w w' e l) : ∃ u, e = .returned u ∧ HasF w' w.heap.size u l ∧ Below w.heap.size w w' := by
  obtain ⟨⟨g, he, hh⟩, hb⟩ := h
  exact ⟨_, he, hh, hb⟩
end Go.Proofs.YtemmgfnepdgpbaaGreatDoor
namespace Go.Proofs.YtemmgfnepdgpbaaGreatDoor
open Go.RowKit Go.Sort

theorem step_call {ops : Array Oper} {o : Oper} {a : Act} {w : World} {K : Act → World → Prop} {Q : Exit → Act → World → Prop} {E : Prop} (hgd : o.guard = none) (f : FuncId) (xs : Array Operand) (ts : Array TypeId)
    (ho : o.op = .call { callee := .value (.func f), args := xs, argTypes := ts }) (vals : Array Value) (hv : xs.map a.eval = vals) (hent : ∀ w, (callFunc f vals).run Tryz.prog w = .ok (.enter f vals) w) (R : Value → World → Prop)
    (hc : Calls Tryz.prog f vals w fun e w' => ∃ v, e = .returned v ∧ R v w') (h : ∀ v w', R v w' → K (a.put o.dst v) w') :
    if Region.wanted o (yielded ops a.tmps) = true then Oper.wp Tryz.prog o a w K Q else E := by
  have hw : Region.wanted o (yielded ops a.tmps) = true := by simp [Region.wanted, hgd]
  rw [if_pos hw]
  unfold Oper.wp
  have he : (execOp a.eval o).run Tryz.prog w = .ok (.enter f vals) w := by
    simp [execOp, ho, resolve, invoke, hv]
    rw [show a.eval (Operand.func f) = _ from rfl]
    simp [Act.eval, Deferred.ofValue, hent]
  rw [he, Oper.upon_enter]
  refine hc.mono ?_
  rintro e w' ⟨v, rfl, hr⟩
  exact h v w' hr
theorem step_call2 {ops : Array Oper} {o : Oper} {a : Act} {w : World} {K : Act → World → Prop} {Q : Exit → Act → World → Prop} {E : Prop} (hgd : o.guard = none) (f : FuncId) (x0 x1 : Operand) (ts : Array TypeId)
    (ho : o.op = .call { callee := .value (.func f), args := #[x0, x1], argTypes := ts }) (v0 v1 : Value) (h0 : a.eval x0 = v0) (h1 : a.eval x1 = v1) (hent : ∀ w, (callFunc f #[v0, v1]).run Tryz.prog w = .ok (.enter f #[v0, v1]) w) (R : Value → World → Prop)
    (hc : Calls Tryz.prog f #[v0, v1] w fun e w' => ∃ v, e = .returned v ∧ R v w') (h : ∀ v w', R v w' → K (a.put o.dst v) w') :
    if Region.wanted o (yielded ops a.tmps) = true then Oper.wp Tryz.prog o a w K Q else E :=
  step_call hgd f #[x0, x1] ts ho #[v0, v1] (by simp [h0, h1]) hent R hc h
theorem step_call1 {ops : Array Oper} {o : Oper} {a : Act} {w : World} {K : Act → World → Prop} {Q : Exit → Act → World → Prop} {E : Prop} (hgd : o.guard = none) (f : FuncId) (x0 : Operand) (ts : Array TypeId)
    (ho : o.op = .call { callee := .value (.func f), args := #[x0], argTypes := ts }) (v0 : Value) (h0 : a.eval x0 = v0) (hent : ∀ w, (callFunc f #[v0]).run Tryz.prog w = .ok (.enter f #[v0]) w) (R : Value → World → Prop)
    (hc : Calls Tryz.prog f #[v0] w fun e w' => ∃ v, e = .returned v ∧ R v w') (h : ∀ v w', R v w' → K (a.put o.dst v) w') :
    if Region.wanted o (yielded ops a.tmps) = true then Oper.wp Tryz.prog o a w K Q else E :=
  step_call hgd f #[x0] ts ho #[v0] (by simp [h0]) hent R hc h
end Go.Proofs.YtemmgfnepdgpbaaGreatDoor
namespace Go.Proofs.YtemmgfnepdgpbaaGreatDoor
open Go.RowKit

theorem OwnsS.but {w w' : World} {B g : Nat} {v : Value} {l : List ByteArray} (h : OwnsS w B v l) (hb : But g w w') (hne : ∀ k, v.ownBlock = some k → k ≠ g) : OwnsS w' B v l := by
  obtain ⟨⟨g0, cap, hv, hbg, hg⟩, h1, h2⟩ := h
  refine ⟨⟨g0, cap, hv, hbg, Nat.lt_of_lt_of_le hg hb.2.2.2.1⟩, h1, ?_⟩
  rcases h2 with h0 | ⟨g', cap', cur, hv', hb', hg', rest⟩
  · exact .inl h0
  · refine .inr ⟨g', cap', cur, hv', hb', ?_, rest⟩
    rw [hb.2.2.2.2 g' (Array.getElem?_eq_some_iff.1 hg').1 (hne g' (by rw [hv']; rfl))]
    exact hg'
theorem But.low {g B : Nat} {w w' : World} (h : But g w w') (hB : B ≤ g) (hs : B ≤ w.heap.size) : Below B w w' :=
  ⟨h.1, h.2.1, h.2.2.1, h.2.2.2.1, fun k hk => h.2.2.2.2 k (by omega) (by omega)⟩
theorem OwnsS.under {w : World} {B : Nat} {v : Value} {l : List ByteArray} (h : OwnsS w B v l) : ∀ k, v.ownBlock = some k → k < w.heap.size := fun k hk => (World.ownsRow.lt h.2 k hk).2
end Go.Proofs.YtemmgfnepdgpbaaGreatDoor
namespace Go.Proofs.YtemmgfnepdgpbaaGreatDoor
open Go.RowKit Go.ChangeShapes Go.WideShapes

theorem cell_lt {w : World} {b o : Nat} {v : Value} (h : w.cell? ⟨b, o, none⟩ = some v) : b < w.heap.size := by
  cases e : w.heap[b]? with
  | none => simp [World.cell?, e] at h
  | some x => exact (Array.getElem?_eq_some_iff.1 e).1
end Go.Proofs.YtemmgfnepdgpbaaGreatDoor
