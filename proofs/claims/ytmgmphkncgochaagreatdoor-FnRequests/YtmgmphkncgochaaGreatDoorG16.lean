/-
  A call of a function of the program, met by its contract, as one step of a region that draws its order.
  The contracts of With, the specification's and the program's.
  The contract of the specification's Items.
-/
import Derived.Test.YtmgmphkncgochaaGreatDoorG15
import Derived.Shelf.Abstract
import Derived.Test.YtmgmphkncgochaaGreatDoorG06
import Derived.Test.YtmgmphkncgochaaGreatDoorG04
namespace Go.Proofs.YtmgmphkncgochaaGreatDoor
open Go.RowKit Go.Sort

theorem step_call {ops : Array Oper} {o : Oper} {a : Act} {w : World} {K : Act → World → Prop} {Q : Exit → Act → World → Prop} {E : Prop} (hgd : o.guard = none) (f : FuncId) (xs : Array Operand) (ts : Array TypeId)
    (ho : o.op = .call { callee := .value (.func f), args := xs, argTypes := ts }) (vals : Array Value) (hv : xs.map a.eval = vals) (hent : ∀ w, (callFunc f vals).run Tryz.prog w = .ok (.enter f vals) w) (R : Value → World → Prop)
    (hc : Calls Tryz.prog f vals w fun e w' => ∃ v, e = .returned v ∧ R v w') (h : ∀ v w', R v w' → K (a.put o.dst v) w') :
    if Region.wanted o (yielded ops a.tmps) = true then Oper.wp Tryz.prog o a w K Q else E := by
  have hw : Region.wanted o (yielded ops a.tmps) = true := by simp [Region.wanted, hgd]
  rw [if_pos hw]
  unfold Oper.wp
  have he : (execOp a.eval o).run Tryz.prog w = .ok (.enter f vals) w := by
    simp [execOp, ho, resolve, invoke, hv]
    rw [show a.eval (Operand.func f) = _ from rfl]
    simp [Act.eval, Deferred.ofValue, hent]
  rw [he, Oper.upon_enter]
  refine hc.mono ?_
  rintro e w' ⟨v, rfl, hr⟩
  exact h v w' hr
theorem step_call2 {ops : Array Oper} {o : Oper} {a : Act} {w : World} {K : Act → World → Prop} {Q : Exit → Act → World → Prop} {E : Prop} (hgd : o.guard = none) (f : FuncId) (x0 x1 : Operand) (ts : Array TypeId)
    (ho : o.op = .call { callee := .value (.func f), args := #[x0, x1], argTypes := ts }) (v0 v1 : Value) (h0 : a.eval x0 = v0) (h1 : a.eval x1 = v1) (hent : ∀ w, (callFunc f #[v0, v1]).run Tryz.prog w = .ok (.enter f #[v0, v1]) w) (R : Value → World → Prop)
    (hc : Calls Tryz.prog f #[v0, v1] w fun e w' => ∃ v, e = .returned v ∧ R v w') (h : ∀ v w', R v w' → K (a.put o.dst v) w') :
    if Region.wanted o (yielded ops a.tmps) = true then Oper.wp Tryz.prog o a w K Q else E :=
  step_call hgd f #[x0, x1] ts ho #[v0, v1] (by simp [h0, h1]) hent R hc h
theorem step_call1 {ops : Array Oper} {o : Oper} {a : Act} {w : World} {K : Act → World → Prop} {Q : Exit → Act → World → Prop} {E : Prop} (hgd : o.guard = none) (f : FuncId) (x0 : Operand) (ts : Array TypeId)
    (ho : o.op = .call { callee := .value (.func f), args := #[x0], argTypes := ts }) (v0 : Value) (h0 : a.eval x0 = v0) (hent : ∀ w, (callFunc f #[v0]).run Tryz.prog w = .ok (.enter f #[v0]) w) (R : Value → World → Prop)
    (hc : Calls Tryz.prog f #[v0] w fun e w' => ∃ v, e = .returned v ∧ R v w') (h : ∀ v w', R v w' → K (a.put o.dst v) w') :
    if Region.wanted o (yielded ops a.tmps) = true then Oper.wp Tryz.prog o a w K Q else E :=
  step_call hgd f #[x0] ts ho #[v0] (by simp [h0]) hent R hc h
end Go.Proofs.YtmgmphkncgochaaGreatDoor
namespace Go.Proofs.YtmgmphkncgochaaGreatDoor
open Go.RowKit Go.Sort Go.Maps

theorem withA_length (l : List Fl) (n v : ByteArray) : (withA l n v).length ≤ 30 := (fldsOk_parts (withA_ok l n v)).1

end Go.Proofs.YtmgmphkncgochaaGreatDoor
namespace Go.Proofs.YtmgmphkncgochaaGreatDoor
open Go.RowKit

theorem vis_size {s : ByteArray} (h : visB s = true) : s.size ≤ 400 := by
  unfold visB at h; rw [Bool.and_eq_true] at h; exact of_decide_eq_true h.1
theorem ieq_yes {a b : Int} (h : a = b) : (a == b) = true := by simp [h]
theorem ieq_no {a b : Int} (h : a ≠ b) : (a == b) = false := by simp [h]
theorem ext_size (s : ByteArray) (a i : Nat) : (s.extract a i).size ≤ s.size := by
  have : (s.extract a i).size = min i s.size - a := by simp
  omega

/-- Spec: at the end of a part: the trimmed part is appended where it is not empty. -/
theorem At.comma' {s : ByteArray} {out : List ByteArray} {a i : Nat} (h : At s out a i false) (hi : i < s.size) (hc : (s[i].toNat : Int) = 44) : At s (out ++ one (s.extract a i)) (i + 1) (i + 1) false := by
  rw [cut_text s a i (by omega)]; exact h.comma hi hc

end Go.Proofs.YtmgmphkncgochaaGreatDoor
