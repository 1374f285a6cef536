/-
  Objects as plain data: what is a right one.
-/
import Derived.Test.YtkoikofaebfbjaaMsgP
namespace Go.Proofs.Ytkoikofaebfbjaa
open Go.RowKit
set_option linter.unusedVariables false

structure Ob where
  k : ByteArray
  l : List Fl
  r : Rs
  asked : Int
  got : Int
  ep : Int
def obV (o : Ob) (v u : Value) : Value := .agg #[.string o.k, v, .int .i64 o.r.s, u, .string o.r.b, .int .i64 o.asked, .int .i64 o.got, .int .i64 o.ep]
def keyN (n : Int) : Bool := decide (33 ≤ n ∧ n ≤ 126)
theorem keyN_yes {n : Int} (h : 33 ≤ n ∧ n ≤ 126) : keyN n = true := decide_eq_true h
theorem keyN_no {n : Int} (h : ¬ (33 ≤ n ∧ n ≤ 126)) : keyN n = false := decide_eq_false h
def keyO (s : ByteArray) : Bool := allB keyN s.data.toList && decide (s.size ≤ 500)
def momB (n : Int) : Bool := decide (0 ≤ n) && decide (n ≤ 253402300799)
theorem momB_iff {n : Int} : momB n = true ↔ 0 ≤ n ∧ n ≤ 253402300799 := by unfold momB; rw [Bool.and_eq_true, decide_eq_true_iff, decide_eq_true_iff]
def obB (o : Ob) : Bool := keyO o.k && (fldsOk o.l && (rsOk o.r && (momB o.asked && (momB o.got && (decide (o.asked ≤ o.got) && (decide (0 ≤ o.ep) && decide (o.ep ≤ 100000)))))))
end Go.Proofs.Ytkoikofaebfbjaa
