/-
  Plain facts on messages: which are right, where one ends, what it is shown as, what is read.
  Objects as plain data: what is a right one.
-/
import Derived.Test.YtkaogmdhjcgcdaaGreatDoorG05
import Derived.Test.YtkaogmdhjcgcdaaGreatDoorG07
namespace Go.Proofs.YtkaogmdhjcgcdaaGreatDoor
open Go.RowKit

/-! ### Decimal digits -/
/-! ### What is right -/
/-- content-length, transfer-encoding, chunked. -/
def clS : ByteArray := ⟨#[99, 111, 110, 116, 101, 110, 116, 45, 108, 101, 110, 103, 116, 104]⟩
def teS : ByteArray := ⟨#[116, 114, 97, 110, 115, 102, 101, 114, 45, 101, 110, 99, 111, 100, 105, 110, 103]⟩
def chS : ByteArray := ⟨#[99, 104, 117, 110, 107, 101, 100]⟩
def ownB (l : List Fl) : Bool := fldsOk l && (!(getF l clS).2 && !(getF l teS).2)
/-- A request. -/
structure Rq where
  m : ByteArray
  t : ByteArray
  l : List Fl
  b : ByteArray
/-- A response. -/
structure Rs where
  s : Int
  l : List Fl
  b : ByteArray
def bareB (s : Int) : Bool := decide (s = 204 ∨ s = 304)
def rsOk (r : Rs) : Bool := decide (200 ≤ r.s ∧ r.s ≤ 599) && (ownB r.l && (decide (r.b.size ≤ 4000) && (!bareB r.s || decide (r.b.size = 0))))

/-! ### Where it ends -/
def frm (l : List Fl) : Int × Int :=
  if fldsOk l = true then
    if (getF l clS).2 = true then
      if (getF l teS).2 = true then (3, 0)
      else if numOk 10 15 (getF l clS).1 = true ∧ numV 10 15 (getF l clS).1 ≤ 4000 then (1, numV 10 15 (getF l clS).1) else (3, 0)
    else if (getF l teS).2 = true then if lowS (getF l teS).1 = chS then (2, 0) else (3, 0)
    else (0, 0)
  else (3, 0)

/-! ### What it is shown as -/
/-! ### What is read -/
def noS : Rs := ⟨0, [], ⟨#[]⟩⟩
end Go.Proofs.YtkaogmdhjcgcdaaGreatDoor
namespace Go.Proofs.YtkaogmdhjcgcdaaGreatDoor
open Go.RowKit
set_option linter.unusedVariables false

structure Ob where
  k : ByteArray
  l : List Fl
  r : Rs
  asked : Int
  got : Int
  ep : Int
def obV (o : Ob) (v u : Value) : Value := .agg #[.string o.k, v, .int .i64 o.r.s, u, .string o.r.b, .int .i64 o.asked, .int .i64 o.got, .int .i64 o.ep]
def keyN (n : Int) : Bool := decide (33 ≤ n ∧ n ≤ 126)
theorem keyN_yes {n : Int} (h : 33 ≤ n ∧ n ≤ 126) : keyN n = true := decide_eq_true h
theorem keyN_no {n : Int} (h : ¬ (33 ≤ n ∧ n ≤ 126)) : keyN n = false := decide_eq_false h
def keyO (s : ByteArray) : Bool := allB keyN s.data.toList && decide (s.size ≤ 500)
def momB (n : Int) : Bool := decide (0 ≤ n) && decide (n ≤ 253402300799)
theorem momB_iff {n : Int} : momB n = true ↔ 0 ≤ n ∧ n ≤ 253402300799 := by unfold momB; rw [Bool.and_eq_true, decide_eq_true_iff, decide_eq_true_iff]
def obB (o : Ob) : Bool := keyO o.k && (fldsOk o.l && (rsOk o.r && (momB o.asked && (momB o.got && (decide (o.asked ≤ o.got) && (decide (0 ≤ o.ep) && decide (o.ep ≤ 100000)))))))
end Go.Proofs.YtkaogmdhjcgcdaaGreatDoor
