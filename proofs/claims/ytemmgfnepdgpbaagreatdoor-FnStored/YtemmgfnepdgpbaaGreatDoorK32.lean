/-
  The specification's ShowControl by its contract.
  Control read out of a text, as plain data.
  Plain facts on items that are joined by commas: read again they are the same items.
  Control is read from what it is shown as.
-/
import Derived.Test.YtemmgfnepdgpbaaGreatDoorK21
import Derived.ProofKit
import Derived.OpenShut
import Derived.ShutString
import Derived.Lib.SmallJoins
import Derived.Test.YtemmgfnepdgpbaaGreatDoorK31
import Derived.Test.YtemmgfnepdgpbaaGreatDoorK12
import Derived.Test.YtemmgfnepdgpbaaGreatDoorK10
import Derived.Test.YtemmgfnepdgpbaaGreatDoorK20
import Derived.Test.YtemmgfnepdgpbaaGreatDoorK08
import Derived.Test.YtemmgfnepdgpbaaGreatDoorK05
import Derived.Test.YtemmgfnepdgpbaaGreatDoorK03
import Derived.Test.YtemmgfnepdgpbaaGreatDoorK17
namespace Go.Proofs.YtemmgfnepdgpbaaGreatDoor
open Go.RowKit Go.Sort
set_option linter.unusedVariables false
set_option linter.unusedSimpArgs false

/-- Two rows beside each other, texts and what belongs to them. -/
structure TabB {α : Type} (w : World) (b : Nat) (f : α → Value) (l : List (ByteArray × α)) : Prop where
  hi : b + 1 < w.heap.size
  at1 : ∀ j (hj : j < l.length), w.cell? ⟨b, j, Option.none⟩ = some (.string l[j].1)
  at2 : ∀ j (hj : j < l.length), w.cell? ⟨b + 1, j, Option.none⟩ = some (f l[j].2)
theorem TabB.same {α : Type} {w w' : World} {b : Nat} {f : α → Value} {l : List (ByteArray × α)} (h : TabB w b f l) (e1 : w'.heap[b]? = w.heap[b]?) (e2 : w'.heap[b + 1]? = w.heap[b + 1]?) (hs : w.heap.size ≤ w'.heap.size) : TabB w' b f l where
  hi := Nat.lt_of_lt_of_le h.hi hs
  at1 := fun j hj => (World.cell?_of_block (a := ⟨b, j, Option.none⟩) e1).trans (h.at1 j hj)
  at2 := fun j hj => (World.cell?_of_block (a := ⟨b + 1, j, Option.none⟩) e2).trans (h.at2 j hj)
theorem TabB.kept {α : Type} {w w' : World} {b : Nat} {f : α → Value} {l : List (ByteArray × α)} (h : TabB w b f l) (hb : Below w.heap.size w w') : TabB w' b f l :=
  h.same (hb.block b (by have := h.hi; omega)) (hb.block (b + 1) h.hi) hb.size
theorem TabB.grown {α : Type} {w w' : World} {b g : Nat} {f : α → Value} {l : List (ByteArray × α)} (h : TabB w b f l) (hg : w.grownBy w' (some g)) (h1 : g ≠ b) (h2 : g ≠ b + 1) : TabB w' b f l :=
  h.same (hg.block b (by have := h.hi; omega) (fun e => h1 (Option.some.inj e).symm)) (hg.block (b + 1) h.hi (fun e => h2 (Option.some.inj e).symm)) hg.size
theorem TabB.born {α : Type} (w : World) (f : α → Value) (l : List (ByteArray × α)) (c1 c2 : Array Value) (t1 t2 : TypeId) (h1 : c1.toList = l.map fun p => Value.string p.1) (h2 : c2.toList = l.map fun p => f p.2) : TabB ((w.alloc (.cells c1 t1)).alloc (.cells c2 t2)) w.heap.size f l where
  hi := by simp
  at1 := fun j hj => by
    rw [World.cell?_of_block (w := w.alloc (.cells c1 t1)) (a := ⟨w.heap.size, j, Option.none⟩) (Below.heap_alloc (w.alloc (.cells c1 t1)) _ _ (by simp)), World.cell?_alloc_mark]
    have : c1[j]? = some (Value.string l[j].1) := by rw [← Array.getElem?_toList, h1]; simp [hj]
    simpa using this
  at2 := fun j hj => by
    have e : w.heap.size + 1 = (w.alloc (.cells c1 t1)).heap.size := by simp
    rw [e, World.cell?_alloc_mark]
    have : c2[j]? = some (f l[j].2) := by rw [← Array.getElem?_toList, h2]; simp [hj]
    simpa using this
end Go.Proofs.YtemmgfnepdgpbaaGreatDoor
namespace Go.Proofs.YtemmgfnepdgpbaaGreatDoor
open Go.RowKit
set_option linter.unusedVariables false

/-- The number of a directive, and whether it is one. -/
def told (x name : ByteArray) : Int × Bool := if x.size ≤ name.size ∨ ¬ x.extract 0 name.size = name then (0, false) else (minI 1000000000 (numV 10 15 (x.extract name.size x.size)), numOk 10 15 (x.extract name.size x.size))
end Go.Proofs.YtemmgfnepdgpbaaGreatDoor
namespace Go.Proofs.YtemmgfnepdgpbaaGreatDoor
open Go.RowKit

/-- The states of the reading: 0 none is open, 1 one is open, 2 behind a byte 92 within what is open. -/
def dlt (q : Nat) (c : UInt8) : Nat := if q = 0 then (if c.toNat = 34 then 1 else 0) else if q = 1 then (if c.toNat = 34 then 0 else if c.toNat = 92 then 2 else 1) else 1
def run (q : Nat) : List UInt8 → Nat
  | [] => q
  | c :: r => run (dlt q c) r
def solid (q : Nat) : List UInt8 → Prop
  | [] => True
  | c :: r => ¬ (q = 0 ∧ c.toNat = 44) ∧ solid (dlt q c) r
def st (op : Bool) : Nat := if op = true then 1 else 0

/-! ### All bytes of the items are bytes of the text -/
end Go.Proofs.YtemmgfnepdgpbaaGreatDoor
namespace Go.Proofs.YtemmgfnepdgpbaaGreatDoor
open Go.RowKit
set_option linter.unusedVariables false

/-! ### Digits -/
/-! ### Parts -/
def okB (c : UInt8) : Bool := decide (33 ≤ c.toNat) && (decide (c.toNat ≤ 126) && (decide (c.toNat ≠ 34) && (decide (c.toNat ≠ 44) && (decide (c.toNat ≠ 92) && !(decide (65 ≤ c.toNat) && decide (c.toNat ≤ 90))))))
/-! ### Joined and read again -/
end Go.Proofs.YtemmgfnepdgpbaaGreatDoor
