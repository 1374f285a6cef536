/-
  The contracts of the program's set of names: names that are put in, and whether one is there.
  The contracts of Without, the specification's and the program's.
  Rows and responses in memory: what a store leaves.
  Requests and responses that came in, opened; the laws' own helpers for them, by their contracts.
-/
import Derived.Test.YtnachhmhjodbhaaGreatDoorG30
import Derived.Test.YtnachhmhjodbhaaGreatDoorG06
import Derived.Maps.OwnSet
import Derived.Maps.AppendAt
import Derived.Handy
import Derived.Test.YtnachhmhjodbhaaGreatDoorG24
import Derived.Deep.RegionLaw
import Derived.Test.YtnachhmhjodbhaaGreatDoorG25
import Derived.Laws.Append
import Derived.Test.YtnachhmhjodbhaaGreatDoorG04
import Derived.Deep.SlicePairs
import Derived.ChangeArms
import Derived.Lib.LaidU8
import Derived.ProofKit
import Derived.OpenShut
import Derived.ShutString
import Derived.Lib.SmallJoins
namespace Go.Proofs.YtnachhmhjodbhaaGreatDoor
open Go.RowKit Go.Sort Go.Maps Go.ChangeMaps Go.WideMaps

/-- The slice v reads as the texts ns. -/
def Strs (w : World) (v : Value) (ns : List ByteArray) : Prop :=
  ∃ a cap, v = .slice a ns.length cap ∧ ns.length ≤ cap ∧ cap ≤ maxLen ∧ (0 < ns.length → ∃ g o, a = some ⟨g, o, none⟩ ∧ g < w.heap.size ∧ ∀ j (hj : j < ns.length), w.cell? ⟨g, o + j, none⟩ = some (.string ns[j]))
theorem Strs.kept {w w' : World} {v : Value} {l : List ByteArray} (h : Strs w v l) (hb : Below w.heap.size w w') : Strs w' v l := by
  obtain ⟨a, cap, hv, h1, h2, h3⟩ := h
  refine ⟨a, cap, hv, h1, h2, fun h0 => ?_⟩
  obtain ⟨g, o, ha, hg, hc⟩ := h3 h0
  exact ⟨g, o, ha, Nat.lt_of_lt_of_le hg hb.size, fun j hj => (hb.cell (p := ⟨g, o + j, none⟩) hg).trans (hc j hj)⟩

def keyL (s : ByteArray) : Lit := .string s.data.toList
/-- Block b is the set of the names acc. -/
def SetIs (w : World) (b : Nat) (acc : List ByteArray) : Prop := w.ownsMap Tryz.prog 9 (unitElem (H := Unit)) b acc.length (setOf (.agg []) (acc.map keyL))
theorem SetIs.made (w : World) : SetIs (w.alloc (.map #[] 0)) w.heap.size [] := World.ownsMap_made _ _ _ _
theorem SetIs.lt {w : World} {b : Nat} {acc : List ByteArray} (h : SetIs w b acc) : b < w.heap.size := World.ownsMap.lt h
theorem SetIs.kept {w w' : World} {b : Nat} {acc : List ByteArray} (h : SetIs w b acc) (hb : Below w.heap.size w w') : SetIs w' b acc :=
  World.ownsMap.kept h (row := none) ⟨hb.os, hb.tape, hb.output, hb.size, fun k hk _ => hb.block k hk⟩ (by simp)
theorem SetIs.grown {w w' : World} {b : Nat} {acc : List ByteArray} {r : Option Nat} (h : SetIs w b acc) (hg : w.grownBy w' r) (hne : some b ≠ r) : SetIs w' b acc := World.ownsMap.kept h hg hne
theorem SetIs.put {w : World} {b : Nat} {acc : List ByteArray} {x : ByteArray} (h : w.ownsMap Tryz.prog 9 (unitElem (H := Unit)) b (acc.length + 1) ((setOf (H := Unit) (.agg []) (acc.map keyL)).put (keyL x) (.agg []))) : SetIs w b (acc ++ [x]) := by
  unfold SetIs
  rw [List.map_append, List.length_append, show [x].map keyL = [keyL x] from rfl, setOf_snoc]
  exact h

end Go.Proofs.YtnachhmhjodbhaaGreatDoor
namespace Go.Proofs.YtnachhmhjodbhaaGreatDoor
open Go.RowKit Go.Sort Go.Maps

/-- A slice of fields as the program answers it. -/
def GivesF (w w' : World) (e : Ending) (l : List Fl) : Prop := (∃ g, e = .returned (.slice (some ⟨g, 0, none⟩) l.length l.length) ∧ HasF w' w.heap.size (.slice (some ⟨g, 0, none⟩) l.length l.length) l) ∧ Below w.heap.size w w'
theorem GivesF.any {w w' : World} {e : Ending} {l : List Fl} (h : GivesF w w' e l) : ∃ u, e = .returned u ∧ HasF w' w.heap.size u l ∧ Below w.heap.size w w' := by
  obtain ⟨⟨g, he, hh⟩, hb⟩ := h
  exact ⟨_, he, hh, hb⟩
end Go.Proofs.YtnachhmhjodbhaaGreatDoor
namespace Go.Proofs.YtnachhmhjodbhaaGreatDoor
open Go.RowKit Go.Sort
set_option linter.unusedVariables false

theorem newAt (x : World) (o : Obj) : (x.alloc o).heap[x.heap.size]? = some o := heap_alloc_new x o
theorem rowCell {w : World} {g k : Nat} {c : Array Value} {ty : TypeId} {fr : Nat × Nat} (h : w.heap[g]? = some (.cells c ty fr)) : w.cell? ⟨g, k, none⟩ = c[k]? := by simp [World.cell?, h]
/-- A store into a block of another type leaves the row. -/
theorem OwnsF.besides10 {w : World} {B g k : Nat} {v : Value} {l : List Fl} {c : Array Value} {T : TypeId} {fr : Nat × Nat} (h : OwnsF w B v l) (hg : w.heap[g]? = some (.cells c T fr)) (hT : T ≠ 41) (x : Value) : OwnsF (w.setCell ⟨g, k, none⟩ x) B v l := by
  refine ⟨h.1, ?_⟩
  rcases h.2 with h0 | ⟨g', cap, cur, hv, hbg, hg', rest⟩
  · exact .inl h0
  · refine .inr ⟨g', cap, cur, hv, hbg, ?_, rest⟩
    rw [Below.heap_setCell _ _ _ _ (show g' ≠ g from fun e => by subst e; rw [hg] at hg'; injection hg' with e; injection e with _ e _; exact hT e)]
    exact hg'
theorem OwnsF.putlow10 {w : World} {B g : Nat} {v : Value} {l : List Fl} (h : OwnsF w B v l) (hg : g < B) (k : Nat) (x : Value) : OwnsF (w.setCell ⟨g, k, none⟩ x) B v l := by
  refine ⟨h.1, ?_⟩
  rcases h.2 with h0 | ⟨g2, cap, cur, hv, hbg, hg2, rest⟩
  · exact .inl h0
  · exact .inr ⟨g2, cap, cur, hv, hbg, (Below.heap_setCell _ _ _ _ (by show g2 ≠ g; omega)).trans hg2, rest⟩
theorem RsB.put2 {w : World} {b : Nat} {r : Rs} {v : Value} (h : RsB w b r v) (t : ByteArray) : RsB (w.setCell ⟨b, 2, none⟩ (.string t)) b ⟨r.s, r.l, t⟩ v where
  c0 := by rw [World.cell?_setCell_other _ _ _ _ (by simp)]; exact h.c0
  c1 := by rw [World.cell?_setCell_other _ _ _ _ (by simp)]; exact h.c1
  c2 := World.cell?_setCell_same _ _ _ h.c2
  fz := fun k => by rw [World.frozen?_setCell]; exact h.fz k
  hi := by rw [World.size_setCell]; exact h.hi
theorem RsB.puts10 {w : World} {b : Nat} {r0 : Rs} {v0 : Value} (h : RsB w b r0 v0) (r : Rs) (v : Value) : RsB (((w.setCell ⟨b, 0, none⟩ (.int .i64 r.s)).setCell ⟨b, 1, none⟩ v).setCell ⟨b, 2, none⟩ (.string r.b)) b r v where
  c0 := by rw [World.cell?_setCell_other _ _ _ _ (by simp), World.cell?_setCell_other _ _ _ _ (by simp)]; exact World.cell?_setCell_same _ _ _ h.c0
  c1 := by rw [World.cell?_setCell_other _ _ _ _ (by simp)]; exact World.cell?_setCell_same _ _ _ (by rw [World.cell?_setCell_other _ _ _ _ (by simp)]; exact h.c1)
  c2 := World.cell?_setCell_same _ _ _ (by rw [World.cell?_setCell_other _ _ _ _ (by simp), World.cell?_setCell_other _ _ _ _ (by simp)]; exact h.c2)
  fz := fun k => by rw [World.frozen?_setCell, World.frozen?_setCell, World.frozen?_setCell]; exact h.fz k
  hi := by rw [World.size_setCell, World.size_setCell, World.size_setCell]; exact h.hi
end Go.Proofs.YtnachhmhjodbhaaGreatDoor
namespace Go.Proofs.YtnachhmhjodbhaaGreatDoor
open Go.RowKit Go.Sort Go.ChangeShapes Go.WideShapes Go.ChangeAt Go.Joins Go.Deep
set_option linter.unusedVariables false

/-! ### Opening -/
def RsGot (w : World) (u : Value) (r : Rs) : Prop := Fls w u r.l ∧ (∀ f ∈ r.l, f.1.size ≤ maxLen ∧ f.2.size ≤ maxLen) ∧ Solid u ∧ r.b.size ≤ maxLen
/-! ### The laws' helpers -/
end Go.Proofs.YtnachhmhjodbhaaGreatDoor
