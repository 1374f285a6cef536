/-
  Replicas as plain data: what is right, what is counted, asked for, told, received; and what stays true of it.
  Calls that lay new blocks and draw, and turn nothing that lay before.
  The contracts of the law's own helpers on fields: how large, turned into the program's, compared.
-/
import Derived.Test.YtlngleinegkoeaaGreatT02
import Derived.Test.YtlngleinegkoeaaGreatT09
import Derived.Test.YtlngleinegkoeaaGreatRows
import Derived.WalkKit
import Derived.WalkSpells
import Derived.Below
import Derived.Laws.IdiomStrings
import Derived.Shelf.SlSortCmp.QuietGrown
import Derived.Test.YtlngleinegkoeaaGreatT06
import Derived.Laws.OwnMore
namespace Go.Proofs.YtlngleinegkoeaaGreat.Rl
open Pg
set_option linter.unusedVariables false
set_option linter.unusedSimpArgs false

structure Ms where
  k : Int
  f : Int
  t : Int
  v : Int
  la : Int
  l : List ByteArray
  c : Int
structure Rp where
  id : Int
  p : Int
  v : Int
  n : Bool
  la : Int
  l : List ByteArray
  c : Int
  ok : List Int
  ch : List Int
  te : List Ms
def noRp : Rp := ⟨0, 0, 0, false, 0, [], 0, [], [], []⟩

/-! ### What is right -/
def maj (n : Nat) (p : Int) : Prop := p < 2 * (n : Int)
def mine (r : Rp) : Prop := r.v % r.p = r.id
def leads (r : Rp) : Prop := r.n = true ∧ mine r
structure MsOk (m : Ms) (p : Int) : Prop where
  k : 1 ≤ m.k ∧ m.k ≤ 4
  f : 0 ≤ m.f ∧ m.f < p
  t : 0 ≤ m.t ∧ m.t < p
  v : 0 ≤ m.v ∧ m.v ≤ 10000
  la : 0 ≤ m.la ∧ m.la ≤ m.v
  l : logB m.l = true
  c : if m.k = 2 then 0 ≤ m.c ∧ m.c ≤ 60 else 0 ≤ m.c ∧ m.c ≤ (m.l.length : Int)
/-- A message that tells it of its view. -/
structure TeOk (m : Ms) (r : Rp) : Prop where
  k : m.k = 4
  t : m.t = r.id
  v : m.v = r.v
  ok : MsOk m r.p
structure RpOk (r : Rp) : Prop where
  p : r.p = 1 ∨ r.p = 3 ∨ r.p = 5
  id : 0 ≤ r.id ∧ r.id < r.p
  v : 0 ≤ r.v ∧ r.v ≤ 10000
  l : logB r.l = true
  c : 0 ≤ r.c ∧ r.c ≤ (r.l.length : Int)
  la : 0 ≤ r.la ∧ r.la ≤ r.v
  n : r.n = true ↔ r.la = r.v
  ch0 : r.n = true → r.ch = [] ∧ r.te = []
  ok1 : r.n = true → mine r → (r.ok.length : Int) = r.p ∧ r.ok[r.id.toNat]? = some (r.l.length : Int) ∧ ∀ x ∈ r.ok, 0 ≤ x ∧ x ≤ (r.l.length : Int)
  ok0 : ¬ leads r → r.ok = []
  ch1 : r.n = false → r.id ∈ r.ch ∧ r.ch.Pairwise (· < ·) ∧ ∀ x ∈ r.ch, 0 ≤ x ∧ x < r.p
  te0 : r.n = false → ¬ mine r → r.te = []
  te1 : r.n = false → (∀ m ∈ r.te, TeOk m r) ∧ r.te.Pairwise (fun a b => a.f < b.f)

/-! ### What is counted -/
def cntF (ok : List Int) (n : Int) : Nat := (ok.filter fun x => decide (n ≤ x)).length
open Classical in
/-- The greatest number up to n that a majority has reached, if it is more than c. -/
noncomputable def cmF (ok : List Int) (p c : Int) : Nat → Int
  | 0 => c
  | n + 1 => if c < ((n + 1 : Nat) : Int) ∧ maj (cntF ok ((n + 1 : Nat) : Int)) p then ((n + 1 : Nat) : Int) else cmF ok p c n
noncomputable def cntd (r : Rp) : Rp := { r with ok := r.ok.set r.id.toNat (r.l.length : Int), c := cmF (r.ok.set r.id.toNat (r.l.length : Int)) r.p r.c r.l.length }
theorem cmF_bd (ok : List Int) (p c : Int) : ∀ n : Nat, c ≤ (n : Int) → c ≤ cmF ok p c n ∧ cmF ok p c n ≤ (n : Int)
  | 0, h => ⟨Int.le_refl _, h⟩
  | n + 1, h => by
    unfold cmF
    split
    · rename_i hh
      exact ⟨by omega, Int.le_refl _⟩
    · by_cases hc : c ≤ (n : Int)
      · have := cmF_bd ok p c n hc
        omega
      · have e : cmF ok p c n = c := by
          clear h
          induction n with
          | zero => rfl
          | succ k ih =>
            unfold cmF
            rw [if_neg (fun hh => hc (by omega))]
            exact ih (by omega) (by omega)
        rw [e]
        omega
/-! ### What is sent -/
def allM (r : Rp) (m : Ms) : List Ms := ((List.range r.p.toNat).filter fun (q : Nat) => decide ((q : Int) ≠ r.id)).map fun (q : Nat) => { m with f := r.id, t := (q : Int) }
def tellM (r : Rp) (to : Int) : Ms := ⟨4, r.id, to, r.v, r.la, r.l, r.c⟩
open Classical in
noncomputable def sprL (r : Rp) : List Ms :=
  if leads r then allM r ⟨1, 0, 0, r.v, r.la, r.l, r.c⟩ else if r.n = true then []
  else allM r ⟨3, 0, 0, r.v, 0, [], 0⟩ ++ (if maj r.ch.length r.p ∧ ¬ mine r then [tellM r (r.v % r.p)] else [])
def askF (r : Rp) (v : Int) : Rp := { r with v := v, n := false, ok := [], ch := [r.id], te := [] }
/-- A message among those that tell, of one of each. -/
def putM (m : Ms) : List Ms → List Ms
  | [] => [m]
  | x :: t => if x.f < m.f then x :: putM m t else if x.f = m.f then m :: t else m :: x :: t
def betM (b m : Ms) : Ms := if b.la < m.la ∨ (m.la = b.la ∧ b.l.length < m.l.length) then m else b
def besM (te : List Ms) : Ms := match te with
  | [] => ⟨0, 0, 0, 0, 0, [], 0⟩
  | x :: t => (x :: t).foldl betM x
def cmtM (te : List Ms) : Int := te.foldl (fun c m => max c m.c) 0
open Classical in
noncomputable def told (r : Rp) : Rp :=
  if r.n = true ∨ ¬ maj r.ch.length r.p ∨ ¬ mine r then r
  else
    let te := putM (tellM r r.id) r.te
    let s := { r with te := te }
    if ¬ maj te.length r.p then s
    else if ¬ r.l.take r.c.toNat <+: (besM te).l then s
    else cntd { s with l := (besM te).l, c := min (cmtM te) ((besM te).l.length : Int), n := true, la := r.v, ch := [], te := [], ok := List.replicate r.p.toNat 0 }
open Classical in
noncomputable def subF (r : Rp) (t : ByteArray) : Rp × List Ms × Int :=
  if ¬ leads r ∨ ¬ rdB t = true ∨ r.l.length = 60 then (r, [], -1)
  else (cntd { r with l := r.l ++ [t] }, sprL (cntd { r with l := r.l ++ [t] }), ((r.l.length + 1 : Nat) : Int))
open Classical in
noncomputable def susF (r : Rp) : Rp × List Ms := if r.v = 10000 then (r, []) else (told (askF r (r.v + 1)), sprL (told (askF r (r.v + 1))))
end Go.Proofs.YtlngleinegkoeaaGreat.Rl
namespace Go.Proofs.YtlngleinegkoeaaGreat
open Go.RowKit Go.Sort

theorem mixed : Tryz.prog.follows .mixedOrders = true := by kernel_rfl

/-- New blocks and draws alone. -/
def Grew (w w' : World) : Prop := Below w.heap.size w w' ∧ w.drawn ≤ w'.drawn
theorem Grew.refl (w : World) : Grew w w := ⟨Below.refl _ _, Nat.le_refl _⟩
theorem Grew.trans {a b c : World} (h : Grew a b) (k : Grew b c) : Grew a c :=
  ⟨⟨k.1.os.trans h.1.os, k.1.tape.trans h.1.tape, k.1.output.trans h.1.output, Nat.le_trans h.1.size k.1.size, fun i hi => (k.1.block i (Nat.lt_of_lt_of_le hi h.1.size)).trans (h.1.block i hi)⟩, Nat.le_trans h.2 k.2⟩
theorem Grew.alloc {w w' : World} (h : Grew w w') (o : Obj) : Grew w (w'.alloc o) := ⟨h.1.alloc h.1.size o, h.2⟩
theorem Grew.drew {w w' : World} (h : Grew w w') : Grew w w'.drew := ⟨⟨h.1.os, h.1.tape, h.1.output, h.1.size, h.1.block⟩, Nat.le_trans h.2 (Nat.le_succ _)⟩
theorem Grew.drewN {w w' : World} (h : Grew w w') (n : Nat) : Grew w (w'.drewN n) := ⟨⟨h.1.os, h.1.tape, h.1.output, h.1.size, h.1.block⟩, Nat.le_trans h.2 (Nat.le_add_right _ _)⟩
theorem Grew.put {w w' : World} (h : Grew w w') {b : Nat} (hb : w.heap.size ≤ b) (j : Nat) (v : Value) : Grew w (w'.setCell ⟨b, j, none⟩ v) := ⟨h.1.setCell hb _, h.2⟩
theorem Grew.more {w w' : World} (h : Grew w w') (os : Array Obj) : Grew w (grow w' os) :=
  ⟨⟨h.1.os, h.1.tape, h.1.output, by rw [size_grow]; exact Nat.le_trans h.1.size (Nat.le_add_right _ _), fun k hk => (heap_grow_old _ _ (Nat.lt_of_lt_of_le hk h.1.size)).trans (h.1.block k hk)⟩, h.2⟩
theorem Grew.low {w w' : World} (h : Grew w w') : Below w.heap.size w w' := h.1
theorem Grew.out {w w' : World} (h : Grew w w') : ∃ q os, w' = grow (w.drewN q) os := by
  obtain ⟨⟨ho, ht, hp, hz, hk⟩, hd⟩ := h
  refine ⟨w'.drawn - w.drawn, w'.heap.extract w.heap.size w'.heap.size, ?_⟩
  obtain ⟨heap, tape, drawn, os, output⟩ := w'
  simp only at ho ht hp hz hk hd
  have e1 : w.drawn + (drawn - w.drawn) = drawn := by omega
  have e2 : w.heap ++ heap.extract w.heap.size heap.size = heap := by
    apply Array.ext_getElem?
    intro k
    rw [Array.getElem?_append]
    split
    · next h => exact (hk k h).symm
    · next h =>
      rw [Array.getElem?_extract]
      split
      · next h2 => rw [show w.heap.size + (k - w.heap.size) = k from by omega]
      · next h2 => rw [Array.getElem?_eq_none (by omega)]
  simp only [grow, World.drewN, e1, e2, ho, ht, hp]
theorem Grew.cell {w x : World} {b j : Nat} {v : Value} (hb : Grew w x) (h : w.cell? ⟨b, j, none⟩ = some v) (hB : b < w.heap.size) : x.cell? ⟨b, j, none⟩ = some v := (hb.1.cell (p := ⟨b, j, none⟩) hB).trans h
end Go.Proofs.YtlngleinegkoeaaGreat
namespace Go.Proofs.YtlngleinegkoeaaGreat
open Go.RowKit Go.Sort

/-- Turned so far: the first k, and behind them empty ones. -/
def turned (l : List Fl) (k : Nat) : List Fl := l.take k ++ List.replicate (l.length - k) (⟨#[]⟩, ⟨#[]⟩)
end Go.Proofs.YtlngleinegkoeaaGreat
