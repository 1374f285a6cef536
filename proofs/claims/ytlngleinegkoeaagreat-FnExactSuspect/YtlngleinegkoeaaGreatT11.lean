/-
  The bytes of a text appended to a row of bytes that a call owns; what stays where such a row grows.
  The specification's RequestOk, ResponseOk and Framing by their contracts.
  A request and a response by value; the specification's RequestOk, ResponseOk and Framing by their contracts.
-/
import Derived.Test.YtlngleinegkoeaaGreatT06
import Derived.WalkKit
import Derived.WalkSpells
import Derived.Lib.AppendStr
import Derived.Test.YtlngleinegkoeaaGreatT07
import Derived.Test.YtlngleinegkoeaaGreatRows
import Derived.Test.YtlngleinegkoeaaGreatT05
import Derived.Test.YtlngleinegkoeaaGreatT04
import Derived.Laws.RangeAny
import Derived.Test.YtlngleinegkoeaaGreatT10
import Derived.Deep.RegionWith
import Derived.Test.YtlngleinegkoeaaGreatT09
namespace Go.Proofs.YtlngleinegkoeaaGreat
open Go.RowKit

theorem OwnsB.under {w : World} {B : Nat} {v : Value} {l : List UInt8} (h : OwnsB w B v l) : ∀ k, v.ownBlock = some k → k < w.heap.size := fun k hk => (World.ownsRow.lt h k hk).2
end Go.Proofs.YtlngleinegkoeaaGreat
namespace Go.Proofs.YtlngleinegkoeaaGreat
open Go.RowKit
set_option linter.unusedVariables false

/-- What a walk is told of fields that came in. -/
def Solid (v : Value) : Prop := ∀ n c, v = .slice none n c → c = 0
def Fits (w : World) (v : Value) (l : List Fl) : Prop := Fls w v l ∧ szL l ≤ 1048576 ∧ l.length ≤ 1048576 ∧ Solid v
theorem Fits.kept {w w' : World} {v : Value} {l : List Fl} (h : Fits w v l) (hb : Below w.heap.size w w') : Fits w' v l := ⟨h.1.kept hb, h.2⟩
end Go.Proofs.YtlngleinegkoeaaGreat
namespace Go.Proofs.YtlngleinegkoeaaGreat
open Go.RowKit
set_option linter.unusedVariables false

/-- The cells of a request in block b. -/
structure RqB (w : World) (b : Nat) (r : Rq) (v : Value) : Prop where
  c0 : w.cell? ⟨b, 0, none⟩ = some (.string r.m)
  c1 : w.cell? ⟨b, 1, none⟩ = some (.string r.t)
  c2 : w.cell? ⟨b, 2, none⟩ = some v
  c3 : w.cell? ⟨b, 3, none⟩ = some (.string r.b)
  fz : ∀ k, w.frozen? ⟨b, k, none⟩ = false
  hi : b < w.heap.size
structure RsB (w : World) (b : Nat) (r : Rs) (v : Value) : Prop where
  c0 : w.cell? ⟨b, 0, none⟩ = some (.int .i64 r.s)
  c1 : w.cell? ⟨b, 1, none⟩ = some v
  c2 : w.cell? ⟨b, 2, none⟩ = some (.string r.b)
  fz : ∀ k, w.frozen? ⟨b, k, none⟩ = false
  hi : b < w.heap.size
theorem RqB.new (w : World) (r : Rq) (v : Value) (t : TypeId) : RqB (w.alloc (.cells #[.string r.m, .string r.t, v, .string r.b] t)) w.heap.size r v where
  c0 := World.cell?_alloc_mark _ _ _ _ _
  c1 := World.cell?_alloc_mark _ _ _ _ _
  c2 := World.cell?_alloc_mark _ _ _ _ _
  c3 := World.cell?_alloc_mark _ _ _ _ _
  fz := fun k => by rw [World.frozen?_alloc_mark]; simp
  hi := by simp
theorem RsB.new (w : World) (r : Rs) (v : Value) (t : TypeId) : RsB (w.alloc (.cells #[.int .i64 r.s, v, .string r.b] t)) w.heap.size r v where
  c0 := World.cell?_alloc_mark _ _ _ _ _
  c1 := World.cell?_alloc_mark _ _ _ _ _
  c2 := World.cell?_alloc_mark _ _ _ _ _
  fz := fun k => by rw [World.frozen?_alloc_mark]; simp
  hi := by simp
theorem RqB.next {w w' : World} {b : Nat} {r : Rq} {v : Value} (h : RqB w b r v) (hb : Below w.heap.size w w') : RqB w' b r v := by
  have e : w'.heap[b]? = w.heap[b]? := hb.block b h.hi
  have k : ∀ k, w'.cell? ⟨b, k, none⟩ = w.cell? ⟨b, k, none⟩ := fun k => World.cell?_of_block (a := ⟨b, k, none⟩) e
  exact ⟨(k 0).trans h.c0, (k 1).trans h.c1, (k 2).trans h.c2, (k 3).trans h.c3, fun j => (World.frozen?_of_block (a := ⟨b, j, none⟩) e).trans (h.fz j), Nat.lt_of_lt_of_le h.hi hb.size⟩
theorem RsB.next {w w' : World} {b : Nat} {r : Rs} {v : Value} (h : RsB w b r v) (hb : Below w.heap.size w w') : RsB w' b r v := by
  have e : w'.heap[b]? = w.heap[b]? := hb.block b h.hi
  have k : ∀ k, w'.cell? ⟨b, k, none⟩ = w.cell? ⟨b, k, none⟩ := fun k => World.cell?_of_block (a := ⟨b, k, none⟩) e
  exact ⟨(k 0).trans h.c0, (k 1).trans h.c1, (k 2).trans h.c2, fun j => (World.frozen?_of_block (a := ⟨b, j, none⟩) e).trans (h.fz j), Nat.lt_of_lt_of_le h.hi hb.size⟩
theorem RqB.alloc {w : World} {b : Nat} {r : Rq} {v : Value} (h : RqB w b r v) (o : Obj) : RqB (w.alloc o) b r v := h.next ((Below.refl _ w).alloc (Nat.le_refl _) _)
theorem RsB.alloc {w : World} {b : Nat} {r : Rs} {v : Value} (h : RsB w b r v) (o : Obj) : RsB (w.alloc o) b r v := h.next ((Below.refl _ w).alloc (Nat.le_refl _) _)
theorem Fits.alloc {w : World} {v : Value} {l : List Fl} (h : Fits w v l) (o : Obj) : Fits (w.alloc o) v l := h.kept ((Below.refl _ w).alloc (Nat.le_refl _) _)
/-- What a walk is told of a request, of a response that came in. -/
def RqIn (w : World) (v : Value) (r : Rq) : Prop := Fits w v r.l ∧ r.m.size ≤ 1048576 ∧ r.t.size ≤ 1048576 ∧ r.b.size ≤ 1048576
def RsIn (w : World) (v : Value) (r : Rs) : Prop := Fits w v r.l ∧ r.b.size ≤ 1048576
theorem RqIn.kept {w w' : World} {v : Value} {r : Rq} (h : RqIn w v r) (hb : Below w.heap.size w w') : RqIn w' v r := ⟨h.1.kept hb, h.2⟩
theorem RsIn.kept {w w' : World} {v : Value} {r : Rs} (h : RsIn w v r) (hb : Below w.heap.size w w') : RsIn w' v r := ⟨h.1.kept hb, h.2⟩
end Go.Proofs.YtlngleinegkoeaaGreat
