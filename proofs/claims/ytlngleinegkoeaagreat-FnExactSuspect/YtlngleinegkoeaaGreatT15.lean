/-
  The specification's policy by its contracts: keys, moments, what is a right object.
-/
import Derived.Test.YtlngleinegkoeaaGreatT09
import Derived.Test.YtlngleinegkoeaaGreatT11
import Derived.Test.YtlngleinegkoeaaGreatT06
import Derived.Test.YtlngleinegkoeaaGreatT07
import Derived.Test.YtlngleinegkoeaaGreatRows
import Derived.Test.YtlngleinegkoeaaGreatT05
import Derived.WalkKit
import Derived.WalkSpells
import Derived.Test.YtlngleinegkoeaaGreatT04
import Derived.Laws.RangeAny
import Derived.Test.YtlngleinegkoeaaGreatT10
import Derived.Deep.RegionWith
import Derived.Test.YtlngleinegkoeaaGreatT14
namespace Go.Proofs.YtlngleinegkoeaaGreat
open Go.RowKit Go.Sort
/-- The cells of an object in block b. -/
structure ObB (w : World) (b : Nat) (o : Ob) (v u : Value) : Prop where
  c0 : w.cell? ⟨b, 0, none⟩ = some (.string o.k)
  c1 : w.cell? ⟨b, 1, none⟩ = some v
  c2 : w.cell? ⟨b, 2, none⟩ = some (.int .i64 o.r.s)
  c3 : w.cell? ⟨b, 3, none⟩ = some u
  c4 : w.cell? ⟨b, 4, none⟩ = some (.string o.r.b)
  c5 : w.cell? ⟨b, 5, none⟩ = some (.int .i64 o.asked)
  c6 : w.cell? ⟨b, 6, none⟩ = some (.int .i64 o.got)
  c7 : w.cell? ⟨b, 7, none⟩ = some (.int .i64 o.ep)
  fz : ∀ k, w.frozen? ⟨b, k, none⟩ = false
  hi : b < w.heap.size
theorem ObB.new (w : World) (o : Ob) (v u : Value) (t : TypeId) : ObB (w.alloc (.cells #[.string o.k, v, .int .i64 o.r.s, u, .string o.r.b, .int .i64 o.asked, .int .i64 o.got, .int .i64 o.ep] t)) w.heap.size o v u where
  c0 := World.cell?_alloc_mark _ _ _ _ _
  c1 := World.cell?_alloc_mark _ _ _ _ _
  c2 := World.cell?_alloc_mark _ _ _ _ _
  c3 := World.cell?_alloc_mark _ _ _ _ _
  c4 := World.cell?_alloc_mark _ _ _ _ _
  c5 := World.cell?_alloc_mark _ _ _ _ _
  c6 := World.cell?_alloc_mark _ _ _ _ _
  c7 := World.cell?_alloc_mark _ _ _ _ _
  fz := fun k => by rw [World.frozen?_alloc_mark]; simp
  hi := by simp
theorem ObB.next {w w' : World} {b : Nat} {o : Ob} {v u : Value} (h : ObB w b o v u) (hb : Below w.heap.size w w') : ObB w' b o v u := by
  have e : w'.heap[b]? = w.heap[b]? := hb.block b h.hi
  have k : ∀ k, w'.cell? ⟨b, k, none⟩ = w.cell? ⟨b, k, none⟩ := fun k => World.cell?_of_block (a := ⟨b, k, none⟩) e
  exact ⟨(k 0).trans h.c0, (k 1).trans h.c1, (k 2).trans h.c2, (k 3).trans h.c3, (k 4).trans h.c4, (k 5).trans h.c5, (k 6).trans h.c6, (k 7).trans h.c7, fun j => (World.frozen?_of_block (a := ⟨b, j, none⟩) e).trans (h.fz j), Nat.lt_of_lt_of_le h.hi hb.size⟩
/-- What a walk is told of an object that came in. -/
def ObIn (w : World) (v u : Value) (o : Ob) : Prop := Fits w v o.l ∧ RsIn w u o.r ∧ o.k.size ≤ 1048576
theorem ObIn.kept {w w' : World} {v u : Value} {o : Ob} (h : ObIn w v u o) (hb : Below w.heap.size w w') : ObIn w' v u o := ⟨h.1.kept hb, h.2.1.kept hb, h.2.2⟩
theorem Fits.form {w : World} {v : Value} {l : List Fl} (h : Fits w v l) : ∃ a cap, v = .slice a l.length cap := by
  obtain ⟨a, cap, hv, _⟩ := h.1
  exact ⟨a, cap, hv⟩
end Go.Proofs.YtlngleinegkoeaaGreat
