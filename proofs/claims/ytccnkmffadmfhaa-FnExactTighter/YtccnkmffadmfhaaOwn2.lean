/-
  Some bytes appended to a row that a call owns, as one step of a region that draws.
-/
import Derived.Test.YtccnkmffadmfhaaOwn
import Derived.Deep.RegionLaw
namespace Go.Proofs.Ytccnkmffadmfhaa
open Go.RowKit

theorem OwnsB.empty (w : World) : OwnsB (w.alloc (.cells #[] 5)) w.heap.size (.slice (some ⟨w.heap.size, 0, none⟩) 0 0) [] :=
  World.ownsRow_lit w #[] 0 (Nat.le_refl _) (by unfold maxLen; decide) rfl
theorem addr_add (g o j : Nat) : (⟨g, o, none⟩ : Addr).add j = ⟨g, o + j, none⟩ := by
  unfold Addr.add
  by_cases e : j = 0
  · subst e; simp
  · simp [e]
/-- Behind a new block and a draw, what was owned is owned, and what grows by it grows from before. -/
theorem grown_from {w w' : World} {o : Obj} {r : Option Nat} (h : (w.alloc o).drew.grownBy w' r) : w.grownBy w' r :=
  ⟨h.os, h.tape, h.output, by have := h.size; simp at this; omega, fun k hk hne => by
    rw [h.block k (by simp; omega) hne]
    exact Below.heap_alloc _ _ _ hk⟩
theorem cells1 (w : World) (n : Int) (c : UInt8) (h0 : n = (c.toNat : Int)) : ∀ j (h : j < [c].length), (w.alloc (.cells #[.int .u8 n] 5)).cell? ((⟨w.heap.size, 0, none⟩ : Addr).add j) = some (.int .u8 (([c][j]'h).toNat : Int)) := by
  intro j h
  subst h0
  rw [addr_add, Nat.zero_add, World.cell?_alloc_mark]
  obtain rfl : j = 0 := by simp at h; omega
  rfl
theorem cells3 (w : World) (n0 n1 n2 : Int) (a b c : UInt8) (h0 : n0 = (a.toNat : Int)) (h1 : n1 = (b.toNat : Int)) (h2 : n2 = (c.toNat : Int)) : ∀ j (h : j < [a, b, c].length), (w.alloc (.cells #[.int .u8 n0, .int .u8 n1, .int .u8 n2] 5)).cell? ((⟨w.heap.size, 0, none⟩ : Addr).add j) = some (.int .u8 (([a, b, c][j]'h).toNat : Int)) := by
  intro j h
  subst h0 h1 h2
  rw [addr_add, Nat.zero_add, World.cell?_alloc_mark]
  rcases (show j = 0 ∨ j = 1 ∨ j = 2 from by simp at h; omega) with rfl | rfl | rfl <;> rfl
end Go.Proofs.Ytccnkmffadmfhaa
