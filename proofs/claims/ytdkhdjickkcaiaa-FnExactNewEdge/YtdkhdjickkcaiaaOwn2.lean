/-
  Some bytes appended to a row that a call owns, as one step of a region that draws.
-/
import Derived.Test.YtdkhdjickkcaiaaOwn
import Derived.Deep.RegionLaw
namespace Go.Proofs.Ytdkhdjickkcaiaa
open Go.RowKit

theorem OwnsB.empty (w : World) : OwnsB (w.alloc (.cells #[] 5)) w.heap.size (.slice (some ⟨w.heap.size, 0, none⟩) 0 0) [] :=
  World.ownsRow_lit w #[] 0 (Nat.le_refl _) (by unfold maxLen; decide) rfl
theorem addr_add (g o j : Nat) : (⟨g, o, none⟩ : Addr).add j = ⟨g, o + j, none⟩ := by
  unfold Addr.add
  by_cases e : j = 0
  · subst e; simp
  · simp [e]
/-- Some bytes appended to an owned row, as one step. -/
theorem step_own {ops : Array Oper} {o : Oper} {a : Act} {w : World} {K : Act → World → Prop} {Q : Exit → Act → World → Prop} {E : Prop} (hg : o.guard = none) (s x : Operand)
    (ho : o.op = .call { callee := .builtin .append, args := #[s, x], argTypes := #[107, 107] }) (B : Nat) (v : Value) (l : List UInt8) (hs : a.eval s = v) (hown : OwnsB w B v l)
    (ad : Addr) (c : Nat) (news : List UInt8) (hx : a.eval x = .slice (some ad) news.length c) (hnews : ∀ j (h : j < news.length), w.cell? (ad.add j) = some (.int .u8 (news[j].toNat : Int)))
    (hlen : l.length + news.length ≤ 1000000) (hB : B ≤ w.heap.size)
    (h : ∀ v' w', OwnsB w' B v' (l ++ news) → w.grownBy w' v.ownBlock → (v ≠ .slice none 0 0 → v' ≠ .slice none 0 0) → K (a.put o.dst v') w') :
    if Region.wanted o (yielded ops a.tmps) = true then Oper.wp Try.prog o a w K Q else E := by
  have hw : Region.wanted o (yielded ops a.tmps) = true := by simp [Region.wanted, hg]
  rw [if_pos hw]
  obtain ⟨i0, hi, hz0, hz1, hz2⟩ := info_parts Try.info5
  refine wp_append_own w s x 107 ho B 5 i0 (.int .u8 0) 1 1 Try.underlying107 hi hz0 hz1 hz2 rfl (by decide) v l.length (bytesV l) hs hown ad news.length c (bytesV news) hx (by simp [bytesV]) (fun j u hu => ?_)
    (by intro u hu; simp [bytesV] at hu; obtain ⟨c, _, rfl⟩ := hu; rfl) (by unfold maxLen; omega) (by omega) hB ?_
  · have hj : j < news.length := by
      have := (List.getElem?_eq_some_iff.1 hu).1
      simpa [bytesV] using this
    rw [hnews j hj]
    simp [bytesV, hj] at hu
    rw [hu]
  · intro v' w' h1 h2 h3
    refine h v' w' ?_ h2 (fun hv hv' => hv (h3.1 hv').1)
    unfold OwnsB bytesV
    rw [List.map_append, List.length_append]
    exact h1
/-- Behind a new block and a draw, what was owned is owned, and what grows by it grows from before. -/
theorem grown_from {w w' : World} {o : Obj} {r : Option Nat} (h : (w.alloc o).drew.grownBy w' r) : w.grownBy w' r :=
  ⟨h.os, h.tape, h.output, by have := h.size; simp at this; omega, fun k hk hne => by
    rw [h.block k (by simp; omega) hne]
    exact Below.heap_alloc _ _ _ hk⟩
theorem cells1 (w : World) (n : Int) (c : UInt8) (h0 : n = (c.toNat : Int)) : ∀ j (h : j < [c].length), (w.alloc (.cells #[.int .u8 n] 5)).cell? ((⟨w.heap.size, 0, none⟩ : Addr).add j) = some (.int .u8 (([c][j]'h).toNat : Int)) := by
  intro j h
  subst h0
  rw [addr_add, Nat.zero_add, World.cell?_alloc_mark]
  obtain rfl : j = 0 := by simp at h; omega
  rfl
theorem cells3 (w : World) (n0 n1 n2 : Int) (a b c : UInt8) (h0 : n0 = (a.toNat : Int)) (h1 : n1 = (b.toNat : Int)) (h2 : n2 = (c.toNat : Int)) : ∀ j (h : j < [a, b, c].length), (w.alloc (.cells #[.int .u8 n0, .int .u8 n1, .int .u8 n2] 5)).cell? ((⟨w.heap.size, 0, none⟩ : Addr).add j) = some (.int .u8 (([a, b, c][j]'h).toNat : Int)) := by
  intro j h
  subst h0 h1 h2
  rw [addr_add, Nat.zero_add, World.cell?_alloc_mark]
  rcases (show j = 0 ∨ j = 1 ∨ j = 2 from by simp at h; omega) with rfl | rfl | rfl <;> rfl
end Go.Proofs.Ytdkhdjickkcaiaa
