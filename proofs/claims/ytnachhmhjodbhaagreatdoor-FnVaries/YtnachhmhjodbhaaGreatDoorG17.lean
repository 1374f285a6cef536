/-
  Slices of texts that a call owns (nil too): one text more, one text less, and how they are read.
-/
import Derived.Test.YtnachhmhjodbhaaGreatDoorRows
import Derived.Test.YtnachhmhjodbhaaGreatDoorG04
import Derived.Test.YtnachhmhjodbhaaGreatDoorG16
import Derived.WalkKit
import Derived.WalkSpells
import Derived.Lib.AppendStr
namespace Go.Proofs.YtnachhmhjodbhaaGreatDoor
open Go.RowKit

theorem Tryz.info9T : (Tryz.prog.info? 9).map (fun i => (i.zero, i.size, i.bytes)) = some (some (.string ⟨#[]⟩), 1, 16) := by kernel_rfl

/-- The value v owns the texts l, in a block from B on. -/
def OwnsT (w : World) (B : Nat) (v : Value) (l : List ByteArray) : Prop := w.ownsRow B 9 1 v l.length (l.map Value.string)
theorem OwnsT.born (w : World) : OwnsT (w.alloc (.cells #[] 9)) w.heap.size (.slice (some ⟨w.heap.size, 0, none⟩) 0 0) [] :=
  World.ownsRow_lit w #[] 0 (Nat.le_refl _) (by unfold maxLen; decide) rfl
theorem OwnsT.nil (w : World) (B : Nat) : OwnsT w B (.slice none 0 0) [] := World.ownsRow_nil w B 9 1
theorem OwnsT.alloc {w : World} {B : Nat} {v : Value} {l : List ByteArray} (h : OwnsT w B v l) (o : Obj) : OwnsT (w.alloc o) B v l := World.ownsRow.alloc h o
theorem OwnsT.drew {w : World} {B : Nat} {v : Value} {l : List ByteArray} (h : OwnsT w B v l) : OwnsT w.drew B v l := h
theorem OwnsT.kept {w w' : World} {B : Nat} {v : Value} {l : List ByteArray} (h : OwnsT w B v l) (hb : Below w.heap.size w w') : OwnsT w' B v l := by
  refine ⟨h.1, ?_⟩
  rcases h.2 with h0 | ⟨g, cap, cur, hv, hbg, hg, rest⟩
  · exact .inl h0
  · exact .inr ⟨g, cap, cur, hv, hbg, by rw [hb.block g (Array.getElem?_eq_some_iff.1 hg).1]; exact hg, rest⟩
theorem OwnsT.from {w : World} {B : Nat} {v : Value} {l : List ByteArray} (h : OwnsT w B v l) : ∀ k, v.ownBlock = some k → B ≤ k := fun k hk => (World.ownsRow.lt h k hk).1
theorem OwnsT.low {w : World} {B B' : Nat} {v : Value} {l : List ByteArray} (h : OwnsT w B v l) (hB : B' ≤ B) : OwnsT w B' v l := by
  refine ⟨h.1, ?_⟩
  rcases h.2 with h0 | ⟨g, cap, cur, hv, hb, hg, rest⟩
  · exact .inl h0
  · exact .inr ⟨g, cap, cur, hv, by omega, hg, rest⟩
/-- An owned slice that is not empty, opened: where it lies, and what its cells hold. -/
theorem OwnsT.open {w : World} {B : Nat} {v : Value} {l : List ByteArray} (h : OwnsT w B v l) (hl : l ≠ []) : ∃ g cap, v = .slice (some ⟨g, 0, none⟩) l.length cap ∧ B ≤ g ∧ g < w.heap.size ∧ l.length ≤ cap ∧ ∀ j x, l[j]? = some x → w.cell? ⟨g, j, none⟩ = some (.string x) := by
  have hh := h
  rcases h.2 with ⟨_, h0⟩ | ⟨g, cap, cur, rfl, hb, hg, hc, hm, rest⟩
  · exact absurd (List.eq_nil_of_length_eq_zero h0) hl
  · refine ⟨g, cap, rfl, hb, (Array.getElem?_eq_some_iff.1 hg).1, hc, fun j x hx => ?_⟩
    have := World.ownsRow.cells hh (g := g) rfl j (.string x) (by rw [List.getElem?_map, hx]; rfl)
    rw [addr_add, Nat.zero_add] at this
    exact this
theorem OwnsT.form {w : World} {B : Nat} {v : Value} {l : List ByteArray} (h : OwnsT w B v l) : ∃ a cap, v = .slice a l.length cap := by
  rcases h.2 with ⟨rfl, h0⟩ | ⟨g, cap, cur, rfl, _⟩
  · exact ⟨none, 0, by rw [h0]⟩
  · exact ⟨_, cap, rfl⟩
theorem OwnsB.form {w : World} {B : Nat} {v : Value} {l : List UInt8} (h : OwnsB w B v l) : ∃ a cap, v = .slice a l.length cap := by
  rcases h.2 with ⟨rfl, h0⟩ | ⟨g, cap, cur, rfl, _⟩
  · exact ⟨none, 0, by rw [h0]⟩
  · exact ⟨_, cap, rfl⟩
/-- One text appended. -/
theorem wpList_pushT {ops : Array Oper} {rest : List Oper} {o : Oper} {a : Act} {Q : Exit → Act → World → Prop} (w : World) (hgd : o.guard = none) (s x : Operand)
    (ho : o.op = .call { callee := .builtin .append, args := #[s, x], argTypes := #[61, 61] }) (B : Nat) (v : Value) (l : List ByteArray) (c : ByteArray) (hs : a.eval s = v) (hown : OwnsT w B v l)
    (hx : a.eval x = .slice (some ⟨w.heap.size, 0, none⟩) 1 1) (hlen : l.length ≤ 7000000000000) (hB : B ≤ w.heap.size)
    (h : ∀ v' w', OwnsT w' B v' (l ++ [c]) → w.grownBy w' v.ownBlock → wpList Tryz.prog ops Q rest (a.put o.dst v') w') :
    wpList Tryz.prog ops Q (o :: rest) a (w.alloc (.cells #[.string c] 9)) := by
  obtain ⟨i0, hi, hz0, hz1, hz2⟩ := info_parts Tryz.info9T
  refine wpList_append_own _ hgd s x 61 ho B 9 i0 (.string ⟨#[]⟩) 1 16 Tryz.underlying61 hi hz0 hz1 hz2 rfl (by decide) v l.length (l.map Value.string) hs (OwnsT.alloc hown _) ⟨w.heap.size, 0, none⟩ 1 1 [.string c] hx rfl (cell_one_new _ _ _)
    (by intro u hu; simp at hu; subst hu; rfl) (by unfold maxLen; omega) (by omega) (by simp; omega) ?_
  intro v' w' h1 h2 h3
  refine h v' w' ?_ ⟨h2.os, h2.tape, h2.output, ?_, ?_⟩
  · unfold OwnsT
    rw [List.map_append, List.length_append]
    exact h1
  · have := h2.size
    simp at this
    omega
  · intro k hk hne
    rw [h2.block k (by simp; omega) hne]
    exact Below.heap_alloc _ _ _ hk
end Go.Proofs.YtnachhmhjodbhaaGreatDoor
