/-
  A row of bytes that a call makes and appends to, one byte at a time; and the text that such a row is turned into.
-/
import Derived.Test.YtdkhdjickkcaiaaRows
import Derived.Test.YtdkhdjickkcaiaaPlain4
import Derived.WalkKit
import Derived.WalkSpells
import Derived.Lib.OthersKept
namespace Go.Proofs.Ytdkhdjickkcaiaa
open Go.RowKit

theorem Try.info5 : (Try.prog.info? 5).map (fun i => (i.zero, i.size, i.bytes)) = some (some (.int .u8 0), 1, 1) := by kernel_rfl

/-- Bytes as cells. -/
def bytesV (l : List UInt8) : List Value := l.map fun c => .int .u8 (c.toNat : Int)
theorem bytesV_snoc (l : List UInt8) (c : UInt8) : bytesV (l ++ [c]) = bytesV l ++ [.int .u8 (c.toNat : Int)] := by simp [bytesV]
theorem bytesV_length (l : List UInt8) : (bytesV l).length = l.length := by simp [bytesV]

/-- The value v owns the bytes l, in a block from B on. -/
def OwnsB (w : World) (B : Nat) (v : Value) (l : List UInt8) : Prop := w.ownsRow B 5 1 v l.length (bytesV l)

theorem OwnsB.alloc {w : World} {B : Nat} {v : Value} {l : List UInt8} (h : OwnsB w B v l) (o : Obj) : OwnsB (w.alloc o) B v l := World.ownsRow.alloc h o
theorem OwnsB.drew {w : World} {B : Nat} {v : Value} {l : List UInt8} (h : OwnsB w B v l) : OwnsB w.drew B v l := h
theorem OwnsB.nil (w : World) (B : Nat) : OwnsB w B (.slice none 0 0) [] := World.ownsRow_nil w B 5 1
theorem OwnsB.one (w : World) (c : UInt8) : OwnsB (w.alloc (.cells #[.int .u8 (c.toNat : Int)] 5)) w.heap.size (.slice (some ⟨w.heap.size, 0, none⟩) 1 1) [c] :=
  World.ownsRow_lit w #[.int .u8 (c.toNat : Int)] 1 (Nat.le_refl _) (by unfold maxLen; decide) rfl
theorem OwnsB.iterAt {w : World} {B : Nat} {v : Value} {l : List UInt8} {k : Nat} {s : ByteArray} {pos : Nat} (h : OwnsB w B v l) (hk : w.heap[k]? = some (.stringIter s pos)) (pos' : Nat) : OwnsB (w.iterAt k s pos') B v l := by
  refine ⟨h.1, ?_⟩
  rcases h.2 with h0 | ⟨g, cap, cur, hv, hb, hg, rest⟩
  · exact .inl h0
  · refine .inr ⟨g, cap, cur, hv, hb, ?_, rest⟩
    rw [Lib.iterAt_other _ _ _ _ _ (fun e => by subst e; rw [hk] at hg; cases hg)]
    exact hg
theorem OwnsB.noIter {w : World} {B : Nat} {v : Value} {l : List UInt8} {k : Nat} {s : ByteArray} {pos : Nat} (h : OwnsB w B v l) (hk : w.heap[k]? = some (.stringIter s pos)) : some k ≠ v.ownBlock := by
  rcases h.2 with ⟨rfl, _⟩ | ⟨g, cap, cur, rfl, hb, hg, rest⟩
  · simp [Value.ownBlock]
  · intro e
    simp only [Value.ownBlock, Option.some.injEq] at e
    subst e
    rw [hk] at hg
    cases hg
theorem OwnsB.from {w : World} {B : Nat} {v : Value} {l : List UInt8} (h : OwnsB w B v l) : ∀ k, v.ownBlock = some k → B ≤ k := fun k hk => (World.ownsRow.lt h k hk).1
theorem OwnsB.low {w : World} {B B' : Nat} {v : Value} {l : List UInt8} (h : OwnsB w B v l) (hB : B' ≤ B) : OwnsB w B' v l := by
  refine ⟨h.1, ?_⟩
  rcases h.2 with h0 | ⟨g, cap, cur, hv, hb, hg, rest⟩
  · exact .inl h0
  · exact .inr ⟨g, cap, cur, hv, by omega, hg, rest⟩
/-- What was owned before is owned behind a step that keeps all blocks below n, if its own block lies there. -/
theorem OwnsB.kept {w w' : World} {B : Nat} {v : Value} {l : List UInt8} (h : OwnsB w B v l) (hb : Below w.heap.size w w') : OwnsB w' B v l := by
  refine ⟨h.1, ?_⟩
  rcases h.2 with h0 | ⟨g, cap, cur, hv, hbg, hg, rest⟩
  · exact .inl h0
  · exact .inr ⟨g, cap, cur, hv, hbg, by rw [hb.block g (Array.getElem?_eq_some_iff.1 hg).1]; exact hg, rest⟩

/-- The owned bytes as a text. -/
theorem OwnsB.text {w : World} {B : Nat} {v : Value} {l : List UInt8} (h : OwnsB w B v l) : (convert 107 9 v).run Try.prog w = .ok (.string ⟨l.toArray⟩) w := by
  rcases h.2 with ⟨rfl, hn⟩ | ⟨g, cap, cur, rfl, hb, hg, rest⟩
  · have e : l = [] := List.eq_nil_of_length_eq_zero hn
    subst e
    rw [run_convert_bytes_string w 107 9 5 none 0 0 Try.underlying107 Try.underlying5 Try.underlying9]
    rfl
  · refine run_convert_bytes_back (P := Try.prog) w 107 9 5 ⟨g, 0, none⟩ cap l Try.underlying107 Try.underlying5 Try.underlying9 (fun j hj => ?_)
    refine World.ownsRow.cells h (g := g) rfl j _ ?_
    simp [bytesV, hj]

/-- One byte appended. -/
theorem wpList_push {ops : Array Oper} {rest : List Oper} {o : Oper} {a : Act} {Q : Exit → Act → World → Prop} (w : World) (hgd : o.guard = none) (s x : Operand)
    (ho : o.op = .call { callee := .builtin .append, args := #[s, x], argTypes := #[107, 107] }) (B : Nat) (v : Value) (l : List UInt8) (n : Int) (c : UInt8) (hc : n = (c.toNat : Int)) (hs : a.eval s = v) (hown : OwnsB w B v l)
    (hx : a.eval x = .slice (some ⟨w.heap.size, 0, none⟩) 1 1) (hlen : l.length ≤ 70000000000000) (hB : B ≤ w.heap.size)
    (h : ∀ v' w', OwnsB w' B v' (l ++ [c]) → w.grownBy w' v.ownBlock → wpList Try.prog ops Q rest (a.put o.dst v') w') :
    wpList Try.prog ops Q (o :: rest) a (w.alloc (.cells #[.int .u8 n] 5)) := by
  subst hc
  obtain ⟨i0, hi, hz0, hz1, hz2⟩ := info_parts Try.info5
  refine wpList_append_own _ hgd s x 107 ho B 5 i0 (.int .u8 0) 1 1 Try.underlying107 hi hz0 hz1 hz2 rfl (by decide) v l.length (bytesV l) hs (OwnsB.alloc hown _) ⟨w.heap.size, 0, none⟩ 1 1 [.int .u8 (c.toNat : Int)] hx rfl (cell_one_new _ _ _)
    (by intro u hu; simp at hu; subst hu; rfl) (by unfold maxLen; omega) (by omega) (by simp; omega) ?_
  intro v' w' h1 h2 _
  refine h v' w' ?_ ⟨h2.os, h2.tape, h2.output, ?_, ?_⟩
  · unfold OwnsB
    rw [bytesV_snoc, List.length_append]
    exact h1
  · have := h2.size
    simp at this
    omega
  · intro k hk hne
    rw [h2.block k (by simp; omega) hne]
    exact Below.heap_alloc _ _ _ hk
end Go.Proofs.Ytdkhdjickkcaiaa
