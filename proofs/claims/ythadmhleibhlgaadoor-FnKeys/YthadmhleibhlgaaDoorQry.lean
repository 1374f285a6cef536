/-
  The contract of the specification's SortedQuery.
-/
import Derived.Test.YthadmhleibhlgaaDoorSrt
import Derived.Test.YthadmhleibhlgaaDoorSpl
import Derived.Test.YthadmhleibhlgaaDoorPth
namespace Go.Proofs.YthadmhleibhlgaaDoor
open Go.RowKit

theorem below_drew' {n : Nat} {w w' : World} (h : Below n w w') (o : Obj) (hn : n ≤ w'.heap.size) : Below n w (w'.drew.alloc o) := by
  have h2 := h.alloc hn o
  exact ⟨h2.os, h2.tape, h2.output, h2.size, h2.block⟩
/-- The first text appended to a slice that has none and no room. -/
theorem wpList_pushT0 {ops : Array Oper} {rest : List Oper} {o : Oper} {a : Act} {Q : Exit → Act → World → Prop} (w : World) (hgd : o.guard = none) (s x : Operand)
    (ho : o.op = .call { callee := .builtin .append, args := #[s, x], argTypes := #[32, 32] }) (b : Nat) (c : ByteArray) (hs : a.eval s = .slice (some ⟨b, 0, none⟩) 0 0)
    (hx : a.eval x = .slice (some ⟨w.heap.size, 0, none⟩) 1 1)
    (h : ∀ v' w', OwnsT w' w.heap.size v' [c] → Below w.heap.size w w' → wpList Tryd.prog ops Q rest (a.put o.dst v') w') :
    wpList Tryd.prog ops Q (o :: rest) a (w.alloc (.cells #[.string c] 9)) := by
  obtain ⟨i0, hi, hz0, hz1, hz2⟩ := info_parts Tryd.info9
  refine wpList_plain hgd fun K hK => ?_
  have hr := run_append_grow (P := Tryd.prog) (w.alloc (.cells #[.string c] 9)) 32 o.type 9 i0 (.string ⟨#[]⟩) Tryd.underlying32 hi hz0 ⟨b, 0, none⟩ 0 0 [] (by simp) (by simp) ⟨w.heap.size, 0, none⟩ 1 1 [.string c] (by rw [hz1]; rfl) (cell_one_new _ _ _) (by decide) (by decide)
    (by rw [show 0 + 1 = 1 from rfl, nextslicecap_zero (by decide), hz2]; decide)
  unfold Oper.wp execOp
  simp only [ho, resolve, invoke, builtin, Sem.run_bind, Sem.run_pure, Result.andThen_ok, List.map_toArray, List.map_cons, List.map_nil, hs, hx, hr]
  refine hK _ _ (h _ _ ?_ ?_)
  · have hge := grownCap_ge (w.alloc (.cells #[.string c] 9)) (0 + 1) 0 9
    have hle := grownCap_le_maxLen (w.alloc (.cells #[.string c] 9)) (0 + 1) 0 9 (by unfold maxLen; decide)
    generalize grownCap (w.alloc (.cells #[.string c] 9)) (0 + 1) 0 9 = cp at hge hle
    have hC1 : (([] : List Value).toArray ++ [Value.string c].toArray ++ Builtin.zeroCells (Value.string ⟨#[]⟩).cells (cp - (0 + 1))).size = cp * 1 := by
      rw [Array.size_append, size_zeroCells]
      show 1 + (cp - (0 + 1)) * 1 = cp * 1
      omega
    have hC2 : (([] : List Value).toArray ++ [Value.string c].toArray ++ Builtin.zeroCells (Value.string ⟨#[]⟩).cells (cp - (0 + 1))).toList.take ([c].length * 1) = [c].map Value.string := by
      simp
    generalize (([] : List Value).toArray ++ [Value.string c].toArray ++ Builtin.zeroCells (Value.string ⟨#[]⟩).cells (cp - (0 + 1))) = C at hC1 hC2
    refine ⟨rfl, .inr ⟨_, cp, C, rfl, by simp, ?_, hge, hle, hC1, hC2⟩⟩
    show ((w.alloc (.cells #[.string c] 9)).heap.push _)[(w.alloc (.cells #[.string c] 9)).heap.size]? = _
    rw [Array.getElem?_push_size]
  · exact below_drew' ((Below.refl _ w).alloc (Nat.le_refl _) _) _ (by simp)
end Go.Proofs.YthadmhleibhlgaaDoor
