/-
  The bytes of a text appended to a row of bytes that a call owns; what stays where such a row grows.
-/
import Derived.Test.YtkoikofaebfbjaaOwn2
import Derived.WalkKit
import Derived.WalkSpells
import Derived.Lib.AppendStr
namespace Go.Proofs.Ytkoikofaebfbjaa
open Go.RowKit

theorem wpList_pushStr {ops : Array Oper} {rest : List Oper} {o : Oper} {a : Act} {Q : Exit → Act → World → Prop} (w : World) (hgd : o.guard = none) (s x : Operand)
    (ho : o.op = .call { callee := .builtin .append, args := #[s, x], argTypes := #[48, 9] }) (B : Nat) (v : Value) (l : List UInt8) (t : ByteArray) (hs : a.eval s = v) (hown : OwnsB w B v l)
    (hx : a.eval x = .string t) (hlen : l.length + t.size ≤ 1000000) (hB : B ≤ w.heap.size)
    (h : ∀ v' w', OwnsB w' B v' (l ++ t.data.toList) → w.grownBy w' v.ownBlock → wpList Try.prog ops Q rest (a.put o.dst v') w') :
    wpList Try.prog ops Q (o :: rest) a w := by
  obtain ⟨i0, hi, hz0, hz1, hz2⟩ := info_parts Try.info5
  refine Lib.wpList_append_own_string _ hgd s x 48 9 ho B 5 i0 Try.underlying48 Try.underlying9 hi hz0 hz1 hz2 v l.length (bytesV l) hs hown t hx (by unfold maxLen; omega) (by omega) hB ?_
  intro v' w' h1 h2 _
  refine h v' w' ?_ h2
  unfold OwnsB
  have e : bytesV (l ++ t.data.toList) = bytesV l ++ Lib.strCells t := by
    unfold bytesV Lib.strCells
    rw [List.map_append]
  rw [e, List.length_append, show t.data.toList.length = t.size from by simp]
  exact h1
/-- The same, as one step of a region that draws its order. -/
theorem step_ownStr {ops : Array Oper} {o : Oper} {a : Act} {w : World} {K : Act → World → Prop} {Q : Exit → Act → World → Prop} {E : Prop} (hg : o.guard = none) (s x : Operand)
    (ho : o.op = .call { callee := .builtin .append, args := #[s, x], argTypes := #[48, 9] }) (B : Nat) (v : Value) (l : List UInt8) (t : ByteArray) (hs : a.eval s = v) (hown : OwnsB w B v l)
    (hx : a.eval x = .string t) (hlen : l.length + t.size ≤ 1000000) (hB : B ≤ w.heap.size)
    (h : ∀ v' w', OwnsB w' B v' (l ++ t.data.toList) → w.grownBy w' v.ownBlock → K (a.put o.dst v') w') :
    if Region.wanted o (yielded ops a.tmps) = true then Oper.wp Try.prog o a w K Q else E := by
  have hw : Region.wanted o (yielded ops a.tmps) = true := by simp [Region.wanted, hg]
  rw [if_pos hw]
  obtain ⟨i0, hi, hz0, hz1, hz2⟩ := info_parts Try.info5
  obtain ⟨v', w', hr, h2, h3, h4⟩ := Lib.run_append_own_string (P := Try.prog) w B 48 9 o.type 5 i0 Try.underlying48 Try.underlying9 hi hz0 hz1 hz2 v l.length (bytesV l) hown t (by unfold maxLen; omega) (by omega) hB
  unfold Oper.wp execOp
  simp only [ho, resolve, invoke, builtin, Sem.run_bind, Sem.run_pure, Result.andThen_ok, List.map_toArray, List.map_cons, List.map_nil, hs, hx, hr]
  refine h v' w' ?_ h3
  unfold OwnsB
  have e : bytesV (l ++ t.data.toList) = bytesV l ++ Lib.strCells t := by
    unfold bytesV Lib.strCells
    rw [List.map_append]
  rw [e, List.length_append, show t.data.toList.length = t.size from by simp]
  exact h2
theorem grown_cell {w w' : World} {r : Option Nat} {b j : Nat} {v : Value} (h : w.grownBy w' r) (hc : w.cell? ⟨b, j, none⟩ = some v) (hb : b < w.heap.size) (hne : ∀ k, r = some k → k ≠ b) : w'.cell? ⟨b, j, none⟩ = some v := by
  rw [← hc]
  simp only [World.cell?]
  rw [h.block b hb (fun e => hne b e.symm rfl)]
theorem OwnsB.under {w : World} {B : Nat} {v : Value} {l : List UInt8} (h : OwnsB w B v l) : ∀ k, v.ownBlock = some k → k < w.heap.size := fun k hk => (World.ownsRow.lt h k hk).2
end Go.Proofs.Ytkoikofaebfbjaa
