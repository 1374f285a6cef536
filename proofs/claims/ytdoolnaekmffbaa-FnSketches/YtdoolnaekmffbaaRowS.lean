/-
  A slice that lies anywhere, nil or not, appended to a row of one's own.
-/
import Derived.Test.YtdoolnaekmffbaaRowE
import Derived.Tactics
namespace Go.Proofs.Ytdoolnaekmffbaa
open Go.RowKit
set_option linter.unusedVariables false

theorem Sls.form0 {α : Type} {E : Enc α} {w : World} {v : Value} {m : List α} (h : Sls E w v m) : ∃ a cap, v = .slice a m.length cap ∧ m.length ≤ cap := by
  obtain ⟨a, cap, e, h1, _⟩ := h
  exact ⟨a, cap, e, h1⟩
theorem Sls.cells {α : Type} {E : Enc α} {w : World} {ad : Addr} {n c : Nat} {m : List α} (h : Sls E w (.slice (some ad) n c) m) : ∀ j u, (cellsE E m)[j]? = some u → w.cell? (ad.add j) = some u := by
  intro j u hu
  obtain ⟨a, cap, e, _, _, h3⟩ := h
  injection e with e1 _ _
  have h0 : 0 < m.length := by
    rcases Nat.eq_zero_or_pos m.length with h0 | h0
    · rw [List.eq_nil_of_length_eq_zero h0] at hu
      simp [cellsE] at hu
    · exact h0
  obtain ⟨g, o, ha, _, hc⟩ := h3 h0
  rw [ha] at e1
  injection e1 with e1
  subst e1
  rw [addr_add]
  exact hc j u hu
theorem run_noneS {α : Type} {P : Program} {ts te ot : TypeId} {w : World} {B : Nat} {v : Value} {l : List α} {c : Nat} (En : Enc α) (i0 : TypeInfo) (hts : P.underlying ts = some (.slice te)) (hi : P.info? te = some i0) (hown : OwnsE En te w B v l) : (Builtin.append_ #[ts, ts] ot #[v, .slice none 0 c]).run P w = .ok v w := by
  rcases hown.2 with ⟨rfl, hz⟩ | ⟨g, cap, cur, rfl, _, _, hnc, _⟩
  · simp [Builtin.append_, run_underlying hts, sizeOf, typeInfo, hi, Builtin.lenOf, Builtin.firstCells]
  · simp [Builtin.append_, run_underlying hts, sizeOf, typeInfo, hi, Builtin.lenOf, Builtin.firstCells, hnc, storeCells]
/-- The elements m, wherever they lie, appended. -/
theorem wpList_rowS {α : Type} {E : Enc α} {P : Program} {ops : Array Oper} {rest : List Oper} {o : Oper} {a : Act} {Q : Exit → Act → World → Prop} (w : World) (hgd : o.guard = Option.none) (s x : Operand) (ts te : TypeId) (z : Value) (bytes : Nat)
    (hts : P.underlying ts = some (.slice te)) (hinfo : (P.info? te).map (fun i => (i.zero, i.size, i.bytes)) = some (some z, E.k, bytes)) (hz : z.cells.size = E.k)
    (ho : o.op = .call { callee := .builtin .append, args := #[s, x], argTypes := #[ts, ts] }) (B : Nat) (v : Value) (l : List α) (hs : a.eval s = v) (hown : OwnsE E te w B v l)
    (vx : Value) (m : List α) (hx : a.eval x = vx) (hsl : Sls E w vx m)
    (h63 : l.length + m.length ≤ maxLen) (hbytes : (l.length + m.length) * bytes ≤ 140737488355328) (hB : B ≤ w.heap.size)
    (h : ∀ v' w', OwnsE E te w' B v' (l ++ m) → w.grownBy w' v.ownBlock → (v' = .slice Option.none 0 0 → v = .slice Option.none 0 0) → wpList P ops Q rest (a.put o.dst v') w') :
    wpList P ops Q (o :: rest) a w := by
  obtain ⟨ax, cx, rfl, _⟩ := hsl.form0
  cases ax with
  | none =>
    have hm : m = [] := by
      obtain ⟨a', c', e, _, _, h3⟩ := hsl
      injection e with e1 _ _
      rcases Nat.eq_zero_or_pos m.length with h0 | h0
      · exact List.eq_nil_of_length_eq_zero h0
      · obtain ⟨g, o', ha, _⟩ := h3 h0
        rw [ha] at e1
        cases e1
    subst hm
    obtain ⟨i0, hi, _⟩ := info_parts hinfo
    refine wpList_plain hgd fun K hK => ?_
    have hrun := run_noneS (c := cx) (ot := o.type) E i0 hts hi hown
    have hx' : a.eval x = .slice none 0 cx := hx
    unfold Oper.wp
    simp [execOp, ho, resolve, invoke, builtin, hs, hx', hrun, Result.andThen]
    refine hK _ _ (h v w (by rw [List.append_nil]; exact hown) (grownE_self _ _) id)
  | some ad =>
    refine wpList_rowE (E := E) w hgd s x ts te z bytes hts hinfo hz ho B v l hs hown ad cx m hx hsl.cells h63 hbytes hB ?_
    intro v' w' h1 h2 h3
    exact h v' w' h1 h2 (fun e => (h3.1 e).1)
end Go.Proofs.Ytdoolnaekmffbaa
