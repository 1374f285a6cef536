/-
  A map of methods that are bound to one struct, by texts: put together key by key, and asked.
-/
import Derived.Test.YtccnkmffadmfhaaDoorRowE
import Derived.Maps.OwnSet
import Derived.Handy
namespace Go.Proofs.YtccnkmffadmfhaaDoor
open Go.RowKit Go.Maps Go.ChangeMaps Go.WideMaps
set_option linter.unusedVariables false

theorem keyedF : Keyed Tryd.prog 9 := string_keyed Tryd.underlying9
def keyF (s : ByteArray) : Lit := .string s.data.toList
theorem keyF_of {s : ByteArray} (hs : s.size ≤ maxLen) : keyOf Tryd.prog 9 (.string s) = some (keyF s) := keyOf_string_mk Tryd.underlying9 hs
theorem keyF_ne {a b : ByteArray} (h : ¬ a = b) : keyF a ≠ keyF b := fun e => h (by
  have e2 : a.data.toList = b.data.toList := by simpa [keyF] using e
  cases a; cases b; simp at e2; rw [e2])
theorem keyF_key (s : ByteArray) : WideAt.IsKeyLit (keyF s) := trivial
/-- The method j, bound to the struct in block p. -/
def bound (p j : Nat) : Value := .func (.func j) #[.pointer (some ⟨p, 0, Option.none⟩)] #[]
/-- How such a value reads. -/
def fnE (p : Nat) (v : Value) : Option (DataW Unit × List MemPlace) := match v with
  | .func (.func j) first cap => match first.toList, cap.toList with
    | [.pointer (some ⟨q, 0, Option.none⟩)], [] => if q = p then some (.lit (.int .i64 (j : Int)), []) else none
    | _, _ => none
  | .nilFunc => some (.lit (.int .i64 (-1)), [])
  | _ => none
theorem fnE_mk (p j : Nat) : fnE p (bound p j) = some (.lit (.int .i64 (j : Int)), []) := by simp [fnE, bound]
theorem fnE_nil (p : Nat) : fnE p .nilFunc = some (.lit (.int .i64 (-1)), []) := rfl
theorem fnE_inv {p j : Nat} {v : Value} {ps : List MemPlace} (h : fnE p v = some (.lit (.int .i64 (j : Int)), ps)) : v = bound p j := by
  unfold fnE at h
  split at h
  · rename_i k first cap
    split at h
    · rename_i q h1 h2
      split at h
      · rename_i e
        subst e
        simp only [Option.some.injEq, Prod.mk.injEq, DataW.lit.injEq, Lit.int.injEq, true_and] at h
        have hj : k = j := Int.ofNat.inj h.1
        subst hj
        unfold bound
        have e1 : first = #[.pointer (some ⟨q, 0, Option.none⟩)] := Array.ext' (by simpa using h1)
        have e2 : cap = #[] := Array.ext' (by simpa using h2)
        rw [e1, e2]
      · cases h
    · cases h
  · simp only [Option.some.injEq, Prod.mk.injEq, DataW.lit.injEq, Lit.int.injEq, true_and] at h
    omega
  · cases h
theorem fnE_inv0 {p : Nat} {v : Value} {ps : List MemPlace} (h : fnE p v = some (.lit (.int .i64 (-1)), ps)) : v = .nilFunc := by
  unfold fnE at h
  split at h
  · rename_i k first cap
    split at h
    · split at h
      · simp only [Option.some.injEq, Prod.mk.injEq, DataW.lit.injEq, Lit.int.injEq, true_and] at h
        have := h.1
        exact absurd this (by
          have h0 : (0 : Int) ≤ (k : Int) := Int.natCast_nonneg k
          omega)
      · cases h
    · cases h
  · rfl
  · cases h
/-- What stands at a text: the last that was put there. -/
def lookF (t : List (ByteArray × Nat)) (s : ByteArray) : Option Nat := t.foldl (fun acc x => if x.1 = s then some x.2 else acc) none
theorem lookF_snoc (t : List (ByteArray × Nat)) (x : ByteArray × Nat) (s : ByteArray) : lookF (t ++ [x]) s = if x.1 = s then some x.2 else lookF t s := by unfold lookF; rw [List.foldl_append]; rfl
def datF (t : List (ByteArray × Nat)) : DataW Unit := t.foldl (fun D x => D.put (keyF x.1) (.lit (.int .i64 (x.2 : Int)))) (.map [])
theorem datF_snoc (t : List (ByteArray × Nat)) (x : ByteArray × Nat) : datF (t ++ [x]) = (datF t).put (keyF x.1) (.lit (.int .i64 (x.2 : Int))) := by unfold datF; rw [List.foldl_append]; rfl
/-- Block b is the map of the methods t, bound to the struct in block p. -/
def FnM (w : World) (b p : Nat) (t : List (ByteArray × Nat)) : Prop := w.ownsMap Tryd.prog 9 (fnE p) b t.length (datF t)
theorem FnM.made (w : World) (p : Nat) : FnM (w.alloc (.map #[] 0)) w.heap.size p [] := World.ownsMap_made _ _ _ _
theorem FnM.lt {w : World} {b p : Nat} {t : List (ByteArray × Nat)} (h : FnM w b p t) : b < w.heap.size := World.ownsMap.lt h
theorem FnM.grown {w w' : World} {b p : Nat} {t : List (ByteArray × Nat)} {r : Option Nat} (h : FnM w b p t) (hg : w.grownBy w' r) (hne : some b ≠ r) : FnM w' b p t := World.ownsMap.kept h hg hne
theorem FnM.kept {w w' : World} {b p : Nat} {t : List (ByteArray × Nat)} (h : FnM w b p t) (hb : Below w.heap.size w w') : FnM w' b p t :=
  World.ownsMap.kept h (row := none) ⟨hb.os, hb.tape, hb.output, hb.size, fun k hk _ => hb.block k hk⟩ (by simp)
theorem snoc_ind {α : Type} {Q : List α → Prop} (h0 : Q []) (h1 : ∀ t x, Q t → Q (t ++ [x])) (t : List α) : Q t := by
  have : ∀ u : List α, Q u.reverse := fun u => by
    induction u with
    | nil => exact h0
    | cons x u ih => rw [List.reverse_cons]; exact h1 _ _ ih
  have k := this t.reverse
  rw [List.reverse_reverse] at k
  exact k
theorem mapF (t : List (ByteArray × Nat)) : IsMap (datF t) := by
  refine snoc_ind (Q := fun t => IsMap (datF t)) ⟨[], rfl⟩ (fun t x ih => ?_) t
  rw [datF_snoc]
  obtain ⟨es, h⟩ := ih
  rw [h]
  exact ⟨_, rfl⟩
theorem hasF (s : ByteArray) : ∀ t : List (ByteArray × Nat), Maps.has (datF t) (keyF s) = (lookF t s).isSome ∧ ∀ z, (datF t).atKey (keyF s) z = match lookF t s with | some j => .lit (.int .i64 (j : Int)) | none => z := by
  refine snoc_ind (Q := fun t => Maps.has (datF t) (keyF s) = (lookF t s).isSome ∧ ∀ z, (datF t).atKey (keyF s) z = match lookF t s with | some j => .lit (.int .i64 (j : Int)) | none => z) ⟨rfl, fun z => rfl⟩ (fun t x ih => ?_)
  have hm0 : IsMap (datF t) := mapF t
  obtain ⟨h1, h2⟩ := ih
  rw [datF_snoc, lookF_snoc]
  by_cases e : x.1 = s
  · rw [if_pos e, e]
    exact ⟨has_put_same hm0 (keyF_key s) _, fun z => atKey_put_same hm0 (keyF_key s) _ z⟩
  · rw [if_neg e, has_put_other (keyF_ne (fun h => e h.symm))]
    exact ⟨h1, fun z => by rw [atKey_put_other (keyF_ne (fun h => e h.symm))]; exact h2 z⟩
/-- One more key, in the text of the map. -/
theorem wpList_insertF {ops : Array Oper} {rest : List Oper} {o : Oper} {a : Act} {Q : Exit → Act → World → Prop} (w : World) (hg : o.guard = Option.none) (m x v : Operand) (t e : TypeId) (hop : o.op = Op.insert t m x v) (ht : Tryd.prog.underlying t = some (.map 9 e))
    (b p : Nat) (tb : List (ByteArray × Nat)) (hm : a.eval m = .map (some b)) (h : FnM w b p tb) (hn : tb.length ≤ 1000) (s : ByteArray) (hs : s.size ≤ 1000) (j : Nat) (hx : a.eval x = .string s) (hv : a.eval v = bound p j)
    (hK : ∀ w', FnM w' b p (tb ++ [(s, j)]) → w.grownBy w' (some b) → wpList Tryd.prog ops Q rest (a.put o.dst undef) w') : wpList Tryd.prog ops Q (o :: rest) a w := by
  refine wpList_plain hg fun K' hK' => ?_
  obtain ⟨w', hrun, r1, r2⟩ := World.ownsMap.update h keyedF ht (by unfold maxLen; omega) (keyF_of (s := s) (by unfold maxLen; omega)) (fnE_mk p j)
  unfold Oper.wp
  simp [execOp, hop, hm, hx, hv, hrun, Result.andThen]
  refine hK' _ _ (hK w' ?_ r2)
  unfold FnM
  rw [datF_snoc, List.length_append]
  exact r1
/-- The map is asked. -/
theorem wpList_lookF {ops : Array Oper} {rest : List Oper} {o : Oper} {a : Act} {Q : Exit → Act → World → Prop} (w : World) (hg : o.guard = Option.none) (m x : Operand) (t e : TypeId) (hop : o.op = Op.lookup t m x true) (ht : Tryd.prog.underlying t = some (.map 9 e))
    (hz : (zeroValue e).run Tryd.prog w = .ok .nilFunc w) (b p : Nat) (tb : List (ByteArray × Nat)) (hm : a.eval m = .map (some b)) (h : FnM w b p tb) (s : ByteArray) (hs : s.size ≤ maxLen) (hx : a.eval x = .string s)
    (hno : lookF tb s = Option.none → wpList Tryd.prog ops Q rest (a.put o.dst (.tuple #[.nilFunc, .bool false])) w)
    (hyes : ∀ j, lookF tb s = some j → wpList Tryd.prog ops Q rest (a.put o.dst (.tuple #[bound p j, .bool true])) w) : wpList Tryd.prog ops Q (o :: rest) a w := by
  refine wpList_plain hg fun K' hK' => ?_
  obtain ⟨v, ps, hrun, hv⟩ := World.ownsMap.look_ok h keyedF ht hz (fnE_nil p) (keyF_of hs)
  obtain ⟨k1, k2⟩ := hasF s tb
  rw [k1] at hrun
  rw [k2] at hv
  unfold Oper.wp
  simp [execOp, hop, hm, hx, hrun, Result.andThen]
  cases hl : lookF tb s with
  | none =>
    rw [hl] at hv
    have e : v = .nilFunc := fnE_inv0 hv
    rw [e]
    exact hK' _ _ (hno hl)
  | some j =>
    rw [hl] at hv
    rw [fnE_inv hv]
    exact hK' _ _ (hyes j hl)
theorem wpList_lookF_no {ops : Array Oper} {rest : List Oper} {o : Oper} {a : Act} {Q : Exit → Act → World → Prop} (w : World) (hg : o.guard = Option.none) (m x : Operand) (t e : TypeId) (hop : o.op = Op.lookup t m x true) (ht : Tryd.prog.underlying t = some (.map 9 e))
    (hz : (zeroValue e).run Tryd.prog w = .ok .nilFunc w) (b p : Nat) (tb : List (ByteArray × Nat)) (hm : a.eval m = .map (some b)) (h : FnM w b p tb) (s : ByteArray) (hs : s.size ≤ maxLen) (hx : a.eval x = .string s) (hl : lookF tb s = Option.none)
    (hno : wpList Tryd.prog ops Q rest (a.put o.dst (.tuple #[.nilFunc, .bool false])) w) : wpList Tryd.prog ops Q (o :: rest) a w :=
  wpList_lookF w hg m x t e hop ht hz b p tb hm h s hs hx (fun _ => hno) (fun j hj => by rw [hl] at hj; cases hj)
theorem wpList_lookF_yes {ops : Array Oper} {rest : List Oper} {o : Oper} {a : Act} {Q : Exit → Act → World → Prop} (w : World) (hg : o.guard = Option.none) (m x : Operand) (t e : TypeId) (hop : o.op = Op.lookup t m x true) (ht : Tryd.prog.underlying t = some (.map 9 e))
    (hz : (zeroValue e).run Tryd.prog w = .ok .nilFunc w) (b p : Nat) (tb : List (ByteArray × Nat)) (hm : a.eval m = .map (some b)) (h : FnM w b p tb) (s : ByteArray) (hs : s.size ≤ maxLen) (hx : a.eval x = .string s) (j : Nat) (hl : lookF tb s = some j)
    (hyes : wpList Tryd.prog ops Q rest (a.put o.dst (.tuple #[.func (.func j) #[.pointer (some ⟨p, 0, Option.none⟩)] #[], .bool true])) w) : wpList Tryd.prog ops Q (o :: rest) a w :=
  wpList_lookF w hg m x t e hop ht hz b p tb hm h s hs hx (fun hn => by rw [hl] at hn; cases hn) (fun k hk => by
    rw [hl] at hk
    cases hk
    exact hyes)
end Go.Proofs.YtccnkmffadmfhaaDoor
