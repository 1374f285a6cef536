/-
  A directive that is cut at its first = : what the specification reads of it.
  A map of methods that are bound to one struct, by texts: put together key by key, and asked.
  The methods of the program's reader of control, by their contracts.
  What the program's methods tell of a directive is what the specification reads of it.
  The program's ReadControl by its contract.
-/
import Derived.Test.YtccnkmffadmfhaaGreatDoorCtlS
import Derived.Lib.IndexMore
import Derived.Test.YtccnkmffadmfhaaGreatDoorRowE
import Derived.Maps.OwnSet
import Derived.Handy
import Derived.Test.YtccnkmffadmfhaaGreatDoorCtlC
import Derived.Test.YtccnkmffadmfhaaGreatDoorNum
import Derived.Test.YtccnkmffadmfhaaGreatDoorCtlK
import Derived.Test.YtccnkmffadmfhaaGreatDoorLow
import Derived.Test.YtccnkmffadmfhaaGreatDoorShelfX
import Derived.Test.YtccnkmffadmfhaaGreatDoorItems2
namespace Go.Proofs.YtccnkmffadmfhaaGreatDoor
open Go.RowKit
set_option linter.unusedVariables false

theorem cutE_hit {b : UInt8} {l sub : List UInt8} (h : sub.isPrefixOf (b :: l) = true) : Lib.cut (b :: l) sub = ([], (b :: l).drop sub.length, true) := by
  unfold Lib.cut
  rw [Lib.index, if_pos h]
  simp
theorem cutE_miss {b : UInt8} {l sub : List UInt8} (h : sub.isPrefixOf (b :: l) = false) : Lib.cut (b :: l) sub = if (Lib.cut l sub).2.2 = true then (b :: (Lib.cut l sub).1, (Lib.cut l sub).2.1, true) else (b :: l, [], false) := by
  have hg := Lib.index_ge l sub
  have hi : Lib.index (b :: l) sub = if Lib.index l sub == -1 then -1 else Lib.index l sub + 1 := by
    rw [Lib.index, if_neg (by rw [h]; decide)]
  unfold Lib.cut
  rw [hi]
  by_cases h1 : Lib.index l sub = -1
  · rw [h1]; simp
  · obtain ⟨n, hn⟩ : ∃ n : Nat, Lib.index l sub = n := ⟨(Lib.index l sub).toNat, by omega⟩
    rw [hn]
    have e1 : ((n : Int) == -1) = false := by simp
    have e2 : ((n : Int) + 1).toNat = n + 1 := by omega
    simp only [e1, Bool.false_eq_true, if_false, if_pos (show (0 : Int) ≤ (n : Int) + 1 by omega), if_pos (show (0 : Int) ≤ (n : Int) by omega), if_true, e2, Int.toNat_natCast, List.take_succ_cons]
    rw [show n + 1 + sub.length = (n + sub.length) + 1 from by omega, List.drop_succ_cons]
/-- A text cut at its first sign c. -/
theorem cutE_is (c : UInt8) : ∀ l : List UInt8, c ∉ (Lib.cut l [c]).1 ∧ (((Lib.cut l [c]).2.2 = true ∧ l = (Lib.cut l [c]).1 ++ c :: (Lib.cut l [c]).2.1) ∨ ((Lib.cut l [c]).2.2 = false ∧ l = (Lib.cut l [c]).1 ∧ (Lib.cut l [c]).2.1 = []))
  | [] => ⟨by simp [Lib.cut, Lib.index], .inr ⟨rfl, rfl, rfl⟩⟩
  | b :: t => by
    by_cases h : b = c
    · subst h
      rw [cutE_hit (by simp [List.isPrefixOf])]
      exact ⟨by simp, .inl ⟨rfl, by simp⟩⟩
    · have hp : ([c] : List UInt8).isPrefixOf (b :: t) = false := by
        simp [List.isPrefixOf]
        exact fun e => h e.symm
      obtain ⟨h1, h2⟩ := cutE_is c t
      rw [cutE_miss hp]
      rcases h2 with ⟨h3, h4⟩ | ⟨h3, h4, h5⟩
      · rw [if_pos h3]
        exact ⟨by simp only [List.mem_cons, not_or]; exact ⟨fun e => h e.symm, h1⟩, .inl ⟨rfl, by simp only [List.cons_append]; rw [← h4]⟩⟩
      · rw [if_neg (by rw [h3]; decide)]
        refine ⟨?_, .inr ⟨rfl, rfl, rfl⟩⟩
        simp only [List.mem_cons, not_or]
        exact ⟨fun e => h e.symm, by rw [← h4] at h1; exact h1⟩
theorem split_same {c : UInt8} : ∀ {a b r : List UInt8}, c ∉ a → c ∉ b → (b ++ c :: r).take (a.length + 1) = a ++ [c] → b = a
  | [], [], r, _, _, _ => rfl
  | [], x :: b, r, _, h2, h => by
    simp at h
    exact absurd (by rw [h]; simp) h2
  | x :: a, [], r, h1, _, h => by
    simp at h
    exact absurd (by rw [h.1]; simp) h1
  | x :: a, y :: b, r, h1, h2, h => by
    simp only [List.cons_append, List.length_cons, List.take_succ_cons, List.cons.injEq] at h
    rw [h.1, split_same (fun e => h1 (List.mem_cons_of_mem _ e)) (fun e => h2 (List.mem_cons_of_mem _ e)) h.2]
def eqA (s : ByteArray) : ByteArray := ⟨(Lib.cut s.data.toList [61]).1.toArray⟩
def eqB (s : ByteArray) : ByteArray := ⟨(Lib.cut s.data.toList [61]).2.1.toArray⟩
def eqC (s : ByteArray) : Bool := (Lib.cut s.data.toList [61]).2.2
theorem ext_z {a b : ByteArray} (h : a.data.toList = b.data.toList) : a = b := by
  cases a; cases b; simp at h; rw [h]
theorem eq_yes {x : ByteArray} (h : eqC x = true) : x.data.toList = (eqA x).data.toList ++ 61 :: (eqB x).data.toList := by
  rcases (cutE_is 61 x.data.toList).2 with ⟨_, h2⟩ | ⟨h2, _⟩
  · simpa [eqA, eqB] using h2
  · unfold eqC at h; rw [h2] at h; cases h
theorem eq_no {x : ByteArray} (h : eqC x = false) : x = eqA x ∧ (eqB x).size = 0 := by
  rcases (cutE_is 61 x.data.toList).2 with ⟨h2, _⟩ | ⟨_, h2, h3⟩
  · unfold eqC at h; rw [h2] at h; cases h
  · exact ⟨ext_z (by simpa [eqA] using h2), by show (Lib.cut x.data.toList [61]).2.1.toArray.size = 0; rw [h3]; rfl⟩
theorem eq_out (x : ByteArray) : (61 : UInt8) ∉ (eqA x).data.toList := by simpa [eqA] using (cutE_is 61 x.data.toList).1
/-- A name with its = behind it. -/
def NameEq (n name : ByteArray) : Prop := name.data.toList = n.data.toList ++ [61] ∧ (61 : UInt8) ∉ n.data.toList
theorem take_list (x : ByteArray) (k : Nat) : (x.extract 0 k).data.toList = x.data.toList.take k := by
  simp [List.extract_eq_take_drop]
theorem drop_list (x : ByteArray) (k : Nat) : (x.extract k x.size).data.toList = x.data.toList.drop k := by
  have hl : x.data.toList.length = x.size := by simp
  simp only [ByteArray.data_extract, Array.toList_extract, List.extract_eq_take_drop]
  rw [List.take_of_length_le (by rw [List.length_drop]; omega)]
theorem size_list (x : ByteArray) : x.size = x.data.toList.length := by simp
theorem take_at {c : UInt8} (a r : List UInt8) : (a ++ c :: r).take (a.length + 1) = a ++ [c] := by
  rw [show a ++ c :: r = (a ++ [c]) ++ r by simp, List.take_left' (by simp)]
theorem drop_at {c : UInt8} (a r : List UInt8) : (a ++ c :: r).drop (a.length + 1) = r := by
  rw [show a ++ c :: r = (a ++ [c]) ++ r by simp, List.drop_left' (by simp)]
theorem told_cut {x n name : ByteArray} (hn : NameEq n name) : (told x name).2 = (eqC x && (decide (eqA x = n) && numOk 10 15 (eqB x))) ∧ ((told x name).2 = true → (told x name).1 = minI 1000000000 (numV 10 15 (eqB x))) := by
  have hz : name.size = n.data.toList.length + 1 := by rw [size_list, hn.1]; simp
  cases hc : eqC x with
  | false =>
    obtain ⟨h1, h2⟩ := eq_no hc
    have ho := eq_out x
    rw [← h1] at ho
    have ht : ¬ x.extract 0 name.size = name := fun e => by
      have e2 : x.data.toList.take name.size = name.data.toList := by rw [← take_list, e]
      have : (61 : UInt8) ∈ x.data.toList.take name.size := by rw [e2, hn.1]; simp
      exact ho (List.mem_of_mem_take this)
    have k : told x name = (0, false) := by unfold told; rw [if_pos (.inr ht)]
    rw [k]
    exact ⟨rfl, fun h => by cases h⟩
  | true =>
    have hx := eq_yes hc
    have hxz : x.size = (eqA x).data.toList.length + 1 + (eqB x).data.toList.length := by rw [size_list, hx]; simp; omega
    by_cases he : eqA x = n
    · rw [decide_eq_true he, Bool.true_and, Bool.true_and]
      have hpre : x.extract 0 name.size = name := ext_z (by rw [take_list, hz, hx, he, hn.1]; exact take_at _ _)
      have hrest : x.extract name.size x.size = eqB x := ext_z (by rw [drop_list, hz, hx, he]; exact drop_at _ _)
      by_cases hv : (eqB x).size = 0
      · have k : told x name = (0, false) := by
          unfold told
          rw [if_pos (.inl (by rw [hxz, hz, he]; rw [size_list] at hv; omega))]
        rw [k, numOk_out (.inl (by omega))]
        exact ⟨rfl, fun h => by cases h⟩
      · have k : told x name = (minI 1000000000 (numV 10 15 (eqB x)), numOk 10 15 (eqB x)) := by
          unfold told
          rw [if_neg (by rintro (h | h); · rw [hxz, hz, he] at h; rw [size_list] at hv; omega
                         · exact h hpre), hrest]
        rw [k]
        exact ⟨rfl, fun _ => rfl⟩
    · rw [decide_eq_false he]
      have ht : ¬ x.extract 0 name.size = name := fun e => by
        have e2 : x.data.toList.take name.size = name.data.toList := by rw [← take_list, e]
        rw [hz, hx, hn.1] at e2
        exact he (ext_z (split_same hn.2 (eq_out x) e2))
      have k : told x name = (0, false) := by unfold told; rw [if_pos (.inr ht)]
      rw [k]
      exact ⟨rfl, fun h => by cases h⟩
def n0A : ByteArray := ⟨#[109, 97, 120, 45, 97, 103, 101]⟩
def n0S : ByteArray := ⟨#[115, 45, 109, 97, 120, 97, 103, 101]⟩
theorem nA_eq : NameEq n0A nmA := ⟨by decide, by decide⟩
theorem nS_eq : NameEq n0S nmS := ⟨by decide, by decide⟩
theorem nT_eq : NameEq wdT nmT := ⟨by decide, by decide⟩
theorem word_no {x wd : ByteArray} (h : eqC x = true) (hw : (61 : UInt8) ∉ wd.data.toList) : ¬ x = wd := fun e => hw (by rw [← e, eq_yes h]; simp)
theorem st4_yes {x : ByteArray} (h : eqC x = true) (c : Ct) : st4 c x = c := by
  unfold st4
  rw [if_neg (word_no h (by decide)), if_neg (word_no h (by decide)), if_neg (word_no h (by decide)), if_neg (word_no h (by decide)), if_neg (word_no h (by decide))]
/-- A number that is told, the first time. -/
def tell (before : Int) (v : ByteArray) : Int := if numOk 10 15 v = true ∧ before < 0 then minI 1000000000 (numV 10 15 v) else before
theorem st_num {b : Bool} {t : Int × Bool} {v : ByteArray} {before : Int} (h1 : t.2 = (true && (b && numOk 10 15 v))) (h2 : t.2 = true → t.1 = minI 1000000000 (numV 10 15 v)) : (if t.2 = true ∧ before < 0 then t.1 else before) = if b = true then tell before v else before := by
  unfold tell
  cases b with
  | false =>
    have : t.2 = false := by rw [h1]; rfl
    rw [if_neg (by rw [this]; exact fun h => by cases h.1), if_neg (by decide)]
  | true =>
    have h3 : t.2 = numOk 10 15 v := by rw [h1]; rfl
    rw [if_pos rfl, h3]
    by_cases h4 : numOk 10 15 v = true ∧ before < 0
    · rw [if_pos h4, if_pos h4, h2 (by rw [h3]; exact h4.1)]
    · rw [if_neg h4, if_neg h4]
theorem st1_is (c : Ct) (x : ByteArray) : st1 c x = { c with a := if (told x nmA).2 = true ∧ c.a < 0 then (told x nmA).1 else c.a } := by unfold st1; split <;> rfl
theorem st2_is (c : Ct) (x : ByteArray) : st2 c x = { c with s := if (told x nmS).2 = true ∧ c.s < 0 then (told x nmS).1 else c.s } := by unfold st2; split <;> rfl
theorem st3_is (c : Ct) (x : ByteArray) : st3 c x = { c with t := if (told x nmT).2 = true ∧ c.t < 0 then (told x nmT).1 else c.t } := by unfold st3; split <;> rfl
/-- With a = in it: the number that its name has is told. -/
theorem stp_yes {x : ByteArray} (h : eqC x = true) (c : Ct) : stp c x = { c with a := if eqA x = n0A then tell c.a (eqB x) else c.a, s := if eqA x = n0S then tell c.s (eqB x) else c.s, t := if eqA x = wdT then tell c.t (eqB x) else c.t } := by
  obtain ⟨a1, a2⟩ := told_cut (x := x) nA_eq
  obtain ⟨b1, b2⟩ := told_cut (x := x) nS_eq
  obtain ⟨t1, t2⟩ := told_cut (x := x) nT_eq
  rw [h] at a1 b1 t1
  unfold stp
  rw [st4_yes h, st3_is, st2_is, st1_is]
  simp only
  rw [st_num a1 a2, st_num b1 b2, st_num t1 t2]
  simp only [decide_eq_true_eq]
theorem told_none {x n name : ByteArray} (hn : NameEq n name) (h : eqC x = false) : (told x name).2 = false := by rw [(told_cut hn).1, h]; rfl
/-- Without one: a word. -/
theorem stp_no {x : ByteArray} (h : eqC x = false) (c : Ct) : stp c x = st4 c x := by
  unfold stp
  rw [st3_is, st2_is, st1_is]
  simp only [told_none nA_eq h, told_none nS_eq h, told_none nT_eq h, Bool.false_eq_true, false_and, if_false]
end Go.Proofs.YtccnkmffadmfhaaGreatDoor
namespace Go.Proofs.YtccnkmffadmfhaaGreatDoor
open Go.RowKit Go.Maps Go.ChangeMaps Go.WideMaps
set_option linter.unusedVariables false

theorem keyedF : Keyed Tryz.prog 9 := string_keyed Tryz.underlying9
def keyF (s : ByteArray) : Lit := .string s.data.toList
theorem keyF_of {s : ByteArray} (hs : s.size ≤ maxLen) : keyOf Tryz.prog 9 (.string s) = some (keyF s) := keyOf_string_mk Tryz.underlying9 hs
theorem keyF_ne {a b : ByteArray} (h : ¬ a = b) : keyF a ≠ keyF b := fun e => h (by
  have e2 : a.data.toList = b.data.toList := by simpa [keyF] using e
  cases a; cases b; simp at e2; rw [e2])
theorem keyF_key (s : ByteArray) : WideAt.IsKeyLit (keyF s) := trivial
/-- The method j, bound to the struct in block p. -/
def bound (p j : Nat) : Value := .func (.func j) #[.pointer (some ⟨p, 0, Option.none⟩)] #[]
/-- How such a value reads. -/
def fnE (p : Nat) (v : Value) : Option (DataW Unit × List MemPlace) := match v with
  | .func (.func j) first cap => match first.toList, cap.toList with
    | [.pointer (some ⟨q, 0, Option.none⟩)], [] => if q = p then some (.lit (.int .i64 (j : Int)), []) else none
    | _, _ => none
  | .nilFunc => some (.lit (.int .i64 (-1)), [])
  | _ => none
theorem fnE_mk (p j : Nat) : fnE p (bound p j) = some (.lit (.int .i64 (j : Int)), []) := by simp [fnE, bound]
theorem fnE_nil (p : Nat) : fnE p .nilFunc = some (.lit (.int .i64 (-1)), []) := rfl
theorem fnE_inv {p j : Nat} {v : Value} {ps : List MemPlace} (h : fnE p v = some (.lit (.int .i64 (j : Int)), ps)) : v = bound p j := by
  unfold fnE at h
  split at h
  · rename_i k first cap
    split at h
    · rename_i q h1 h2
      split at h
      · rename_i e
        subst e
        simp only [Option.some.injEq, Prod.mk.injEq, DataW.lit.injEq, Lit.int.injEq, true_and] at h
        have hj : k = j := Int.ofNat.inj h.1
        subst hj
        unfold bound
        have e1 : first = #[.pointer (some ⟨q, 0, Option.none⟩)] := Array.ext' (by simpa using h1)
        have e2 : cap = #[] := Array.ext' (by simpa using h2)
        rw [e1, e2]
      · cases h
    · cases h
  · simp only [Option.some.injEq, Prod.mk.injEq, DataW.lit.injEq, Lit.int.injEq, true_and] at h
    omega
  · cases h
theorem fnE_inv0 {p : Nat} {v : Value} {ps : List MemPlace} (h : fnE p v = some (.lit (.int .i64 (-1)), ps)) : v = .nilFunc := by
  unfold fnE at h
  split at h
  · rename_i k first cap
    split at h
    · split at h
      · simp only [Option.some.injEq, Prod.mk.injEq, DataW.lit.injEq, Lit.int.injEq, true_and] at h
        have := h.1
        exact absurd this (by
          have h0 : (0 : Int) ≤ (k : Int) := Int.natCast_nonneg k
          omega)
      · cases h
    · cases h
  · rfl
  · cases h
/-- What stands at a text: the last that was put there. -/
def lookF (t : List (ByteArray × Nat)) (s : ByteArray) : Option Nat := t.foldl (fun acc x => if x.1 = s then some x.2 else acc) none
theorem lookF_snoc (t : List (ByteArray × Nat)) (x : ByteArray × Nat) (s : ByteArray) : lookF (t ++ [x]) s = if x.1 = s then some x.2 else lookF t s := by unfold lookF; rw [List.foldl_append]; rfl
def datF (t : List (ByteArray × Nat)) : DataW Unit := t.foldl (fun D x => D.put (keyF x.1) (.lit (.int .i64 (x.2 : Int)))) (.map [])
theorem datF_snoc (t : List (ByteArray × Nat)) (x : ByteArray × Nat) : datF (t ++ [x]) = (datF t).put (keyF x.1) (.lit (.int .i64 (x.2 : Int))) := by unfold datF; rw [List.foldl_append]; rfl
/-- Block b is the map of the methods t, bound to the struct in block p. -/
def FnM (w : World) (b p : Nat) (t : List (ByteArray × Nat)) : Prop := w.ownsMap Tryz.prog 9 (fnE p) b t.length (datF t)
theorem FnM.made (w : World) (p : Nat) : FnM (w.alloc (.map #[] 0)) w.heap.size p [] := World.ownsMap_made _ _ _ _
theorem FnM.lt {w : World} {b p : Nat} {t : List (ByteArray × Nat)} (h : FnM w b p t) : b < w.heap.size := World.ownsMap.lt h
theorem FnM.grown {w w' : World} {b p : Nat} {t : List (ByteArray × Nat)} {r : Option Nat} (h : FnM w b p t) (hg : w.grownBy w' r) (hne : some b ≠ r) : FnM w' b p t := World.ownsMap.kept h hg hne
theorem FnM.kept {w w' : World} {b p : Nat} {t : List (ByteArray × Nat)} (h : FnM w b p t) (hb : Below w.heap.size w w') : FnM w' b p t :=
  World.ownsMap.kept h (row := none) ⟨hb.os, hb.tape, hb.output, hb.size, fun k hk _ => hb.block k hk⟩ (by simp)
theorem snoc_ind {α : Type} {Q : List α → Prop} (h0 : Q []) (h1 : ∀ t x, Q t → Q (t ++ [x])) (t : List α) : Q t := by
  have : ∀ u : List α, Q u.reverse := fun u => by
    induction u with
    | nil => exact h0
    | cons x u ih => rw [List.reverse_cons]; exact h1 _ _ ih
  have k := this t.reverse
  rw [List.reverse_reverse] at k
  exact k
theorem mapF (t : List (ByteArray × Nat)) : IsMap (datF t) := by
  refine snoc_ind (Q := fun t => IsMap (datF t)) ⟨[], rfl⟩ (fun t x ih => ?_) t
  rw [datF_snoc]
  obtain ⟨es, h⟩ := ih
  rw [h]
  exact ⟨_, rfl⟩
theorem hasF (s : ByteArray) : ∀ t : List (ByteArray × Nat), Maps.has (datF t) (keyF s) = (lookF t s).isSome ∧ ∀ z, (datF t).atKey (keyF s) z = match lookF t s with | some j => .lit (.int .i64 (j : Int)) | none => z := by
  refine snoc_ind (Q := fun t => Maps.has (datF t) (keyF s) = (lookF t s).isSome ∧ ∀ z, (datF t).atKey (keyF s) z = match lookF t s with | some j => .lit (.int .i64 (j : Int)) | none => z) ⟨rfl, fun z => rfl⟩ (fun t x ih => ?_)
  have hm0 : IsMap (datF t) := mapF t
  obtain ⟨h1, h2⟩ := ih
  rw [datF_snoc, lookF_snoc]
  by_cases e : x.1 = s
  · rw [if_pos e, e]
    exact ⟨has_put_same hm0 (keyF_key s) _, fun z => atKey_put_same hm0 (keyF_key s) _ z⟩
  · rw [if_neg e, has_put_other (keyF_ne (fun h => e h.symm))]
    exact ⟨h1, fun z => by rw [atKey_put_other (keyF_ne (fun h => e h.symm))]; exact h2 z⟩
/-- One more key, in the text of the map. -/
theorem wpList_insertF {ops : Array Oper} {rest : List Oper} {o : Oper} {a : Act} {Q : Exit → Act → World → Prop} (w : World) (hg : o.guard = Option.none) (m x v : Operand) (t e : TypeId) (hop : o.op = Op.insert t m x v) (ht : Tryz.prog.underlying t = some (.map 9 e))
    (b p : Nat) (tb : List (ByteArray × Nat)) (hm : a.eval m = .map (some b)) (h : FnM w b p tb) (hn : tb.length ≤ 1000) (s : ByteArray) (hs : s.size ≤ 1000) (j : Nat) (hx : a.eval x = .string s) (hv : a.eval v = bound p j)
    (hK : ∀ w', FnM w' b p (tb ++ [(s, j)]) → w.grownBy w' (some b) → wpList Tryz.prog ops Q rest (a.put o.dst undef) w') : wpList Tryz.prog ops Q (o :: rest) a w := by
  refine wpList_plain hg fun K' hK' => ?_
  obtain ⟨w', hrun, r1, r2⟩ := World.ownsMap.update h keyedF ht (by unfold maxLen; omega) (keyF_of (s := s) (by unfold maxLen; omega)) (fnE_mk p j)
  unfold Oper.wp
  simp [execOp, hop, hm, hx, hv, hrun, Result.andThen]
  refine hK' _ _ (hK w' ?_ r2)
  unfold FnM
  rw [datF_snoc, List.length_append]
  exact r1
/-- The map is asked. -/
theorem wpList_lookF {ops : Array Oper} {rest : List Oper} {o : Oper} {a : Act} {Q : Exit → Act → World → Prop} (w : World) (hg : o.guard = Option.none) (m x : Operand) (t e : TypeId) (hop : o.op = Op.lookup t m x true) (ht : Tryz.prog.underlying t = some (.map 9 e))
    (hz : (zeroValue e).run Tryz.prog w = .ok .nilFunc w) (b p : Nat) (tb : List (ByteArray × Nat)) (hm : a.eval m = .map (some b)) (h : FnM w b p tb) (s : ByteArray) (hs : s.size ≤ maxLen) (hx : a.eval x = .string s)
    (hno : lookF tb s = Option.none → wpList Tryz.prog ops Q rest (a.put o.dst (.tuple #[.nilFunc, .bool false])) w)
    (hyes : ∀ j, lookF tb s = some j → wpList Tryz.prog ops Q rest (a.put o.dst (.tuple #[bound p j, .bool true])) w) : wpList Tryz.prog ops Q (o :: rest) a w := by
  refine wpList_plain hg fun K' hK' => ?_
  obtain ⟨v, ps, hrun, hv⟩ := World.ownsMap.look_ok h keyedF ht hz (fnE_nil p) (keyF_of hs)
  obtain ⟨k1, k2⟩ := hasF s tb
  rw [k1] at hrun
  rw [k2] at hv
  unfold Oper.wp
  simp [execOp, hop, hm, hx, hrun, Result.andThen]
  cases hl : lookF tb s with
  | none =>
    rw [hl] at hv
    have e : v = .nilFunc := fnE_inv0 hv
    rw [e]
    exact hK' _ _ (hno hl)
  | some j =>
    rw [hl] at hv
    rw [fnE_inv hv]
    exact hK' _ _ (hyes j hl)
theorem wpList_lookF_no {ops : Array Oper} {rest : List Oper} {o : Oper} {a : Act} {Q : Exit → Act → World → Prop} (w : World) (hg : o.guard = Option.none) (m x : Operand) (t e : TypeId) (hop : o.op = Op.lookup t m x true) (ht : Tryz.prog.underlying t = some (.map 9 e))
    (hz : (zeroValue e).run Tryz.prog w = .ok .nilFunc w) (b p : Nat) (tb : List (ByteArray × Nat)) (hm : a.eval m = .map (some b)) (h : FnM w b p tb) (s : ByteArray) (hs : s.size ≤ maxLen) (hx : a.eval x = .string s) (hl : lookF tb s = Option.none)
    (hno : wpList Tryz.prog ops Q rest (a.put o.dst (.tuple #[.nilFunc, .bool false])) w) : wpList Tryz.prog ops Q (o :: rest) a w :=
  wpList_lookF w hg m x t e hop ht hz b p tb hm h s hs hx (fun _ => hno) (fun j hj => by rw [hl] at hj; cases hj)
theorem wpList_lookF_yes {ops : Array Oper} {rest : List Oper} {o : Oper} {a : Act} {Q : Exit → Act → World → Prop} (w : World) (hg : o.guard = Option.none) (m x : Operand) (t e : TypeId) (hop : o.op = Op.lookup t m x true) (ht : Tryz.prog.underlying t = some (.map 9 e))
    (hz : (zeroValue e).run Tryz.prog w = .ok .nilFunc w) (b p : Nat) (tb : List (ByteArray × Nat)) (hm : a.eval m = .map (some b)) (h : FnM w b p tb) (s : ByteArray) (hs : s.size ≤ maxLen) (hx : a.eval x = .string s) (j : Nat) (hl : lookF tb s = some j)
    (hyes : wpList Tryz.prog ops Q rest (a.put o.dst (.tuple #[.func (.func j) #[.pointer (some ⟨p, 0, Option.none⟩)] #[], .bool true])) w) : wpList Tryz.prog ops Q (o :: rest) a w :=
  wpList_lookF w hg m x t e hop ht hz b p tb hm h s hs hx (fun hn => by rw [hl] at hn; cases hn) (fun k hk => by
    rw [hl] at hk
    cases hk
    exact hyes)
end Go.Proofs.YtccnkmffadmfhaaGreatDoor
namespace Go.Proofs.YtccnkmffadmfhaaGreatDoor
open Go.RowKit Go.Sort
set_option linter.unusedVariables false

theorem tell_first {n : Int} {v : ByteArray} (h : -1 ≤ n) (h0 : ∀ t, 0 ≤ numV 10 15 t) : (if n = -1 ∧ numOk 10 15 v = true then min (numV 10 15 v) 1000000000 else n) = tell n v := by
  have := h0 v
  unfold tell minI
  generalize numV 10 15 v = m at this ⊢
  cases numOk 10 15 v with
  | false => simp
  | true =>
    by_cases h2 : n = -1
    · subst h2
      simp
      repeat' split
      all_goals omega
    · have h3 : ¬ n < 0 := by omega
      simp [h2, h3]
theorem implFst (n : Int) (hn : -1 ≤ n) (v : ByteArray) (hv : v.size ≤ 1000) (w : World) : Calls Tryz.prog 64 #[.int .i64 n, .string v] w fun e w' => e = .returned (.int .i64 (tell n v)) ∧ Below w.heap.size w w' := by
  have hd := fun W => implDig v W (by unfold maxLen; omega)
  have HT : Hid ((if n = -1 ∧ numOk 10 15 v = true then min (numV 10 15 v) 1000000000 else n) = tell n v) := tell_first hn (fun t => (numV_bound9 t).1)
  unfold numE at hd
  generalize tell n v = T at HT ⊢
  generalize numV 10 15 v = m at hd HT
  generalize numOk 10 15 v = b at hd HT
  by_cases h : n = -1
  · subst h
    cases b with
    | true =>
      have H : Hid (min m 1000000000 = T) := (by rw [← HT.out, if_pos ⟨rfl, rfl⟩] : min m 1000000000 = T)
      clear HT
      go_enter Tryz.func64, Tryz.ntmps64
      go_wp2_with fail
      refine (hd _).mono ?_
      rintro e w1 ⟨rfl, hb1⟩
      have B1 : Hid (Below w.heap.size w w1) := hb1
      clear hb1 hd
      go_wp2
      go_ret
      exact ⟨ret_i9 H.out, B1.out⟩
    | false =>
      have H : Hid (-1 = T) := (by rw [← HT.out, if_neg (fun h => by cases h.2)] : -1 = T)
      clear HT
      go_enter Tryz.func64, Tryz.ntmps64
      go_wp2_with fail
      refine (hd _).mono ?_
      rintro e w1 ⟨rfl, hb1⟩
      have B1 : Hid (Below w.heap.size w w1) := hb1
      clear hb1 hd
      go_wp2
      go_ret
      exact ⟨ret_i9 H.out, B1.out⟩
  · have H : Hid (n = T) := (by rw [← HT.out, if_neg (fun hh => h hh.1)] : n = T)
    clear HT
    go_enter Tryz.func64, Tryz.ntmps64
    go_wp2_with fail
    refine (hd _).mono ?_
    rintro e w1 ⟨rfl, hb1⟩
    have B1 : Hid (Below w.heap.size w w1) := hb1
    clear hb1 hd
    go_wp2
    go_ret
    exact ⟨ret_i9 H.out, B1.out⟩
set_option maxHeartbeats 1000000 in
theorem implMa (c : Ct) (hc : ctB c = true) (v : ByteArray) (hv : v.size ≤ 1000) (p : Nat) (w : World) (hp : CtB w p c) : Calls Tryz.prog 44 #[.pointer (some ⟨p, 0, Option.none⟩), .string v] w fun e w' => e = .returned (.tuple #[]) ∧ CtB w' p { c with a := tell c.a v } ∧ w.grownBy w' (some p) := by
  have hl := ct_low hc
  have hf := fun W => implFst c.a (by omega) v hv W
  generalize tell c.a v = T at hf ⊢
  have P0 : Hid (CtB w p c) := hp
  obtain ⟨x0, x1, x2, x3, x4, x5, x6⟩ := hp.all
  clear hp
  go_enter Tryz.func44, Tryz.ntmps44
  go_wp2_with fail
  refine (hf _).mono ?_
  rintro e w1 ⟨rfl, hb1⟩
  have P1 : Hid (CtB w1 p c) := P0.out.kept hb1
  have G1 : Hid (w.grownBy w1 (some p)) := grownE_below (grownE_self w (some p)) hb1
  clear hb1 hf P0 x0 x1 x2 x3 x4 x5 x6
  obtain ⟨x0, x1, x2, x3, x4, x5, x6⟩ := P1.out.all
  have zf := P1.out.fz
  go_wp2
  go_returns
  exact ⟨rfl, P1.out.put (i := 0) (by decide) (.int .i64 T) _ rfl, grownE_put G1.out 0 _⟩
set_option maxHeartbeats 1000000 in
theorem implMs (c : Ct) (hc : ctB c = true) (v : ByteArray) (hv : v.size ≤ 1000) (p : Nat) (w : World) (hp : CtB w p c) : Calls Tryz.prog 45 #[.pointer (some ⟨p, 0, Option.none⟩), .string v] w fun e w' => e = .returned (.tuple #[]) ∧ CtB w' p { c with s := tell c.s v } ∧ w.grownBy w' (some p) := by
  have hl := ct_low hc
  have hf := fun W => implFst c.s (by omega) v hv W
  generalize tell c.s v = T at hf ⊢
  have P0 : Hid (CtB w p c) := hp
  obtain ⟨x0, x1, x2, x3, x4, x5, x6⟩ := hp.all
  clear hp
  go_enter Tryz.func45, Tryz.ntmps45
  go_wp2_with fail
  refine (hf _).mono ?_
  rintro e w1 ⟨rfl, hb1⟩
  have P1 : Hid (CtB w1 p c) := P0.out.kept hb1
  have G1 : Hid (w.grownBy w1 (some p)) := grownE_below (grownE_self w (some p)) hb1
  clear hb1 hf P0 x0 x1 x2 x3 x4 x5 x6
  obtain ⟨x0, x1, x2, x3, x4, x5, x6⟩ := P1.out.all
  have zf := P1.out.fz
  go_wp2
  go_returns
  exact ⟨rfl, P1.out.put (i := 1) (by decide) (.int .i64 T) _ rfl, grownE_put G1.out 1 _⟩
set_option maxHeartbeats 1000000 in
theorem implMt (c : Ct) (hc : ctB c = true) (v : ByteArray) (hv : v.size ≤ 1000) (p : Nat) (w : World) (hp : CtB w p c) : Calls Tryz.prog 46 #[.pointer (some ⟨p, 0, Option.none⟩), .string v] w fun e w' => e = .returned (.tuple #[]) ∧ CtB w' p { c with t := tell c.t v } ∧ w.grownBy w' (some p) := by
  have hl := ct_low hc
  have hf := fun W => implFst c.t (by omega) v hv W
  generalize tell c.t v = T at hf ⊢
  have P0 : Hid (CtB w p c) := hp
  obtain ⟨x0, x1, x2, x3, x4, x5, x6⟩ := hp.all
  clear hp
  go_enter Tryz.func46, Tryz.ntmps46
  go_wp2_with fail
  refine (hf _).mono ?_
  rintro e w1 ⟨rfl, hb1⟩
  have P1 : Hid (CtB w1 p c) := P0.out.kept hb1
  have G1 : Hid (w.grownBy w1 (some p)) := grownE_below (grownE_self w (some p)) hb1
  clear hb1 hf P0 x0 x1 x2 x3 x4 x5 x6
  obtain ⟨x0, x1, x2, x3, x4, x5, x6⟩ := P1.out.all
  have zf := P1.out.fz
  go_wp2
  go_returns
  exact ⟨rfl, P1.out.put (i := 2) (by decide) (.int .i64 T) _ rfl, grownE_put G1.out 2 _⟩
set_option maxHeartbeats 1000000 in
theorem implMn (c : Ct) (hc : ctB c = true) (v : ByteArray) (hv : v.size ≤ 1000) (p : Nat) (w : World) (hp : CtB w p c) : Calls Tryz.prog 47 #[.pointer (some ⟨p, 0, Option.none⟩), .string v] w fun e w' => e = .returned (.tuple #[]) ∧ CtB w' p { c with t := if c.t < 0 then 1000000000 else c.t } ∧ w.grownBy w' (some p) := by
  have hl := ct_low hc
  have P0 : Hid (CtB w p c) := hp
  obtain ⟨x0, x1, x2, x3, x4, x5, x6⟩ := hp.all
  have zf := hp.fz
  clear hp
  by_cases h : c.t = -1
  · have e : (if c.t < 0 then 1000000000 else c.t) = 1000000000 := if_pos (by omega)
    rw [e]
    rw [h] at x2
    clear e
    go_enter Tryz.func47, Tryz.ntmps47
    go_wp2
    go_returns
    exact ⟨rfl, P0.out.put (i := 2) (by decide) (.int .i64 1000000000) _ rfl, grownE_put (grownE_self w (some p)) 2 _⟩
  · have e : (if c.t < 0 then 1000000000 else c.t) = c.t := if_neg (by omega)
    rw [e]
    clear e
    go_enter Tryz.func47, Tryz.ntmps47
    go_wp2
    go_returns
    exact ⟨rfl, P0.out, grownE_self w (some p)⟩
set_option maxHeartbeats 1000000 in
theorem implMns (c : Ct) (v : ByteArray) (p : Nat) (w : World) (hp : CtB w p c) : Calls Tryz.prog 48 #[.pointer (some ⟨p, 0, Option.none⟩), .string v] w fun e w' => e = .returned (.tuple #[]) ∧ CtB w' p { c with ns := true } ∧ w.grownBy w' (some p) := by
  have P0 : Hid (CtB w p c) := hp
  obtain ⟨x0, x1, x2, x3, x4, x5, x6⟩ := hp.all
  have zf := hp.fz
  clear hp
  go_enter Tryz.func48, Tryz.ntmps48
  go_wp2
  go_returns
  exact ⟨rfl, P0.out.put (i := 3) (by decide) (.bool true) _ rfl, grownE_put (grownE_self w (some p)) 3 _⟩
set_option maxHeartbeats 1000000 in
theorem implMnc (c : Ct) (v : ByteArray) (p : Nat) (w : World) (hp : CtB w p c) : Calls Tryz.prog 49 #[.pointer (some ⟨p, 0, Option.none⟩), .string v] w fun e w' => e = .returned (.tuple #[]) ∧ CtB w' p { c with nc := true } ∧ w.grownBy w' (some p) := by
  have P0 : Hid (CtB w p c) := hp
  obtain ⟨x0, x1, x2, x3, x4, x5, x6⟩ := hp.all
  have zf := hp.fz
  clear hp
  go_enter Tryz.func49, Tryz.ntmps49
  go_wp2
  go_returns
  exact ⟨rfl, P0.out.put (i := 4) (by decide) (.bool true) _ rfl, grownE_put (grownE_self w (some p)) 4 _⟩
set_option maxHeartbeats 1000000 in
theorem implMpr (c : Ct) (v : ByteArray) (p : Nat) (w : World) (hp : CtB w p c) : Calls Tryz.prog 50 #[.pointer (some ⟨p, 0, Option.none⟩), .string v] w fun e w' => e = .returned (.tuple #[]) ∧ CtB w' p { c with pr := true } ∧ w.grownBy w' (some p) := by
  have P0 : Hid (CtB w p c) := hp
  obtain ⟨x0, x1, x2, x3, x4, x5, x6⟩ := hp.all
  have zf := hp.fz
  clear hp
  go_enter Tryz.func50, Tryz.ntmps50
  go_wp2
  go_returns
  exact ⟨rfl, P0.out.put (i := 5) (by decide) (.bool true) _ rfl, grownE_put (grownE_self w (some p)) 5 _⟩
set_option maxHeartbeats 1000000 in
theorem implMmu (c : Ct) (v : ByteArray) (p : Nat) (w : World) (hp : CtB w p c) : Calls Tryz.prog 51 #[.pointer (some ⟨p, 0, Option.none⟩), .string v] w fun e w' => e = .returned (.tuple #[]) ∧ CtB w' p { c with mu := true } ∧ w.grownBy w' (some p) := by
  have P0 : Hid (CtB w p c) := hp
  obtain ⟨x0, x1, x2, x3, x4, x5, x6⟩ := hp.all
  have zf := hp.fz
  clear hp
  go_enter Tryz.func51, Tryz.ntmps51
  go_wp2
  go_returns
  exact ⟨rfl, P0.out.put (i := 6) (by decide) (.bool true) _ rfl, grownE_put (grownE_self w (some p)) 6 _⟩
/-- The methods by their keys. -/
def tb9 : List (ByteArray × Nat) := [] ++ [(nmA, 44)] ++ [(nmS, 45)] ++ [(nmT, 46)] ++ [(wdT, 47)] ++ [(wdS, 48)] ++ [(wdC, 49)] ++ [(wdP, 50)] ++ [(wdM, 51)]
theorem tb9_in {s : ByteArray} {j : Nat} (h : lookF tb9 s = some j) : j = 44 ∨ j = 45 ∨ j = 46 ∨ j = 47 ∨ j = 48 ∨ j = 49 ∨ j = 50 ∨ j = 51 := by
  unfold tb9 at h
  simp only [lookF_snoc] at h
  repeat' split at h
  all_goals first | (injection h with h; omega) | (simp [lookF] at h)
/-- What each of them does. -/
def upC (j : Nat) (c : Ct) (v : ByteArray) : Ct := if j = 44 then { c with a := tell c.a v } else if j = 45 then { c with s := tell c.s v } else if j = 46 then { c with t := tell c.t v } else if j = 47 then { c with t := if c.t < 0 then 1000000000 else c.t } else if j = 48 then { c with ns := true } else if j = 49 then { c with nc := true } else if j = 50 then { c with pr := true } else if j = 51 then { c with mu := true } else c
def key9 (x : ByteArray) : ByteArray := if eqC x = true then eqA x ++ ⟨#[61]⟩ else eqA x
def stX (c : Ct) (x : ByteArray) : Ct := match lookF tb9 (key9 x) with
  | some j => upC j c (eqB x)
  | none => c
end Go.Proofs.YtccnkmffadmfhaaGreatDoor
namespace Go.Proofs.YtccnkmffadmfhaaGreatDoor
open Go.RowKit
set_option linter.unusedVariables false

theorem look_is (k : ByteArray) : lookF tb9 k = if wdM = k then some 51 else if wdP = k then some 50 else if wdC = k then some 49 else if wdS = k then some 48 else if wdT = k then some 47 else if nmT = k then some 46 else if nmS = k then some 45 else if nmA = k then some 44 else none := by
  unfold tb9
  simp only [lookF_snoc]
  rfl
theorem key_word {x wd : ByteArray} (h : eqC x = true) (hw : (61 : UInt8) ∉ wd.data.toList) : ¬ wd = key9 x := fun e => hw (by
  rw [e]; unfold key9; rw [if_pos h, ByteArray.data_append, Array.toList_append]; simp)
theorem key_name {x n name : ByteArray} (h : eqC x = true) (hn : NameEq n name) : name = key9 x ↔ eqA x = n := by
  have hk : (key9 x).data.toList = (eqA x).data.toList ++ [61] := by unfold key9; rw [if_pos h, ByteArray.data_append, Array.toList_append]
  constructor
  · intro e
    have h2 : n.data.toList ++ [61] = (eqA x).data.toList ++ [61] := by rw [← hn.1, ← hk, e]
    exact ext_z (List.append_cancel_right h2).symm
  · intro e
    exact ext_z (by rw [hn.1, hk, e])
theorem up_a (c : Ct) (v : ByteArray) : upC 44 c v = { c with a := tell c.a v } := rfl
theorem up_s (c : Ct) (v : ByteArray) : upC 45 c v = { c with s := tell c.s v } := rfl
theorem up_t (c : Ct) (v : ByteArray) : upC 46 c v = { c with t := tell c.t v } := rfl
theorem up_n (c : Ct) (v : ByteArray) : upC 47 c v = { c with t := if c.t < 0 then 1000000000 else c.t } := rfl
theorem up_ns (c : Ct) (v : ByteArray) : upC 48 c v = { c with ns := true } := rfl
theorem up_nc (c : Ct) (v : ByteArray) : upC 49 c v = { c with nc := true } := rfl
theorem up_pr (c : Ct) (v : ByteArray) : upC 50 c v = { c with pr := true } := rfl
theorem up_mu (c : Ct) (v : ByteArray) : upC 51 c v = { c with mu := true } := rfl
theorem name_ne {x name : ByteArray} (hw : (61 : UInt8) ∉ x.data.toList) (hn : (61 : UInt8) ∈ name.data.toList) : ¬ name = x := fun e => hw (by rw [← e]; exact hn)
theorem stX_is (c : Ct) (x : ByteArray) : stX c x = stp c x := by
  unfold stX
  rw [look_is]
  cases h : eqC x with
  | true =>
    rw [stp_yes h, if_neg (key_word h (by decide)), if_neg (key_word h (by decide)), if_neg (key_word h (by decide)), if_neg (key_word h (by decide)), if_neg (key_word h (by decide))]
    have ka := key_name h nA_eq
    have ks := key_name h nS_eq
    have kt := key_name h nT_eq
    by_cases h1 : eqA x = n0A
    · have h2 : ¬ eqA x = n0S := by rw [h1]; decide
      have h3 : ¬ eqA x = wdT := by rw [h1]; decide
      rw [if_neg (fun e => h3 (kt.1 e)), if_neg (fun e => h2 (ks.1 e)), if_pos (ka.2 h1), if_pos h1, if_neg h2, if_neg h3]
      exact up_a c (eqB x)
    · by_cases h2 : eqA x = n0S
      · have h3 : ¬ eqA x = wdT := by rw [h2]; decide
        rw [if_neg (fun e => h3 (kt.1 e)), if_pos (ks.2 h2), if_neg h1, if_pos h2, if_neg h3]
        exact up_s c (eqB x)
      · by_cases h3 : eqA x = wdT
        · rw [if_pos (kt.2 h3), if_neg h1, if_neg h2, if_pos h3]
          exact up_t c (eqB x)
        · rw [if_neg (fun e => h3 (kt.1 e)), if_neg (fun e => h2 (ks.1 e)), if_neg (fun e => h1 (ka.1 e)), if_neg h1, if_neg h2, if_neg h3]
  | false =>
    have ho := eq_out x
    have hx := (eq_no h).1
    have hk : key9 x = x := by unfold key9; rw [if_neg (by rw [h]; decide)]; exact hx.symm
    rw [← hx] at ho
    rw [stp_no h, hk]
    unfold st4
    by_cases e1 : x = wdT
    · rw [if_pos e1, if_neg (by rw [e1]; decide), if_neg (by rw [e1]; decide), if_neg (by rw [e1]; decide), if_neg (by rw [e1]; decide), if_pos e1.symm]
      show upC _ c (eqB x) = _
      rw [up_n]
      split <;> rfl
    · rw [if_neg e1]
      by_cases e2 : x = wdS
      · rw [if_pos e2, if_neg (by rw [e2]; decide), if_neg (by rw [e2]; decide), if_neg (by rw [e2]; decide), if_pos e2.symm]
        exact up_ns c (eqB x)
      · rw [if_neg e2]
        by_cases e3 : x = wdC
        · rw [if_pos e3, if_neg (by rw [e3]; decide), if_neg (by rw [e3]; decide), if_pos e3.symm]
          exact up_nc c (eqB x)
        · rw [if_neg e3]
          by_cases e4 : x = wdP
          · rw [if_pos e4, if_neg (by rw [e4]; decide), if_pos e4.symm]
            exact up_pr c (eqB x)
          · rw [if_neg e4]
            by_cases e5 : x = wdM
            · rw [if_pos e5, if_pos e5.symm]
              exact up_mu c (eqB x)
            · rw [if_neg e5, if_neg (fun e => e5 e.symm), if_neg (fun e => e4 e.symm), if_neg (fun e => e3 e.symm), if_neg (fun e => e2 e.symm), if_neg (fun e => e1 e.symm), if_neg (name_ne ho (by decide)), if_neg (name_ne ho (by decide)), if_neg (name_ne ho (by decide))]
theorem upM (j : Nat) (s : ByteArray) (hj : lookF tb9 s = some j) (c : Ct) (hc : ctB c = true) (v : ByteArray) (hv : v.size ≤ 1000) (p : Nat) (w : World) (hp : CtB w p c) : Calls Tryz.prog j #[.pointer (some ⟨p, 0, Option.none⟩), .string v] w fun e w' => e = .returned (.tuple #[]) ∧ CtB w' p (upC j c v) ∧ w.grownBy w' (some p) := by
  rcases tb9_in hj with rfl | rfl | rfl | rfl | rfl | rfl | rfl | rfl
  · rw [up_a]; exact implMa c hc v hv p w hp
  · rw [up_s]; exact implMs c hc v hv p w hp
  · rw [up_t]; exact implMt c hc v hv p w hp
  · rw [up_n]; exact implMn c hc v hv p w hp
  · rw [up_ns]; exact implMns c v p w hp
  · rw [up_nc]; exact implMnc c v p w hp
  · rw [up_pr]; exact implMpr c v p w hp
  · rw [up_mu]; exact implMmu c v p w hp
end Go.Proofs.YtccnkmffadmfhaaGreatDoor
namespace Go.Proofs.YtccnkmffadmfhaaGreatDoor
open Go.RowKit Go.Sort
set_option linter.unusedVariables false
set_option linter.unusedSimpArgs false

theorem cutEq (s : ByteArray) (m : Int) (w : World) (hs : s.size ≤ 1000) (hm : w.cell? ⟨1, 0, Option.none⟩ = some (.int .i64 m)) :
    Calls Tryz.prog 54 #[.string s, .string ⟨#[61]⟩] w fun e w' => e = .returned (.tuple #[.string (eqA s), .string (eqB s), .bool (eqC s)]) ∧ Below w.heap.size w w' :=
  (Tryz.strings_Cut s ⟨#[61]⟩ m w (by omega) hm).mono fun e w' ⟨h1, n, h2⟩ => ⟨h1, by rw [h2]; exact ⟨rfl, rfl, rfl, Nat.le_refl _, fun _ _ => rfl⟩⟩
theorem eq_size (s : ByteArray) : (eqA s).size ≤ s.size ∧ (eqB s).size ≤ s.size := by
  have hl : s.data.toList.length = s.size := by simp
  have k : (Lib.cut s.data.toList [61]).1.length ≤ s.data.toList.length ∧ (Lib.cut s.data.toList [61]).2.1.length ≤ s.data.toList.length := by
    unfold Lib.cut
    split <;> simp <;> omega
  rw [hl] at k
  exact ⟨by show (Lib.cut s.data.toList [61]).1.toArray.size ≤ _; simpa using k.1, by show (Lib.cut s.data.toList [61]).2.1.toArray.size ≤ _; simpa using k.2⟩
theorem lt_cell9 {w : World} {b o : Nat} {v : Value} (h : w.cell? ⟨b, o, Option.none⟩ = some v) : b < w.heap.size := by
  obtain ⟨c, e, fr, hb, _⟩ := cells_of_cell? h
  exact (Array.getElem?_eq_some_iff.1 hb).1
theorem BlkE.grown {α : Type} {E : Enc α} {w w' : World} {b : Nat} {x : α} {r : Option Nat} (h : BlkE E w b x) (hg : w.grownBy w' r) (hne : some b ≠ r) : BlkE E w' b x := h.same (hg.block b h.hi (fun e => hne e)) hg.size
set_option maxHeartbeats 1000000 in
theorem implDir (p : Nat) (w : World) : Calls Tryz.prog 25 #[.pointer (some ⟨p, 0, Option.none⟩)] w fun e w' => e = .returned (.map (some w.heap.size)) ∧ FnM w' w.heap.size p tb9 ∧ Below w.heap.size w w' := by
  have hu : Tryz.prog.underlying 46 = some (.map 9 52) := by kernel_rfl
  have hmk : ∀ W, (Instr.makeMap 46 Option.none).run Tryz.prog W = .ok (.map (some W.heap.size)) (W.alloc (.map #[] 0)) := fun W => by kernel_rfl
  have hF : FnM (w.alloc (.map #[] 0)) w.heap.size p [] := FnM.made w p
  have hb1 : (w.alloc (.map #[] 0)).grownBy (w.alloc (.map #[] 0)) (some w.heap.size) := grownE_self _ _
  have B0 : Hid (Below w.heap.size w (w.alloc (.map #[] 0))) := (Below.refl _ w).alloc (Nat.le_refl _) _
  go_enter Tryz.func25, Tryz.ntmps25
  go_wp2_with (refine wpList_insertF _ rfl _ _ _ 46 52 rfl hu w.heap.size p _ rfl hF (by decide) _ (by decide) _ rfl rfl ?_; clear hF; intro wf hF hgf; have hb2 := hb1.trans hgf; clear hb1 hgf; have hb1 := hb2; clear hb2)
  have F1 : Hid (FnM wf w.heap.size p tb9) := hF
  have B1 : Hid (Below w.heap.size w wf) := belowE B0.out hb1 B0.out.size (by intro k hk; cases hk; omega)
  clear hF hb1 B0 hmk
  go_ret
  exact ⟨rfl, F1.out, B1.out⟩
theorem key_size {x : ByteArray} (h : x.size ≤ 400) : (key9 x).size ≤ 401 ∧ (eqB x).size ≤ 400 := by
  have k := eq_size x
  refine ⟨?_, by omega⟩
  unfold key9
  split
  · rw [ByteArray.size_append]
    show (eqA x).size + 1 ≤ 401
    omega
  · omega
set_option maxHeartbeats 1000000 in
theorem implDof (x : ByteArray) (m : Int) (w : World) (hs : x.size ≤ 400) (hm : w.cell? ⟨1, 0, Option.none⟩ = some (.int .i64 m)) :
    Calls Tryz.prog 27 #[.string x] w fun e w' => e = .returned (.tuple #[.string (key9 x), .string (eqB x)]) ∧ Below w.heap.size w w' := by
  have hce := cutEq x m w (by omega) hm
  have hez := eq_size x
  have HY : Hid (eqC x = true → eqA x ++ ⟨#[61]⟩ = key9 x) := fun h => by unfold key9; rw [if_pos h]
  have HN : Hid (eqC x = false → eqA x = key9 x ∧ (⟨#[]⟩ : ByteArray) = eqB x) := fun h => ⟨by unfold key9; rw [if_neg (by rw [h]; decide)], by
    have h1 : eqB x = ByteArray.empty := by simpa using (eq_no h).2
    rw [h1]
    rfl⟩
  generalize key9 x = K at HY HN ⊢
  generalize eqA x = xa at hce HY HN hez
  generalize eqB x = xb at hce HN hez ⊢
  generalize eqC x = xc at hce HY HN
  have hsz : (xa ++ (⟨#[61]⟩ : ByteArray)).size = xa.size + 1 := ByteArray.size_append
  clear hm
  go_enter Tryz.func27, Tryz.ntmps27
  go_wp2_with fail
  refine hce.mono ?_
  rintro e w1 ⟨rfl, hb1⟩
  have B1 : Hid (Below w.heap.size w w1) := hb1
  clear hb1 hce
  cases xc with
  | true =>
    have H : Hid (xa ++ (⟨#[61]⟩ : ByteArray) = K) := HY.out rfl
    clear HY HN
    go_wp2
    go_ret2
    exact ⟨by rw [H.out]; rfl, B1.out⟩
  | false =>
    have H : Hid (xa = K) := (HN.out rfl).1
    have H2 : Hid ((⟨#[]⟩ : ByteArray) = xb) := (HN.out rfl).2
    clear HY HN
    go_wp2
    go_ret2
    exact ⟨by rw [H.out, ← H2.out]; rfl, B1.out⟩
theorem fold_ok (l : List ByteArray) : ctB (l.foldl (fun c t => stX c (lowT t)) ctN) = true := by
  have e : (fun (c : Ct) (t : ByteArray) => stX c (lowT t)) = fun c t => stp c (lowT t) := by funext c t; exact stX_is c _
  rw [e]
  exact rdL_ok (fun t => (numV_bound9 t).1) l
set_option maxRecDepth 100000 in
set_option maxHeartbeats 8000000 in
theorem implRdC (s : ByteArray) (m : Int) (w : World) (hs : s.size ≤ 1048576) (hm : w.cell? ⟨1, 0, Option.none⟩ = some (.int .i64 m)) :
    Calls Tryz.prog 8 #[.string s] w fun e w' => e = .returned (ctV (rdCt s)) ∧ Below w.heap.size w w' := by
  have hrd : rdCt s = (itemsA s).foldl (fun c t => stX c (lowT t)) ctN := by
    have e : (fun (c : Ct) (t : ByteArray) => stX c (lowT t)) = fun c t => stp c (lowT t) := by funext c t; exact stX_is c _
    rw [e]; rfl
  rw [hrd]
  clear hrd
  have hz : ∀ W, (zeroValue 52).run Tryz.prog W = .ok .nilFunc W := fun W => by kernel_rfl
  have hu : Tryz.prog.underlying 46 = some (.map 9 52) := by kernel_rfl
  have R0 : Hid (CtB ((w.alloc (.cells #[.int .i64 0, .int .i64 0, .int .i64 0, .bool false, .bool false, .bool false, .bool false] 25)).alloc (.cells #[.int .i64 (-1), .int .i64 (-1), .int .i64 (-1), .bool false, .bool false, .bool false, .bool false] 45)) w.heap.size ctZ) := (CtB.born w ctZ 25).alloc _
  have T0 : Hid (CtB ((w.alloc (.cells #[.int .i64 0, .int .i64 0, .int .i64 0, .bool false, .bool false, .bool false, .bool false] 25)).alloc (.cells #[.int .i64 (-1), .int .i64 (-1), .int .i64 (-1), .bool false, .bool false, .bool false, .bool false] 45)) (w.heap.size + 1) ctN) := by
    have := CtB.born (w.alloc (.cells #[.int .i64 0, .int .i64 0, .int .i64 0, .bool false, .bool false, .bool false, .bool false] 25)) ctN 45
    simp only [World.size_alloc] at this
    exact this
  have B0 : Hid (Below w.heap.size w ((w.alloc (.cells #[.int .i64 0, .int .i64 0, .int .i64 0, .bool false, .bool false, .bool false, .bool false] 25)).alloc (.cells #[.int .i64 (-1), .int .i64 (-1), .int .i64 (-1), .bool false, .bool false, .bool false, .bool false] 45))) := ((Below.refl _ w).alloc (Nat.le_refl _) _).alloc (by simp) _
  have D0 := implDir (w.heap.size + 1) ((w.alloc (.cells #[.int .i64 0, .int .i64 0, .int .i64 0, .bool false, .bool false, .bool false, .bool false] 25)).alloc (.cells #[.int .i64 (-1), .int .i64 (-1), .int .i64 (-1), .bool false, .bool false, .bool false, .bool false] 45))
  have M : Hid (∀ W, Below w.heap.size w W → W.cell? ⟨1, 0, Option.none⟩ = some (.int .i64 m)) := fun W hW => (hW.cell (p := ⟨1, 0, Option.none⟩) (lt_cell9 hm)).trans hm
  have hit := fun W => implItems s W (by unfold maxLen; omega)
  have hlz := items_size s
  have hll : (itemsA s).length ≤ 1000 := by have := itemsA_length s; omega
  generalize itemsA s = l at hit hlz hll ⊢
  clear hm
  go_enter Tryz.func8, Tryz.ntmps8
  go_wp2_with fail
  refine D0.mono ?_
  rintro e wf ⟨rfl, hF, hbf⟩
  have F1 : Hid (FnM wf (w.heap.size + 1 + 1) (w.heap.size + 1) tb9) := by
    have := hF
    simp only [World.size_alloc] at this
    exact this
  have R1 : Hid (CtB wf w.heap.size ctZ) := R0.out.kept hbf
  have T1 : Hid (CtB wf (w.heap.size + 1) ctN) := T0.out.kept hbf
  have B1 : Hid (Below w.heap.size w wf) := past9 B0.out hbf
  clear hF hbf R0 T0 B0 D0
  go_wp2_with fail
  refine (hit _).mono ?_
  rintro e w1 ⟨v, rfl, ho, hb1⟩
  have ho' := ho
  obtain ⟨⟨g, cap, rfl, hg0, hg1⟩, _⟩ := ho
  have O2 : Hid (∀ j (hj : j < l.length), w1.cell? ⟨g, j, Option.none⟩ = some (.string l[j])) := ho'.at rfl
  have F2 : Hid (FnM w1 (w.heap.size + 1 + 1) (w.heap.size + 1) tb9) := F1.out.kept hb1
  have R2 : Hid (CtB w1 w.heap.size ctZ) := R1.out.kept hb1
  have T2 : Hid (CtB w1 (w.heap.size + 1) ctN) := T1.out.kept hb1
  have B2 : Hid (Below w.heap.size w w1) := B1.out.trans (hb1.mono B1.out.size)
  have hzf : w.heap.size + 1 + 1 < wf.heap.size := F1.out.lt
  have hgp : w.heap.size + 1 + 1 < g := by omega
  clear ho' hb1 F1 R1 T1 B1 hit
  go_wp2
  go_loopw [17] (fun i wr => ∃ (k : Nat), k ≤ l.length ∧ i = .int .i64 k ∧ Hid (FnM wr (w.heap.size + 1 + 1) (w.heap.size + 1) tb9) ∧ Hid (CtB wr w.heap.size ctZ) ∧ Hid (CtB wr (w.heap.size + 1) ((l.take k).foldl (fun c t => stX c (lowT t)) ctN)) ∧ Hid (Below w.heap.size w wr) ∧ Hid (w1.grownBy wr (some (w.heap.size + 1)))) (fun i _ => l.length - (intOf i).toNat)
  case atStart => exact ⟨0, Nat.zero_le _, rfl, F2, R2, T2, B2, grownE_self _ _⟩
  case round =>
    clear F2 R2 T2 B2
    obtain ⟨k, hk, rfl, hF, hR, hT, hB, hG⟩ := hrel
    by_cases hlt : k < l.length
    · have hc : wr.cell? ⟨g, k, Option.none⟩ = some (.string l[k]) := hG.out.cell (O2.out k hlt) (fun e => by simp at e; omega)
      have htz := hlz l[k] (List.getElem_mem hlt)
      have HN : Hid ((l.take (k + 1)).foldl (fun c t => stX c (lowT t)) ctN = stX ((l.take k).foldl (fun c t => stX c (lowT t)) ctN) (lowT l[k])) := by show _ = _; rw [List.take_succ_eq_append_getElem hlt, List.foldl_append]; rfl
      generalize l[k] = t at hc htz HN
      have HCk : Hid (ctB ((l.take k).foldl (fun c t => stX c (lowT t)) ctN) = true) := fold_ok _
      generalize (l.take k).foldl (fun c t => stX c (lowT t)) ctN = c at hT HN HCk
      have hlw := fun W => implLow t W (by unfold maxLen; omega)
      change ∀ W, Calls _ _ _ _ fun e w' => e = .returned (.string (lowT t)) ∧ _ at hlw
      have hxz : (lowT t).size ≤ 400 := by show ((t.data.toList.map lowB).toArray).size ≤ 400; simpa using htz
      generalize lowT t = x at hlw hxz HN
      have hez := key_size hxz
      have hce := fun W hW => implDof x m W (by omega) hW
      have HX : Hid (stX c x = match lookF tb9 (key9 x) with | some j => upC j c (eqB x) | none => c) := rfl
      generalize stX c x = c2 at HN HX
      generalize key9 x = xa at hce HX hez
      generalize eqB x = xb at hce HX hez
      go_wp2_with fail
      refine (hlw _).mono ?_
      rintro e w2 ⟨rfl, hb2⟩
      have F2 : Hid (FnM w2 (w.heap.size + 1 + 1) (w.heap.size + 1) tb9) := hF.out.kept hb2
      have R2 : Hid (CtB w2 w.heap.size ctZ) := hR.out.kept hb2
      have T2 : Hid (CtB w2 (w.heap.size + 1) c) := hT.out.kept hb2
      have B2 : Hid (Below w.heap.size w w2) := hB.out.trans (hb2.mono hB.out.size)
      have G2 : Hid (w1.grownBy w2 (some (w.heap.size + 1))) := grownE_below hG.out hb2
      clear hb2 hF hR hT hB hG hlw hc
      go_wp2_with fail
      refine (hce _ (M.out _ B2.out)).mono ?_
      rintro e w3 ⟨rfl, hb3⟩
      have F3 : Hid (FnM w3 (w.heap.size + 1 + 1) (w.heap.size + 1) tb9) := F2.out.kept hb3
      have R3 : Hid (CtB w3 w.heap.size ctZ) := R2.out.kept hb3
      have T3 : Hid (CtB w3 (w.heap.size + 1) c) := T2.out.kept hb3
      have B3 : Hid (Below w.heap.size w w3) := B2.out.trans (hb3.mono B2.out.size)
      have G3 : Hid (w1.grownBy w3 (some (w.heap.size + 1))) := grownE_below G2.out hb3
      clear hb3 F2 R2 T2 B2 G2 hce
      cases hl : lookF tb9 xa with
      | none =>
        rw [hl] at HX
        have HM : Hid ((l.take (k + 1)).foldl (fun c t => stX c (lowT t)) ctN = c) := HN.out.trans HX.out
        go_wp2_with (at_lookup; refine wpList_lookF_no _ rfl _ _ 46 52 rfl hu (hz _) (w.heap.size + 1 + 1) (w.heap.size + 1) tb9 rfl F3.out xa (by unfold maxLen; omega) rfl hl ?_)
        go_roundw
        case rel => exact ⟨k + 1, by omega, by go_num, F3, R3, by rw [HM.out]; exact T3, B3, G3⟩
        case measure => simp [intOf]; omega
      | some j =>
        rw [hl] at HX
        have HM : Hid ((l.take (k + 1)).foldl (fun c t => stX c (lowT t)) ctN = upC j c xb) := HN.out.trans HX.out
        have hup3 := upM j xa hl c HCk.out xb (by omega) (w.heap.size + 1) w3 T3.out
        rcases tb9_in hl with rfl | rfl | rfl | rfl | rfl | rfl | rfl | rfl
        all_goals
          go_wp2_with (first | (at_lookup; refine wpList_lookF_yes _ rfl _ _ 46 52 rfl hu (hz _) (w.heap.size + 1 + 1) (w.heap.size + 1) tb9 rfl F3.out xa (by unfold maxLen; omega) rfl _ hl ?_) | (refine hup3.mono ?_; rintro e w4 ⟨rfl, k1, k2⟩; have K1 : Hid _ := k1; have K2 : Hid _ := k2; clear k1 k2))
          have T4 : Hid (CtB w4 (w.heap.size + 1) ((l.take (k + 1)).foldl (fun c t => stX c (lowT t)) ctN)) := by show CtB _ _ _; rw [HM.out]; exact K1.out
          have F4 : Hid (FnM w4 (w.heap.size + 1 + 1) (w.heap.size + 1) tb9) := F3.out.grown K2.out (by intro e; injection e; omega)
          have R4 : Hid (CtB w4 w.heap.size ctZ) := R3.out.grown K2.out (by intro e; injection e; omega)
          have B4 : Hid (Below w.heap.size w w4) := belowE B3.out K2.out B3.out.size (by intro k hk; cases hk; omega)
          have G4 : Hid (w1.grownBy w4 (some (w.heap.size + 1))) := G3.out.trans K2.out
          go_roundw
          case rel => exact ⟨k + 1, by omega, by go_num, F4, R4, T4, B4, G4⟩
          case measure => simp [intOf]; omega
    · obtain rfl : k = l.length := by omega
      rw [List.take_length] at hT
      generalize hq : l.foldl (fun c t => stX c (lowT t)) ctN = q at hT
      have HQ : Hid _ := hq
      clear hq
      obtain ⟨qa, qs, qt, qns, qnc, qpr, qmu⟩ := q
      obtain ⟨t0, t1, t2, t3, t4, t5, t6⟩ := hT.out.all
      obtain ⟨z0, z1, z2, z3, z4, z5, z6⟩ := hR.out.all
      have zf := hR.out.fz
      have P1 := hR.out.puts ⟨qa, qs, qt, qns, qnc, qpr, qmu⟩
      have HP : Hid _ := CtB.all P1
      have BP : Hid _ := putL_below (B := w.heap.size) (b := w.heap.size) (Nat.le_refl _) (ctE.c ⟨qa, qs, qt, qns, qnc, qpr, qmu⟩) 0 hB.out
      unfold ctZ at z0 z1 z2 z3 z4 z5 z6
      simp only at t0 t1 t2 t3 t4 t5 t6 z0 z1 z2 z3 z4 z5 z6
      clear P1 hR hT hF hG O2
      go_wp2
      obtain ⟨p0, p1, p2, p3, p4, p5, p6⟩ := HP.out
      rw [ctE_c] at p0 p1 p2 p3 p4 p5 p6
      have bp := BP.out
      rw [ctE_c] at bp
      simp only [putL, Nat.zero_add, Nat.reduceAdd] at p0 p1 p2 p3 p4 p5 p6 bp
      exact bodyPost_ret (v := ctV ⟨qa, qs, qt, qns, qnc, qpr, qmu⟩) (by unfold ctV; simp [results, Tryz.results8, go_sem, p0, p1, p2, p3, p4, p5, p6]) rfl ⟨by rw [HQ.out], bp⟩
end Go.Proofs.YtccnkmffadmfhaaGreatDoor
