/-
  A directive that is cut at its first = : what the specification reads of it.
-/
import Derived.Test.YtccnkmffadmfhaaDoorCtlS
import Derived.Lib.IndexMore
namespace Go.Proofs.YtccnkmffadmfhaaDoor
open Go.RowKit
set_option linter.unusedVariables false

theorem cutE_hit {b : UInt8} {l sub : List UInt8} (h : sub.isPrefixOf (b :: l) = true) : Lib.cut (b :: l) sub = ([], (b :: l).drop sub.length, true) := by
  unfold Lib.cut
  rw [Lib.index, if_pos h]
  simp
theorem cutE_miss {b : UInt8} {l sub : List UInt8} (h : sub.isPrefixOf (b :: l) = false) : Lib.cut (b :: l) sub = if (Lib.cut l sub).2.2 = true then (b :: (Lib.cut l sub).1, (Lib.cut l sub).2.1, true) else (b :: l, [], false) := by
  have hg := Lib.index_ge l sub
  have hi : Lib.index (b :: l) sub = if Lib.index l sub == -1 then -1 else Lib.index l sub + 1 := by
    rw [Lib.index, if_neg (by rw [h]; decide)]
  unfold Lib.cut
  rw [hi]
  by_cases h1 : Lib.index l sub = -1
  · rw [h1]; simp
  · obtain ⟨n, hn⟩ : ∃ n : Nat, Lib.index l sub = n := ⟨(Lib.index l sub).toNat, by omega⟩
    rw [hn]
    have e1 : ((n : Int) == -1) = false := by simp
    have e2 : ((n : Int) + 1).toNat = n + 1 := by omega
    simp only [e1, Bool.false_eq_true, if_false, if_pos (show (0 : Int) ≤ (n : Int) + 1 by omega), if_pos (show (0 : Int) ≤ (n : Int) by omega), if_true, e2, Int.toNat_natCast, List.take_succ_cons]
    rw [show n + 1 + sub.length = (n + sub.length) + 1 from by omega, List.drop_succ_cons]
/-- A text cut at its first sign c. -/
theorem cutE_is (c : UInt8) : ∀ l : List UInt8, c ∉ (Lib.cut l [c]).1 ∧ (((Lib.cut l [c]).2.2 = true ∧ l = (Lib.cut l [c]).1 ++ c :: (Lib.cut l [c]).2.1) ∨ ((Lib.cut l [c]).2.2 = false ∧ l = (Lib.cut l [c]).1 ∧ (Lib.cut l [c]).2.1 = []))
  | [] => ⟨by simp [Lib.cut, Lib.index], .inr ⟨rfl, rfl, rfl⟩⟩
  | b :: t => by
    by_cases h : b = c
    · subst h
      rw [cutE_hit (by simp [List.isPrefixOf])]
      exact ⟨by simp, .inl ⟨rfl, by simp⟩⟩
    · have hp : ([c] : List UInt8).isPrefixOf (b :: t) = false := by
        simp [List.isPrefixOf]
        exact fun e => h e.symm
      obtain ⟨h1, h2⟩ := cutE_is c t
      rw [cutE_miss hp]
      rcases h2 with ⟨h3, h4⟩ | ⟨h3, h4, h5⟩
      · rw [if_pos h3]
        exact ⟨by simp only [List.mem_cons, not_or]; exact ⟨fun e => h e.symm, h1⟩, .inl ⟨rfl, by simp only [List.cons_append]; rw [← h4]⟩⟩
      · rw [if_neg (by rw [h3]; decide)]
        refine ⟨?_, .inr ⟨rfl, rfl, rfl⟩⟩
        simp only [List.mem_cons, not_or]
        exact ⟨fun e => h e.symm, by rw [← h4] at h1; exact h1⟩
theorem split_same {c : UInt8} : ∀ {a b r : List UInt8}, c ∉ a → c ∉ b → (b ++ c :: r).take (a.length + 1) = a ++ [c] → b = a
  | [], [], r, _, _, _ => rfl
  | [], x :: b, r, _, h2, h => by
    simp at h
    exact absurd (by rw [h]; simp) h2
  | x :: a, [], r, h1, _, h => by
    simp at h
    exact absurd (by rw [h.1]; simp) h1
  | x :: a, y :: b, r, h1, h2, h => by
    simp only [List.cons_append, List.length_cons, List.take_succ_cons, List.cons.injEq] at h
    rw [h.1, split_same (fun e => h1 (List.mem_cons_of_mem _ e)) (fun e => h2 (List.mem_cons_of_mem _ e)) h.2]
def eqA (s : ByteArray) : ByteArray := ⟨(Lib.cut s.data.toList [61]).1.toArray⟩
def eqB (s : ByteArray) : ByteArray := ⟨(Lib.cut s.data.toList [61]).2.1.toArray⟩
def eqC (s : ByteArray) : Bool := (Lib.cut s.data.toList [61]).2.2
theorem ext_z {a b : ByteArray} (h : a.data.toList = b.data.toList) : a = b := by
  cases a; cases b; simp at h; rw [h]
theorem eq_yes {x : ByteArray} (h : eqC x = true) : x.data.toList = (eqA x).data.toList ++ 61 :: (eqB x).data.toList := by
  rcases (cutE_is 61 x.data.toList).2 with ⟨_, h2⟩ | ⟨h2, _⟩
  · simpa [eqA, eqB] using h2
  · unfold eqC at h; rw [h2] at h; cases h
theorem eq_no {x : ByteArray} (h : eqC x = false) : x = eqA x ∧ (eqB x).size = 0 := by
  rcases (cutE_is 61 x.data.toList).2 with ⟨h2, _⟩ | ⟨_, h2, h3⟩
  · unfold eqC at h; rw [h2] at h; cases h
  · exact ⟨ext_z (by simpa [eqA] using h2), by show (Lib.cut x.data.toList [61]).2.1.toArray.size = 0; rw [h3]; rfl⟩
theorem eq_out (x : ByteArray) : (61 : UInt8) ∉ (eqA x).data.toList := by simpa [eqA] using (cutE_is 61 x.data.toList).1
/-- A name with its = behind it. -/
def NameEq (n name : ByteArray) : Prop := name.data.toList = n.data.toList ++ [61] ∧ (61 : UInt8) ∉ n.data.toList
theorem take_list (x : ByteArray) (k : Nat) : (x.extract 0 k).data.toList = x.data.toList.take k := by
  simp [List.extract_eq_take_drop]
theorem drop_list (x : ByteArray) (k : Nat) : (x.extract k x.size).data.toList = x.data.toList.drop k := by
  have hl : x.data.toList.length = x.size := by simp
  simp only [ByteArray.data_extract, Array.toList_extract, List.extract_eq_take_drop]
  rw [List.take_of_length_le (by rw [List.length_drop]; omega)]
theorem size_list (x : ByteArray) : x.size = x.data.toList.length := by simp
theorem take_at {c : UInt8} (a r : List UInt8) : (a ++ c :: r).take (a.length + 1) = a ++ [c] := by
  rw [show a ++ c :: r = (a ++ [c]) ++ r by simp, List.take_left' (by simp)]
theorem drop_at {c : UInt8} (a r : List UInt8) : (a ++ c :: r).drop (a.length + 1) = r := by
  rw [show a ++ c :: r = (a ++ [c]) ++ r by simp, List.drop_left' (by simp)]
theorem told_cut {x n name : ByteArray} (hn : NameEq n name) : (told x name).2 = (eqC x && (decide (eqA x = n) && numOk 10 15 (eqB x))) ∧ ((told x name).2 = true → (told x name).1 = minI 1000000000 (numV 10 15 (eqB x))) := by
  have hz : name.size = n.data.toList.length + 1 := by rw [size_list, hn.1]; simp
  cases hc : eqC x with
  | false =>
    obtain ⟨h1, h2⟩ := eq_no hc
    have ho := eq_out x
    rw [← h1] at ho
    have ht : ¬ x.extract 0 name.size = name := fun e => by
      have e2 : x.data.toList.take name.size = name.data.toList := by rw [← take_list, e]
      have : (61 : UInt8) ∈ x.data.toList.take name.size := by rw [e2, hn.1]; simp
      exact ho (List.mem_of_mem_take this)
    have k : told x name = (0, false) := by unfold told; rw [if_pos (.inr ht)]
    rw [k]
    exact ⟨rfl, fun h => by cases h⟩
  | true =>
    have hx := eq_yes hc
    have hxz : x.size = (eqA x).data.toList.length + 1 + (eqB x).data.toList.length := by rw [size_list, hx]; simp; omega
    by_cases he : eqA x = n
    · rw [decide_eq_true he, Bool.true_and, Bool.true_and]
      have hpre : x.extract 0 name.size = name := ext_z (by rw [take_list, hz, hx, he, hn.1]; exact take_at _ _)
      have hrest : x.extract name.size x.size = eqB x := ext_z (by rw [drop_list, hz, hx, he]; exact drop_at _ _)
      by_cases hv : (eqB x).size = 0
      · have k : told x name = (0, false) := by
          unfold told
          rw [if_pos (.inl (by rw [hxz, hz, he]; rw [size_list] at hv; omega))]
        rw [k, numOk_out (.inl (by omega))]
        exact ⟨rfl, fun h => by cases h⟩
      · have k : told x name = (minI 1000000000 (numV 10 15 (eqB x)), numOk 10 15 (eqB x)) := by
          unfold told
          rw [if_neg (by rintro (h | h); · rw [hxz, hz, he] at h; rw [size_list] at hv; omega
                         · exact h hpre), hrest]
        rw [k]
        exact ⟨rfl, fun _ => rfl⟩
    · rw [decide_eq_false he]
      have ht : ¬ x.extract 0 name.size = name := fun e => by
        have e2 : x.data.toList.take name.size = name.data.toList := by rw [← take_list, e]
        rw [hz, hx, hn.1] at e2
        exact he (ext_z (split_same hn.2 (eq_out x) e2))
      have k : told x name = (0, false) := by unfold told; rw [if_pos (.inr ht)]
      rw [k]
      exact ⟨rfl, fun h => by cases h⟩
def n0A : ByteArray := ⟨#[109, 97, 120, 45, 97, 103, 101]⟩
def n0S : ByteArray := ⟨#[115, 45, 109, 97, 120, 97, 103, 101]⟩
theorem nA_eq : NameEq n0A nmA := ⟨by decide, by decide⟩
theorem nS_eq : NameEq n0S nmS := ⟨by decide, by decide⟩
theorem nT_eq : NameEq wdT nmT := ⟨by decide, by decide⟩
theorem word_no {x wd : ByteArray} (h : eqC x = true) (hw : (61 : UInt8) ∉ wd.data.toList) : ¬ x = wd := fun e => hw (by rw [← e, eq_yes h]; simp)
theorem st4_yes {x : ByteArray} (h : eqC x = true) (c : Ct) : st4 c x = c := by
  unfold st4
  rw [if_neg (word_no h (by decide)), if_neg (word_no h (by decide)), if_neg (word_no h (by decide)), if_neg (word_no h (by decide)), if_neg (word_no h (by decide))]
/-- A number that is told, the first time. -/
def tell (before : Int) (v : ByteArray) : Int := if numOk 10 15 v = true ∧ before < 0 then minI 1000000000 (numV 10 15 v) else before
theorem st_num {b : Bool} {t : Int × Bool} {v : ByteArray} {before : Int} (h1 : t.2 = (true && (b && numOk 10 15 v))) (h2 : t.2 = true → t.1 = minI 1000000000 (numV 10 15 v)) : (if t.2 = true ∧ before < 0 then t.1 else before) = if b = true then tell before v else before := by
  unfold tell
  cases b with
  | false =>
    have : t.2 = false := by rw [h1]; rfl
    rw [if_neg (by rw [this]; exact fun h => by cases h.1), if_neg (by decide)]
  | true =>
    have h3 : t.2 = numOk 10 15 v := by rw [h1]; rfl
    rw [if_pos rfl, h3]
    by_cases h4 : numOk 10 15 v = true ∧ before < 0
    · rw [if_pos h4, if_pos h4, h2 (by rw [h3]; exact h4.1)]
    · rw [if_neg h4, if_neg h4]
theorem st1_is (c : Ct) (x : ByteArray) : st1 c x = { c with a := if (told x nmA).2 = true ∧ c.a < 0 then (told x nmA).1 else c.a } := by unfold st1; split <;> rfl
theorem st2_is (c : Ct) (x : ByteArray) : st2 c x = { c with s := if (told x nmS).2 = true ∧ c.s < 0 then (told x nmS).1 else c.s } := by unfold st2; split <;> rfl
theorem st3_is (c : Ct) (x : ByteArray) : st3 c x = { c with t := if (told x nmT).2 = true ∧ c.t < 0 then (told x nmT).1 else c.t } := by unfold st3; split <;> rfl
/-- With a = in it: the number that its name has is told. -/
theorem stp_yes {x : ByteArray} (h : eqC x = true) (c : Ct) : stp c x = { c with a := if eqA x = n0A then tell c.a (eqB x) else c.a, s := if eqA x = n0S then tell c.s (eqB x) else c.s, t := if eqA x = wdT then tell c.t (eqB x) else c.t } := by
  obtain ⟨a1, a2⟩ := told_cut (x := x) nA_eq
  obtain ⟨b1, b2⟩ := told_cut (x := x) nS_eq
  obtain ⟨t1, t2⟩ := told_cut (x := x) nT_eq
  rw [h] at a1 b1 t1
  unfold stp
  rw [st4_yes h, st3_is, st2_is, st1_is]
  simp only
  rw [st_num a1 a2, st_num b1 b2, st_num t1 t2]
  simp only [decide_eq_true_eq]
theorem told_none {x n name : ByteArray} (hn : NameEq n name) (h : eqC x = false) : (told x name).2 = false := by rw [(told_cut hn).1, h]; rfl
/-- Without one: a word. -/
theorem stp_no {x : ByteArray} (h : eqC x = false) (c : Ct) : stp c x = st4 c x := by
  unfold stp
  rw [st3_is, st2_is, st1_is]
  simp only [told_none nA_eq h, told_none nS_eq h, told_none nT_eq h, Bool.false_eq_true, false_and, if_false]
end Go.Proofs.YtccnkmffadmfhaaDoor
