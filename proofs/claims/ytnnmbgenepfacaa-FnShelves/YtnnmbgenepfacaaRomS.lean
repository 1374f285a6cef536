/-
  Shelves as plain data: what has room, what is placed, what goes, what is used.
-/
import Derived.Test.YtnnmbgenepfacaaRomA
namespace Go.Proofs.Ytnnmbgenepfacaa.Rom
set_option linter.unusedVariables false
set_option linter.unusedSimpArgs false

abbrev It := ByteArray × Int
def itOk (q : Int) (x : It) : Bool := decide (x.1.size ≤ 500) && inM x.2 1 q
def sumI (l : List It) : Int := (l.map (·.2)).sum
def shOk (q : Int) (l : List It) : Bool := inM q 1 100000 && (decide (l.length ≤ 50) && (l.all (itOk q) && (decide ((l.map (·.1)).Nodup) && decide (sumI l ≤ q))))
structure ShOk (q : Int) (l : List It) : Prop where
  quo : 1 ≤ q ∧ q ≤ 100000
  len : l.length ≤ 50
  it : ∀ x ∈ l, x.1.size ≤ 500 ∧ 1 ≤ x.2 ∧ x.2 ≤ q
  keys : (l.map (·.1)).Nodup
  sum : sumI l ≤ q
theorem itOk_iff {q : Int} {x : It} : itOk q x = true ↔ x.1.size ≤ 500 ∧ 1 ≤ x.2 ∧ x.2 ≤ q := by
  unfold itOk inM
  rw [Bool.and_eq_true, decide_eq_true_eq, decide_eq_true_eq]
theorem shOk_iff {q : Int} {l : List It} : shOk q l = true ↔ ShOk q l := by
  unfold shOk inM
  rw [Bool.and_eq_true, Bool.and_eq_true, Bool.and_eq_true, Bool.and_eq_true, decide_eq_true_eq, decide_eq_true_eq, decide_eq_true_eq, decide_eq_true_eq, List.all_eq_true]
  constructor
  · rintro ⟨h1, h2, h3, h4, h5⟩
    exact ⟨h1, h2, fun x hx => itOk_iff.1 (h3 x hx), h4, h5⟩
  · intro h
    exact ⟨h.quo, h.len, fun x hx => itOk_iff.2 (h.it x hx), h.keys, h.sum⟩
theorem sumI_cons (x : It) (l : List It) : sumI (x :: l) = x.2 + sumI l := by unfold sumI; rw [List.map_cons, List.sum_cons]
theorem sumI_append (l m : List It) : sumI (l ++ m) = sumI l + sumI m := by unfold sumI; rw [List.map_append, List.sum_append]
theorem sumI_perm {l m : List It} (h : l.Perm m) : sumI l = sumI m := by
  induction h with
  | nil => rfl
  | cons x _ ih => rw [sumI_cons, sumI_cons, ih]
  | swap x y l => rw [sumI_cons, sumI_cons, sumI_cons, sumI_cons]; omega
  | trans _ _ a b => exact a.trans b
theorem sumI_take {l : List It} {n : Nat} (h : n < l.length) : sumI (l.take (n + 1)) = sumI (l.take n) + l[n].2 := by
  rw [List.take_succ_eq_append_getElem h, sumI_append]
  congr 1
  show sumI [l[n]] = _
  rw [sumI_cons]
  show l[n].2 + 0 = _
  omega
theorem ShOk.perm {q : Int} {l m : List It} (h : ShOk q l) (p : l.Perm m) : ShOk q m :=
  ⟨h.quo, p.length_eq ▸ h.len, fun x hx => h.it x (p.mem_iff.2 hx), (p.map _).nodup_iff.1 h.keys, sumI_perm p ▸ h.sum⟩

/-! ### What is used -/
def usdI (k : ByteArray) (l : List It) : List It := l.filter (fun x => decide (x.1 = k)) ++ l.filter (fun x => !decide (x.1 = k))
theorem usdI_perm (k : ByteArray) (l : List It) : (usdI k l).Perm l := List.filter_append_perm _ l
theorem usdI_ok {q : Int} {k : ByteArray} {l : List It} (h : ShOk q l) : ShOk q (usdI k l) := h.perm (usdI_perm k l).symm
theorem usdI_length (k : ByteArray) (l : List It) : (usdI k l).length = l.length := (usdI_perm k l).length_eq

/-! ### What is placed, and what goes -/
def allI (k : ByteArray) (n : Int) (l : List It) : List It := (k, n) :: l.filter (fun x => !decide (x.1 = k))
def keepN (q : Int) (l : List It) : Nat → Nat
  | 0 => 0
  | n + 1 => if sumI (l.take (n + 1)) ≤ q ∧ n + 1 ≤ 50 then n + 1 else keepN q l n
def kept (q : Int) (l : List It) : List It := l.take (keepN q l l.length)
def goneI (l : List It) (n : Nat) : List ByteArray := ((l.drop n).map (·.1)).reverse
theorem keepN_le (q : Int) (l : List It) : ∀ n, keepN q l n ≤ n
  | 0 => Nat.le_refl _
  | n + 1 => by
    unfold keepN
    split
    · exact Nat.le_refl _
    · exact Nat.le_succ_of_le (keepN_le q l n)
theorem keepN_stop {q : Int} {l : List It} {n : Nat} (h : sumI (l.take n) ≤ q ∧ n ≤ 50) : keepN q l n = n := by
  cases n with
  | zero => rfl
  | succ n => unfold keepN; rw [if_pos h]
theorem keepN_on {q : Int} {l : List It} {n : Nat} (h : ¬ (sumI (l.take (n + 1)) ≤ q ∧ n + 1 ≤ 50)) : keepN q l (n + 1) = keepN q l n := by
  rw [keepN, if_neg h]
theorem keepN_one {q : Int} {l : List It} (h1 : sumI (l.take 1) ≤ q) : ∀ n, 1 ≤ n → 1 ≤ keepN q l n
  | 0, h => absurd h (by decide)
  | 1, _ => by rw [keepN_stop ⟨h1, by decide⟩]; exact Nat.le_refl _
  | n + 2, _ => by
    rw [keepN]
    split
    · omega
    · exact keepN_one h1 (n + 1) (by omega)
theorem keepN_ok {q : Int} {l : List It} (hq : 0 ≤ q) : ∀ n, sumI (l.take (keepN q l n)) ≤ q ∧ keepN q l n ≤ 50
  | 0 => ⟨by rw [keepN, List.take_zero]; exact hq, Nat.zero_le _⟩
  | n + 1 => by
    rw [keepN]
    split
    · assumption
    · exact keepN_ok hq n
theorem goneI_next {l : List It} {n : Nat} (h : n < l.length) : goneI l n = goneI l (n + 1) ++ [l[n].1] := by
  unfold goneI
  rw [List.drop_eq_getElem_cons h, List.map_cons, List.reverse_cons]
theorem goneI_none (l : List It) : goneI l l.length = [] := by unfold goneI; rw [List.drop_length]; rfl
theorem allI_keys {k : ByteArray} {n : Int} {l : List It} (h : (l.map (·.1)).Nodup) : ((allI k n l).map (·.1)).Nodup := by
  unfold allI
  rw [List.map_cons, List.nodup_cons]
  constructor
  · intro hm
    obtain ⟨x, hx, e⟩ := List.mem_map.1 hm
    have := (List.mem_filter.1 hx).2
    rw [e] at this
    simp at this
  · exact h.sublist (List.Sublist.map _ List.filter_sublist)
theorem allI_length (k : ByteArray) (n : Int) (l : List It) : (allI k n l).length ≤ l.length + 1 := by
  unfold allI
  rw [List.length_cons]
  have := List.length_filter_le (fun x : It => !decide (x.1 = k)) l
  omega
theorem placed_ok {q n : Int} {k : ByteArray} {l : List It} (h : ShOk q l) (hk : k.size ≤ 500) (hn : 1 ≤ n ∧ n ≤ q) : ShOk q (kept q (allI k n l)) := by
  have ho := keepN_ok (q := q) (l := allI k n l) (by have := h.quo; omega) (allI k n l).length
  refine ⟨h.quo, ?_, fun x hx => ?_, ?_, ho.1⟩
  · unfold kept; rw [List.length_take]; omega
  · have hx := List.mem_of_mem_take hx
    unfold allI at hx
    rcases List.mem_cons.1 hx with e | e
    · rw [e]; exact ⟨hk, hn⟩
    · exact h.it x (List.mem_filter.1 e).1
  · exact (allI_keys h.keys).sublist (List.Sublist.map _ (List.take_sublist _ _))
theorem placed_front {q n : Int} {k : ByteArray} {l : List It} (hn : n ≤ q) : ∃ t, kept q (allI k n l) = (k, n) :: t := by
  have h1 : 1 ≤ keepN q (allI k n l) (allI k n l).length := keepN_one (by unfold allI; rw [List.take_succ_cons, List.take_zero, sumI_cons]; show n + 0 ≤ q; omega) _ (by unfold allI; simp)
  unfold kept
  obtain ⟨j, hj⟩ : ∃ j, keepN q (allI k n l) (allI k n l).length = j + 1 := ⟨_, (Nat.sub_add_cancel h1).symm⟩
  rw [hj]
  exact ⟨_, by unfold allI; rw [List.take_succ_cons]⟩
/-- What goes is not there. -/
theorem gone_out {q : Int} {l : List It} {x : It} {y : ByteArray} (h : (l.map (·.1)).Nodup) (hx : x ∈ kept q l) (hy : y ∈ goneI l (keepN q l l.length)) : x.1 ≠ y := by
  intro e
  unfold goneI at hy
  rw [List.mem_reverse] at hy
  have hs : l.map (·.1) = (l.take (keepN q l l.length)).map (·.1) ++ (l.drop (keepN q l l.length)).map (·.1) := by rw [← List.map_append, List.take_append_drop]
  rw [hs, List.nodup_append] at h
  exact h.2.2 x.1 (List.mem_map.2 ⟨x, hx, rfl⟩) y hy e
end Go.Proofs.Ytnnmbgenepfacaa.Rom
