/-
  Plain facts on lists of texts in the order of their bytes: the sorted list, and that every way to sort comes to it; and on texts that are joined by a byte.
-/
import Derived.Test.YthadmhleibhlgaaDoorPthB
import Derived.Sort.Walk0
namespace Go.Proofs.YthadmhleibhlgaaDoor
open Go.RowKit

theorem leL_total (a b : List UInt8) : (decide (a ≤ b) || decide (b ≤ a)) = true := by
  rcases List.le_total a b with h | h
  · simp [h]
  · simp [h]
theorem leL_trans (a b c : List UInt8) (h1 : decide (a ≤ b) = true) (h2 : decide (b ≤ c) = true) : decide (a ≤ c) = true :=
  decide_eq_true (List.le_trans (of_decide_eq_true h1) (of_decide_eq_true h2))
theorem leL_anti (a b : List UInt8) (h1 : a ≤ b) (h2 : b ≤ a) : a = b := List.le_antisymm h1 h2

/-- Sorted by bytes. -/
def SrtL (l : List (List UInt8)) : Prop := l.Pairwise fun a b => a ≤ b
theorem srt_one {a b : List (List UInt8)} (ha : SrtL a) (hb : SrtL b) (h : a.Perm b) : a = b :=
  List.Perm.eq_of_pairwise (fun x y _ _ h1 h2 => leL_anti x y h1 h2) ha hb h

/-- One text put into its place. -/
def insL (x : List UInt8) : List (List UInt8) → List (List UInt8)
  | [] => [x]
  | y :: r => if y ≤ x then y :: insL x r else x :: y :: r
def srtL (l : List (List UInt8)) : List (List UInt8) := l.foldr insL []
theorem insL_perm (x : List UInt8) : ∀ l, (insL x l).Perm (x :: l)
  | [] => List.Perm.refl _
  | y :: r => by
    unfold insL
    split
    · exact ((insL_perm x r).cons y).trans (List.Perm.swap x y r)
    · exact List.Perm.refl _
theorem insL_srt (x : List UInt8) : ∀ l, SrtL l → SrtL (insL x l)
  | [], _ => by unfold insL SrtL; simp
  | y :: r, h => by
    unfold SrtL at h
    rw [List.pairwise_cons] at h
    unfold insL
    split
    · rename_i hle
      unfold SrtL
      rw [List.pairwise_cons]
      refine ⟨fun z hz => ?_, insL_srt x r h.2⟩
      rcases List.mem_cons.1 ((insL_perm x r).subset hz) with rfl | hz
      · exact hle
      · exact h.1 z hz
    · rename_i hle
      have hxy : x ≤ y := by
        rcases List.le_total x y with e | e
        · exact e
        · exact absurd e hle
      unfold SrtL
      rw [List.pairwise_cons, List.pairwise_cons]
      refine ⟨fun z hz => ?_, h⟩
      rcases List.mem_cons.1 hz with rfl | hz
      · exact hxy
      · exact List.le_trans hxy (h.1 z hz)
theorem srtL_perm : ∀ l, (srtL l).Perm l
  | [] => List.Perm.refl _
  | x :: r => (insL_perm x (srtL r)).trans ((srtL_perm r).cons x)
theorem srtL_srt : ∀ l, SrtL (srtL l)
  | [] => List.Pairwise.nil
  | x :: r => insL_srt x _ (srtL_srt r)
theorem srtL_is {l m : List (List UInt8)} (h1 : SrtL m) (h2 : m.Perm l) : m = srtL l :=
  srt_one h1 (srtL_srt l) (h2.trans (srtL_perm l).symm)

/-- A part that is not empty. -/
def fulB (p : List UInt8) : Bool := !p.isEmpty
theorem fulB_nil : fulB [] = false := rfl
theorem fulB_of {p : List UInt8} (h : p ≠ []) : fulB p = true := by cases p with
  | nil => exact absurd rfl h
  | cons _ _ => rfl
theorem merge_srt (l : List (List UInt8)) : (l.mergeSort fun x y => decide (x ≤ y)).filter fulB = srtL (l.filter fulB) := by
  have h1 := List.pairwise_mergeSort leL_trans leL_total l
  have h2 := List.mergeSort_perm l (fun x y => decide (x ≤ y))
  refine srtL_is ?_ (h2.filter fulB)
  have h3 : SrtL (l.mergeSort fun x y => decide (x ≤ y)) := by
    unfold SrtL
    simpa using h1
  exact List.Pairwise.filter fulB h3

/-- One part more, joined. -/
def jonS (d : UInt8) (acc : List UInt8) (p : List UInt8) : List UInt8 := if acc = [] then p else acc ++ [d] ++ p
theorem join_snoc (d : UInt8) : ∀ (ps : List (List UInt8)) (p : List UInt8), ps ≠ [] → Lib.join (ps ++ [p]) [d] = Lib.join ps [d] ++ [d] ++ p
  | [], p, h => absurd rfl h
  | [a], p, _ => by simp [Lib.join, List.intercalate, List.intersperse]
  | a :: b :: r, p, _ => by
    have e1 : Lib.join (a :: b :: r) [d] = a ++ [d] ++ Lib.join (b :: r) [d] := by simp [Lib.join, List.intercalate, List.intersperse]
    have e2 : Lib.join (a :: b :: r ++ [p]) [d] = a ++ [d] ++ Lib.join (b :: r ++ [p]) [d] := by
      simp only [List.cons_append]
      simp [Lib.join, List.intercalate, List.intersperse]
    rw [e1, e2, join_snoc d (b :: r) p (by simp)]
    simp
theorem join_zero (d : UInt8) (p : List UInt8) : Lib.join ([] ++ [p]) [d] = p := by simp [Lib.join, List.intercalate]
theorem join_full (d : UInt8) : ∀ (ps : List (List UInt8)), (∀ p ∈ ps, p ≠ []) → ps ≠ [] → Lib.join ps [d] ≠ []
  | [], _, h => absurd rfl h
  | [a], h, _ => by rw [Lib.join_one]; exact h a (by simp)
  | a :: b :: r, h, _ => by
    have ha := h a (by simp)
    intro e
    have e1 : Lib.join (a :: b :: r) [d] = a ++ [d] ++ Lib.join (b :: r) [d] := by simp [Lib.join, List.intercalate, List.intersperse]
    rw [e1] at e
    simp at e
/-- How long joined parts are. -/
theorem join_length : ∀ (d : UInt8) (ps : List (List UInt8)), (Lib.join ps [d]).length ≤ sumL ps
  | d, [] => by simp [Lib.join, List.intercalate]
  | d, [a] => by rw [Lib.join_one]; simp [sumL]
  | d, a :: b :: r => by
    have e1 : Lib.join (a :: b :: r) [d] = a ++ [d] ++ Lib.join (b :: r) [d] := by simp [Lib.join, List.intercalate, List.intersperse]
    have ih := join_length d (b :: r)
    have e2 : sumL (a :: b :: r) = (a.length + 1) + sumL (b :: r) := by simp [sumL]
    rw [e1, e2, List.length_append, List.length_append]
    simp
    omega
theorem sumL_perm {a b : List (List UInt8)} (h : a.Perm b) : sumL a = sumL b := (h.map _).sum_nat
theorem sumL_filter (l : List (List UInt8)) : sumL (l.filter fulB) ≤ sumL l := by
  induction l with
  | nil => simp
  | cons p r ih =>
    rw [List.filter_cons]
    split
    · simp [sumL] at ih ⊢; omega
    · simp [sumL] at ih ⊢; omega

/-- What SortedQuery answers. -/
def qryL (l : List UInt8) : List UInt8 := Lib.join (srtL ((splL 38 l).filter fulB)) [38]
def qryA (s : ByteArray) : ByteArray := if s.size ≤ 200 then txt (qryL s.data.toList) else ⟨#[]⟩
theorem qryA_yes {s : ByteArray} (h : s.size ≤ 200) : txt (qryL s.data.toList) = qryA s := by unfold qryA; rw [if_pos h]
theorem qryA_no {s : ByteArray} (h : 200 < s.size) : (⟨#[]⟩ : ByteArray) = qryA s := by unfold qryA; rw [if_neg (by omega)]
theorem qryL_length (l : List UInt8) : (qryL l).length ≤ l.length + 1 := by
  unfold qryL
  have h1 := join_length 38 (srtL ((splL 38 l).filter fulB))
  have h2 := sumL_perm (srtL_perm ((splL 38 l).filter fulB))
  have h3 := sumL_filter (splL 38 l)
  have h4 : sumL (splL 38 l) = 0 + l.length + 1 := splF_sum 38 l []
  omega
theorem qryA_size (s : ByteArray) : (qryA s).size ≤ 201 := by
  unfold qryA
  split
  · rename_i h
    have h1 := qryL_length s.data.toList
    have e : s.data.toList.length = s.size := by simp
    rw [txt_size]
    omega
  · show 0 ≤ 201
    omega
/-- A sorted query is sorted. -/
theorem qryL_again (l : List UInt8) : qryL (qryL l) = qryL l := by
  have hf : ∀ p ∈ srtL ((splL 38 l).filter fulB), (38 : UInt8) ∉ p ∧ fulB p = true := by
    intro p hp
    have := (srtL_perm _).subset hp
    rw [List.mem_filter] at this
    exact ⟨splF_none l [] (by simp) p this.1, this.2⟩
  generalize hm : srtL ((splL 38 l).filter fulB) = m at hf
  have e : qryL l = Lib.join m [38] := by unfold qryL; rw [hm]
  have hs : SrtL m := by rw [← hm]; exact srtL_srt _
  rw [e]
  by_cases h0 : m = []
  · subst h0
    decide
  · unfold qryL
    rw [splL_join m h0 (fun p hp => (hf p hp).1), List.filter_eq_self.2 (fun p hp => (hf p hp).2), ← srtL_is hs (List.Perm.refl m)]
/-- An order of two texts, as the model asks it. -/
theorem gtr_is (a b : ByteArray) : (!(Op.bytesLess a.toList b.toList || a.toList == b.toList)) = decide (b.data.toList < a.data.toList) := by
  rw [bytesLess_eq, Lib.toList_data, Lib.toList_data]
  by_cases h : b.data.toList < a.data.toList
  · have h1 : ¬ a.data.toList < b.data.toList := fun e => List.lt_irrefl _ (List.lt_trans h e)
    have h2 : ¬ a.data = b.data := fun e => by rw [e] at h; exact List.lt_irrefl _ h
    simp [h, h1, h2]
  · have h1 : a.data.toList ≤ b.data.toList := h
    by_cases h2 : a.data.toList = b.data.toList
    · simp [h2]
    · have h3 : a.data.toList < b.data.toList := by
        by_cases e : a.data.toList < b.data.toList
        · exact e
        · exact absurd (leL_anti _ _ h1 e) h2
      simp [h, h3]
end Go.Proofs.YthadmhleibhlgaaDoor
