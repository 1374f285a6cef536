/-
  Plain facts on how a list of texts is sorted by putting one text after the other into its place, and how parts are joined one after the other.
-/
import Derived.Test.YthadmhleibhlgaaDoorPthD
import Derived.Test.YthadmhleibhlgaaDoorPthE
namespace Go.Proofs.YthadmhleibhlgaaDoor
open Go.RowKit

theorem le_of_lt {a b : List UInt8} (h : a < b) : a ≤ b := fun e => List.lt_irrefl _ (List.lt_trans h e)
theorem le_of_not_lt {a b : List UInt8} (h : ¬ a < b) : b ≤ a := h
/-- The text x in its place: all ahead are not above it, all behind are. -/
theorem srt_put {A B : List (List UInt8)} {x : List UInt8} (h : SrtL (A ++ B)) (hB : ∀ b ∈ B, x < b) (hA : ∀ a, A.getLast? = some a → a ≤ x) : SrtL (A ++ [x] ++ B) := by
  unfold SrtL at *
  rw [List.pairwise_append] at h
  rw [List.pairwise_append, List.pairwise_append]
  have hax : ∀ a ∈ A, a ≤ x := by
    intro a ha
    cases hr : A.reverse with
    | nil =>
      have : A = [] := by simpa using hr
      rw [this] at ha; cases ha
    | cons l r =>
      have e : A = r.reverse ++ [l] := by rw [← List.reverse_reverse A, hr]; simp
      have hl : l ≤ x := hA l (by rw [e]; simp)
      rw [e] at ha
      rcases List.mem_append.1 ha with ha | ha
      · have hp := h.1
        rw [e, List.pairwise_append] at hp
        exact List.le_trans (hp.2.2 a ha l (by simp)) hl
      · simp at ha
        rw [ha]; exact hl
  refine ⟨⟨h.1, by simp, fun a ha b hb => ?_⟩, h.2.1, fun a ha b hb => ?_⟩
  · simp at hb
    rw [hb]; exact hax a ha
  · rcases List.mem_append.1 ha with ha | ha
    · exact h.2.2 a ha b hb
    · simp at ha
      rw [ha]; exact le_of_lt (hB b hb)
theorem perm_put (A B : List (List UInt8)) (x : List UInt8) {l : List (List UInt8)} (h : (A ++ B).Perm l) : (A ++ [x] ++ B).Perm (l ++ [x]) := by
  refine List.Perm.trans ?_ (List.Perm.append_right [x] h)
  rw [List.append_assoc, List.append_assoc]
  exact List.Perm.append_left A (List.perm_append_comm)
theorem snoc_of {A : List (List UInt8)} (h : A ≠ []) : ∃ A' a, A = A' ++ [a] := ⟨A.dropLast, A.getLast h, (List.dropLast_concat_getLast h).symm⟩
/-- A step of the search for the place. -/
theorem hole_step (A' B : List (List UInt8)) (a h : List UInt8) : (A' ++ [a] ++ [h] ++ B).set (A'.length + 1) a = A' ++ [a] ++ (a :: B) := by
  have e : A' ++ [a] ++ [h] ++ B = (A' ++ [a]) ++ (h :: B) := by simp
  rw [e, List.set_append_right _ _ (by simp)]
  simp
theorem hole_fill (A B : List (List UInt8)) (x h : List UInt8) : (A ++ [h] ++ B).set A.length x = A ++ [x] ++ B := by
  have e : A ++ [h] ++ B = A ++ (h :: B) := by simp
  rw [e, List.set_append_right _ _ (by simp)]
  simp
theorem map_set (l : List (List UInt8)) (j : Nat) (x : List UInt8) : (l.map txt).set j (txt x) = (l.set j x).map txt := by
  rw [List.map_set]
theorem get_before (A' B : List (List UInt8)) (a h : List UInt8) : ((A' ++ [a] ++ [h] ++ B).map txt)[A'.length]? = some (txt a) := by
  simp
/-- The first parts that are not empty. -/
theorem fil_next (ps : List (List UInt8)) (k : Nat) (h : k < ps.length) : (ps.take (k + 1)).filter fulB = (ps.take k).filter fulB ++ (if fulB ps[k] = true then [ps[k]] else []) := by
  rw [List.take_succ_eq_append_getElem h, List.filter_append]
  congr 1
  simp [List.filter_cons]
theorem fil_yes {ps : List (List UInt8)} {k : Nat} (h : k < ps.length) (hf : ps[k] ≠ []) : (ps.take (k + 1)).filter fulB = (ps.take k).filter fulB ++ [ps[k]] := by
  rw [fil_next ps k h, if_pos (fulB_of hf)]
theorem fil_no {ps : List (List UInt8)} {k : Nat} (h : k < ps.length) (hf : ps[k] = []) : (ps.take (k + 1)).filter fulB = (ps.take k).filter fulB := by
  rw [fil_next ps k h, hf, fulB_nil]
  simp
theorem fil_length (ps : List (List UInt8)) (k : Nat) : ((ps.take k).filter fulB).length ≤ ps.length := by
  have h1 := List.length_filter_le fulB (ps.take k)
  have h2 : (ps.take k).length ≤ ps.length := List.length_take_le' _ _
  omega
theorem txt_empty {p : List UInt8} (h : p = []) : (txt p).toList = [] := by rw [txt_toList, h]
theorem txt_full {p : List UInt8} (h : p ≠ []) : (txt p).toList.isEmpty = false := by
  rw [txt_toList]
  cases p with
  | nil => exact absurd rfl h
  | cons _ _ => rfl
theorem fil_full (ps : List (List UInt8)) (k : Nat) : ∀ p ∈ (ps.take k).filter fulB, p ≠ [] := by
  intro p hp
  have := (List.mem_filter.1 hp).2
  intro e
  rw [e] at this
  cases this
theorem join_take_next (d : UInt8) (ss : List (List UInt8)) (k : Nat) (h : k < ss.length) (h0 : 0 < k) : Lib.join (ss.take (k + 1)) [d] = Lib.join (ss.take k) [d] ++ [d] ++ ss[k] := by
  rw [List.take_succ_eq_append_getElem h, join_snoc d _ _ (by
    intro e
    have := congrArg List.length e
    rw [List.length_take, List.length_nil] at this
    omega)]
theorem join_take_first (d : UInt8) (ss : List (List UInt8)) (h : 0 < ss.length) : Lib.join (ss.take 1) [d] = ss[0] := by
  have e : ss.take 1 = [ss[0]] := by
    rw [show (1 : Nat) = 0 + 1 from rfl, List.take_succ_eq_append_getElem h]
    rfl
  rw [e, Lib.join_one]
theorem join_take_le (d : UInt8) (ss : List (List UInt8)) (k : Nat) : (Lib.join (ss.take k) [d]).length ≤ sumL ss := by
  have h1 := join_length d (ss.take k)
  have h2 := sumL_take ss k
  omega
theorem txt_append (a b : List UInt8) : txt a ++ txt b = txt (a ++ b) := by
  apply ext_bytes
  rw [ByteArray.data_append, Array.toList_append, txt_data, txt_data, txt_data]
end Go.Proofs.YthadmhleibhlgaaDoor
