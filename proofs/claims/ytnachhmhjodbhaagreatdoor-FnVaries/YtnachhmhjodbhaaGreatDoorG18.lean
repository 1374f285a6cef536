/-
  Plain facts on how a list of texts is sorted by putting one text after the other into its place, and how parts are joined one after the other.
-/
import Derived.Test.YtnachhmhjodbhaaGreatDoorG10
import Derived.Test.YtnachhmhjodbhaaGreatDoorG16
namespace Go.Proofs.YtnachhmhjodbhaaGreatDoor
open Go.RowKit

theorem le_of_lt {a b : List UInt8} (h : a < b) : a ≤ b := fun e => List.lt_irrefl _ (List.lt_trans h e)
/-- The text x in its place: all ahead are not above it, all behind are. -/
theorem srt_put {A B : List (List UInt8)} {x : List UInt8} (h : SrtL (A ++ B)) (hB : ∀ b ∈ B, x < b) (hA : ∀ a, A.getLast? = some a → a ≤ x) : SrtL (A ++ [x] ++ B) := by
  unfold SrtL at *
  rw [List.pairwise_append] at h
  rw [List.pairwise_append, List.pairwise_append]
  have hax : ∀ a ∈ A, a ≤ x := by
    intro a ha
    cases hr : A.reverse with
    | nil =>
      have : A = [] := by simpa using hr
      rw [this] at ha; cases ha
    | cons l r =>
      have e : A = r.reverse ++ [l] := by rw [← List.reverse_reverse A, hr]; simp
      have hl : l ≤ x := hA l (by rw [e]; simp)
      rw [e] at ha
      rcases List.mem_append.1 ha with ha | ha
      · have hp := h.1
        rw [e, List.pairwise_append] at hp
        exact List.le_trans (hp.2.2 a ha l (by simp)) hl
      · simp at ha
        rw [ha]; exact hl
  refine ⟨⟨h.1, by simp, fun a ha b hb => ?_⟩, h.2.1, fun a ha b hb => ?_⟩
  · simp at hb
    rw [hb]; exact hax a ha
  · rcases List.mem_append.1 ha with ha | ha
    · exact h.2.2 a ha b hb
    · simp at ha
      rw [ha]; exact le_of_lt (hB b hb)
theorem perm_put (A B : List (List UInt8)) (x : List UInt8) {l : List (List UInt8)} (h : (A ++ B).Perm l) : (A ++ [x] ++ B).Perm (l ++ [x]) := by
  refine List.Perm.trans ?_ (List.Perm.append_right [x] h)
  rw [List.append_assoc, List.append_assoc]
  exact List.Perm.append_left A (List.perm_append_comm)
theorem snoc_of {A : List (List UInt8)} (h : A ≠ []) : ∃ A' a, A = A' ++ [a] := ⟨A.dropLast, A.getLast h, (List.dropLast_concat_getLast h).symm⟩
/-- A step of the search for the place. -/
theorem hole_step (A' B : List (List UInt8)) (a h : List UInt8) : (A' ++ [a] ++ [h] ++ B).set (A'.length + 1) a = A' ++ [a] ++ (a :: B) := by
  have e : A' ++ [a] ++ [h] ++ B = (A' ++ [a]) ++ (h :: B) := by simp
  rw [e, List.set_append_right _ _ (by simp)]
  simp
theorem hole_fill (A B : List (List UInt8)) (x h : List UInt8) : (A ++ [h] ++ B).set A.length x = A ++ [x] ++ B := by
  have e : A ++ [h] ++ B = A ++ (h :: B) := by simp
  rw [e, List.set_append_right _ _ (by simp)]
  simp
theorem map_set (l : List (List UInt8)) (j : Nat) (x : List UInt8) : (l.map txt).set j (txt x) = (l.set j x).map txt := by
  rw [List.map_set]
theorem get_before (A' B : List (List UInt8)) (a h : List UInt8) : ((A' ++ [a] ++ [h] ++ B).map txt)[A'.length]? = some (txt a) := by
  simp
end Go.Proofs.YtnachhmhjodbhaaGreatDoor
