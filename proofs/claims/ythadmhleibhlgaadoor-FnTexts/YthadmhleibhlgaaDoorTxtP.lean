/-
  Plain facts on small texts: what is trimmed is trimmed, what is in small letters is so, what is quoted is unquoted and back.
-/
import Derived.Test.YthadmhleibhlgaaDoorTrim
import Derived.Test.YthadmhleibhlgaaDoorLow
import Derived.Test.YthadmhleibhlgaaDoorUnq2
namespace Go.Proofs.YthadmhleibhlgaaDoor
open Go.RowKit

theorem ltr_again (l : List UInt8) : ltr (ltr l) = ltr l := by
  induction l with
  | nil => rfl
  | cons c l ih =>
    cases hb : blank c with
    | true => rw [ltr_yes l hb]; exact ih
    | false => rw [ltr_no l hb, ltr_no l hb]
theorem rtr_again (l : List UInt8) : rtr (rtr l) = rtr l := by
  have h : ∀ l, rtr l = (ltr l.reverse).reverse := fun l => rfl
  rw [h (rtr l), h l, List.reverse_reverse, ltr_again]
theorem trimB_again (s : ByteArray) : trimB (trimB s) = trimB s := by
  have e : (trimB s).data.toList = rtr (ltr s.data.toList) := by unfold trimB; simp
  symm
  refine trimB_is ?_
  rw [e, ← trim_swap (ltr s.data.toList), ltr_again, rtr_again]
theorem lowB_again (c : UInt8) : lowB (lowB c) = lowB c := by
  by_cases h : 65 ≤ c.toNat ∧ c.toNat ≤ 90
  · have h1 := lowB_yes h
    exact lowB_no (by omega)
  · rw [lowB_no h, lowB_no h]
theorem lowS_again (s : ByteArray) : lowS (lowS s) = lowS s := by
  have e : (lowS s).data.toList = s.data.toList.map lowB := by unfold lowS; simp
  show (⟨((lowS s).data.toList.map lowB).toArray⟩ : ByteArray) = lowS s
  rw [e, List.map_map]
  have : (lowB ∘ lowB) = lowB := by funext c; exact lowB_again c
  rw [this]
  rfl
theorem lowS_size2 (s : ByteArray) : (lowS s).size = s.size := by
  show (s.data.toList.map lowB).toArray.size = _
  simp
theorem quoS_full (s : ByteArray) : 0 < (quoS s).size := by
  show 0 < (34 :: quoL s.data.toList ++ [34]).toArray.size
  simp
/-- What is quoted is unquoted. -/
theorem unq_quo {s : ByteArray} (h : visB s = true) : unqE (quoS s) = .tuple #[.string s, .bool true] := by
  have e : (quoS s).data.toList = 34 :: (quoL s.data.toList ++ [34]) := by unfold quoS; simp
  obtain ⟨h1, h2⟩ := unqOk_mk e h
  unfold unqE unqV
  rw [h1, ← h2]
  rfl
/-- What is unquoted is quoted to what it was. -/
theorem quo_unq {x : ByteArray} (h : unqOk x = true) : quoA (unqV x) = x := by
  have hv : unqV x = unqT0 x := by unfold unqV; rw [if_pos h]
  unfold unqOk at h
  rw [Bool.and_eq_true] at h
  rw [hv, ← quoA_yes h.1]
  exact of_decide_eq_true h.2
theorem unqV_no {x : ByteArray} (h : unqOk x = false) : unqV x = ⟨#[]⟩ := by unfold unqV; rw [if_neg (by simp [h])]
theorem unqV_size {x : ByteArray} (h : unqOk x = true) : (unqV x).size ≤ 400 := by
  have hv : unqV x = unqT0 x := by unfold unqV; rw [if_pos h]
  unfold unqOk at h
  rw [Bool.and_eq_true] at h
  rw [hv]
  exact vis_size h.1
theorem full9 {x : ByteArray} (h : 0 < x.size) : x.toList.isEmpty = false := by simpa using full h
end Go.Proofs.YthadmhleibhlgaaDoor
