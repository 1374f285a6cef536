/-
  The contracts of the tests of a path, the specification's and the program's.
-/
import Derived.Test.YthadmhleibhlgaaDoorRows
import Derived.Test.YthadmhleibhlgaaDoorPthE
import Derived.WalkKit
import Derived.WalkSpells
namespace Go.Proofs.YthadmhleibhlgaaDoor
open Go.RowKit

theorem full3 {x : ByteArray} (h : 0 < x.size) : x.toList.isEmpty = false := by
  rw [ByteArray.toList_eq]
  have h3 : x.data.toList.length = x.size := by simp
  cases e : x.data.toList with
  | nil => rw [e] at h3; simp at h3; omega
  | cons _ _ => rfl
theorem void3 {x : ByteArray} (h : ¬ 0 < x.size) : x.toList = [] := by
  rw [ByteArray.toList_eq]
  have h3 : x.data.toList.length = x.size := by simp
  exact List.eq_nil_of_length_eq_zero (by omega)
theorem head_at {x : ByteArray} (h : 0 < x.size) : x.data.toList.head? = some x[0] := by
  have := drop_at3 x 0 h
  rw [List.drop_zero] at this
  rw [this]; rfl
theorem head_none {x : ByteArray} (h : ¬ 0 < x.size) : x.data.toList.head? = none := by
  have := void3 h
  rw [ByteArray.toList_eq] at this
  rw [this]; rfl
theorem pthB_in {s : ByteArray} (h : 0 < s.size) : pthB s = (decide (s.size ≤ 200) && ((s[0].toNat : Int) == 47)) := by
  unfold pthB
  rw [head_at h]
  by_cases h1 : s.size ≤ 200
  · by_cases h2 : s[0] = 47
    · simp [h1, h2]
    · have h3 : ¬ (s[0].toNat : Int) = 47 := fun e => h2 (byte_eq (b := 47) e)
      simp [h1, h2, h3]
  · simp [h1]
theorem pthB_void {s : ByteArray} (h : ¬ 0 < s.size) : pthB s = false := by
  unfold pthB
  rw [head_none h]
  simp
theorem ret_bool3 {a b : Bool} (h : a = b) : Ending.returned (.bool a) = .returned (.bool b) := by rw [h]

theorem specPath (s : ByteArray) (w : World) (hs : s.size ≤ maxLen) :
    Calls Tryd.prog 70 #[.string s] w fun e w' => e = .returned (.bool (pthB s)) ∧ w = w' := by
  unfold maxLen at hs
  by_cases h : 0 < s.size
  · have HP : Hid (pthB s = (decide (s.size ≤ 200) && ((s[0].toNat : Int) == 47))) := pthB_in h
    have hf := full3 h
    by_cases h1 : (s[0].toNat : Int) = 47
    · have hq := beq_yes3 h1
      rw [hq] at HP
      clear h1
      by_cases h2 : s.size ≤ 200
      all_goals
        go_enter Tryd.func70, Tryd.ntmps70
        go_wp2
        go_ret
        exact ⟨ret_bool3 (by rw [HP.out]; simp; omega), rfl⟩
    · have hq := beq_no3 h1
      rw [hq] at HP
      clear h1
      go_enter Tryd.func70, Tryd.ntmps70
      go_wp2
      go_ret
      exact ⟨ret_bool3 (by rw [HP.out]; simp), rfl⟩
  · have HP : Hid (pthB s = false) := pthB_void h
    have hv := void3 h
    go_enter Tryd.func70, Tryd.ntmps70
    go_wp2
    go_ret
    exact ⟨ret_bool3 HP.out.symm, rfl⟩
end Go.Proofs.YthadmhleibhlgaaDoor
