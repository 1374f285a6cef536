/-
  The contract of the program's test of a path.
-/
import Derived.Test.YthadmhleibhlgaaDoorPth
import Derived.Test.YthadmhleibhlgaaDoorShelfD
namespace Go.Proofs.YthadmhleibhlgaaDoor
open Go.RowKit

theorem prefix_is (s : ByteArray) : Lib.hasPrefix s.data.toList [47] = decide (s.data.toList.head? = some 47) := by
  unfold Lib.hasPrefix
  cases h : s.data.toList with
  | nil => rfl
  | cons c r =>
    by_cases hc : c = 47
    · subst hc; simp [List.isPrefixOf]
    · simp [List.isPrefixOf, hc, Ne.symm hc]
theorem implPath (s : ByteArray) (w : World) (hs : s.size ≤ maxLen) :
    Calls Tryd.prog 63 #[.string s] w fun e w' => e = .returned (.bool (pthB s)) ∧ w = w' := by
  unfold maxLen at hs
  have hp := Tryd.strings_HasPrefix s ⟨#[47]⟩
  rw [show (⟨#[47]⟩ : ByteArray).data.toList = [47] from rfl, prefix_is] at hp
  generalize hb : decide (s.data.toList.head? = some 47) = b at hp
  have HP : Hid (pthB s = (decide (s.size ≤ 200) && b)) := by
    show pthB s = (decide (s.size ≤ 200) && b)
    unfold pthB
    rw [← hb, Bool.decide_and]
  clear hb
  by_cases h2 : s.size ≤ 200
  · have hd : decide ((s.size : Int) ≤ 200) = true := by simp; omega
    go_enter Tryd.func63, Tryd.ntmps63
    go_wp2_with (go_at_call 55; refine (hp _).mono ?_; rintro e w1 ⟨rfl, rfl⟩)
    go_ret
    exact ⟨ret_bool3 (by rw [HP.out]; simp [h2]), rfl⟩
  · have hd : decide ((s.size : Int) ≤ 200) = false := by simp; omega
    go_enter Tryd.func63, Tryd.ntmps63
    go_wp2
    go_ret
    exact ⟨ret_bool3 (by rw [HP.out]; simp [h2]), rfl⟩
end Go.Proofs.YthadmhleibhlgaaDoor
