/-
  The specification's Hash and Weight.
-/
import Derived.Test.YtdoolnaekmffbaaRomA
import Derived.Test.YtdoolnaekmffbaaIntZ
import Derived.Test.YtdoolnaekmffbaaOwP
import Derived.Test.YtdoolnaekmffbaaRgS
namespace Go.Proofs.Ytdoolnaekmffbaa
open Go.RowKit Go.Sort Ow
set_option linter.unusedVariables false
set_option linter.unusedSimpArgs false

theorem hsh_step (h : Nat) (b : UInt8) : ((h : Int) * 16777619 + (b.toNat : Int) + 1) % 2147483647 = (hshN h b : Int) := by
  unfold hshN
  omega
theorem hsh_tmod (h : Nat) (b : UInt8) : Int.tmod ((h : Int) * 16777619 + (b.toNat : Int) + 1) 2147483647 = (hshN h b : Int) := by
  rw [Int.tmod_eq_emod_of_nonneg (by omega)]
  exact hsh_step h b
theorem wrapI (n : Int) (h : -9223372036854775808 ≤ n ∧ n ≤ 9223372036854775807) : wrap64 n = n := by unfold wrap64; omega
set_option maxHeartbeats 400000 in
theorem specHsh (s : ByteArray) (w : World) (hs : s.size ≤ maxLen) :
    Calls Try.prog 51 #[.string s] w fun e w' => e = .returned (.int .i64 (hshL s.data.toList : Nat)) ∧ w = w' := by
  have hlen : s.data.toList.length = s.size := by simp
  unfold maxLen at hs
  go_enter Try.func51, Try.ntmps51
  go_wp2
  go_loopw [3, 4] (fun h i wr => ∃ k : Nat, k ≤ s.size ∧ i = .int .i64 k ∧ h = .int .i64 (hshL (s.data.toList.take k) : Nat) ∧ w = wr) (fun _ i _ => s.size - (intOf i).toNat)
  case atStart => exact ⟨0, Nat.zero_le _, rfl, rfl, rfl⟩
  case round =>
    obtain ⟨k, hk, rfl, rfl, rfl⟩ := hrel
    by_cases hlt : k < s.size
    · have hnx : Hid (hshL (s.data.toList.take (k + 1)) = hshN (hshL (s.data.toList.take k)) (s.data.toList[k]'(by omega))) := hshL_take s.data.toList k (by omega)
      have hlt9 := hshL_lt (s.data.toList.take k)
      generalize hshL (s.data.toList.take k) = h1 at hnx hlt9
      go_wp2
      have hb : s[k].toNat < 256 := s[k].toNat_lt
      have e1 : s.data.toList[k]'(by omega) = s[k] := by simp; rfl
      refine ⟨⟨k + 1, by omega, by go_num, ?_, trivial⟩, by simp [intOf]; omega⟩
      rw [hnx.out, e1, wrapI (s[k].toNat : Int) (by omega), wrapI ((h1 : Int) * 16777619 + (s[k].toNat : Int)) (by omega), wrapI _ (by omega), hsh_tmod]
    · obtain rfl : k = s.size := by omega
      rw [← hlen, List.take_of_length_le (Nat.le_refl _)]
      go_wp2
      go_ret
      exact ⟨rfl, rfl⟩
theorem wg_text (n : Nat) (key : ByteArray) : ((itoS n ++ ⟨#[58]⟩) ++ key).data.toList = Lib.decDigits n ++ 58 :: key.data.toList := by
  unfold itoS
  simp
end Go.Proofs.Ytdoolnaekmffbaa
