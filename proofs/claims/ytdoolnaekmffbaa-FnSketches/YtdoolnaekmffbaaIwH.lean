/-
  The program's Hash.
-/
import Derived.Test.YtdoolnaekmffbaaOwA
import Derived.Test.YtdoolnaekmffbaaPlain4
import Derived.WalkKit
import Derived.WalkSpells
namespace Go.Proofs.Ytdoolnaekmffbaa
open Go.RowKit Go.Sort Ow
set_option linter.unusedVariables false
set_option linter.unusedSimpArgs false

set_option maxHeartbeats 400000 in
theorem implHsh (s : ByteArray) (w : World) (hs : s.size ≤ 2000000) :
    Calls Try.prog 49 #[.string s] w fun e w' => e = .returned (.int .i64 (hshL s.data.toList : Nat)) ∧ Below w.heap.size w w' := by
  have hlen : s.data.toList.length = s.size := by simp
  obtain ⟨cap, C, hconv, hrow⟩ := bytes_laid (P := Try.prog) w 9 22 5 s Try.underlying9 Try.underlying22 Try.underlying5
  have HR : Hid (RowIs (w.alloc (.cells C 5 (C.size, C.size + 1))) w.heap.size s.data.toList) := hrow
  clear hrow
  go_enter Try.func49, Try.ntmps49
  go_wp2
  go_loopw [3, 9] (fun h i wr => ∃ k : Nat, k ≤ s.size ∧ i = .int .i64 k ∧ h = .int .i64 (hshL (s.data.toList.take k) : Nat) ∧ Hid (Below w.heap.size w wr) ∧ Hid (RowIs wr w.heap.size s.data.toList)) (fun _ i _ => s.size - (intOf i).toNat)
  case atStart => exact ⟨0, Nat.zero_le _, rfl, rfl, (show Hid _ from ((Below.refl _ w).alloc (Nat.le_refl _) _).drew), HR.out⟩
  case round =>
    obtain ⟨k, hk, rfl, rfl, hb, hr⟩ := hrel
    clear hconv
    by_cases hlt : k < s.size
    · have hat := hr.out k (by omega)
      have e1 : s.data.toList[k]'(by omega) = s[k] := by simp; rfl
      rw [e1] at hat
      have hcell : wr.cell? ⟨w.heap.size, k, none⟩ = some (.int .u8 (s[k].toNat : Int)) := hat.1
      clear hat
      have hnx : Hid (hshL (s.data.toList.take (k + 1)) = hshN (hshL (s.data.toList.take k)) (s.data.toList[k]'(by omega))) := hshL_take s.data.toList k (by omega)
      have hlt9 := hshL_lt (s.data.toList.take k)
      generalize hshL (s.data.toList.take k) = h1 at hnx hlt9
      have hki : (k : Int) < (s.size : Int) := by omega
      go_wp2
      have hb8 : s[k].toNat < 256 := s[k].toNat_lt
      refine ⟨⟨k + 1, by omega, by go_num, ?_, hb, hr⟩, by simp [intOf]; omega⟩
      rw [hnx.out, e1, wrapI (s[k].toNat : Int) (by omega), wrapI ((h1 : Int) * 16777619 + (s[k].toNat : Int)) (by omega), wrapI _ (by omega), hsh_tmod]
    · obtain rfl : k = s.size := by omega
      rw [← hlen, List.take_of_length_le (Nat.le_refl _)]
      go_wp2
      go_ret
      exact ⟨rfl, hb.out⟩
end Go.Proofs.Ytdoolnaekmffbaa
