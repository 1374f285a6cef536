/-
  The specification's Hash and Weight.
  The specification's shelf of what is recent.
-/
import Derived.Test.YtdbeoloonoodkaaDoorG06
import Derived.Test.YtdbeoloonoodkaaDoorG07
import Derived.Test.YtdbeoloonoodkaaDoorG08
import Derived.Test.YtdbeoloonoodkaaDoorG09
namespace Go.Proofs.YtdbeoloonoodkaaDoor
open Go.RowKit Go.Sort Ow
set_option linter.unusedVariables false
set_option linter.unusedSimpArgs false

theorem hsh_step (h : Nat) (b : UInt8) : ((h : Int) * 16777619 + (b.toNat : Int) + 1) % 2147483647 = (hshN h b : Int) := by
  unfold hshN
  omega
theorem hsh_tmod (h : Nat) (b : UInt8) : Int.tmod ((h : Int) * 16777619 + (b.toNat : Int) + 1) 2147483647 = (hshN h b : Int) := by
  rw [Int.tmod_eq_emod_of_nonneg (by omega)]
  exact hsh_step h b
theorem wrapI (n : Int) (h : -9223372036854775808 ≤ n ∧ n ≤ 9223372036854775807) : wrap64 n = n := by unfold wrap64; omega
set_option maxHeartbeats 400000 in
theorem specHsh (s : ByteArray) (w : World) (hs : s.size ≤ maxLen) :
    Calls Tryd.prog 23 #[.string s] w fun e w' => e = .returned (.int .i64 (hshL s.data.toList : Nat)) ∧ w = w' := by
  have hlen : s.data.toList.length = s.size := by simp
  unfold maxLen at hs
  go_enter Tryd.func23, Tryd.ntmps23
  go_wp2
  go_loopw [3, 4] (fun h i wr => ∃ k : Nat, k ≤ s.size ∧ i = .int .i64 k ∧ h = .int .i64 (hshL (s.data.toList.take k) : Nat) ∧ w = wr) (fun _ i _ => s.size - (intOf i).toNat)
  case atStart => exact ⟨0, Nat.zero_le _, rfl, rfl, rfl⟩
  case round =>
    obtain ⟨k, hk, rfl, rfl, rfl⟩ := hrel
    by_cases hlt : k < s.size
    · have hnx : Hid (hshL (s.data.toList.take (k + 1)) = hshN (hshL (s.data.toList.take k)) (s.data.toList[k]'(by omega))) := hshL_take s.data.toList k (by omega)
      have hlt9 := hshL_lt (s.data.toList.take k)
      generalize hshL (s.data.toList.take k) = h1 at hnx hlt9
      go_wp2
      have hb : s[k].toNat < 256 := s[k].toNat_lt
      have e1 : s.data.toList[k]'(by omega) = s[k] := by simp; rfl
      refine ⟨⟨k + 1, by omega, by go_num, ?_, trivial⟩, by simp [intOf]; omega⟩
      rw [hnx.out, e1, wrapI (s[k].toNat : Int) (by omega), wrapI ((h1 : Int) * 16777619 + (s[k].toNat : Int)) (by omega), wrapI _ (by omega), hsh_tmod]
    · obtain rfl : k = s.size := by omega
      rw [← hlen, List.take_of_length_le (Nat.le_refl _)]
      go_wp2
      go_ret
      exact ⟨rfl, rfl⟩
theorem specSrv (s : Int) (w : World) : Calls Tryd.prog 51 #[.int .i64 s] w fun e w' => e = .returned (.bool (inS s)) ∧ w = w' := by
  have HE : Hid (inM s 0 99 = inS s) := by show _ = _; unfold inM inS; rw [Bool.decide_and]
  have hin := fun W => inRm s 0 99 W
  go_enter Tryd.func51, Tryd.ntmps51
  go_wp2_with fail
  refine (hin _).mono ?_
  rintro e w1 ⟨rfl, rfl⟩
  go_wp2
  go_ret
  exact ⟨congrArg (fun b => Ending.returned (.bool b)) HE.out, rfl⟩
theorem wg_text (n : Nat) (key : ByteArray) : ((itoS n ++ ⟨#[58]⟩) ++ key).data.toList = Lib.decDigits n ++ 58 :: key.data.toList := by
  unfold itoS
  simp
theorem specWgN (s : Nat) (key : ByteArray) (w : World) (hs : s ≤ 99) (hk : key.size ≤ 1048576) :
    Calls Tryd.prog 47 #[.int .i64 (s : Int), .string key] w fun e w' => e = .returned (.int .i64 (wgN s key : Nat)) ∧ Below w.heap.size w w' := by
  have hz := itoS_size (n := s) (by omega)
  have hin := fun W => specIntZ s W (by omega)
  have hE : Hid (((itoS s ++ ⟨#[58]⟩) ++ key).data.toList = Lib.decDigits s ++ 58 :: key.data.toList) := wg_text s key
  have hh := fun W => specHsh ((itoS s ++ ⟨#[58]⟩) ++ key) W (by rw [ByteArray.size_append, ByteArray.size_append]; unfold maxLen; show _ + 1 + _ ≤ _; omega)
  have hR : Hid (hshL ((itoS s ++ ⟨#[58]⟩) ++ key).data.toList = wgN s key) := by show _ = _; rw [hE.out]; rfl
  generalize hshL ((itoS s ++ ⟨#[58]⟩) ++ key).data.toList = H at hh hR
  have hR2 : Hid (H = wgN s key) := hR
  clear hE hR
  generalize itoS s = T at hz hin hh
  go_enter Tryd.func47, Tryd.ntmps47
  go_wp2_with fail
  refine (hin _).mono ?_
  rintro e w1 ⟨rfl, hb1⟩
  have B1 : Hid _ := hb1
  clear hb1
  go_wp2_with fail
  refine (hh _).mono ?_
  rintro e w2 ⟨rfl, rfl⟩
  go_wp2
  go_ret
  exact ⟨by rw [← hR2.out]; rfl, B1.out⟩
theorem specWgt (s : Int) (key : ByteArray) (w : World) (hk : key.size ≤ 1048576) :
    Calls Tryd.prog 21 #[.int .i64 s, .string key] w fun e w' => e = .returned (.int .i64 (wgV key s)) ∧ Below w.heap.size w w' := by
  have hs := fun W => specSrv s W
  cases h : inS s with
  | false =>
    rw [h] at hs
    have HR : Hid (-1 = wgV key s) := by show _ = _; unfold wgV; rw [h]; rfl
    go_enter Tryd.func21, Tryd.ntmps21
    go_wp2_with fail
    refine (hs _).mono ?_
    rintro e w1 ⟨rfl, rfl⟩
    go_wp2
    go_ret
    exact ⟨congrArg (fun z => Ending.returned (.int .i64 z)) HR.out, Below.refl _ _⟩
  | true =>
    rw [h] at hs
    have h2 := inS_iff.1 h
    obtain ⟨n, rfl⟩ : ∃ n : Nat, s = (n : Int) := ⟨s.toNat, by omega⟩
    have HR : Hid ((wgN n key : Int) = wgV key (n : Int)) := by show _ = _; unfold wgV; rw [if_pos h, Int.toNat_natCast]
    have hw := fun W => specWgN n key W (by omega) hk
    clear h
    go_enter Tryd.func21, Tryd.ntmps21
    go_wp2_with fail
    refine (hs _).mono ?_
    rintro e w1 ⟨rfl, rfl⟩
    go_wp2_with fail
    refine (hw _).mono ?_
    rintro e w1 ⟨rfl, hb1⟩
    have B1 : Hid _ := hb1
    clear hb1
    go_wp2
    go_ret
    exact ⟨congrArg (fun z => Ending.returned (.int .i64 z)) HR.out, B1.out⟩
end Go.Proofs.YtdbeoloonoodkaaDoor
namespace Go.Proofs.YtdbeoloonoodkaaDoor
open Go.RowKit Go.Sort Rom
set_option linter.unusedVariables false
set_option linter.unusedSimpArgs false

theorem ownsN_some {w : World} {B n sc : Nat} {sa : Option Addr} {S : List Int} (h : OwnsN w B (.slice sa n sc) S) (h0 : 0 < S.length) : ∃ sg, sa = some ⟨sg, 0, none⟩ := by
  rcases h.2 with ⟨_, e⟩ | ⟨g, cap, cur, e, _⟩
  · omega
  · injection e with e1 _ _
    exact ⟨g, e1⟩
end Go.Proofs.YtdbeoloonoodkaaDoor
