/-
  The contracts of Coded itself, the specification's and the program's.
-/
import Derived.Test.YthadmhleibhlgaaDoorCod
namespace Go.Proofs.YthadmhleibhlgaaDoor
open Go.RowKit

theorem specCoded (s : ByteArray) (w : World) (hs : s.size ≤ maxLen) :
    Calls Tryd.prog 36 #[.string s] w fun e w' => e = .returned (.string (codA s)) ∧ Below w.heap.size w w' := by
  unfold maxLen at hs
  by_cases h : s.size ≤ 200
  · have HA : Hid (codS s = codA s) := codA_yes h
    have hd : decide (200 < (s.size : Int)) = false := by simp; omega
    go_enter Tryd.func36, Tryd.ntmps36
    go_wp2_with (go_at_call 65; refine (specCod _ _ h).mono ?_; rintro e w' ⟨rfl, hb⟩)
    go_ret
    exact ⟨ret_str HA.out, hb⟩
  · have HA : Hid ((⟨#[]⟩ : ByteArray) = codA s) := codA_no (by omega)
    have hd : decide (200 < (s.size : Int)) = true := by simp; omega
    go_enter Tryd.func36, Tryd.ntmps36
    go_wp2
    go_ret
    exact ⟨ret_str HA.out, Below.refl _ _⟩

set_option maxHeartbeats 1000000 in
theorem implCoded (s : ByteArray) (w : World) (hs : s.size ≤ maxLen) :
    Calls Tryd.prog 29 #[.string s] w fun e w' => e = .returned (.string (codA s)) ∧ Below w.heap.size w w' := by
  unfold maxLen at hs
  by_cases h : s.size ≤ 200
  · have HA : Hid (codS s = codA s) := codA_yes h
    have hd : decide (200 < (s.size : Int)) = false := by simp; omega
    go_enter Tryd.func29, Tryd.ntmps29
    go_wp2
    clear hd
    go_loopw [3, 11] (fun v i wr => ∃ k : Nat, k ≤ s.size ∧ i = .int .i64 k ∧ OwnsB wr w.heap.size v (codTo s k) ∧ Below w.heap.size w wr) (fun _ i _ => s.size - (intOf i).toNat)
    case atStart => exact ⟨0, Nat.zero_le _, rfl, OwnsB.nil _ _, Below.refl _ w⟩
    case round =>
      obtain ⟨k, hk, rfl, hown, hb⟩ := hrel
      have hl := codTo_length (s := s) k
      have hbs := hb.size
      by_cases hlt : k < s.size
      · cases hp : plnN (s[k].toNat : Int) with
        | true =>
          have HE : Hid (codTo s k ++ [s[k]] = codTo s (k + 1)) := codTo_yes hlt hp
          go_wp2_with (first | (go_at_call 60; refine (isPln _ _).mono ?_; rintro e w1 ⟨rfl, rfl⟩) | (at_builtin; refine wpList_push _ rfl (.tmp 19) (.tmp 21) rfl w.heap.size _ _ _ s[k] rfl rfl hown rfl (by omega) hbs ?_; intro v2 w2 ho2 hg2))
          go_roundw
          case rel => exact ⟨k + 1, by omega, by go_num, by rw [← HE.out]; exact ho2, hb.grown hg2 hbs (OwnsB.from hown)⟩
          case measure => simp [intOf]; omega
        | false =>
          have HE : Hid (codTo s k ++ [37, capB (s[k].toNat / 16), capB (s[k].toNat % 16)] = codTo s (k + 1)) := codTo_no hlt hp
          obtain ⟨q, r, hq, hr, hq1, hr1, hq2, hr2⟩ := half16 s[k]
          rw [hq1, hr1, ← capS_at q hq, ← capS_at r hr] at HE
          have hq3 : (q : Int) < 16 := by omega
          have hr3 : (r : Int) < 16 := by omega
          clear hq1 hr1
          have hc0 := byte_lt s[k]
          have hc1 : (0 : Int) ≤ (s[k].toNat : Int) := by omega
          have hc2 : (s[k].toNat : Int) ≤ 255 := by omega
          go_wp2_with (go_at_call 60; refine (isPln _ _).mono ?_; rintro e w1 ⟨rfl, rfl⟩)
          go_region_law (refine step_own rfl (.tmp 23) (.tmp 30) rfl w.heap.size _ _ (by simp [Act.eval]) (OwnsB.drew (OwnsB.alloc hown _)) ⟨_, 0, none⟩ 3 [37, (⟨#[48, 49, 50, 51, 52, 53, 54, 55, 56, 57, 65, 66, 67, 68, 69, 70]⟩ : ByteArray)[q]'hq, (⟨#[48, 49, 50, 51, 52, 53, 54, 55, 56, 57, 65, 66, 67, 68, 69, 70]⟩ : ByteArray)[r]'hr] (by simp [Act.eval]) (cells3 _ _ _ _ _ _ _ rfl rfl rfl) (by simp; omega) (by simp; omega) ?_; intro v2 w2 ho2 hg2 _)
          all_goals
            have hg3 := grown_from hg2
            have HG : Hid (OwnsB w2 w.heap.size v2 (codTo s (k + 1)) ∧ Below w.heap.size w w2) := ⟨by rw [← HE.out]; exact ho2, hb.grown hg3 hbs (OwnsB.from hown)⟩
            clear ho2 hg2 hg3 HE hq2 hr2
            go_wp2
            go_roundw
            case rel => exact ⟨k + 1, by omega, by go_num, HG.out.1, HG.out.2⟩
            case measure => simp [intOf]; omega
      · have HE : Hid ((⟨(codTo s k).toArray⟩ : ByteArray) = codS s) := codTo_end hlt
        have hback := hown.text
        go_wp2
        go_ret
        exact ⟨ret_str (HE.out.trans HA.out), hb⟩
  · have HA : Hid ((⟨#[]⟩ : ByteArray) = codA s) := codA_no (by omega)
    have hd : decide (200 < (s.size : Int)) = true := by simp; omega
    go_enter Tryd.func29, Tryd.ntmps29
    go_wp2
    go_ret
    exact ⟨ret_str HA.out, Below.refl _ _⟩
end Go.Proofs.YthadmhleibhlgaaDoor
