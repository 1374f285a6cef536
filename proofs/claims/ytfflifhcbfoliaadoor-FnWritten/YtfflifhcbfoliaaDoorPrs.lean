/-
  Numbers and months read from their texts, and the parts of a date that is shown.
-/
import Derived.Test.YtfflifhcbfoliaaDoorNum
import Derived.Test.YtfflifhcbfoliaaDoorSho
import Derived.Deep.LoopGhost
namespace Go.Proofs.YtfflifhcbfoliaaDoor
open Go.RowKit Go.Sort

/-- The number of a month's name, nought where it is none. -/
def monV (t : ByteArray) : Int := if moN 1 = t then 1 else if moN 2 = t then 2 else if moN 3 = t then 3 else if moN 4 = t then 4 else if moN 5 = t then 5 else if moN 6 = t then 6 else if moN 7 = t then 7 else if moN 8 = t then 8 else if moN 9 = t then 9 else if moN 10 = t then 10 else if moN 11 = t then 11 else if moN 12 = t then 12 else 0
theorem monV_bd (t : ByteArray) : 0 ≤ monV t ∧ monV t ≤ 12 := by
  unfold monV
  repeat' split
  all_goals omega
theorem monV_of {k : Int} (h1 : 1 ≤ k) (h2 : k ≤ 12) : monV (moN k) = k := by
  rcases months h1 h2 with rfl | rfl | rfl | rfl | rfl | rfl | rfl | rfl | rfl | rfl | rfl | rfl <;> decide
theorem monV_out {t : ByteArray} {k : Int} (h1 : 1 ≤ k) (h : monV t = k) : moN k = t := by
  unfold monV at h
  by_cases h1' : moN 1 = t
  · rw [if_pos h1'] at h; subst h; exact h1'
  rw [if_neg h1'] at h
  by_cases h2' : moN 2 = t
  · rw [if_pos h2'] at h; subst h; exact h2'
  rw [if_neg h2'] at h
  by_cases h3' : moN 3 = t
  · rw [if_pos h3'] at h; subst h; exact h3'
  rw [if_neg h3'] at h
  by_cases h4' : moN 4 = t
  · rw [if_pos h4'] at h; subst h; exact h4'
  rw [if_neg h4'] at h
  by_cases h5' : moN 5 = t
  · rw [if_pos h5'] at h; subst h; exact h5'
  rw [if_neg h5'] at h
  by_cases h6' : moN 6 = t
  · rw [if_pos h6'] at h; subst h; exact h6'
  rw [if_neg h6'] at h
  by_cases h7' : moN 7 = t
  · rw [if_pos h7'] at h; subst h; exact h7'
  rw [if_neg h7'] at h
  by_cases h8' : moN 8 = t
  · rw [if_pos h8'] at h; subst h; exact h8'
  rw [if_neg h8'] at h
  by_cases h9' : moN 9 = t
  · rw [if_pos h9'] at h; subst h; exact h9'
  rw [if_neg h9'] at h
  by_cases h10' : moN 10 = t
  · rw [if_pos h10'] at h; subst h; exact h10'
  rw [if_neg h10'] at h
  by_cases h11' : moN 11 = t
  · rw [if_pos h11'] at h; subst h; exact h11'
  rw [if_neg h11'] at h
  by_cases h12' : moN 12 = t
  · rw [if_pos h12'] at h; subst h; exact h12'
  rw [if_neg h12'] at h
  omega
theorem bytes_ne {a b : ByteArray} (h : a ≠ b) : (a.toList == b.toList) = false := by
  rw [ByteArray.toList_eq, ByteArray.toList_eq]
  refine beq_eq_false_iff_ne.2 fun e => h ?_
  have : a.data = b.data := Array.ext' e
  cases a; cases b; exact congrArg _ this
theorem bytes_eq {a b : ByteArray} (h : a = b) : (a.toList == b.toList) = true := by subst h; simp
theorem monV_not {t : ByteArray} {k : Int} (h1 : 1 ≤ k) (h : moN k ≠ t) : monV t ≠ k := fun e => h (monV_out h1 e)
theorem monV_yes {t : ByteArray} {k : Int} (h1 : 1 ≤ k) (h2 : k ≤ 12) (h : moN k = t) : monV t = k := by subst h; exact monV_of h1 h2

theorem digNought (s : ByteArray) (w : World) (hs : s.size ≤ maxLen) :
    Calls Tryd.prog 29 #[.string s] w fun e w' => e = .returned (.int .i64 (numV 10 15 s)) ∧ Grew w w' := by
  go_enter Tryd.func29, Tryd.ntmps29
  go_wp2_with (go_at_call 41; refine (implDig _ _ hs).mono ?_; rintro e x2 ⟨rfl, hb2⟩; unfold numE)
  go_ret
  exact ⟨rfl, hb2⟩

set_option maxHeartbeats 1000000 in
theorem monNamed (t : ByteArray) (w : World) :
    Calls Tryd.prog 30 #[.string t] w fun e w' => e = .returned (.int .i64 (monV t)) ∧ Grew w w' := by
  go_enter Tryd.func30, Tryd.ntmps30
  go_wp2
  go_loopw [3] (fun v wr => ∃ k : Int, v = .int .i64 k ∧ 1 ≤ k ∧ k ≤ 13 ∧ Hid (∀ j, 1 ≤ j → j < k → monV t ≠ j) ∧ Grew w wr) (fun v _ => (14 - intOf v).toNat)
  case atStart => exact ⟨1, rfl, by omega, by omega, fun j h1 h2 => by omega, Grew.refl _⟩
  case round =>
    obtain ⟨k, rfl, hk1, hk2, hno, hw⟩ := hrel
    by_cases hle : k ≤ 12
    · by_cases he : moN k = t
      · have hv := monV_yes hk1 hle he
        have HV : Hid (monV t = k) := hv
        have hq := bytes_eq he
        clear he
        clear hv
        go_wp2_with (go_at_call 21; refine (implMoN _ _ hk1 hle).mono ?_; rintro e x2 ⟨rfl, hb2⟩)
        go_ret
        exact ⟨ret_int HV.out.symm, hw.trans hb2⟩
      · have hv := monV_not hk1 he
        have HV : Hid (monV t ≠ k) := hv
        have hq := bytes_ne he
        clear he
        clear hv
        go_wp2_with (go_at_call 21; refine (implMoN _ _ hk1 hle).mono ?_; rintro e x2 ⟨rfl, hb2⟩)
        go_roundw
        case rel => exact ⟨k + 1, rfl, by omega, by omega, fun j h1 h2 => by by_cases e : j = k; (· rw [e]; exact HV.out); exact hno.out j h1 (by omega), hw.trans hb2⟩
        case measure => simp [intOf]; omega
    · have hz : monV t = 0 := by
        have h1 := monV_bd t
        by_cases h : monV t = 0
        · exact h
        · exact absurd rfl (hno.out (monV t) (by omega) (by omega))
      have HZ : Hid (monV t = 0) := hz
      clear hz
      go_wp2
      go_ret
      exact ⟨ret_int HZ.out.symm, hw⟩
end Go.Proofs.YtfflifhcbfoliaaDoor
