/-
  The contracts of NormalPath, the specification's and the program's.
-/
import Derived.Test.YthadmhleibhlgaaDoorDot3
import Derived.Test.YthadmhleibhlgaaDoorCod2
import Derived.Test.YthadmhleibhlgaaDoorUnc2
import Derived.Test.YthadmhleibhlgaaDoorPthC
namespace Go.Proofs.YthadmhleibhlgaaDoor
open Go.RowKit

set_option maxHeartbeats 1000000 in
theorem specNrm (s : ByteArray) (w : World) (hs : s.size ≤ maxLen) :
    Calls Tryd.prog 39 #[.string s] w fun e w' => e = .returned (nrmE s) ∧ Below w.heap.size w w' := by
  have hu := specUnc s
  unfold uncE uncT at hu
  cases ha : uncA s with
  | none =>
    rw [ha] at hu
    have HN : Hid (_ = Ending.returned (nrmE s)) := nrmE_none (nrmA_unc ha)
    go_enter Tryd.func39, Tryd.ntmps39
    go_wp2_with (go_at_call 35; refine (hu _ hs).mono ?_; rintro e w1 ⟨rfl, hb1⟩)
    go_ret2
    exact ⟨HN.out, hb1⟩
  | some t =>
    rw [ha] at hu
    have htz := uncA_size ha
    cases hp : pthB s with
    | false =>
      have HN : Hid (_ = Ending.returned (nrmE s)) := nrmE_none (nrmA_no hp)
      go_enter Tryd.func39, Tryd.ntmps39
      go_wp2_with (first | (go_at_call 35; refine (hu _ hs).mono ?_; rintro e w1 ⟨rfl, hb1⟩) | (go_at_call 70; refine (specPath _ _ hs).mono ?_; rintro e w2 ⟨rfl, rfl⟩; rw [hp]))
      go_ret2
      exact ⟨HN.out, hb1⟩
    | true =>
      have hcz := codS_size t
      have hc := fun w => specCod t w (by omega)
      cases hq : pthB (codS t) with
      | false =>
        have HN : Hid (_ = Ending.returned (nrmE s)) := nrmE_none (nrmA_long ha hq)
        generalize codS t = c at hc hq hcz
        go_enter Tryd.func39, Tryd.ntmps39
        go_wp2_with fail
        refine (hu _ hs).mono ?_
        rintro e w1 ⟨rfl, hb1⟩
        go_wp2_with fail
        refine (specPath s _ hs).mono ?_
        rintro e w2 ⟨rfl, rfl⟩
        rw [hp]
        go_wp2_with fail
        refine (hc _).mono ?_
        rintro e w3 ⟨rfl, hb3⟩
        go_wp2_with fail
        refine (specPath c _ (by unfold maxLen; omega)).mono ?_
        rintro e w2 ⟨rfl, rfl⟩
        rw [hq]
        go_wp2
        go_ret2
        exact ⟨HN.out, hb1.trans (hb3.mono hb1.size)⟩
      | true =>
        have HN : Hid (_ = Ending.returned (nrmE s)) := nrmE_some (nrmA_yes hp ha hq)
        generalize codS t = c at hc hq hcz HN
        go_enter Tryd.func39, Tryd.ntmps39
        go_wp2_with fail
        refine (hu _ hs).mono ?_
        rintro e w1 ⟨rfl, hb1⟩
        go_wp2_with fail
        refine (specPath s _ hs).mono ?_
        rintro e w2 ⟨rfl, rfl⟩
        rw [hp]
        go_wp2_with fail
        refine (hc _).mono ?_
        rintro e w3 ⟨rfl, hb3⟩
        go_wp2_with fail
        refine (specPath c _ (by unfold maxLen; omega)).mono ?_
        rintro e w2 ⟨rfl, rfl⟩
        rw [hq]
        go_wp2_with fail
        refine (specDot c _ (by unfold maxLen; omega)).mono ?_
        rintro e w4 ⟨rfl, hb4⟩
        go_wp2
        go_ret2
        exact ⟨HN.out, (hb1.trans (hb3.mono hb1.size)).trans (hb4.mono (Nat.le_trans hb1.size hb3.size))⟩

set_option maxHeartbeats 1000000 in
theorem implNrm (s : ByteArray) (w : World) (hs : s.size ≤ maxLen) :
    Calls Tryd.prog 34 #[.string s] w fun e w' => e = .returned (nrmE s) ∧ Below w.heap.size w w' := by
  have hu := implUnc s
  unfold uncE uncT at hu
  cases hp : pthB s with
  | false =>
    have HN : Hid (_ = Ending.returned (nrmE s)) := nrmE_none (nrmA_no hp)
    go_enter Tryd.func34, Tryd.ntmps34
    go_wp2_with (go_at_call 63; refine (implPath _ _ hs).mono ?_; rintro e w2 ⟨rfl, rfl⟩; rw [hp])
    go_ret2
    exact ⟨HN.out, Below.refl _ _⟩
  | true =>
    cases ha : uncA s with
    | none =>
      rw [ha] at hu
      have HN : Hid (_ = Ending.returned (nrmE s)) := nrmE_none (nrmA_unc ha)
      go_enter Tryd.func34, Tryd.ntmps34
      go_wp2_with (first | (go_at_call 63; refine (implPath _ _ hs).mono ?_; rintro e w2 ⟨rfl, rfl⟩; rw [hp]) | (go_at_call 31; refine (hu _ hs).mono ?_; rintro e w1 ⟨rfl, hb1⟩))
      go_ret2
      exact ⟨HN.out, hb1⟩
    | some t =>
      rw [ha] at hu
      have htz := uncA_size ha
      have hcz := codS_size t
      have hc := fun w => implCoded t w (by unfold maxLen; omega)
      rw [← codA_yes (show t.size ≤ 200 by omega)] at hc
      cases hq : pthB (codS t) with
      | false =>
        have HN : Hid (_ = Ending.returned (nrmE s)) := nrmE_none (nrmA_long ha hq)
        generalize codS t = c at hc hq hcz
        go_enter Tryd.func34, Tryd.ntmps34
        go_wp2_with fail
        refine (implPath s _ hs).mono ?_
        rintro e w2 ⟨rfl, rfl⟩
        rw [hp]
        go_wp2_with fail
        refine (hu _ hs).mono ?_
        rintro e w1 ⟨rfl, hb1⟩
        go_wp2_with fail
        refine (hc _).mono ?_
        rintro e w3 ⟨rfl, hb3⟩
        go_wp2_with fail
        refine (implPath c _ (by unfold maxLen; omega)).mono ?_
        rintro e w2 ⟨rfl, rfl⟩
        rw [hq]
        go_wp2
        go_ret2
        exact ⟨HN.out, hb1.trans (hb3.mono hb1.size)⟩
      | true =>
        have HN : Hid (_ = Ending.returned (nrmE s)) := nrmE_some (nrmA_yes hp ha hq)
        generalize codS t = c at hc hq hcz HN
        go_enter Tryd.func34, Tryd.ntmps34
        go_wp2_with fail
        refine (implPath s _ hs).mono ?_
        rintro e w2 ⟨rfl, rfl⟩
        rw [hp]
        go_wp2_with fail
        refine (hu _ hs).mono ?_
        rintro e w1 ⟨rfl, hb1⟩
        go_wp2_with fail
        refine (hc _).mono ?_
        rintro e w3 ⟨rfl, hb3⟩
        go_wp2_with fail
        refine (implPath c _ (by unfold maxLen; omega)).mono ?_
        rintro e w2 ⟨rfl, rfl⟩
        rw [hq]
        go_wp2_with fail
        refine (implDot c _ (by unfold maxLen; omega)).mono ?_
        rintro e w4 ⟨rfl, hb4⟩
        go_wp2
        go_ret2
        exact ⟨HN.out, (hb1.trans (hb3.mono hb1.size)).trans (hb4.mono (Nat.le_trans hb1.size hb3.size))⟩
end Go.Proofs.YthadmhleibhlgaaDoor
