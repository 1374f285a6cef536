/-
  The law FnPaths walked: whatever the code.
-/
import Derived.Test.YthadmhleibhlgaaDoorDrC
import Derived.Test.YthadmhleibhlgaaDoorNrm
namespace Go.Proofs.YthadmhleibhlgaaDoor
open Go.RowKit

theorem step_on {w w1 w2 : World} (h : Below w.heap.size w w1) (h2 : Below w1.heap.size w1 w2) : Below w.heap.size w w2 := h.trans (h2.mono h.size)
theorem head0 {n : ByteArray} (h : n.data.toList.head? = some 47) : ∃ hz : 0 < n.size, (n[0].toNat : Int) = 47 := by
  by_cases hz : 0 < n.size
  · rw [head_at hz] at h
    injection h with h
    exact ⟨hz, by rw [h]; rfl⟩
  · rw [head_none hz] at h; cases h

set_option maxRecDepth 100000 in
set_option maxHeartbeats 4000000 in
theorem pathsWalk (sa : Option Addr) (sl sc : Nat) (w : World) (hc : Code8 w w.heap.size sa sl) (hl : sl ≤ 4096) :
    Calls Tryd.prog 4 #[.slice sa sl sc] w fun e w' => e = .returned (.bool true) ∧ Below w.heap.size w w' := by
  go_enter Tryd.func4, Tryd.ntmps4
  go_wp2_with fail
  refine (notBig sa sl sc _ hl).mono ?_
  rintro e w0 ⟨rfl, rfl⟩
  go_wp2_with fail
  refine (drawCoded sa sl sc _ hc hl).mono ?_
  rintro e w1 ⟨s, rfl, hsz, B1⟩
  have kc := implCoded s
  have kcs := specCoded s
  have hcz := codA_size s
  go_wp2_with fail
  refine (kc _ (by unfold maxLen; omega)).mono ?_
  rintro e w2 ⟨rfl, hb2⟩
  have B2 := step_on B1 hb2
  clear hb2 B1 kc
  go_wp2_with fail
  refine (drawUncoded sa sl sc _ (hc.on B2) hl).mono ?_
  rintro e w3 ⟨u, rfl, huz, hb3⟩
  have B3 := step_on B2 hb3
  clear hb3 B2
  have ku := implUnc u
  have kus := specUnc u
  unfold uncE at ku kus
  generalize uncT u = v at ku kus
  generalize (uncA u).isSome = b1 at ku kus
  go_wp2_with fail
  refine (ku _ (by unfold maxLen; omega)).mono ?_
  rintro e w4 ⟨rfl, hb4⟩
  have B4 := step_on B3 hb4
  clear hb4 B3 ku
  go_wp2_with fail
  refine (drawDotless sa sl sc _ (hc.on B4) hl).mono ?_
  rintro e w5 ⟨d, rfl, hdz, hb5⟩
  have B5 := step_on B4 hb5
  clear hb5 B4
  go_wp2_with fail
  refine (drawNormal sa sl sc _ (hc.on B5) hl).mono ?_
  rintro e w6 ⟨p, rfl, hpz, hb6⟩
  have B6 := step_on B5 hb6
  clear hb6 B5 hc
  have kd := implDot d
  have kds := specDot d
  generalize dotA d = dd at kd kds
  have kn := implNrm p
  have kns := specNrm p
  unfold nrmE nrmT at kn kns
  cases hnp : nrmA p with
  | none =>
    rw [hnp] at kn kns
    cases b1
    all_goals
      go_wp2_with fail
      refine (kn _ (by unfold maxLen; omega)).mono ?_
      rintro e w7 ⟨rfl, hb7⟩
      have B7 := step_on B6 hb7
      clear hb7 B6
      go_wp2_with fail
      refine (kus _ (by unfold maxLen; omega)).mono ?_
      rintro e w8 ⟨rfl, hb8⟩
      have B8 := step_on B7 hb8
      clear hb8 B7
      go_wp2_with fail
      refine (kcs _ (by unfold maxLen; omega)).mono ?_
      rintro e w9 ⟨rfl, hb9⟩
      have B9 := step_on B8 hb9
      clear hb9 B8
      go_wp2_with fail
      refine (kd _ (by unfold maxLen; omega)).mono ?_
      rintro e w10 ⟨rfl, hb10⟩
      have B10 := step_on B9 hb10
      clear hb10 B9
      go_wp2_with fail
      refine (kds _ (by unfold maxLen; omega)).mono ?_
      rintro e w11 ⟨rfl, hb11⟩
      have B11 := step_on B10 hb11
      clear hb11 B10
      go_wp2_with fail
      refine (kns _ (by unfold maxLen; omega)).mono ?_
      rintro e w12 ⟨rfl, hb12⟩
      have B12 := step_on B11 hb12
      clear hb12 B11
      by_cases hA : (codA s).size ≤ 200 ∧ s.size ≤ 200
      · obtain ⟨hA1, hA2⟩ := hA
        have hcs := codA_yes hA2
        have hu2 : uncA (codA s) = some s := by
          rw [← hcs] at hA1 ⊢
          exact unc_cod hA1
        have k3 := implUnc (codA s)
        unfold uncE uncT at k3
        rw [hu2] at k3
        clear hu2 hcs
        generalize codA s = c at hA1 k3
        go_wp2_with fail
        refine (k3 _ (by unfold maxLen; omega)).mono ?_
        rintro e w13 ⟨rfl, hb13⟩
        have B13 := step_on B12 hb13
        clear hb13
        go_wp2
        go_ret
        exact ⟨rfl, B13⟩
      · generalize hgc : codA s = c at hA hcz
        clear hgc
        rcases (show ¬ c.size ≤ 200 ∨ (c.size ≤ 200 ∧ ¬ s.size ≤ 200) from by omega) with h1 | ⟨h1, h2⟩
        · clear hA
          go_wp2
          go_ret
          exact ⟨rfl, B12⟩
        · clear hA
          go_wp2
          go_ret
          exact ⟨rfl, B12⟩
  | some n =>
    rw [hnp] at kn kns
    obtain ⟨hag, hdn, hhd, hnz⟩ := nrm_again hnp
    obtain ⟨hn0, hn47⟩ := head0 hhd
    have hq47 := beq_yes3 hn47
    have kn2 := implNrm n
    unfold nrmE nrmT at kn2
    rw [hag] at kn2
    have kd2 := implDot n
    rw [hdn] at kd2
    clear hag hdn hhd hn47
    cases b1
    all_goals
      go_wp2_with fail
      refine (kn _ (by unfold maxLen; omega)).mono ?_
      rintro e w7 ⟨rfl, hb7⟩
      have B7 := step_on B6 hb7
      clear hb7 B6
      go_wp2_with fail
      refine (kus _ (by unfold maxLen; omega)).mono ?_
      rintro e w8 ⟨rfl, hb8⟩
      have B8 := step_on B7 hb8
      clear hb8 B7
      go_wp2_with fail
      refine (kcs _ (by unfold maxLen; omega)).mono ?_
      rintro e w9 ⟨rfl, hb9⟩
      have B9 := step_on B8 hb9
      clear hb9 B8
      go_wp2_with fail
      refine (kd _ (by unfold maxLen; omega)).mono ?_
      rintro e w10 ⟨rfl, hb10⟩
      have B10 := step_on B9 hb10
      clear hb10 B9
      go_wp2_with fail
      refine (kds _ (by unfold maxLen; omega)).mono ?_
      rintro e w11 ⟨rfl, hb11⟩
      have B11 := step_on B10 hb11
      clear hb11 B10
      go_wp2_with fail
      refine (kns _ (by unfold maxLen; omega)).mono ?_
      rintro e w12 ⟨rfl, hb12⟩
      have B12 := step_on B11 hb12
      clear hb12 B11
      by_cases hA : (codA s).size ≤ 200 ∧ s.size ≤ 200
      · obtain ⟨hA1, hA2⟩ := hA
        have hcs := codA_yes hA2
        have hu2 : uncA (codA s) = some s := by
          rw [← hcs] at hA1 ⊢
          exact unc_cod hA1
        have k3 := implUnc (codA s)
        unfold uncE uncT at k3
        rw [hu2] at k3
        clear hu2 hcs
        generalize codA s = c at hA1 k3
        go_wp2_with fail
        refine (k3 _ (by unfold maxLen; omega)).mono ?_
        rintro e w13 ⟨rfl, hb13⟩
        have B13 := step_on B12 hb13
        clear hb13
        go_wp2_with fail
        refine (kn2 _ (by unfold maxLen; omega)).mono ?_
        rintro e x1 ⟨rfl, hbx1⟩
        have C1 := step_on B13 hbx1
        clear hbx1
        go_wp2_with fail
        refine (kd2 _ (by unfold maxLen; omega)).mono ?_
        rintro e x2 ⟨rfl, hbx2⟩
        have C2 := step_on C1 hbx2
        clear hbx2
        go_wp2
        go_ret
        exact ⟨rfl, C2⟩
      · generalize hgc : codA s = c at hA hcz
        clear hgc
        rcases (show ¬ c.size ≤ 200 ∨ (c.size ≤ 200 ∧ ¬ s.size ≤ 200) from by omega) with h1 | ⟨h1, h2⟩
        · clear hA
          go_wp2_with fail
          refine (kn2 _ (by unfold maxLen; omega)).mono ?_
          rintro e x1 ⟨rfl, hbx1⟩
          have C1 := step_on B12 hbx1
          clear hbx1
          go_wp2_with fail
          refine (kd2 _ (by unfold maxLen; omega)).mono ?_
          rintro e x2 ⟨rfl, hbx2⟩
          have C2 := step_on C1 hbx2
          clear hbx2
          go_wp2
          go_ret
          exact ⟨rfl, C2⟩
        · clear hA
          go_wp2_with fail
          refine (kn2 _ (by unfold maxLen; omega)).mono ?_
          rintro e x1 ⟨rfl, hbx1⟩
          have C1 := step_on B12 hbx1
          clear hbx1
          go_wp2_with fail
          refine (kd2 _ (by unfold maxLen; omega)).mono ?_
          rintro e x2 ⟨rfl, hbx2⟩
          have C2 := step_on C1 hbx2
          clear hbx2
          go_wp2
          go_ret
          exact ⟨rfl, C2⟩
end Go.Proofs.YthadmhleibhlgaaDoor
