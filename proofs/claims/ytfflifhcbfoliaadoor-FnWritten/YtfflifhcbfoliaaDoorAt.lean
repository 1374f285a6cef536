/-
  The date at a moment: the specification's and the program's contracts.
-/
import Derived.Test.YtfflifhcbfoliaaDoorMom
namespace Go.Proofs.YtfflifhcbfoliaaDoor
open Go.RowKit Go.Sort

/-- A block of its own is not frozen. -/
theorem boxFree {w x : World} {t : TypeId} {C : Array Value} (hb : Grew (w.alloc (.cells C t)) x) (j : Nat) : x.frozen? ⟨w.heap.size, j, none⟩ = false := by
  rw [hb.1.frozen (p := ⟨w.heap.size, j, none⟩) (by simp), World.frozen?_alloc_mark]
  simp

theorem specAt_out (n : Int) (w : World) (h : n < 0 ∨ 253402300799 < n) :
    Calls Tryd.prog 53 #[.int .i64 n] w fun e w' => e = .returned (.agg #[.int .i64 0, .int .i64 0, .int .i64 0, .int .i64 0, .int .i64 0, .int .i64 0]) ∧ Grew w w' := by
  have hr : inR n 0 253402300799 = false := decide_eq_false (by omega)
  go_enter Tryd.func53, Tryd.ntmps53
  go_wp2_with (go_at_call 27; refine (inRangeIs hr).mono ?_; rintro e x1 ⟨rfl, rfl⟩)
  refine bodyPost_ret (v := .agg #[.int .i64 0, .int .i64 0, .int .i64 0, .int .i64 0, .int .i64 0, .int .i64 0]) (by simp [results, Tryd.results53, go_sem]) rfl ⟨rfl, (Grew.refl w).alloc _⟩

set_option maxHeartbeats 1000000 in
theorem specAt_in (t : Int) (w : World) (t0 : 0 ≤ t) (t1 : t ≤ 253402300799) :
    Calls Tryd.prog 53 #[.int .i64 t] w fun e w' => (∃ y m d h i s : Int, e = .returned (.agg #[.int .i64 y, .int .i64 m, .int .i64 d, .int .i64 h, .int .i64 i, .int .i64 s]) ∧ okD y m d h i s ∧ momN y m d h i s = t) ∧ Grew w w' := by
  have hr : inR t 0 253402300799 = true := decide_eq_true (by omega)
  have hb0 : 0 ≤ t / 86400 ∧ t / 86400 ≤ 2932896 := by omega
  have hf := yr_first hb0.1
  have HF : Hid (yr (1970 + t / 86400 / 366) ≤ t / 86400) := hf
  clear hf
  go_enter Tryd.func53, Tryd.ntmps53
  go_wp2_with (go_at_call 27; refine (inRangeIs hr).mono ?_; rintro e x1 ⟨rfl, rfl⟩)
  go_loop [5] (fun v => ∃ y : Int, v = .int .i64 y ∧ 1970 ≤ y ∧ y ≤ 9999 ∧ Hid (yr y ≤ t / 86400)) (fun v => (10000 - intOf v).toNat)
  case atStart => exact ⟨_, rfl, by omega, by omega, HF⟩
  case round =>
    obtain ⟨y, rfl, hy0, hy1, hle⟩ := hrel
    have hyb : 0 ≤ yr (y + 1) ∧ yr (y + 1) ≤ 2933300 := ⟨yr_nonneg (by omega), yr_top (by omega)⟩
    by_cases hlt : yr (y + 1) ≤ t / 86400
    · have hy2 : y + 1 ≤ 9999 := by
        by_cases h : y + 1 < 10000
        · omega
        · have := yr_last (show 10000 ≤ y + 1 from by omega); omega
      go_wp2_with (go_at_call 50; refine (specYear _ _ (by omega)).mono ?_; rintro e x1 ⟨rfl, rfl⟩)
      go_round
      case rel => exact ⟨y + 1, rfl, by omega, by omega, hlt⟩
      case measure => simp [intOf]; omega
    · have hyy : 0 ≤ yr y ∧ yr y ≤ t / 86400 := ⟨yr_nonneg hy0, hle.out⟩
      have hnx : t / 86400 - yr y < 365 + lpN y := by have := yr_next hy0; omega
      have hlp := lpN_bd y
      have h12 := cum_12 y
      have H12 : Hid (cum y 12 = 365 + lpN y) := h12
      clear h12 hle hyb
      go_wp2_with (go_at_call 50; refine (specYear _ _ (by omega)).mono ?_; rintro e x1 ⟨rfl, rfl⟩)
      go_loopw [3, 6] (fun v k wr => ∃ j : Nat, j < 12 ∧ v = .int .i64 (t / 86400 - yr y - cum y j) ∧ k = .int .i64 ((j : Int) + 1) ∧ cum y j ≤ t / 86400 - yr y ∧ Grew (w.alloc (.cells #[.int .i64 0, .int .i64 0, .int .i64 0, .int .i64 0, .int .i64 0, .int .i64 0] 25)) wr) (fun _ k _ => (13 - (intOf k)).toNat)
      case atStart => exact ⟨0, by omega, by simp [cum], rfl, by simp [cum]; omega, Grew.refl _⟩
      case round =>
        obtain ⟨j, hj, rfl, rfl, hcj, hw⟩ := hrel
        have hc : 0 ≤ cum y j ∧ cum y j ≤ 366 := ⟨cum_nonneg y j, cum_top y (by omega)⟩
        have hmd := mdays_bd y ((j : Int) + 1)
        by_cases hlt2 : mdays y ((j : Int) + 1) ≤ t / 86400 - yr y - cum y j
        · have hj2 : j + 1 < 12 := by
            by_cases h : j + 1 < 12
            · exact h
            · have e11 : j = 11 := by omega
              subst e11
              have : cum y 12 = cum y 11 + mdays y (((11 : Nat) : Int) + 1) := rfl
              have := H12.out
              omega
          go_wp2_with (go_at_call 28; refine (specMonth _ _ _ (by omega) (by omega)).mono ?_; rintro e x2 ⟨rfl, hb2⟩; replace hw := hw.trans hb2; clear hb2)
          go_roundw
          case rel => exact ⟨j + 1, by omega, by simp [cum]; omega, by go_num, by simp [cum]; omega, hw⟩
          case measure => simp [intOf]; omega
        · go_wp2_with (go_at_call 28; refine (specMonth _ _ _ (by omega) (by omega)).mono ?_; rintro e x2 ⟨rfl, hb2⟩; replace hw := hw.trans hb2; clear hb2; obtain ⟨c0, c1, c2, c3, c4, c5⟩ := boxCells hw; have f0 := boxFree hw 0; have f1 := boxFree hw 1; have f2 := boxFree hw 2; have f3 := boxFree hw 3; have f4 := boxFree hw 4; have f5 := boxFree hw 5)
          refine bodyPost_ret (v := .agg #[.int .i64 y, .int .i64 ((j : Int) + 1), .int .i64 (t / 86400 - yr y - cum y j + 1), .int .i64 (t % 86400 / 3600), .int .i64 (t % 86400 / 60 % 60), .int .i64 (t % 60)]) (by simp [results, Tryd.results53, go_sem, c0, c1, c2, c3, c4, c5]) rfl ⟨⟨y, (j : Int) + 1, t / 86400 - yr y - cum y j + 1, t % 86400 / 3600, t % 86400 / 60 % 60, t % 60, rfl, ⟨⟨hy0, hy1⟩, ⟨by omega, by omega⟩, ⟨by omega, by omega⟩, by omega, by omega, by omega⟩, ?_⟩, ?_⟩
          · unfold momN dayN; rw [show ((j : Int) + 1 - 1).toNat = j from by omega]; omega
          · exact ((((((((Grew.refl w).alloc _).trans hw).put (Nat.le_refl _) 0 _).put (Nat.le_refl _) 1 _).put (Nat.le_refl _) 2 _).put (Nat.le_refl _) 3 _).put (Nat.le_refl _) 4 _).put (Nat.le_refl _) 5 _

/-- One moment has one date. -/
theorem mom_one {y m d h i s y' m' d' h' i' s' : Int} (ok : okD y m d h i s) (ok' : okD y' m' d' h' i' s') (he : momN y m d h i s = momN y' m' d' h' i' s') : y = y' ∧ m = m' ∧ d = d' ∧ h = h' ∧ i = i' ∧ s = s' := by
  obtain ⟨a1, a2, a3, a4, a5, a6⟩ := ok
  obtain ⟨b1, b2, b3, b4, b5, b6⟩ := ok'
  unfold momN at he
  have hd : dayN y m d = dayN y' m' d' := by omega
  obtain ⟨e1, e2, e3⟩ := day_one ⟨a1, a2, a3⟩ ⟨b1, b2, b3⟩ hd
  exact ⟨e1, e2, e3, by omega, by omega, by omega⟩
end Go.Proofs.YtfflifhcbfoliaaDoor
