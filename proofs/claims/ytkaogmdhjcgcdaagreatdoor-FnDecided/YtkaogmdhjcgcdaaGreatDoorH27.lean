/-
  Whether a date is one: the program's contract.
  The days of a date: the specification's and the program's contracts.
  The days, moments and weekdays of dates: the specification's and the program's contracts.
  The date at a moment: the specification's and the program's contracts.
  Two digits: the specification's and the program's contracts.
-/
import Derived.Test.YtkaogmdhjcgcdaaGreatDoorH21
import Derived.Test.YtkaogmdhjcgcdaaGreatDoorH06
import Derived.Test.YtkaogmdhjcgcdaaGreatDoorH22
import Derived.Test.YtkaogmdhjcgcdaaGreatDoorH23
import Derived.Test.YtkaogmdhjcgcdaaGreatDoorH24
import Derived.Test.YtkaogmdhjcgcdaaGreatDoorH25
import Derived.Test.YtkaogmdhjcgcdaaGreatDoorH26
import Derived.BigQuiet
import Derived.Test.YtkaogmdhjcgcdaaGreatDoorH20
import Derived.Deep.LoopGhost
import Derived.Laws.Strings
import Derived.Lib.ItoaNum
namespace Go.Proofs.YtkaogmdhjcgcdaaGreatDoor.Dd
open Go.RowKit Go.Sort


theorem implOk (y m d h i s : Int) (w : World) :
    Calls Tryz.prog 142 #[.agg #[.int .i64 y, .int .i64 m, .int .i64 d, .int .i64 h, .int .i64 i, .int .i64 s]] w fun e w' => e = .returned (.bool (okB y m d h i s)) ∧ Grew w w' := by
  by_cases c0 : 1970 ≤ y
  case neg =>
    have E : okB y m d h i s = false := decide_eq_false (by unfold okD; omega)
    rw [E]
    exact implOk_0 y m d h i s w  (decide_eq_false c0)
  by_cases c1 : y ≤ 9999
  case neg =>
    have E : okB y m d h i s = false := decide_eq_false (by unfold okD; omega)
    rw [E]
    exact implOk_1 y m d h i s w c0 (decide_eq_false c1)
  by_cases c2 : 1 ≤ m
  case neg =>
    have E : okB y m d h i s = false := decide_eq_false (by unfold okD; omega)
    rw [E]
    exact implOk_2 y m d h i s w c0 c1 (decide_eq_false c2)
  by_cases c3 : m ≤ 12
  case neg =>
    have E : okB y m d h i s = false := decide_eq_false (by unfold okD; omega)
    rw [E]
    exact implOk_3 y m d h i s w c0 c1 c2 (decide_eq_false c3)
  by_cases c4 : 1 ≤ d
  case neg =>
    have E : okB y m d h i s = false := decide_eq_false (by unfold okD; omega)
    rw [E]
    exact implOk_4 y m d h i s w c0 c1 c2 c3 (decide_eq_false c4)
  by_cases c5 : d ≤ mdays y m
  case neg =>
    have E : okB y m d h i s = false := decide_eq_false (by unfold okD; omega)
    rw [E]
    exact implOk_5 y m d h i s w c0 c1 c2 c3 c4 (decide_eq_false c5)
  by_cases c6 : 0 ≤ h
  case neg =>
    have E : okB y m d h i s = false := decide_eq_false (by unfold okD; omega)
    rw [E]
    exact implOk_6 y m d h i s w c0 c1 c2 c3 c4 c5 (decide_eq_false c6)
  by_cases c7 : h ≤ 23
  case neg =>
    have E : okB y m d h i s = false := decide_eq_false (by unfold okD; omega)
    rw [E]
    exact implOk_7 y m d h i s w c0 c1 c2 c3 c4 c5 c6 (decide_eq_false c7)
  by_cases c8 : 0 ≤ i
  case neg =>
    have E : okB y m d h i s = false := decide_eq_false (by unfold okD; omega)
    rw [E]
    exact implOk_8 y m d h i s w c0 c1 c2 c3 c4 c5 c6 c7 (decide_eq_false c8)
  by_cases c9 : i ≤ 59
  case neg =>
    have E : okB y m d h i s = false := decide_eq_false (by unfold okD; omega)
    rw [E]
    exact implOk_9 y m d h i s w c0 c1 c2 c3 c4 c5 c6 c7 c8 (decide_eq_false c9)
  by_cases c10 : 0 ≤ s
  case neg =>
    have E : okB y m d h i s = false := decide_eq_false (by unfold okD; omega)
    rw [E]
    exact implOk_10 y m d h i s w c0 c1 c2 c3 c4 c5 c6 c7 c8 c9 (decide_eq_false c10)
  have E : okB y m d h i s = decide (s ≤ 59) := by
    unfold okB
    by_cases c : s ≤ 59
    · rw [decide_eq_true c]; exact decide_eq_true (by unfold okD; omega)
    · rw [decide_eq_false c]; exact decide_eq_false (by unfold okD; omega)
  rw [E]
  exact implOk_11 y m d h i s w c0 c1 c2 c3 c4 c5 c6 c7 c8 c9 c10
end Go.Proofs.YtkaogmdhjcgcdaaGreatDoor.Dd
namespace Go.Proofs.YtkaogmdhjcgcdaaGreatDoor.Dd
open Go.RowKit Go.Sort

set_option maxHeartbeats 1000000 in
theorem specDays2 (y m d h i s : Int) (w : World) (ok : dayOk y m d) :
    Calls Tryz.prog 123 #[.agg #[.int .i64 y, .int .i64 m, .int .i64 d, .int .i64 h, .int .i64 i, .int .i64 s]] w fun e w' => e = .returned (.int .i64 (dayN y m d)) ∧ Grew w w' := by
  have hy : 1970 ≤ y ∧ y ≤ 9999 := ok.1
  have hm : 1 ≤ m ∧ m ≤ 12 := ok.2.1
  have hd : 1 ≤ d ∧ d ≤ 31 := by have := ok.2.2; have := mdays_bd y m; omega
  have hyr : 0 ≤ yr y ∧ yr y ≤ 2933300 := ⟨yr_nonneg hy.1, yr_top (by omega)⟩
  have r1 : IntKind.i64.wrap (yr y + d) = yr y + d := by rw [IntKind.wrap_i64]; omega
  have r2 : IntKind.i64.wrap (yr y + d - 1) = yr y + d - 1 := by rw [IntKind.wrap_i64]; omega
  clear ok
  have mix := mixed
  have bx := boxed (w := w) (t := 121) (fr := (0, 0)) #[.int .i64 y, .int .i64 m, .int .i64 d, .int .i64 h, .int .i64 i, .int .i64 s]
  have k0 := bx 0
  have k2 := bx 2
  clear bx
  go_enter Tryz.func123, Tryz.ntmps123
  go_wp2
  go_quiet_grown ((go_at_call 148; refine callSame (specYear _ _ (by omega))))
  have c0 := k0 nq osq
  have c1 := (boxed (w := w) (t := 121) (fr := (0, 0)) #[.int .i64 y, .int .i64 m, .int .i64 d, .int .i64 h, .int .i64 i, .int .i64 s]) 1 nq osq
  clear k0 k2 r1 r2
  have hg : Grew w (grow ((w.alloc (.cells #[.int .i64 y, .int .i64 m, .int .i64 d, .int .i64 h, .int .i64 i, .int .i64 s] 121)).drewN nq) osq) := (((Grew.refl w).alloc _).drewN _).more _
  have hz : w.heap.size < (grow ((w.alloc (.cells #[.int .i64 y, .int .i64 m, .int .i64 d, .int .i64 h, .int .i64 i, .int .i64 s] 121)).drewN nq) osq).heap.size := by rw [size_grow]; show w.heap.size < (w.alloc _).heap.size + _; simp; omega
  generalize (grow ((w.alloc (.cells #[.int .i64 y, .int .i64 m, .int .i64 d, .int .i64 h, .int .i64 i, .int .i64 s] 121)).drewN nq) osq) = w1 at c0 c1 hg hz ⊢
  go_wp2
  go_loopw [3, 4] (fun n k wr => ∃ j : Nat, (j : Int) + 1 ≤ m ∧ n = .int .i64 (yr y + d - 1 + cum y j) ∧ k = .int .i64 ((j : Int) + 1) ∧ Grew w1 wr) (fun _ k _ => (13 - (intOf k)).toNat)
  case atStart => exact ⟨0, by omega, by simp [cum], rfl, Grew.refl _⟩
  case round =>
    obtain ⟨j, hj, rfl, rfl, hw⟩ := hrel
    have e0 := hw.cell c0 hz
    have e1 := hw.cell c1 hz
    have hc : 0 ≤ cum y j ∧ cum y j ≤ 366 := ⟨cum_nonneg y j, cum_top y (by omega)⟩
    have hmd := mdays_bd y ((j : Int) + 1)
    by_cases hlt : (j : Int) + 1 < m
    · go_wp2_with (go_at_call 147; refine (specMonth _ _ _ (by omega) (by omega)).mono ?_; rintro e x2 ⟨rfl, hb2⟩)
      go_roundw
      case rel => exact ⟨j + 1, by omega, by simp [cum]; omega, by go_num, hw.trans hb2⟩
      case measure => simp [intOf]; omega
    · go_wp2
      go_ret
      exact ⟨ret_int (by unfold dayN; rw [show (m - 1).toNat = j from by omega]), hg.trans hw⟩

set_option maxHeartbeats 1000000 in
theorem implDays_in (y m d h i s : Int) (w : World) (ok : dayOk y m d) (hok : okB y m d h i s = true) :
    Calls Tryz.prog 143 #[.agg #[.int .i64 y, .int .i64 m, .int .i64 d, .int .i64 h, .int .i64 i, .int .i64 s]] w fun e w' => e = .returned (.int .i64 (dayN y m d)) ∧ Grew w w' := by
  have hy : 1970 ≤ y ∧ y ≤ 9999 := ok.1
  have hm : 1 ≤ m ∧ m ≤ 12 := ok.2.1
  have hd : 1 ≤ d ∧ d ≤ 31 := by have := ok.2.2; have := mdays_bd y m; omega
  have hyr : 0 ≤ yr y ∧ yr y ≤ 2933300 := ⟨yr_nonneg hy.1, yr_top (by omega)⟩
  have r1 : IntKind.i64.wrap (yr y + d) = yr y + d := by rw [IntKind.wrap_i64]; omega
  have r2 : IntKind.i64.wrap (yr y + d - 1) = yr y + d - 1 := by rw [IntKind.wrap_i64]; omega
  clear ok
  have mix := mixed
  have bx := boxed (w := w) (t := 121) (fr := (0, 0)) #[.int .i64 y, .int .i64 m, .int .i64 d, .int .i64 h, .int .i64 i, .int .i64 s]
  have b0 := bx 0 0 #[]
  have b1 := bx 1 0 #[]
  have b2 := bx 2 0 #[]
  rw [grow_empty] at b0 b1 b2
  clear bx
  have hz0 : w.heap.size < (w.alloc (.cells #[.int .i64 y, .int .i64 m, .int .i64 d, .int .i64 h, .int .i64 i, .int .i64 s] 121)).heap.size := by simp
  go_enter Tryz.func143, Tryz.ntmps143
  go_wp2_with (go_at_call 142; refine (implOk _ _ _ _ _ _ _).mono ?_; rintro e x2 ⟨rfl, hb2⟩; rw [hok])
  have k0 : ∀ n os, (grow (x2.drewN n) os).cell? ⟨w.heap.size, 0, none⟩ = some (.int .i64 y) := fun n os => ((hb2.drewN n).more os).cell b0 hz0
  have k1 : ∀ n os, (grow (x2.drewN n) os).cell? ⟨w.heap.size, 1, none⟩ = some (.int .i64 m) := fun n os => ((hb2.drewN n).more os).cell b1 hz0
  have k2 : ∀ n os, (grow (x2.drewN n) os).cell? ⟨w.heap.size, 2, none⟩ = some (.int .i64 d) := fun n os => ((hb2.drewN n).more os).cell b2 hz0
  have hg2 : Grew w x2 := ((Grew.refl w).alloc _).trans hb2
  have hz2 : w.heap.size < x2.heap.size := Nat.lt_of_lt_of_le hz0 hb2.1.size
  clear b0 b1 b2 hb2 hz0
  go_quiet_grown ((go_at_call 174; refine callSame (implYear _ _ (by omega))))
  have c0 := k0 nq osq
  have c1 := k1 nq osq
  clear k0 k1 k2 r1 r2
  have hg : Grew w (grow (x2.drewN nq) osq) := (hg2.drewN _).more _
  have hz : w.heap.size < (grow (x2.drewN nq) osq).heap.size := by rw [size_grow]; exact Nat.lt_of_lt_of_le hz2 (Nat.le_add_right _ _)
  generalize (grow (x2.drewN nq) osq) = w1 at c0 c1 hg hz ⊢
  go_wp2
  go_loopw [3, 4] (fun n k wr => ∃ j : Nat, (j : Int) + 1 ≤ m ∧ n = .int .i64 (yr y + d - 1 + cum y j) ∧ k = .int .i64 ((j : Int) + 1) ∧ Grew w1 wr) (fun _ k _ => (13 - (intOf k)).toNat)
  case atStart => exact ⟨0, by omega, by simp [cum], rfl, Grew.refl _⟩
  case round =>
    obtain ⟨j, hj, rfl, rfl, hw⟩ := hrel
    have e0 := hw.cell c0 hz
    have e1 := hw.cell c1 hz
    have hc : 0 ≤ cum y j ∧ cum y j ≤ 366 := ⟨cum_nonneg y j, cum_top y (by omega)⟩
    have hmd := mdays_bd y ((j : Int) + 1)
    by_cases hlt : (j : Int) + 1 < m
    · go_wp2_with (go_at_call 173; refine (implMonth _ _ _ (by omega) (by omega)).mono ?_; rintro e x2 ⟨rfl, hb2⟩)
      go_roundw
      case rel => exact ⟨j + 1, by omega, by simp [cum]; omega, by go_num, hw.trans hb2⟩
      case measure => simp [intOf]; omega
    · go_wp2
      go_ret
      exact ⟨ret_int (by unfold dayN; rw [show (m - 1).toNat = j from by omega]), hg.trans hw⟩

theorem dayOk_of {y m d h i s : Int} (h : okB y m d h i s = true) : dayOk y m d := by
  have := of_decide_eq_true h
  exact ⟨this.1, this.2.1, this.2.2.1⟩
end Go.Proofs.YtkaogmdhjcgcdaaGreatDoor.Dd
namespace Go.Proofs.YtkaogmdhjcgcdaaGreatDoor.Dd
open Go.RowKit Go.Sort

/-- The cells of what is boxed, behind a call. -/
theorem boxCells {w x : World} {t : TypeId} {a b c d e f : Value} (hb : Grew (w.alloc (.cells #[a, b, c, d, e, f] t)) x) :
    x.cell? ⟨w.heap.size, 0, none⟩ = some a ∧ x.cell? ⟨w.heap.size, 1, none⟩ = some b ∧ x.cell? ⟨w.heap.size, 2, none⟩ = some c ∧ x.cell? ⟨w.heap.size, 3, none⟩ = some d ∧ x.cell? ⟨w.heap.size, 4, none⟩ = some e ∧ x.cell? ⟨w.heap.size, 5, none⟩ = some f := by
  have hB : w.heap.size < (w.alloc (.cells #[a, b, c, d, e, f] t)).heap.size := by simp
  have k : ∀ j, (w.alloc (.cells #[a, b, c, d, e, f] t)).cell? ⟨w.heap.size, j, none⟩ = #[a, b, c, d, e, f][j]? := fun j => World.cell?_alloc_mark w _ t _ j
  exact ⟨hb.cell (k 0) hB, hb.cell (k 1) hB, hb.cell (k 2) hB, hb.cell (k 3) hB, hb.cell (k 4) hB, hb.cell (k 5) hB⟩

/-- What Moment answers. -/
def momV (y m d h i s : Int) : Int := if okB y m d h i s = true then momN y m d h i s else -1

theorem specWk_in (y m d h i s : Int) (w : World) (hok : okB y m d h i s = true) :
    Calls Tryz.prog 145 #[.agg #[.int .i64 y, .int .i64 m, .int .i64 d, .int .i64 h, .int .i64 i, .int .i64 s]] w fun e w' => e = .returned (.int .i64 ((dayN y m d + 4) % 7)) ∧ Grew w w' := by
  have OK : Hid (dayOk y m d) := dayOk_of hok
  have hbd := day_bd OK.out
  go_enter Tryz.func145, Tryz.ntmps145
  go_wp2_with (first | (go_at_call 122; refine (specOk _ _ _ _ _ _ _).mono ?_; rintro e x2 ⟨rfl, hb2⟩; rw [hok]; have hg2 : Grew w x2 := ((Grew.refl w).alloc _).trans hb2; obtain ⟨c0, c1, c2, c3, c4, c5⟩ := boxCells hb2; clear hb2) | (go_at_call 123; refine (specDays2 _ _ _ _ _ _ _ OK.out).mono ?_; rintro e x3 ⟨rfl, hb3⟩))
  go_ret
  exact ⟨rfl, hg2.trans hb3⟩

theorem implWk_in (y m d h i s : Int) (w : World) (hok : okB y m d h i s = true) :
    Calls Tryz.prog 170 #[.agg #[.int .i64 y, .int .i64 m, .int .i64 d, .int .i64 h, .int .i64 i, .int .i64 s]] w fun e w' => e = .returned (.int .i64 ((dayN y m d + 4) % 7)) ∧ Grew w w' := by
  have OK : Hid (dayOk y m d) := dayOk_of hok
  have hbd := day_bd OK.out
  go_enter Tryz.func170, Tryz.ntmps170
  go_wp2_with (first | (go_at_call 142; refine (implOk _ _ _ _ _ _ _).mono ?_; rintro e x2 ⟨rfl, hb2⟩; rw [hok]; have hg2 : Grew w x2 := ((Grew.refl w).alloc _).trans hb2; obtain ⟨c0, c1, c2, c3, c4, c5⟩ := boxCells hb2; clear hb2) | (go_at_call 143; refine (implDays_in _ _ _ _ _ _ _ OK.out hok).mono ?_; rintro e x3 ⟨rfl, hb3⟩))
  go_ret
  exact ⟨rfl, hg2.trans hb3⟩

end Go.Proofs.YtkaogmdhjcgcdaaGreatDoor.Dd
namespace Go.Proofs.YtkaogmdhjcgcdaaGreatDoor.Dd
open Go.RowKit Go.Sort

/-- A block of its own is not frozen. -/
theorem boxFree {w x : World} {t : TypeId} {C : Array Value} (hb : Grew (w.alloc (.cells C t)) x) (j : Nat) : x.frozen? ⟨w.heap.size, j, none⟩ = false := by
  rw [hb.1.frozen (p := ⟨w.heap.size, j, none⟩) (by simp), World.frozen?_alloc_mark]
  simp

set_option maxHeartbeats 1000000 in
theorem specAt_in (t : Int) (w : World) (t0 : 0 ≤ t) (t1 : t ≤ 253402300799) :
    Calls Tryz.prog 136 #[.int .i64 t] w fun e w' => (∃ y m d h i s : Int, e = .returned (.agg #[.int .i64 y, .int .i64 m, .int .i64 d, .int .i64 h, .int .i64 i, .int .i64 s]) ∧ okD y m d h i s ∧ momN y m d h i s = t) ∧ Grew w w' := by
  have hr : inR t 0 253402300799 = true := decide_eq_true (by omega)
  have hb0 : 0 ≤ t / 86400 ∧ t / 86400 ≤ 2932896 := by omega
  have hf := yr_first hb0.1
  have HF : Hid (yr (1970 + t / 86400 / 366) ≤ t / 86400) := hf
  clear hf
  go_enter Tryz.func136, Tryz.ntmps136
  go_wp2_with (go_at_call 63; refine (inRangeIs hr).mono ?_; rintro e x1 ⟨rfl, rfl⟩)
  go_loop [5] (fun v => ∃ y : Int, v = .int .i64 y ∧ 1970 ≤ y ∧ y ≤ 9999 ∧ Hid (yr y ≤ t / 86400)) (fun v => (10000 - intOf v).toNat)
  case atStart => exact ⟨_, rfl, by omega, by omega, HF⟩
  case round =>
    obtain ⟨y, rfl, hy0, hy1, hle⟩ := hrel
    have hyb : 0 ≤ yr (y + 1) ∧ yr (y + 1) ≤ 2933300 := ⟨yr_nonneg (by omega), yr_top (by omega)⟩
    by_cases hlt : yr (y + 1) ≤ t / 86400
    · have hy2 : y + 1 ≤ 9999 := by
        by_cases h : y + 1 < 10000
        · omega
        · have := yr_last (show 10000 ≤ y + 1 from by omega); omega
      go_wp2_with (go_at_call 148; refine (specYear _ _ (by omega)).mono ?_; rintro e x1 ⟨rfl, rfl⟩)
      go_round
      case rel => exact ⟨y + 1, rfl, by omega, by omega, hlt⟩
      case measure => simp [intOf]; omega
    · have hyy : 0 ≤ yr y ∧ yr y ≤ t / 86400 := ⟨yr_nonneg hy0, hle.out⟩
      have hnx : t / 86400 - yr y < 365 + lpN y := by have := yr_next hy0; omega
      have hlp := lpN_bd y
      have h12 := cum_12 y
      have H12 : Hid (cum y 12 = 365 + lpN y) := h12
      clear h12 hle hyb
      go_wp2_with (go_at_call 148; refine (specYear _ _ (by omega)).mono ?_; rintro e x1 ⟨rfl, rfl⟩)
      go_loopw [3, 6] (fun v k wr => ∃ j : Nat, j < 12 ∧ v = .int .i64 (t / 86400 - yr y - cum y j) ∧ k = .int .i64 ((j : Int) + 1) ∧ cum y j ≤ t / 86400 - yr y ∧ Grew (w.alloc (.cells #[.int .i64 0, .int .i64 0, .int .i64 0, .int .i64 0, .int .i64 0, .int .i64 0] 121)) wr) (fun _ k _ => (13 - (intOf k)).toNat)
      case atStart => exact ⟨0, by omega, by simp [cum], rfl, by simp [cum]; omega, Grew.refl _⟩
      case round =>
        obtain ⟨j, hj, rfl, rfl, hcj, hw⟩ := hrel
        have hc : 0 ≤ cum y j ∧ cum y j ≤ 366 := ⟨cum_nonneg y j, cum_top y (by omega)⟩
        have hmd := mdays_bd y ((j : Int) + 1)
        by_cases hlt2 : mdays y ((j : Int) + 1) ≤ t / 86400 - yr y - cum y j
        · have hj2 : j + 1 < 12 := by
            by_cases h : j + 1 < 12
            · exact h
            · have e11 : j = 11 := by omega
              subst e11
              have : cum y 12 = cum y 11 + mdays y (((11 : Nat) : Int) + 1) := rfl
              have := H12.out
              omega
          go_wp2_with (go_at_call 147; refine (specMonth _ _ _ (by omega) (by omega)).mono ?_; rintro e x2 ⟨rfl, hb2⟩; replace hw := hw.trans hb2; clear hb2)
          go_roundw
          case rel => exact ⟨j + 1, by omega, by simp [cum]; omega, by go_num, by simp [cum]; omega, hw⟩
          case measure => simp [intOf]; omega
        · go_wp2_with (go_at_call 147; refine (specMonth _ _ _ (by omega) (by omega)).mono ?_; rintro e x2 ⟨rfl, hb2⟩; replace hw := hw.trans hb2; clear hb2; obtain ⟨c0, c1, c2, c3, c4, c5⟩ := boxCells hw; have f0 := boxFree hw 0; have f1 := boxFree hw 1; have f2 := boxFree hw 2; have f3 := boxFree hw 3; have f4 := boxFree hw 4; have f5 := boxFree hw 5)
          refine bodyPost_ret (v := .agg #[.int .i64 y, .int .i64 ((j : Int) + 1), .int .i64 (t / 86400 - yr y - cum y j + 1), .int .i64 (t % 86400 / 3600), .int .i64 (t % 86400 / 60 % 60), .int .i64 (t % 60)]) (by simp [results, Tryz.results136, go_sem, c0, c1, c2, c3, c4, c5]) rfl ⟨⟨y, (j : Int) + 1, t / 86400 - yr y - cum y j + 1, t % 86400 / 3600, t % 86400 / 60 % 60, t % 60, rfl, ⟨⟨hy0, hy1⟩, ⟨by omega, by omega⟩, ⟨by omega, by omega⟩, by omega, by omega, by omega⟩, ?_⟩, ?_⟩
          · unfold momN dayN; rw [show ((j : Int) + 1 - 1).toNat = j from by omega]; omega
          · exact ((((((((Grew.refl w).alloc _).trans hw).put (Nat.le_refl _) 0 _).put (Nat.le_refl _) 1 _).put (Nat.le_refl _) 2 _).put (Nat.le_refl _) 3 _).put (Nat.le_refl _) 4 _).put (Nat.le_refl _) 5 _

end Go.Proofs.YtkaogmdhjcgcdaaGreatDoor.Dd
namespace Go.Proofs.YtkaogmdhjcgcdaaGreatDoor.Dd
open Go.RowKit Go.Sort

/-- A digit. -/
def dgt (n : Int) : UInt8 := UInt8.ofNat (48 + (n % 10).toNat)
theorem dgt_nat (n : Int) : ((dgt n).toNat : Int) = 48 + n % 10 := by
  unfold dgt
  rw [UInt8.toNat_ofNat']
  omega
/-- Two digits. -/
def two (n : Int) : ByteArray := ⟨#[dgt (n / 10), dgt n]⟩
theorem twoText (w : World) (n x y : Int) (hx : x = ((dgt (n / 10)).toNat : Int)) (hy : y = ((dgt n).toNat : Int)) :
    (convert 22 9 (.slice (some ⟨w.heap.size, 0, none⟩) 2 2)).run Tryz.prog (w.alloc (.cells #[.int .u8 x, .int .u8 y] 5)) = .ok (.string (two n)) (w.alloc (.cells #[.int .u8 x, .int .u8 y] 5)) := by
  refine run_convert_bytes_back (P := Tryz.prog) (w.alloc (.cells #[.int .u8 x, .int .u8 y] 5)) 22 9 5 ⟨w.heap.size, 0, none⟩ 2 [dgt (n / 10), dgt n] Tryz.underlying22 Tryz.underlying5 Tryz.underlying9 (fun j hj => ?_)
  rcases (show j = 0 ∨ j = 1 from by simp at hj; omega) with rfl | rfl
  · exact (World.cell?_alloc_mark w #[.int .u8 x, .int .u8 y] 5 (0, 0) 0).trans (by rw [hx]; rfl)
  · exact (World.cell?_alloc_mark w #[.int .u8 x, .int .u8 y] 5 (0, 0) 1).trans (by rw [hy]; rfl)
theorem implTwo (n : Int) (w : World) (h1 : 0 ≤ n) (h2 : n ≤ 99) :
    Calls Tryz.prog 171 #[.int .i64 n] w fun e w' => e = .returned (.string (two n)) ∧ Grew w w' := by
  have ht := twoText w n (48 + n / 10) (48 + n % 10) (by rw [dgt_nat]; omega) (by rw [dgt_nat])
  go_enter Tryz.func171, Tryz.ntmps171
  go_wp2
  go_ret
  exact ⟨rfl, (Grew.refl w).alloc _⟩
theorem specTwo (n : Int) (w : World) (h1 : 0 ≤ n) (h2 : n ≤ 9999) :
    Calls Tryz.prog 146 #[.int .i64 n] w fun e w' => e = .returned (.string (two n)) ∧ Grew w w' := by
  have ht := twoText w n (48 + n / 10 % 10) (48 + n % 10) (by rw [dgt_nat]) (by rw [dgt_nat])
  go_enter Tryz.func146, Tryz.ntmps146
  go_wp2
  go_ret
  exact ⟨rfl, (Grew.refl w).alloc _⟩
theorem two_size (n : Int) : (two n).size = 2 := rfl
/-- The four digits of a year. -/
theorem itoa_year {y : Int} (h1 : 1970 ≤ y) (h2 : y ≤ 9999) : (⟨(Lib.itoa y).toArray⟩ : ByteArray) = two (y / 100) ++ two y := by
  obtain ⟨n, rfl⟩ := Int.eq_ofNat_of_zero_le (show 0 ≤ y from by omega)
  have e : Lib.itoa (n : Int) = [dgt ((n : Int) / 100 / 10), dgt ((n : Int) / 100), dgt ((n : Int) / 10), dgt (n : Int)] := by
    unfold Lib.itoa
    rw [if_neg (by omega), Int.toNat_natCast, Lib.decDigits, dif_neg (by omega), Lib.decDigits, dif_neg (by omega), Lib.decDigits, dif_neg (by omega), Lib.decDigits, dif_pos (by omega)]
    unfold dgt
    rw [show ((n : Int) / 100 / 10 % 10).toNat = n / 10 / 10 / 10 from by omega, show ((n : Int) / 100 % 10).toNat = n / 10 / 10 % 10 from by omega, show ((n : Int) / 10 % 10).toNat = n / 10 % 10 from by omega, show ((n : Int) % 10).toNat = n % 10 from by omega]
    rfl
  rw [e]
  rfl
end Go.Proofs.YtkaogmdhjcgcdaaGreatDoor.Dd
