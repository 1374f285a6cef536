/-
  The calendar: days and moments of dates, and that one moment has one date.
  The contracts of the lengths of months, the specification's and the program's.
  Whether a date is one: the specification's contract.
  The days of a date: the specification's and the program's contracts.
-/
import Derived.Test.YtnachhmhjodbhaaGreatDoorG36
import Derived.Test.YtnachhmhjodbhaaGreatDoorG19
import Derived.BigQuiet
import Derived.Deep.LoopGhost
namespace Go.Proofs.YtnachhmhjodbhaaGreatDoor.Dd

/-- The days of a year ahead of its month k + 1. -/
def cum (y : Int) : Nat → Int
  | 0 => 0
  | k + 1 => cum y k + mdays y ((k : Int) + 1)
def lpN (y : Int) : Int := if leapB y = true then 1 else 0
theorem lpN_is {y : Int} (h : 0 ≤ y) : lpN y = if (y % 4 = 0 ∧ y % 100 ≠ 0) ∨ y % 400 = 0 then 1 else 0 := by
  unfold lpN leapB
  rw [Int.tmod_eq_emod_of_nonneg h, Int.tmod_eq_emod_of_nonneg h, Int.tmod_eq_emod_of_nonneg h]
  simp
theorem yr_next {y : Int} (h : 1970 ≤ y) : yr (y + 1) = yr y + 365 + lpN y := by
  rw [lpN_is (by omega)]
  unfold yr
  split <;> omega
theorem yr_mono {a b : Int} (h : a ≤ b) : yr a ≤ yr b := by unfold yr; omega
theorem yr_first {n : Int} (h0 : 0 ≤ n) : yr (1970 + n / 366) ≤ n := by unfold yr; omega
theorem yr_last {y : Int} (h : 10000 ≤ y) : 2932897 ≤ yr y := by unfold yr; omega
theorem yr_nonneg {y : Int} (h : 1970 ≤ y) : 0 ≤ yr y := by unfold yr; omega
theorem yr_top {y : Int} (h : y ≤ 10001) : yr y ≤ 2933300 := by unfold yr; omega
theorem cum_mono (y : Int) {a b : Nat} (h : a ≤ b) : cum y a ≤ cum y b := by
  induction b with
  | zero => rw [Nat.le_zero.1 h]; exact Int.le_refl _
  | succ b ih =>
    by_cases e : a = b + 1
    · rw [e]; exact Int.le_refl _
    · have := ih (by omega)
      have hb := mdays_bd y ((b : Int) + 1)
      show cum y a ≤ cum y b + mdays y ((b : Int) + 1)
      omega
theorem cum_12 (y : Int) : cum y 12 = 365 + lpN y := by
  simp only [cum, mdays, lpN]
  cases leapB y <;> decide
theorem lpN_bd (y : Int) : 0 ≤ lpN y ∧ lpN y ≤ 1 := by unfold lpN; split <;> omega
theorem cum_nonneg (y : Int) (k : Nat) : 0 ≤ cum y k := cum_mono y (Nat.zero_le k)
theorem cum_top (y : Int) {k : Nat} (h : k ≤ 12) : cum y k ≤ 366 := by
  have h1 := cum_mono y h
  have h2 := lpN_bd y
  rw [cum_12] at h1
  omega
theorem cum_at (y : Int) {m : Int} (h : 1 ≤ m) : cum y m.toNat = cum y (m - 1).toNat + mdays y m := by
  obtain ⟨k, rfl⟩ : ∃ k : Nat, m = (k : Int) + 1 := ⟨(m - 1).toNat, by omega⟩
  rw [show ((k : Int) + 1).toNat = k + 1 from by omega, show ((k : Int) + 1 - 1).toNat = k from by omega]
  rfl

/-- The number of a day. -/
def dayN (y m d : Int) : Int := yr y + d - 1 + cum y (m - 1).toNat
def momN (y m d h i s : Int) : Int := dayN y m d * 86400 + h * 3600 + i * 60 + s
/-- A day as it is. -/
def dayOk (y m d : Int) : Prop := (1970 ≤ y ∧ y ≤ 9999) ∧ (1 ≤ m ∧ m ≤ 12) ∧ (1 ≤ d ∧ d ≤ mdays y m)
theorem day_lo {y m d : Int} (h : dayOk y m d) : yr y ≤ dayN y m d := by
  have := cum_nonneg y (m - 1).toNat
  unfold dayOk at h; unfold dayN; omega
theorem day_hi {y m d : Int} (h : dayOk y m d) : dayN y m d < yr (y + 1) := by
  have h1 := cum_at y h.2.1.1
  have h2 := cum_mono y (show m.toNat ≤ 12 from by have := h.2.1.2; omega)
  rw [cum_12] at h2
  rw [yr_next h.1.1]
  unfold dayOk at h; unfold dayN; omega
theorem day_bd {y m d : Int} (h : dayOk y m d) : 0 ≤ dayN y m d ∧ dayN y m d ≤ 2932896 := by
  have h1 := day_lo h
  have h2 := day_hi h
  have h3 := yr_nonneg h.1.1
  have h4 := yr_mono (show y + 1 ≤ 10000 from by have := h.1.2; omega)
  rw [show yr 10000 = 2932897 from by decide] at h4
  omega
end Go.Proofs.YtnachhmhjodbhaaGreatDoor.Dd
namespace Go.Proofs.YtnachhmhjodbhaaGreatDoor.Dd
open Go.RowKit

theorem months {m : Int} (h1 : 1 ≤ m) (h2 : m ≤ 12) : m = 1 ∨ m = 2 ∨ m = 3 ∨ m = 4 ∨ m = 5 ∨ m = 6 ∨ m = 7 ∨ m = 8 ∨ m = 9 ∨ m = 10 ∨ m = 11 ∨ m = 12 := by omega

set_option maxHeartbeats 800000 in
theorem specMonth (y m : Int) (w : World) (h1 : 1 ≤ m) (h2 : m ≤ 12) :
    Calls Tryz.prog 138 #[.int .i64 y, .int .i64 m] w fun e w' => e = .returned (.int .i64 (mdays y m)) ∧ Grew w w' := by
  unfold mdays
  rcases months h1 h2 with rfl | rfl | rfl | rfl | rfl | rfl | rfl | rfl | rfl | rfl | rfl | rfl
  case inr.inl =>
    cases hl : leapB y
    · go_enter Tryz.func138, Tryz.ntmps138
      go_wp2_with (go_at_call 145; refine (specLeap _ _).mono ?_; rintro e x1 ⟨rfl, rfl⟩)
      go_ret
      exact ⟨by simp, (Grew.refl w).alloc _⟩
    · go_enter Tryz.func138, Tryz.ntmps138
      go_wp2_with (go_at_call 145; refine (specLeap _ _).mono ?_; rintro e x1 ⟨rfl, rfl⟩)
      go_ret
      exact ⟨by simp, Grew.refl w⟩
  all_goals
    go_enter Tryz.func138, Tryz.ntmps138
    go_wp2
    go_ret
    exact ⟨by simp, (Grew.refl w).alloc _⟩

end Go.Proofs.YtnachhmhjodbhaaGreatDoor.Dd
namespace Go.Proofs.YtnachhmhjodbhaaGreatDoor.Dd
open Go.RowKit Go.Sort

/-- A date as it is. -/
abbrev okD (y m d h i s : Int) : Prop := (1970 ≤ y ∧ y ≤ 9999) ∧ (1 ≤ m ∧ m ≤ 12) ∧ (1 ≤ d ∧ d ≤ mdays y m) ∧ (0 ≤ h ∧ h ≤ 23) ∧ (0 ≤ i ∧ i ≤ 59) ∧ (0 ≤ s ∧ s ≤ 59)
def okB (y m d h i s : Int) : Bool := decide (okD y m d h i s)
theorem inRangeIs {n lo hi : Int} {b : Bool} {w : World} (h : inR n lo hi = b) : Calls Tryz.prog 72 #[.int .i64 n, .int .i64 lo, .int .i64 hi] w fun e w' => e = .returned (.bool b) ∧ w = w' := h ▸ inRange n lo hi w

set_option maxHeartbeats 1000000 in
theorem specOk_0 (y m d h i s : Int) (w : World)  (c0 : inR y 1970 9999 = false) :
    Calls Tryz.prog 132 #[.agg #[.int .i64 y, .int .i64 m, .int .i64 d, .int .i64 h, .int .i64 i, .int .i64 s]] w fun e w' => e = .returned (.bool false) ∧ Grew w w' := by
  have mix := mixed
  have bx := boxed (w := w) (t := 145) (fr := (0, 0)) #[.int .i64 y, .int .i64 m, .int .i64 d, .int .i64 h, .int .i64 i, .int .i64 s]
  have k0 := bx 0
  have k1 := bx 1
  have k2 := bx 2
  have k3 := bx 3
  have k4 := bx 4
  have k5 := bx 5
  clear bx
  go_enter Tryz.func132, Tryz.ntmps132
  go_wp2
  refine wp_region_quiet_grown mix (by kernel_rfl) ?_
  repeat (go_big_quiet_step ((go_at_call 72; first | exact callSame (inRangeIs c0))))
  refine wpQuiet_nil ?_
  intro _ hw'
  obtain ⟨⟨nq, osq⟩, hw''⟩ := hw'
  subst hw''
  go_wp2
  go_ret
  exact ⟨rfl, (((Grew.refl w).alloc _).drewN _).more _⟩

set_option maxHeartbeats 1000000 in
theorem specOk_1 (y m d h i s : Int) (w : World) (c0 : inR y 1970 9999 = true) (c1 : inR m 1 12 = false) :
    Calls Tryz.prog 132 #[.agg #[.int .i64 y, .int .i64 m, .int .i64 d, .int .i64 h, .int .i64 i, .int .i64 s]] w fun e w' => e = .returned (.bool false) ∧ Grew w w' := by
  have mix := mixed
  have bx := boxed (w := w) (t := 145) (fr := (0, 0)) #[.int .i64 y, .int .i64 m, .int .i64 d, .int .i64 h, .int .i64 i, .int .i64 s]
  have k0 := bx 0
  have k1 := bx 1
  have k2 := bx 2
  have k3 := bx 3
  have k4 := bx 4
  have k5 := bx 5
  clear bx
  go_enter Tryz.func132, Tryz.ntmps132
  go_wp2
  refine wp_region_quiet_grown mix (by kernel_rfl) ?_
  repeat (go_big_quiet_step ((go_at_call 72; first | exact callSame (inRangeIs c0) | exact callSame (inRangeIs c1))))
  refine wpQuiet_nil ?_
  intro _ hw'
  obtain ⟨⟨nq, osq⟩, hw''⟩ := hw'
  subst hw''
  go_wp2
  go_ret
  exact ⟨rfl, (((Grew.refl w).alloc _).drewN _).more _⟩

set_option maxHeartbeats 1000000 in
theorem specOk_2 (y m d h i s : Int) (w : World) (c0 : inR y 1970 9999 = true) (c1 : inR m 1 12 = true) (c2 : inR d 1 (mdays y m) = false) :
    Calls Tryz.prog 132 #[.agg #[.int .i64 y, .int .i64 m, .int .i64 d, .int .i64 h, .int .i64 i, .int .i64 s]] w fun e w' => e = .returned (.bool false) ∧ Grew w w' := by
  have hm2 : 1 ≤ m ∧ m ≤ 12 := of_decide_eq_true c1
  have mix := mixed
  have bx := boxed (w := w) (t := 145) (fr := (0, 0)) #[.int .i64 y, .int .i64 m, .int .i64 d, .int .i64 h, .int .i64 i, .int .i64 s]
  have k0 := bx 0
  have k1 := bx 1
  have k2 := bx 2
  have k3 := bx 3
  have k4 := bx 4
  have k5 := bx 5
  clear bx
  go_enter Tryz.func132, Tryz.ntmps132
  go_wp2
  refine wp_region_quiet_grown mix (by kernel_rfl) ?_
  repeat (go_big_quiet_step (first | (go_at_call 72; first | exact callSame (inRangeIs c0) | exact callSame (inRangeIs c1) | exact callSame (inRangeIs c2)) | (go_at_call 138; refine callGrew (specMonth _ _ _ hm2.1 hm2.2))))
  refine wpQuiet_nil ?_
  intro _ hw'
  obtain ⟨⟨nq, osq⟩, hw''⟩ := hw'
  subst hw''
  go_wp2
  go_ret
  exact ⟨rfl, (((Grew.refl w).alloc _).drewN _).more _⟩

set_option maxHeartbeats 1000000 in
theorem specOk_3 (y m d h i s : Int) (w : World) (c0 : inR y 1970 9999 = true) (c1 : inR m 1 12 = true) (c2 : inR d 1 (mdays y m) = true) (c3 : inR h 0 23 = false) :
    Calls Tryz.prog 132 #[.agg #[.int .i64 y, .int .i64 m, .int .i64 d, .int .i64 h, .int .i64 i, .int .i64 s]] w fun e w' => e = .returned (.bool false) ∧ Grew w w' := by
  have hm2 : 1 ≤ m ∧ m ≤ 12 := of_decide_eq_true c1
  have mix := mixed
  have bx := boxed (w := w) (t := 145) (fr := (0, 0)) #[.int .i64 y, .int .i64 m, .int .i64 d, .int .i64 h, .int .i64 i, .int .i64 s]
  have k0 := bx 0
  have k1 := bx 1
  have k2 := bx 2
  have k3 := bx 3
  have k4 := bx 4
  have k5 := bx 5
  clear bx
  go_enter Tryz.func132, Tryz.ntmps132
  go_wp2
  refine wp_region_quiet_grown mix (by kernel_rfl) ?_
  repeat (go_big_quiet_step (first | (go_at_call 72; first | exact callSame (inRangeIs c0) | exact callSame (inRangeIs c1) | exact callSame (inRangeIs c2) | exact callSame (inRangeIs c3)) | (go_at_call 138; refine callGrew (specMonth _ _ _ hm2.1 hm2.2))))
  refine wpQuiet_nil ?_
  intro _ hw'
  obtain ⟨⟨nq, osq⟩, hw''⟩ := hw'
  subst hw''
  go_wp2
  go_ret
  exact ⟨rfl, (((Grew.refl w).alloc _).drewN _).more _⟩

set_option maxHeartbeats 1000000 in
theorem specOk_4 (y m d h i s : Int) (w : World) (c0 : inR y 1970 9999 = true) (c1 : inR m 1 12 = true) (c2 : inR d 1 (mdays y m) = true) (c3 : inR h 0 23 = true) (c4 : inR i 0 59 = false) :
    Calls Tryz.prog 132 #[.agg #[.int .i64 y, .int .i64 m, .int .i64 d, .int .i64 h, .int .i64 i, .int .i64 s]] w fun e w' => e = .returned (.bool false) ∧ Grew w w' := by
  have hm2 : 1 ≤ m ∧ m ≤ 12 := of_decide_eq_true c1
  have mix := mixed
  have bx := boxed (w := w) (t := 145) (fr := (0, 0)) #[.int .i64 y, .int .i64 m, .int .i64 d, .int .i64 h, .int .i64 i, .int .i64 s]
  have k0 := bx 0
  have k1 := bx 1
  have k2 := bx 2
  have k3 := bx 3
  have k4 := bx 4
  have k5 := bx 5
  clear bx
  go_enter Tryz.func132, Tryz.ntmps132
  go_wp2
  refine wp_region_quiet_grown mix (by kernel_rfl) ?_
  repeat (go_big_quiet_step (first | (go_at_call 72; first | exact callSame (inRangeIs c0) | exact callSame (inRangeIs c1) | exact callSame (inRangeIs c2) | exact callSame (inRangeIs c3) | exact callSame (inRangeIs c4)) | (go_at_call 138; refine callGrew (specMonth _ _ _ hm2.1 hm2.2))))
  refine wpQuiet_nil ?_
  intro _ hw'
  obtain ⟨⟨nq, osq⟩, hw''⟩ := hw'
  subst hw''
  go_wp2
  go_ret
  exact ⟨rfl, (((Grew.refl w).alloc _).drewN _).more _⟩

set_option maxHeartbeats 1000000 in
theorem specOk_5 (y m d h i s : Int) (w : World) (c0 : inR y 1970 9999 = true) (c1 : inR m 1 12 = true) (c2 : inR d 1 (mdays y m) = true) (c3 : inR h 0 23 = true) (c4 : inR i 0 59 = true) :
    Calls Tryz.prog 132 #[.agg #[.int .i64 y, .int .i64 m, .int .i64 d, .int .i64 h, .int .i64 i, .int .i64 s]] w fun e w' => e = .returned (.bool (inR s 0 59)) ∧ Grew w w' := by
  have hm2 : 1 ≤ m ∧ m ≤ 12 := of_decide_eq_true c1
  have mix := mixed
  have bx := boxed (w := w) (t := 145) (fr := (0, 0)) #[.int .i64 y, .int .i64 m, .int .i64 d, .int .i64 h, .int .i64 i, .int .i64 s]
  have k0 := bx 0
  have k1 := bx 1
  have k2 := bx 2
  have k3 := bx 3
  have k4 := bx 4
  have k5 := bx 5
  clear bx
  go_enter Tryz.func132, Tryz.ntmps132
  go_wp2
  refine wp_region_quiet_grown mix (by kernel_rfl) ?_
  repeat (go_big_quiet_step (first | (go_at_call 72; first | exact callSame (inRangeIs c0) | exact callSame (inRangeIs c1) | exact callSame (inRangeIs c2) | exact callSame (inRangeIs c3) | exact callSame (inRangeIs c4) | exact callSame (inRange _ _ _ _)) | (go_at_call 138; refine callGrew (specMonth _ _ _ hm2.1 hm2.2))))
  refine wpQuiet_nil ?_
  intro _ hw'
  obtain ⟨⟨nq, osq⟩, hw''⟩ := hw'
  subst hw''
  go_wp2
  go_ret
  exact ⟨rfl, (((Grew.refl w).alloc _).drewN _).more _⟩

theorem specOk (y m d h i s : Int) (w : World) :
    Calls Tryz.prog 132 #[.agg #[.int .i64 y, .int .i64 m, .int .i64 d, .int .i64 h, .int .i64 i, .int .i64 s]] w fun e w' => e = .returned (.bool (okB y m d h i s)) ∧ Grew w w' := by
  have E : okB y m d h i s = (inR y 1970 9999 && (inR m 1 12 && (inR d 1 (mdays y m) && (inR h 0 23 && (inR i 0 59 && inR s 0 59))))) := by
    exact Bool.eq_iff_iff.2 (by unfold okB; rw [decide_eq_true_iff]; simp [okD, inR])
  rw [E]
  cases c0 : inR y 1970 9999
  · exact specOk_0 y m d h i s w c0
  cases c1 : inR m 1 12
  · exact specOk_1 y m d h i s w c0 c1
  cases c2 : inR d 1 (mdays y m)
  · exact specOk_2 y m d h i s w c0 c1 c2
  cases c3 : inR h 0 23
  · exact specOk_3 y m d h i s w c0 c1 c2 c3
  cases c4 : inR i 0 59
  · exact specOk_4 y m d h i s w c0 c1 c2 c3 c4
  exact specOk_5 y m d h i s w c0 c1 c2 c3 c4
end Go.Proofs.YtnachhmhjodbhaaGreatDoor.Dd
namespace Go.Proofs.YtnachhmhjodbhaaGreatDoor.Dd
open Go.RowKit Go.Sort

set_option maxHeartbeats 1000000 in
theorem specDays2 (y m d h i s : Int) (w : World) (ok : dayOk y m d) :
    Calls Tryz.prog 144 #[.agg #[.int .i64 y, .int .i64 m, .int .i64 d, .int .i64 h, .int .i64 i, .int .i64 s]] w fun e w' => e = .returned (.int .i64 (dayN y m d)) ∧ Grew w w' := by
  have hy : 1970 ≤ y ∧ y ≤ 9999 := ok.1
  have hm : 1 ≤ m ∧ m ≤ 12 := ok.2.1
  have hd : 1 ≤ d ∧ d ≤ 31 := by have := ok.2.2; have := mdays_bd y m; omega
  have hyr : 0 ≤ yr y ∧ yr y ≤ 2933300 := ⟨yr_nonneg hy.1, yr_top (by omega)⟩
  have r1 : IntKind.i64.wrap (yr y + d) = yr y + d := by rw [IntKind.wrap_i64]; omega
  have r2 : IntKind.i64.wrap (yr y + d - 1) = yr y + d - 1 := by rw [IntKind.wrap_i64]; omega
  clear ok
  have mix := mixed
  have bx := boxed (w := w) (t := 145) (fr := (0, 0)) #[.int .i64 y, .int .i64 m, .int .i64 d, .int .i64 h, .int .i64 i, .int .i64 s]
  have k0 := bx 0
  have k2 := bx 2
  clear bx
  go_enter Tryz.func144, Tryz.ntmps144
  go_wp2
  go_quiet_grown ((go_at_call 137; refine callSame (specYear _ _ (by omega))))
  have c0 := k0 nq osq
  have c1 := (boxed (w := w) (t := 145) (fr := (0, 0)) #[.int .i64 y, .int .i64 m, .int .i64 d, .int .i64 h, .int .i64 i, .int .i64 s]) 1 nq osq
  clear k0 k2 r1 r2
  have hg : Grew w (grow ((w.alloc (.cells #[.int .i64 y, .int .i64 m, .int .i64 d, .int .i64 h, .int .i64 i, .int .i64 s] 145)).drewN nq) osq) := (((Grew.refl w).alloc _).drewN _).more _
  have hz : w.heap.size < (grow ((w.alloc (.cells #[.int .i64 y, .int .i64 m, .int .i64 d, .int .i64 h, .int .i64 i, .int .i64 s] 145)).drewN nq) osq).heap.size := by rw [size_grow]; show w.heap.size < (w.alloc _).heap.size + _; simp; omega
  generalize (grow ((w.alloc (.cells #[.int .i64 y, .int .i64 m, .int .i64 d, .int .i64 h, .int .i64 i, .int .i64 s] 145)).drewN nq) osq) = w1 at c0 c1 hg hz ⊢
  go_wp2
  go_loopw [3, 4] (fun n k wr => ∃ j : Nat, (j : Int) + 1 ≤ m ∧ n = .int .i64 (yr y + d - 1 + cum y j) ∧ k = .int .i64 ((j : Int) + 1) ∧ Grew w1 wr) (fun _ k _ => (13 - (intOf k)).toNat)
  case atStart => exact ⟨0, by omega, by simp [cum], rfl, Grew.refl _⟩
  case round =>
    obtain ⟨j, hj, rfl, rfl, hw⟩ := hrel
    have e0 := hw.cell c0 hz
    have e1 := hw.cell c1 hz
    have hc : 0 ≤ cum y j ∧ cum y j ≤ 366 := ⟨cum_nonneg y j, cum_top y (by omega)⟩
    have hmd := mdays_bd y ((j : Int) + 1)
    by_cases hlt : (j : Int) + 1 < m
    · go_wp2_with (go_at_call 138; refine (specMonth _ _ _ (by omega) (by omega)).mono ?_; rintro e x2 ⟨rfl, hb2⟩)
      go_roundw
      case rel => exact ⟨j + 1, by omega, by simp [cum]; omega, by go_num, hw.trans hb2⟩
      case measure => simp [intOf]; omega
    · go_wp2
      go_ret
      exact ⟨ret_int (by unfold dayN; rw [show (m - 1).toNat = j from by omega]), hg.trans hw⟩

theorem dayOk_of {y m d h i s : Int} (h : okB y m d h i s = true) : dayOk y m d := by
  have := of_decide_eq_true h
  exact ⟨this.1, this.2.1, this.2.2.1⟩
end Go.Proofs.YtnachhmhjodbhaaGreatDoor.Dd
