/-
  The contracts of the lengths of months, the specification's and the program's.
  Whether a date is one: the specification's contract.
  The days of a date: the specification's and the program's contracts.
  The days, moments and weekdays of dates: the specification's and the program's contracts.
-/
import Derived.Test.YtemmgfnepdgpbaaGreatDoorK34
import Derived.Test.YtemmgfnepdgpbaaGreatDoorK13
import Derived.BigQuiet
import Derived.Deep.LoopGhost
namespace Go.Proofs.YtemmgfnepdgpbaaGreatDoor.Dd
open Go.RowKit

theorem months {m : Int} (h1 : 1 ≤ m) (h2 : m ≤ 12) : m = 1 ∨ m = 2 ∨ m = 3 ∨ m = 4 ∨ m = 5 ∨ m = 6 ∨ m = 7 ∨ m = 8 ∨ m = 9 ∨ m = 10 ∨ m = 11 ∨ m = 12 := by omega

set_option maxHeartbeats 800000 in
theorem specMonth (y m : Int) (w : World) (h1 : 1 ≤ m) (h2 : m ≤ 12) :
    Calls Tryz.prog 189 #[.int .i64 y, .int .i64 m] w fun e w' => e = .returned (.int .i64 (mdays y m)) ∧ Grew w w' := by
  unfold mdays
  rcases months h1 h2 with rfl | rfl | rfl | rfl | rfl | rfl | rfl | rfl | rfl | rfl | rfl | rfl
  case inr.inl =>
    cases hl : leapB y
    · go_enter Tryz.func189, Tryz.ntmps189
      go_wp2_with (go_at_call 193; refine (specLeap _ _).mono ?_; rintro e x1 ⟨rfl, rfl⟩)
      go_ret
      exact ⟨by simp, (Grew.refl w).alloc _⟩
    · go_enter Tryz.func189, Tryz.ntmps189
      go_wp2_with (go_at_call 193; refine (specLeap _ _).mono ?_; rintro e x1 ⟨rfl, rfl⟩)
      go_ret
      exact ⟨by simp, Grew.refl w⟩
  all_goals
    go_enter Tryz.func189, Tryz.ntmps189
    go_wp2
    go_ret
    exact ⟨by simp, (Grew.refl w).alloc _⟩

end Go.Proofs.YtemmgfnepdgpbaaGreatDoor.Dd
namespace Go.Proofs.YtemmgfnepdgpbaaGreatDoor.Dd
open Go.RowKit Go.Sort

/-- A date as it is. -/
abbrev okD (y m d h i s : Int) : Prop := (1970 ≤ y ∧ y ≤ 9999) ∧ (1 ≤ m ∧ m ≤ 12) ∧ (1 ≤ d ∧ d ≤ mdays y m) ∧ (0 ≤ h ∧ h ≤ 23) ∧ (0 ≤ i ∧ i ≤ 59) ∧ (0 ≤ s ∧ s ≤ 59)
def okB (y m d h i s : Int) : Bool := decide (okD y m d h i s)
theorem inRangeIs {n lo hi : Int} {b : Bool} {w : World} (h : inR n lo hi = b) : Calls Tryz.prog 33 #[.int .i64 n, .int .i64 lo, .int .i64 hi] w fun e w' => e = .returned (.bool b) ∧ w = w' := h ▸ inRange n lo hi w

set_option maxHeartbeats 1000000 in
theorem specOk_0 (y m d h i s : Int) (w : World)  (c0 : inR y 1970 9999 = false) :
    Calls Tryz.prog 183 #[.agg #[.int .i64 y, .int .i64 m, .int .i64 d, .int .i64 h, .int .i64 i, .int .i64 s]] w fun e w' => e = .returned (.bool false) ∧ Grew w w' := by
  have mix := mixed
  have bx := boxed (w := w) (t := 200) (fr := (0, 0)) #[.int .i64 y, .int .i64 m, .int .i64 d, .int .i64 h, .int .i64 i, .int .i64 s]
  have k0 := bx 0
  have k1 := bx 1
  have k2 := bx 2
  have k3 := bx 3
  have k4 := bx 4
  have k5 := bx 5
  clear bx
  go_enter Tryz.func183, Tryz.ntmps183
  go_wp2
  refine wp_region_quiet_grown mix (by kernel_rfl) ?_
  repeat (go_big_quiet_step ((go_at_call 33; first | exact callSame (inRangeIs c0))))
  refine wpQuiet_nil ?_
  intro _ hw'
  obtain ⟨⟨nq, osq⟩, hw''⟩ := hw'
  subst hw''
  go_wp2
  go_ret
  exact ⟨rfl, (((Grew.refl w).alloc _).drewN _).more _⟩

set_option maxHeartbeats 1000000 in
theorem specOk_1 (y m d h i s : Int) (w : World) (c0 : inR y 1970 9999 = true) (c1 : inR m 1 12 = false) :
    Calls Tryz.prog 183 #[.agg #[.int .i64 y, .int .i64 m, .int .i64 d, .int .i64 h, .int .i64 i, .int .i64 s]] w fun e w' => e = .returned (.bool false) ∧ Grew w w' := by
  have mix := mixed
  have bx := boxed (w := w) (t := 200) (fr := (0, 0)) #[.int .i64 y, .int .i64 m, .int .i64 d, .int .i64 h, .int .i64 i, .int .i64 s]
  have k0 := bx 0
  have k1 := bx 1
  have k2 := bx 2
  have k3 := bx 3
  have k4 := bx 4
  have k5 := bx 5
  clear bx
  go_enter Tryz.func183, Tryz.ntmps183
  go_wp2
  refine wp_region_quiet_grown mix (by kernel_rfl) ?_
  repeat (go_big_quiet_step ((go_at_call 33; first | exact callSame (inRangeIs c0) | exact callSame (inRangeIs c1))))
  refine wpQuiet_nil ?_
  intro _ hw'
  obtain ⟨⟨nq, osq⟩, hw''⟩ := hw'
  subst hw''
  go_wp2
  go_ret
  exact ⟨rfl, (((Grew.refl w).alloc _).drewN _).more _⟩

set_option maxHeartbeats 1000000 in
theorem specOk_2 (y m d h i s : Int) (w : World) (c0 : inR y 1970 9999 = true) (c1 : inR m 1 12 = true) (c2 : inR d 1 (mdays y m) = false) :
    Calls Tryz.prog 183 #[.agg #[.int .i64 y, .int .i64 m, .int .i64 d, .int .i64 h, .int .i64 i, .int .i64 s]] w fun e w' => e = .returned (.bool false) ∧ Grew w w' := by
  have hm2 : 1 ≤ m ∧ m ≤ 12 := of_decide_eq_true c1
  have mix := mixed
  have bx := boxed (w := w) (t := 200) (fr := (0, 0)) #[.int .i64 y, .int .i64 m, .int .i64 d, .int .i64 h, .int .i64 i, .int .i64 s]
  have k0 := bx 0
  have k1 := bx 1
  have k2 := bx 2
  have k3 := bx 3
  have k4 := bx 4
  have k5 := bx 5
  clear bx
  go_enter Tryz.func183, Tryz.ntmps183
  go_wp2
  refine wp_region_quiet_grown mix (by kernel_rfl) ?_
  repeat (go_big_quiet_step (first | (go_at_call 33; first | exact callSame (inRangeIs c0) | exact callSame (inRangeIs c1) | exact callSame (inRangeIs c2)) | (go_at_call 189; refine callGrew (specMonth _ _ _ hm2.1 hm2.2))))
  refine wpQuiet_nil ?_
  intro _ hw'
  obtain ⟨⟨nq, osq⟩, hw''⟩ := hw'
  subst hw''
  go_wp2
  go_ret
  exact ⟨rfl, (((Grew.refl w).alloc _).drewN _).more _⟩

set_option maxHeartbeats 1000000 in
theorem specOk_3 (y m d h i s : Int) (w : World) (c0 : inR y 1970 9999 = true) (c1 : inR m 1 12 = true) (c2 : inR d 1 (mdays y m) = true) (c3 : inR h 0 23 = false) :
    Calls Tryz.prog 183 #[.agg #[.int .i64 y, .int .i64 m, .int .i64 d, .int .i64 h, .int .i64 i, .int .i64 s]] w fun e w' => e = .returned (.bool false) ∧ Grew w w' := by
  have hm2 : 1 ≤ m ∧ m ≤ 12 := of_decide_eq_true c1
  have mix := mixed
  have bx := boxed (w := w) (t := 200) (fr := (0, 0)) #[.int .i64 y, .int .i64 m, .int .i64 d, .int .i64 h, .int .i64 i, .int .i64 s]
  have k0 := bx 0
  have k1 := bx 1
  have k2 := bx 2
  have k3 := bx 3
  have k4 := bx 4
  have k5 := bx 5
  clear bx
  go_enter Tryz.func183, Tryz.ntmps183
  go_wp2
  refine wp_region_quiet_grown mix (by kernel_rfl) ?_
  repeat (go_big_quiet_step (first | (go_at_call 33; first | exact callSame (inRangeIs c0) | exact callSame (inRangeIs c1) | exact callSame (inRangeIs c2) | exact callSame (inRangeIs c3)) | (go_at_call 189; refine callGrew (specMonth _ _ _ hm2.1 hm2.2))))
  refine wpQuiet_nil ?_
  intro _ hw'
  obtain ⟨⟨nq, osq⟩, hw''⟩ := hw'
  subst hw''
  go_wp2
  go_ret
  exact ⟨rfl, (((Grew.refl w).alloc _).drewN _).more _⟩

set_option maxHeartbeats 1000000 in
theorem specOk_4 (y m d h i s : Int) (w : World) (c0 : inR y 1970 9999 = true) (c1 : inR m 1 12 = true) (c2 : inR d 1 (mdays y m) = true) (c3 : inR h 0 23 = true) (c4 : inR i 0 59 = false) :
    Calls Tryz.prog 183 #[.agg #[.int .i64 y, .int .i64 m, .int .i64 d, .int .i64 h, .int .i64 i, .int .i64 s]] w fun e w' => e = .returned (.bool false) ∧ Grew w w' := by
  have hm2 : 1 ≤ m ∧ m ≤ 12 := of_decide_eq_true c1
  have mix := mixed
  have bx := boxed (w := w) (t := 200) (fr := (0, 0)) #[.int .i64 y, .int .i64 m, .int .i64 d, .int .i64 h, .int .i64 i, .int .i64 s]
  have k0 := bx 0
  have k1 := bx 1
  have k2 := bx 2
  have k3 := bx 3
  have k4 := bx 4
  have k5 := bx 5
  clear bx
  go_enter Tryz.func183, Tryz.ntmps183
  go_wp2
  refine wp_region_quiet_grown mix (by kernel_rfl) ?_
  repeat (go_big_quiet_step (first | (go_at_call 33; first | exact callSame (inRangeIs c0) | exact callSame (inRangeIs c1) | exact callSame (inRangeIs c2) | exact callSame (inRangeIs c3) | exact callSame (inRangeIs c4)) | (go_at_call 189; refine callGrew (specMonth _ _ _ hm2.1 hm2.2))))
  refine wpQuiet_nil ?_
  intro _ hw'
  obtain ⟨⟨nq, osq⟩, hw''⟩ := hw'
  subst hw''
  go_wp2
  go_ret
  exact ⟨rfl, (((Grew.refl w).alloc _).drewN _).more _⟩

set_option maxHeartbeats 1000000 in
theorem specOk_5 (y m d h i s : Int) (w : World) (c0 : inR y 1970 9999 = true) (c1 : inR m 1 12 = true) (c2 : inR d 1 (mdays y m) = true) (c3 : inR h 0 23 = true) (c4 : inR i 0 59 = true) :
    Calls Tryz.prog 183 #[.agg #[.int .i64 y, .int .i64 m, .int .i64 d, .int .i64 h, .int .i64 i, .int .i64 s]] w fun e w' => e = .returned (.bool (inR s 0 59)) ∧ Grew w w' := by
  have hm2 : 1 ≤ m ∧ m ≤ 12 := of_decide_eq_true c1
  have mix := mixed
  have bx := boxed (w := w) (t := 200) (fr := (0, 0)) #[.int .i64 y, .int .i64 m, .int .i64 d, .int .i64 h, .int .i64 i, .int .i64 s]
  have k0 := bx 0
  have k1 := bx 1
  have k2 := bx 2
  have k3 := bx 3
  have k4 := bx 4
  have k5 := bx 5
  clear bx
  go_enter Tryz.func183, Tryz.ntmps183
  go_wp2
  refine wp_region_quiet_grown mix (by kernel_rfl) ?_
  repeat (go_big_quiet_step (first | (go_at_call 33; first | exact callSame (inRangeIs c0) | exact callSame (inRangeIs c1) | exact callSame (inRangeIs c2) | exact callSame (inRangeIs c3) | exact callSame (inRangeIs c4) | exact callSame (inRange _ _ _ _)) | (go_at_call 189; refine callGrew (specMonth _ _ _ hm2.1 hm2.2))))
  refine wpQuiet_nil ?_
  intro _ hw'
  obtain ⟨⟨nq, osq⟩, hw''⟩ := hw'
  subst hw''
  go_wp2
  go_ret
  exact ⟨rfl, (((Grew.refl w).alloc _).drewN _).more _⟩

theorem specOk (y m d h i s : Int) (w : World) :
    Calls Tryz.prog 183 #[.agg #[.int .i64 y, .int .i64 m, .int .i64 d, .int .i64 h, .int .i64 i, .int .i64 s]] w fun e w' => e = .returned (.bool (okB y m d h i s)) ∧ Grew w w' := by
  have E : okB y m d h i s = (inR y 1970 9999 && (inR m 1 12 && (inR d 1 (mdays y m) && (inR h 0 23 && (inR i 0 59 && inR s 0 59))))) := by
    exact Bool.eq_iff_iff.2 (by unfold okB; rw [decide_eq_true_iff]; simp [okD, inR])
  rw [E]
  cases c0 : inR y 1970 9999
  · exact specOk_0 y m d h i s w c0
  cases c1 : inR m 1 12
  · exact specOk_1 y m d h i s w c0 c1
  cases c2 : inR d 1 (mdays y m)
  · exact specOk_2 y m d h i s w c0 c1 c2
  cases c3 : inR h 0 23
  · exact specOk_3 y m d h i s w c0 c1 c2 c3
  cases c4 : inR i 0 59
  · exact specOk_4 y m d h i s w c0 c1 c2 c3 c4
  exact specOk_5 y m d h i s w c0 c1 c2 c3 c4
end Go.Proofs.YtemmgfnepdgpbaaGreatDoor.Dd
namespace Go.Proofs.YtemmgfnepdgpbaaGreatDoor.Dd
open Go.RowKit Go.Sort

set_option maxHeartbeats 1000000 in
theorem specDays2 (y m d h i s : Int) (w : World) (ok : dayOk y m d) :
    Calls Tryz.prog 192 #[.agg #[.int .i64 y, .int .i64 m, .int .i64 d, .int .i64 h, .int .i64 i, .int .i64 s]] w fun e w' => e = .returned (.int .i64 (dayN y m d)) ∧ Grew w w' := by
  have hy : 1970 ≤ y ∧ y ≤ 9999 := ok.1
  have hm : 1 ≤ m ∧ m ≤ 12 := ok.2.1
  have hd : 1 ≤ d ∧ d ≤ 31 := by have := ok.2.2; have := mdays_bd y m; omega
  have hyr : 0 ≤ yr y ∧ yr y ≤ 2933300 := ⟨yr_nonneg hy.1, yr_top (by omega)⟩
  have r1 : IntKind.i64.wrap (yr y + d) = yr y + d := by rw [IntKind.wrap_i64]; omega
  have r2 : IntKind.i64.wrap (yr y + d - 1) = yr y + d - 1 := by rw [IntKind.wrap_i64]; omega
  clear ok
  have mix := mixed
  have bx := boxed (w := w) (t := 200) (fr := (0, 0)) #[.int .i64 y, .int .i64 m, .int .i64 d, .int .i64 h, .int .i64 i, .int .i64 s]
  have k0 := bx 0
  have k2 := bx 2
  clear bx
  go_enter Tryz.func192, Tryz.ntmps192
  go_wp2
  go_quiet_grown ((go_at_call 188; refine callSame (specYear _ _ (by omega))))
  have c0 := k0 nq osq
  have c1 := (boxed (w := w) (t := 200) (fr := (0, 0)) #[.int .i64 y, .int .i64 m, .int .i64 d, .int .i64 h, .int .i64 i, .int .i64 s]) 1 nq osq
  clear k0 k2 r1 r2
  have hg : Grew w (grow ((w.alloc (.cells #[.int .i64 y, .int .i64 m, .int .i64 d, .int .i64 h, .int .i64 i, .int .i64 s] 200)).drewN nq) osq) := (((Grew.refl w).alloc _).drewN _).more _
  have hz : w.heap.size < (grow ((w.alloc (.cells #[.int .i64 y, .int .i64 m, .int .i64 d, .int .i64 h, .int .i64 i, .int .i64 s] 200)).drewN nq) osq).heap.size := by rw [size_grow]; show w.heap.size < (w.alloc _).heap.size + _; simp; omega
  generalize (grow ((w.alloc (.cells #[.int .i64 y, .int .i64 m, .int .i64 d, .int .i64 h, .int .i64 i, .int .i64 s] 200)).drewN nq) osq) = w1 at c0 c1 hg hz ⊢
  go_wp2
  go_loopw [3, 4] (fun n k wr => ∃ j : Nat, (j : Int) + 1 ≤ m ∧ n = .int .i64 (yr y + d - 1 + cum y j) ∧ k = .int .i64 ((j : Int) + 1) ∧ Grew w1 wr) (fun _ k _ => (13 - (intOf k)).toNat)
  case atStart => exact ⟨0, by omega, by simp [cum], rfl, Grew.refl _⟩
  case round =>
    obtain ⟨j, hj, rfl, rfl, hw⟩ := hrel
    have e0 := hw.cell c0 hz
    have e1 := hw.cell c1 hz
    have hc : 0 ≤ cum y j ∧ cum y j ≤ 366 := ⟨cum_nonneg y j, cum_top y (by omega)⟩
    have hmd := mdays_bd y ((j : Int) + 1)
    by_cases hlt : (j : Int) + 1 < m
    · go_wp2_with (go_at_call 189; refine (specMonth _ _ _ (by omega) (by omega)).mono ?_; rintro e x2 ⟨rfl, hb2⟩)
      go_roundw
      case rel => exact ⟨j + 1, by omega, by simp [cum]; omega, by go_num, hw.trans hb2⟩
      case measure => simp [intOf]; omega
    · go_wp2
      go_ret
      exact ⟨ret_int (by unfold dayN; rw [show (m - 1).toNat = j from by omega]), hg.trans hw⟩

theorem dayOk_of {y m d h i s : Int} (h : okB y m d h i s = true) : dayOk y m d := by
  have := of_decide_eq_true h
  exact ⟨this.1, this.2.1, this.2.2.1⟩
end Go.Proofs.YtemmgfnepdgpbaaGreatDoor.Dd
namespace Go.Proofs.YtemmgfnepdgpbaaGreatDoor.Dd
open Go.RowKit Go.Sort

/-- The cells of what is boxed, behind a call. -/
theorem boxCells {w x : World} {t : TypeId} {a b c d e f : Value} (hb : Grew (w.alloc (.cells #[a, b, c, d, e, f] t)) x) :
    x.cell? ⟨w.heap.size, 0, none⟩ = some a ∧ x.cell? ⟨w.heap.size, 1, none⟩ = some b ∧ x.cell? ⟨w.heap.size, 2, none⟩ = some c ∧ x.cell? ⟨w.heap.size, 3, none⟩ = some d ∧ x.cell? ⟨w.heap.size, 4, none⟩ = some e ∧ x.cell? ⟨w.heap.size, 5, none⟩ = some f := by
  have hB : w.heap.size < (w.alloc (.cells #[a, b, c, d, e, f] t)).heap.size := by simp
  have k : ∀ j, (w.alloc (.cells #[a, b, c, d, e, f] t)).cell? ⟨w.heap.size, j, none⟩ = #[a, b, c, d, e, f][j]? := fun j => World.cell?_alloc_mark w _ t _ j
  exact ⟨hb.cell (k 0) hB, hb.cell (k 1) hB, hb.cell (k 2) hB, hb.cell (k 3) hB, hb.cell (k 4) hB, hb.cell (k 5) hB⟩

theorem specWk_in (y m d h i s : Int) (w : World) (hok : okB y m d h i s = true) :
    Calls Tryz.prog 185 #[.agg #[.int .i64 y, .int .i64 m, .int .i64 d, .int .i64 h, .int .i64 i, .int .i64 s]] w fun e w' => e = .returned (.int .i64 ((dayN y m d + 4) % 7)) ∧ Grew w w' := by
  have OK : Hid (dayOk y m d) := dayOk_of hok
  have hbd := day_bd OK.out
  go_enter Tryz.func185, Tryz.ntmps185
  go_wp2_with (first | (go_at_call 183; refine (specOk _ _ _ _ _ _ _).mono ?_; rintro e x2 ⟨rfl, hb2⟩; rw [hok]; have hg2 : Grew w x2 := ((Grew.refl w).alloc _).trans hb2; obtain ⟨c0, c1, c2, c3, c4, c5⟩ := boxCells hb2; clear hb2) | (go_at_call 192; refine (specDays2 _ _ _ _ _ _ _ OK.out).mono ?_; rintro e x3 ⟨rfl, hb3⟩))
  go_ret
  exact ⟨rfl, hg2.trans hb3⟩

end Go.Proofs.YtemmgfnepdgpbaaGreatDoor.Dd
