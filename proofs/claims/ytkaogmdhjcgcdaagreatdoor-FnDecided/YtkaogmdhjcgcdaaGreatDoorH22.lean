/-
  Whether a date is one: the specification's contract.
-/
import Derived.Test.YtkaogmdhjcgcdaaGreatDoorH21
import Derived.Test.YtkaogmdhjcgcdaaGreatDoorH06
import Derived.BigQuiet
namespace Go.Proofs.YtkaogmdhjcgcdaaGreatDoor.Dd
open Go.RowKit Go.Sort

/-- A date as it is. -/
abbrev okD (y m d h i s : Int) : Prop := (1970 ≤ y ∧ y ≤ 9999) ∧ (1 ≤ m ∧ m ≤ 12) ∧ (1 ≤ d ∧ d ≤ mdays y m) ∧ (0 ≤ h ∧ h ≤ 23) ∧ (0 ≤ i ∧ i ≤ 59) ∧ (0 ≤ s ∧ s ≤ 59)
def okB (y m d h i s : Int) : Bool := decide (okD y m d h i s)
theorem inRangeIs {n lo hi : Int} {b : Bool} {w : World} (h : inR n lo hi = b) : Calls Tryz.prog 63 #[.int .i64 n, .int .i64 lo, .int .i64 hi] w fun e w' => e = .returned (.bool b) ∧ w = w' := h ▸ inRange n lo hi w

set_option maxHeartbeats 1000000 in
theorem specOk_0 (y m d h i s : Int) (w : World)  (c0 : inR y 1970 9999 = false) :
    Calls Tryz.prog 122 #[.agg #[.int .i64 y, .int .i64 m, .int .i64 d, .int .i64 h, .int .i64 i, .int .i64 s]] w fun e w' => e = .returned (.bool false) ∧ Grew w w' := by
  have mix := mixed
  have bx := boxed (w := w) (t := 121) (fr := (0, 0)) #[.int .i64 y, .int .i64 m, .int .i64 d, .int .i64 h, .int .i64 i, .int .i64 s]
  have k0 := bx 0
  have k1 := bx 1
  have k2 := bx 2
  have k3 := bx 3
  have k4 := bx 4
  have k5 := bx 5
  clear bx
  go_enter Tryz.func122, Tryz.ntmps122
  go_wp2
  refine wp_region_quiet_grown mix (by kernel_rfl) ?_
  repeat (go_big_quiet_step ((go_at_call 63; first | exact callSame (inRangeIs c0))))
  refine wpQuiet_nil ?_
  intro _ hw'
  obtain ⟨⟨nq, osq⟩, hw''⟩ := hw'
  subst hw''
  go_wp2
  go_ret
  exact ⟨rfl, (((Grew.refl w).alloc _).drewN _).more _⟩

set_option maxHeartbeats 1000000 in
theorem specOk_1 (y m d h i s : Int) (w : World) (c0 : inR y 1970 9999 = true) (c1 : inR m 1 12 = false) :
    Calls Tryz.prog 122 #[.agg #[.int .i64 y, .int .i64 m, .int .i64 d, .int .i64 h, .int .i64 i, .int .i64 s]] w fun e w' => e = .returned (.bool false) ∧ Grew w w' := by
  have mix := mixed
  have bx := boxed (w := w) (t := 121) (fr := (0, 0)) #[.int .i64 y, .int .i64 m, .int .i64 d, .int .i64 h, .int .i64 i, .int .i64 s]
  have k0 := bx 0
  have k1 := bx 1
  have k2 := bx 2
  have k3 := bx 3
  have k4 := bx 4
  have k5 := bx 5
  clear bx
  go_enter Tryz.func122, Tryz.ntmps122
  go_wp2
  refine wp_region_quiet_grown mix (by kernel_rfl) ?_
  repeat (go_big_quiet_step ((go_at_call 63; first | exact callSame (inRangeIs c0) | exact callSame (inRangeIs c1))))
  refine wpQuiet_nil ?_
  intro _ hw'
  obtain ⟨⟨nq, osq⟩, hw''⟩ := hw'
  subst hw''
  go_wp2
  go_ret
  exact ⟨rfl, (((Grew.refl w).alloc _).drewN _).more _⟩

set_option maxHeartbeats 1000000 in
theorem specOk_2 (y m d h i s : Int) (w : World) (c0 : inR y 1970 9999 = true) (c1 : inR m 1 12 = true) (c2 : inR d 1 (mdays y m) = false) :
    Calls Tryz.prog 122 #[.agg #[.int .i64 y, .int .i64 m, .int .i64 d, .int .i64 h, .int .i64 i, .int .i64 s]] w fun e w' => e = .returned (.bool false) ∧ Grew w w' := by
  have hm2 : 1 ≤ m ∧ m ≤ 12 := of_decide_eq_true c1
  have mix := mixed
  have bx := boxed (w := w) (t := 121) (fr := (0, 0)) #[.int .i64 y, .int .i64 m, .int .i64 d, .int .i64 h, .int .i64 i, .int .i64 s]
  have k0 := bx 0
  have k1 := bx 1
  have k2 := bx 2
  have k3 := bx 3
  have k4 := bx 4
  have k5 := bx 5
  clear bx
  go_enter Tryz.func122, Tryz.ntmps122
  go_wp2
  refine wp_region_quiet_grown mix (by kernel_rfl) ?_
  repeat (go_big_quiet_step (first | (go_at_call 63; first | exact callSame (inRangeIs c0) | exact callSame (inRangeIs c1) | exact callSame (inRangeIs c2)) | (go_at_call 147; refine callGrew (specMonth _ _ _ hm2.1 hm2.2))))
  refine wpQuiet_nil ?_
  intro _ hw'
  obtain ⟨⟨nq, osq⟩, hw''⟩ := hw'
  subst hw''
  go_wp2
  go_ret
  exact ⟨rfl, (((Grew.refl w).alloc _).drewN _).more _⟩

set_option maxHeartbeats 1000000 in
theorem specOk_3 (y m d h i s : Int) (w : World) (c0 : inR y 1970 9999 = true) (c1 : inR m 1 12 = true) (c2 : inR d 1 (mdays y m) = true) (c3 : inR h 0 23 = false) :
    Calls Tryz.prog 122 #[.agg #[.int .i64 y, .int .i64 m, .int .i64 d, .int .i64 h, .int .i64 i, .int .i64 s]] w fun e w' => e = .returned (.bool false) ∧ Grew w w' := by
  have hm2 : 1 ≤ m ∧ m ≤ 12 := of_decide_eq_true c1
  have mix := mixed
  have bx := boxed (w := w) (t := 121) (fr := (0, 0)) #[.int .i64 y, .int .i64 m, .int .i64 d, .int .i64 h, .int .i64 i, .int .i64 s]
  have k0 := bx 0
  have k1 := bx 1
  have k2 := bx 2
  have k3 := bx 3
  have k4 := bx 4
  have k5 := bx 5
  clear bx
  go_enter Tryz.func122, Tryz.ntmps122
  go_wp2
  refine wp_region_quiet_grown mix (by kernel_rfl) ?_
  repeat (go_big_quiet_step (first | (go_at_call 63; first | exact callSame (inRangeIs c0) | exact callSame (inRangeIs c1) | exact callSame (inRangeIs c2) | exact callSame (inRangeIs c3)) | (go_at_call 147; refine callGrew (specMonth _ _ _ hm2.1 hm2.2))))
  refine wpQuiet_nil ?_
  intro _ hw'
  obtain ⟨⟨nq, osq⟩, hw''⟩ := hw'
  subst hw''
  go_wp2
  go_ret
  exact ⟨rfl, (((Grew.refl w).alloc _).drewN _).more _⟩

set_option maxHeartbeats 1000000 in
theorem specOk_4 (y m d h i s : Int) (w : World) (c0 : inR y 1970 9999 = true) (c1 : inR m 1 12 = true) (c2 : inR d 1 (mdays y m) = true) (c3 : inR h 0 23 = true) (c4 : inR i 0 59 = false) :
    Calls Tryz.prog 122 #[.agg #[.int .i64 y, .int .i64 m, .int .i64 d, .int .i64 h, .int .i64 i, .int .i64 s]] w fun e w' => e = .returned (.bool false) ∧ Grew w w' := by
  have hm2 : 1 ≤ m ∧ m ≤ 12 := of_decide_eq_true c1
  have mix := mixed
  have bx := boxed (w := w) (t := 121) (fr := (0, 0)) #[.int .i64 y, .int .i64 m, .int .i64 d, .int .i64 h, .int .i64 i, .int .i64 s]
  have k0 := bx 0
  have k1 := bx 1
  have k2 := bx 2
  have k3 := bx 3
  have k4 := bx 4
  have k5 := bx 5
  clear bx
  go_enter Tryz.func122, Tryz.ntmps122
  go_wp2
  refine wp_region_quiet_grown mix (by kernel_rfl) ?_
  repeat (go_big_quiet_step (first | (go_at_call 63; first | exact callSame (inRangeIs c0) | exact callSame (inRangeIs c1) | exact callSame (inRangeIs c2) | exact callSame (inRangeIs c3) | exact callSame (inRangeIs c4)) | (go_at_call 147; refine callGrew (specMonth _ _ _ hm2.1 hm2.2))))
  refine wpQuiet_nil ?_
  intro _ hw'
  obtain ⟨⟨nq, osq⟩, hw''⟩ := hw'
  subst hw''
  go_wp2
  go_ret
  exact ⟨rfl, (((Grew.refl w).alloc _).drewN _).more _⟩

set_option maxHeartbeats 1000000 in
theorem specOk_5 (y m d h i s : Int) (w : World) (c0 : inR y 1970 9999 = true) (c1 : inR m 1 12 = true) (c2 : inR d 1 (mdays y m) = true) (c3 : inR h 0 23 = true) (c4 : inR i 0 59 = true) :
    Calls Tryz.prog 122 #[.agg #[.int .i64 y, .int .i64 m, .int .i64 d, .int .i64 h, .int .i64 i, .int .i64 s]] w fun e w' => e = .returned (.bool (inR s 0 59)) ∧ Grew w w' := by
  have hm2 : 1 ≤ m ∧ m ≤ 12 := of_decide_eq_true c1
  have mix := mixed
  have bx := boxed (w := w) (t := 121) (fr := (0, 0)) #[.int .i64 y, .int .i64 m, .int .i64 d, .int .i64 h, .int .i64 i, .int .i64 s]
  have k0 := bx 0
  have k1 := bx 1
  have k2 := bx 2
  have k3 := bx 3
  have k4 := bx 4
  have k5 := bx 5
  clear bx
  go_enter Tryz.func122, Tryz.ntmps122
  go_wp2
  refine wp_region_quiet_grown mix (by kernel_rfl) ?_
  repeat (go_big_quiet_step (first | (go_at_call 63; first | exact callSame (inRangeIs c0) | exact callSame (inRangeIs c1) | exact callSame (inRangeIs c2) | exact callSame (inRangeIs c3) | exact callSame (inRangeIs c4) | exact callSame (inRange _ _ _ _)) | (go_at_call 147; refine callGrew (specMonth _ _ _ hm2.1 hm2.2))))
  refine wpQuiet_nil ?_
  intro _ hw'
  obtain ⟨⟨nq, osq⟩, hw''⟩ := hw'
  subst hw''
  go_wp2
  go_ret
  exact ⟨rfl, (((Grew.refl w).alloc _).drewN _).more _⟩

theorem specOk (y m d h i s : Int) (w : World) :
    Calls Tryz.prog 122 #[.agg #[.int .i64 y, .int .i64 m, .int .i64 d, .int .i64 h, .int .i64 i, .int .i64 s]] w fun e w' => e = .returned (.bool (okB y m d h i s)) ∧ Grew w w' := by
  have E : okB y m d h i s = (inR y 1970 9999 && (inR m 1 12 && (inR d 1 (mdays y m) && (inR h 0 23 && (inR i 0 59 && inR s 0 59))))) := by
    exact Bool.eq_iff_iff.2 (by unfold okB; rw [decide_eq_true_iff]; simp [okD, inR])
  rw [E]
  cases c0 : inR y 1970 9999
  · exact specOk_0 y m d h i s w c0
  cases c1 : inR m 1 12
  · exact specOk_1 y m d h i s w c0 c1
  cases c2 : inR d 1 (mdays y m)
  · exact specOk_2 y m d h i s w c0 c1 c2
  cases c3 : inR h 0 23
  · exact specOk_3 y m d h i s w c0 c1 c2 c3
  cases c4 : inR i 0 59
  · exact specOk_4 y m d h i s w c0 c1 c2 c3 c4
  exact specOk_5 y m d h i s w c0 c1 c2 c3 c4
end Go.Proofs.YtkaogmdhjcgcdaaGreatDoor.Dd
