/-
  Whether a date is one: the program's contract.
-/
import Derived.Test.YtkaogmdhjcgcdaaGreatDoorH21
import Derived.Test.YtkaogmdhjcgcdaaGreatDoorH06
import Derived.BigQuiet
namespace Go.Proofs.YtkaogmdhjcgcdaaGreatDoor.Dd
open Go.RowKit Go.Sort


set_option maxHeartbeats 1000000 in
theorem implOk_5 (y m d h i s : Int) (w : World) (c0 : 1970 ≤ y) (c1 : y ≤ 9999) (c2 : 1 ≤ m) (c3 : m ≤ 12) (c4 : 1 ≤ d) (c5 : decide (d ≤ mdays y m) = false) :
    Calls Tryz.prog 142 #[.agg #[.int .i64 y, .int .i64 m, .int .i64 d, .int .i64 h, .int .i64 i, .int .i64 s]] w fun e w' => e = .returned (.bool false) ∧ Grew w w' := by
  have mix := mixed
  have bx := boxed (w := w) (t := 121) (fr := (0, 0)) #[.int .i64 y, .int .i64 m, .int .i64 d, .int .i64 h, .int .i64 i, .int .i64 s]
  have k0 := bx 0
  have k1 := bx 1
  have k2 := bx 2
  have k3 := bx 3
  have k4 := bx 4
  have k5 := bx 5
  clear bx
  go_enter Tryz.func142, Tryz.ntmps142
  go_wp2
  refine wp_region_quiet_grown mix (by kernel_rfl) ?_
  repeat (go_big_quiet_step ((go_at_call 173; refine callGrew (implMonth _ _ _ c2 c3))))
  refine wpQuiet_nil ?_
  intro _ hw'
  obtain ⟨⟨nq, osq⟩, hw''⟩ := hw'
  subst hw''
  go_wp2
  go_ret
  exact ⟨rfl, (((Grew.refl w).alloc _).drewN _).more _⟩

set_option maxHeartbeats 1000000 in
theorem implOk_6 (y m d h i s : Int) (w : World) (c0 : 1970 ≤ y) (c1 : y ≤ 9999) (c2 : 1 ≤ m) (c3 : m ≤ 12) (c4 : 1 ≤ d) (c5 : d ≤ mdays y m) (c6 : decide (0 ≤ h) = false) :
    Calls Tryz.prog 142 #[.agg #[.int .i64 y, .int .i64 m, .int .i64 d, .int .i64 h, .int .i64 i, .int .i64 s]] w fun e w' => e = .returned (.bool false) ∧ Grew w w' := by
  have mix := mixed
  have bx := boxed (w := w) (t := 121) (fr := (0, 0)) #[.int .i64 y, .int .i64 m, .int .i64 d, .int .i64 h, .int .i64 i, .int .i64 s]
  have k0 := bx 0
  have k1 := bx 1
  have k2 := bx 2
  have k3 := bx 3
  have k4 := bx 4
  have k5 := bx 5
  clear bx
  go_enter Tryz.func142, Tryz.ntmps142
  go_wp2
  refine wp_region_quiet_grown mix (by kernel_rfl) ?_
  repeat (go_big_quiet_step ((go_at_call 173; refine callGrew (implMonth _ _ _ c2 c3))))
  refine wpQuiet_nil ?_
  intro _ hw'
  obtain ⟨⟨nq, osq⟩, hw''⟩ := hw'
  subst hw''
  go_wp2
  go_ret
  exact ⟨rfl, (((Grew.refl w).alloc _).drewN _).more _⟩

set_option maxHeartbeats 1000000 in
theorem implOk_7 (y m d h i s : Int) (w : World) (c0 : 1970 ≤ y) (c1 : y ≤ 9999) (c2 : 1 ≤ m) (c3 : m ≤ 12) (c4 : 1 ≤ d) (c5 : d ≤ mdays y m) (c6 : 0 ≤ h) (c7 : decide (h ≤ 23) = false) :
    Calls Tryz.prog 142 #[.agg #[.int .i64 y, .int .i64 m, .int .i64 d, .int .i64 h, .int .i64 i, .int .i64 s]] w fun e w' => e = .returned (.bool false) ∧ Grew w w' := by
  have mix := mixed
  have bx := boxed (w := w) (t := 121) (fr := (0, 0)) #[.int .i64 y, .int .i64 m, .int .i64 d, .int .i64 h, .int .i64 i, .int .i64 s]
  have k0 := bx 0
  have k1 := bx 1
  have k2 := bx 2
  have k3 := bx 3
  have k4 := bx 4
  have k5 := bx 5
  clear bx
  go_enter Tryz.func142, Tryz.ntmps142
  go_wp2
  refine wp_region_quiet_grown mix (by kernel_rfl) ?_
  repeat (go_big_quiet_step ((go_at_call 173; refine callGrew (implMonth _ _ _ c2 c3))))
  refine wpQuiet_nil ?_
  intro _ hw'
  obtain ⟨⟨nq, osq⟩, hw''⟩ := hw'
  subst hw''
  go_wp2
  go_ret
  exact ⟨rfl, (((Grew.refl w).alloc _).drewN _).more _⟩
end Go.Proofs.YtkaogmdhjcgcdaaGreatDoor.Dd
