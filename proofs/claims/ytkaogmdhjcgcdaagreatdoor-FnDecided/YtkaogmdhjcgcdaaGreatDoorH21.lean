/-
  The contracts of the lengths of months, the specification's and the program's.
-/
import Derived.Test.YtkaogmdhjcgcdaaGreatDoorH20
import Derived.Test.YtkaogmdhjcgcdaaGreatDoorH06
namespace Go.Proofs.YtkaogmdhjcgcdaaGreatDoor.Dd
open Go.RowKit

theorem months {m : Int} (h1 : 1 ≤ m) (h2 : m ≤ 12) : m = 1 ∨ m = 2 ∨ m = 3 ∨ m = 4 ∨ m = 5 ∨ m = 6 ∨ m = 7 ∨ m = 8 ∨ m = 9 ∨ m = 10 ∨ m = 11 ∨ m = 12 := by omega

set_option maxHeartbeats 800000 in
theorem specMonth (y m : Int) (w : World) (h1 : 1 ≤ m) (h2 : m ≤ 12) :
    Calls Tryz.prog 147 #[.int .i64 y, .int .i64 m] w fun e w' => e = .returned (.int .i64 (mdays y m)) ∧ Grew w w' := by
  unfold mdays
  rcases months h1 h2 with rfl | rfl | rfl | rfl | rfl | rfl | rfl | rfl | rfl | rfl | rfl | rfl
  case inr.inl =>
    cases hl : leapB y
    · go_enter Tryz.func147, Tryz.ntmps147
      go_wp2_with (go_at_call 175; refine (specLeap _ _).mono ?_; rintro e x1 ⟨rfl, rfl⟩)
      go_ret
      exact ⟨by simp, (Grew.refl w).alloc _⟩
    · go_enter Tryz.func147, Tryz.ntmps147
      go_wp2_with (go_at_call 175; refine (specLeap _ _).mono ?_; rintro e x1 ⟨rfl, rfl⟩)
      go_ret
      exact ⟨by simp, Grew.refl w⟩
  all_goals
    go_enter Tryz.func147, Tryz.ntmps147
    go_wp2
    go_ret
    exact ⟨by simp, (Grew.refl w).alloc _⟩

set_option maxHeartbeats 800000 in
theorem implMonth (y m : Int) (w : World) (h1 : 1 ≤ m) (h2 : m ≤ 12) :
    Calls Tryz.prog 173 #[.int .i64 y, .int .i64 m] w fun e w' => e = .returned (.int .i64 (mdays y m)) ∧ Grew w w' := by
  unfold mdays
  rcases months h1 h2 with rfl | rfl | rfl | rfl | rfl | rfl | rfl | rfl | rfl | rfl | rfl | rfl
  case inr.inl =>
    cases hl : leapB y
    · go_enter Tryz.func173, Tryz.ntmps173
      go_wp2_with (go_at_call 189; refine (implLeap _ _).mono ?_; rintro e x1 ⟨rfl, rfl⟩)
      go_ret
      exact ⟨by simp, (Grew.refl w).alloc _⟩
    · go_enter Tryz.func173, Tryz.ntmps173
      go_wp2_with (go_at_call 189; refine (implLeap _ _).mono ?_; rintro e x1 ⟨rfl, rfl⟩)
      go_ret
      exact ⟨by simp, (Grew.refl w).alloc _⟩
  all_goals
    go_enter Tryz.func173, Tryz.ntmps173
    go_wp2
    go_ret
    exact ⟨by simp, (Grew.refl w).alloc _⟩
end Go.Proofs.YtkaogmdhjcgcdaaGreatDoor.Dd
