/-
  The days ahead of a year: the specification's and the program's contracts.
-/
import Derived.Test.YtfflifhcbfoliaaDoorLeap
import Derived.BigQuiet
import Derived.Deep.QuietTactic
namespace Go.Proofs.YtfflifhcbfoliaaDoor
open Go.RowKit

/-- How many days lie ahead of a year's first one. -/
def yr (y : Int) : Int := 365 * (y - 1970) + (y - 1) / 4 - (y - 1) / 100 + (y - 1) / 400 - 477
theorem yr_is {y : Int} (h : 1 ≤ y) : yr y = 365 * (y - 1970) + (y - 1).tdiv 4 - (y - 1).tdiv 100 + (y - 1).tdiv 400 - 477 := by
  unfold yr
  rw [Int.tdiv_eq_ediv_of_nonneg (by omega), Int.tdiv_eq_ediv_of_nonneg (by omega), Int.tdiv_eq_ediv_of_nonneg (by omega)]
def lps (y : Int) : Int := (y - 1) / 4 - (y - 1) / 100 + (y - 1) / 400
theorem lps_is {y : Int} (h : 1 ≤ y) : lps y = (y - 1).tdiv 4 - (y - 1).tdiv 100 + (y - 1).tdiv 400 := by
  unfold lps
  rw [Int.tdiv_eq_ediv_of_nonneg (by omega), Int.tdiv_eq_ediv_of_nonneg (by omega), Int.tdiv_eq_ediv_of_nonneg (by omega)]
theorem yr_lps (y : Int) : yr y = 365 * (y - 1970) + lps y - 477 := by unfold yr lps; omega
theorem lps_bd {y : Int} (h : 1970 ≤ y ∧ y ≤ 10001) : 0 ≤ lps y ∧ lps y ≤ 3000 := by unfold lps; omega

theorem specYear (y : Int) (w : World) (h : 1970 ≤ y ∧ y ≤ 10001) :
    Calls Tryd.prog 50 #[.int .i64 y] w fun e w' => e = .returned (.int .i64 (yr y)) ∧ w = w' := by
  have e := yr_is (y := y) (by omega)
  have b4 : 0 ≤ (y - 1).tdiv 4 ∧ (y - 1).tdiv 4 ≤ 3000 := by rw [Int.tdiv_eq_ediv_of_nonneg (by omega)]; omega
  have b100 : 0 ≤ (y - 1).tdiv 100 ∧ (y - 1).tdiv 100 ≤ 3000 := by rw [Int.tdiv_eq_ediv_of_nonneg (by omega)]; omega
  have b400 : 0 ≤ (y - 1).tdiv 400 ∧ (y - 1).tdiv 400 ≤ 3000 := by rw [Int.tdiv_eq_ediv_of_nonneg (by omega)]; omega
  have E : Hid (yr y = 365 * (y - 1970) + (y - 1).tdiv 4 - (y - 1).tdiv 100 + (y - 1).tdiv 400 - 477) := e
  clear e
  go_enter Tryd.func50, Tryd.ntmps50
  go_wp2
  go_ret
  exact ⟨ret_int (by rw [E.out]), rfl⟩
theorem implLeaps (y : Int) (w : World) (h : 1970 ≤ y ∧ y ≤ 10001) :
    Calls Tryd.prog 52 #[.int .i64 y] w fun e w' => e = .returned (.int .i64 (lps y)) ∧ w = w' := by
  have e := lps_is (y := y) (by omega)
  have b4 : 0 ≤ (y - 1).tdiv 4 ∧ (y - 1).tdiv 4 ≤ 3000 := by rw [Int.tdiv_eq_ediv_of_nonneg (by omega)]; omega
  have b100 : 0 ≤ (y - 1).tdiv 100 ∧ (y - 1).tdiv 100 ≤ 3000 := by rw [Int.tdiv_eq_ediv_of_nonneg (by omega)]; omega
  have b400 : 0 ≤ (y - 1).tdiv 400 ∧ (y - 1).tdiv 400 ≤ 3000 := by rw [Int.tdiv_eq_ediv_of_nonneg (by omega)]; omega
  have E : Hid (lps y = (y - 1).tdiv 4 - (y - 1).tdiv 100 + (y - 1).tdiv 400) := e
  clear e
  go_enter Tryd.func52, Tryd.ntmps52
  go_wp2
  go_ret
  exact ⟨ret_int (by rw [E.out]), rfl⟩
theorem implYear (y : Int) (w : World) (h : 1970 ≤ y ∧ y ≤ 10001) :
    Calls Tryd.prog 42 #[.int .i64 y] w fun e w' => e = .returned (.int .i64 (yr y)) ∧ w = w' := by
  have hb := lps_bd h
  have h0 : lps 1970 = 477 := by decide
  have e := yr_lps y
  have E : Hid (yr y = 365 * (y - 1970) + lps y - 477) := e
  clear e
  go_enter Tryd.func42, Tryd.ntmps42
  go_wp2_with (go_at_call 52; refine (implLeaps _ _ (by omega)).mono ?_; rintro e x1 ⟨rfl, rfl⟩)
  go_ret
  exact ⟨ret_int (by rw [E.out]), rfl⟩
end Go.Proofs.YtfflifhcbfoliaaDoor
