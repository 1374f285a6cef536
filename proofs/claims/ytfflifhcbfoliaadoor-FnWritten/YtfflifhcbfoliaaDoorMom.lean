/-
  The days, moments and weekdays of dates: the specification's and the program's contracts.
-/
import Derived.Test.YtfflifhcbfoliaaDoorDay
namespace Go.Proofs.YtfflifhcbfoliaaDoor
open Go.RowKit Go.Sort

/-- The cells of what is boxed, behind a call. -/
theorem boxCells {w x : World} {t : TypeId} {a b c d e f : Value} (hb : Grew (w.alloc (.cells #[a, b, c, d, e, f] t)) x) :
    x.cell? ⟨w.heap.size, 0, none⟩ = some a ∧ x.cell? ⟨w.heap.size, 1, none⟩ = some b ∧ x.cell? ⟨w.heap.size, 2, none⟩ = some c ∧ x.cell? ⟨w.heap.size, 3, none⟩ = some d ∧ x.cell? ⟨w.heap.size, 4, none⟩ = some e ∧ x.cell? ⟨w.heap.size, 5, none⟩ = some f := by
  have hB : w.heap.size < (w.alloc (.cells #[a, b, c, d, e, f] t)).heap.size := by simp
  have k : ∀ j, (w.alloc (.cells #[a, b, c, d, e, f] t)).cell? ⟨w.heap.size, j, none⟩ = #[a, b, c, d, e, f][j]? := fun j => World.cell?_alloc_mark w _ t _ j
  exact ⟨hb.cell (k 0) hB, hb.cell (k 1) hB, hb.cell (k 2) hB, hb.cell (k 3) hB, hb.cell (k 4) hB, hb.cell (k 5) hB⟩

/-- What Weekday answers. -/
def wkV (y m d h i s : Int) : Int := if okB y m d h i s = true then (dayN y m d + 4) % 7 else -1
/-- What Moment answers. -/
def momV (y m d h i s : Int) : Int := if okB y m d h i s = true then momN y m d h i s else -1

theorem specWk_in (y m d h i s : Int) (w : World) (hok : okB y m d h i s = true) :
    Calls Tryd.prog 24 #[.agg #[.int .i64 y, .int .i64 m, .int .i64 d, .int .i64 h, .int .i64 i, .int .i64 s]] w fun e w' => e = .returned (.int .i64 ((dayN y m d + 4) % 7)) ∧ Grew w w' := by
  have OK : Hid (dayOk y m d) := dayOk_of hok
  have hbd := day_bd OK.out
  go_enter Tryd.func24, Tryd.ntmps24
  go_wp2_with (first | (go_at_call 10; refine (specOk _ _ _ _ _ _ _).mono ?_; rintro e x2 ⟨rfl, hb2⟩; rw [hok]; have hg2 : Grew w x2 := ((Grew.refl w).alloc _).trans hb2; obtain ⟨c0, c1, c2, c3, c4, c5⟩ := boxCells hb2; clear hb2) | (go_at_call 39; refine (specDays2 _ _ _ _ _ _ _ OK.out).mono ?_; rintro e x3 ⟨rfl, hb3⟩))
  go_ret
  exact ⟨rfl, hg2.trans hb3⟩

theorem specWk_out (y m d h i s : Int) (w : World) (hok : okB y m d h i s = false) :
    Calls Tryd.prog 24 #[.agg #[.int .i64 y, .int .i64 m, .int .i64 d, .int .i64 h, .int .i64 i, .int .i64 s]] w fun e w' => e = .returned (.int .i64 (-1)) ∧ Grew w w' := by
  go_enter Tryd.func24, Tryd.ntmps24
  go_wp2_with (go_at_call 10; refine (specOk _ _ _ _ _ _ _).mono ?_; rintro e x2 ⟨rfl, hb2⟩; rw [hok])
  go_ret
  exact ⟨rfl, ((Grew.refl w).alloc _).trans hb2⟩

theorem specWk (y m d h i s : Int) (w : World) :
    Calls Tryd.prog 24 #[.agg #[.int .i64 y, .int .i64 m, .int .i64 d, .int .i64 h, .int .i64 i, .int .i64 s]] w fun e w' => e = .returned (.int .i64 (wkV y m d h i s)) ∧ Grew w w' := by
  unfold wkV
  cases hok : okB y m d h i s
  · exact specWk_out y m d h i s w hok
  · exact specWk_in y m d h i s w hok

theorem implWk_in (y m d h i s : Int) (w : World) (hok : okB y m d h i s = true) :
    Calls Tryd.prog 12 #[.agg #[.int .i64 y, .int .i64 m, .int .i64 d, .int .i64 h, .int .i64 i, .int .i64 s]] w fun e w' => e = .returned (.int .i64 ((dayN y m d + 4) % 7)) ∧ Grew w w' := by
  have OK : Hid (dayOk y m d) := dayOk_of hok
  have hbd := day_bd OK.out
  go_enter Tryd.func12, Tryd.ntmps12
  go_wp2_with (first | (go_at_call 18; refine (implOk _ _ _ _ _ _ _).mono ?_; rintro e x2 ⟨rfl, hb2⟩; rw [hok]; have hg2 : Grew w x2 := ((Grew.refl w).alloc _).trans hb2; obtain ⟨c0, c1, c2, c3, c4, c5⟩ := boxCells hb2; clear hb2) | (go_at_call 31; refine (implDays_in _ _ _ _ _ _ _ OK.out hok).mono ?_; rintro e x3 ⟨rfl, hb3⟩))
  go_ret
  exact ⟨rfl, hg2.trans hb3⟩

theorem implWk_out (y m d h i s : Int) (w : World) (hok : okB y m d h i s = false) :
    Calls Tryd.prog 12 #[.agg #[.int .i64 y, .int .i64 m, .int .i64 d, .int .i64 h, .int .i64 i, .int .i64 s]] w fun e w' => e = .returned (.int .i64 (-1)) ∧ Grew w w' := by
  go_enter Tryd.func12, Tryd.ntmps12
  go_wp2_with (go_at_call 18; refine (implOk _ _ _ _ _ _ _).mono ?_; rintro e x2 ⟨rfl, hb2⟩; rw [hok])
  go_ret
  exact ⟨rfl, ((Grew.refl w).alloc _).trans hb2⟩

theorem implWk (y m d h i s : Int) (w : World) :
    Calls Tryd.prog 12 #[.agg #[.int .i64 y, .int .i64 m, .int .i64 d, .int .i64 h, .int .i64 i, .int .i64 s]] w fun e w' => e = .returned (.int .i64 (wkV y m d h i s)) ∧ Grew w w' := by
  unfold wkV
  cases hok : okB y m d h i s
  · exact implWk_out y m d h i s w hok
  · exact implWk_in y m d h i s w hok

end Go.Proofs.YtfflifhcbfoliaaDoor
