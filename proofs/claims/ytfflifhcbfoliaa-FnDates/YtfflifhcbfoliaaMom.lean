/-
  The days, moments and weekdays of dates: the specification's and the program's contracts.
-/
import Derived.Test.YtfflifhcbfoliaaDay
namespace Go.Proofs.Ytfflifhcbfoliaa
open Go.RowKit Go.Sort

/-- The cells of what is boxed, behind a call. -/
theorem boxCells {w x : World} {t : TypeId} {a b c d e f : Value} (hb : Grew (w.alloc (.cells #[a, b, c, d, e, f] t)) x) :
    x.cell? ⟨w.heap.size, 0, none⟩ = some a ∧ x.cell? ⟨w.heap.size, 1, none⟩ = some b ∧ x.cell? ⟨w.heap.size, 2, none⟩ = some c ∧ x.cell? ⟨w.heap.size, 3, none⟩ = some d ∧ x.cell? ⟨w.heap.size, 4, none⟩ = some e ∧ x.cell? ⟨w.heap.size, 5, none⟩ = some f := by
  have hB : w.heap.size < (w.alloc (.cells #[a, b, c, d, e, f] t)).heap.size := by simp
  have k : ∀ j, (w.alloc (.cells #[a, b, c, d, e, f] t)).cell? ⟨w.heap.size, j, none⟩ = #[a, b, c, d, e, f][j]? := fun j => World.cell?_alloc_mark w _ t _ j
  exact ⟨hb.cell (k 0) hB, hb.cell (k 1) hB, hb.cell (k 2) hB, hb.cell (k 3) hB, hb.cell (k 4) hB, hb.cell (k 5) hB⟩

theorem specDays_in (y m d h i s : Int) (w : World) (hok : okB y m d h i s = true) :
    Calls Try.prog 18 #[.agg #[.int .i64 y, .int .i64 m, .int .i64 d, .int .i64 h, .int .i64 i, .int .i64 s]] w fun e w' => e = .returned (.int .i64 (dayN y m d)) ∧ Grew w w' := by
  have ok := dayOk_of hok
  have OK : Hid (dayOk y m d) := ok
  clear ok
  go_enter Try.func18, Try.ntmps18
  go_wp2_with (first | (go_at_call 22; refine (specOk _ _ _ _ _ _ _).mono ?_; rintro e x2 ⟨rfl, hb2⟩; rw [hok]; have hg2 : Grew w x2 := ((Grew.refl w).alloc _).trans hb2; obtain ⟨c0, c1, c2, c3, c4, c5⟩ := boxCells hb2; clear hb2) | (go_at_call 32; refine (specDays2 _ _ _ _ _ _ _ OK.out).mono ?_; rintro e x3 ⟨rfl, hb3⟩))
  go_ret
  exact ⟨rfl, hg2.trans hb3⟩

theorem specDays_out (y m d h i s : Int) (w : World) (hok : okB y m d h i s = false) :
    Calls Try.prog 18 #[.agg #[.int .i64 y, .int .i64 m, .int .i64 d, .int .i64 h, .int .i64 i, .int .i64 s]] w fun e w' => e = .returned (.int .i64 (-1)) ∧ Grew w w' := by
  go_enter Try.func18, Try.ntmps18
  go_wp2_with (go_at_call 22; refine (specOk _ _ _ _ _ _ _).mono ?_; rintro e x2 ⟨rfl, hb2⟩; rw [hok])
  go_ret
  exact ⟨rfl, ((Grew.refl w).alloc _).trans hb2⟩

theorem specDays (y m d h i s : Int) (w : World) :
    Calls Try.prog 18 #[.agg #[.int .i64 y, .int .i64 m, .int .i64 d, .int .i64 h, .int .i64 i, .int .i64 s]] w fun e w' => e = .returned (.int .i64 (dayV y m d h i s)) ∧ Grew w w' := by
  unfold dayV
  cases hok : okB y m d h i s
  · exact specDays_out y m d h i s w hok
  · exact specDays_in y m d h i s w hok

/-- What Weekday answers. -/
def wkV (y m d h i s : Int) : Int := if okB y m d h i s = true then (dayN y m d + 4) % 7 else -1
/-- What Moment answers. -/
def momV (y m d h i s : Int) : Int := if okB y m d h i s = true then momN y m d h i s else -1

theorem specWk_in (y m d h i s : Int) (w : World) (hok : okB y m d h i s = true) :
    Calls Try.prog 20 #[.agg #[.int .i64 y, .int .i64 m, .int .i64 d, .int .i64 h, .int .i64 i, .int .i64 s]] w fun e w' => e = .returned (.int .i64 ((dayN y m d + 4) % 7)) ∧ Grew w w' := by
  have OK : Hid (dayOk y m d) := dayOk_of hok
  have hbd := day_bd OK.out
  go_enter Try.func20, Try.ntmps20
  go_wp2_with (first | (go_at_call 22; refine (specOk _ _ _ _ _ _ _).mono ?_; rintro e x2 ⟨rfl, hb2⟩; rw [hok]; have hg2 : Grew w x2 := ((Grew.refl w).alloc _).trans hb2; obtain ⟨c0, c1, c2, c3, c4, c5⟩ := boxCells hb2; clear hb2) | (go_at_call 32; refine (specDays2 _ _ _ _ _ _ _ OK.out).mono ?_; rintro e x3 ⟨rfl, hb3⟩))
  go_ret
  exact ⟨rfl, hg2.trans hb3⟩

theorem specWk_out (y m d h i s : Int) (w : World) (hok : okB y m d h i s = false) :
    Calls Try.prog 20 #[.agg #[.int .i64 y, .int .i64 m, .int .i64 d, .int .i64 h, .int .i64 i, .int .i64 s]] w fun e w' => e = .returned (.int .i64 (-1)) ∧ Grew w w' := by
  go_enter Try.func20, Try.ntmps20
  go_wp2_with (go_at_call 22; refine (specOk _ _ _ _ _ _ _).mono ?_; rintro e x2 ⟨rfl, hb2⟩; rw [hok])
  go_ret
  exact ⟨rfl, ((Grew.refl w).alloc _).trans hb2⟩

theorem specWk (y m d h i s : Int) (w : World) :
    Calls Try.prog 20 #[.agg #[.int .i64 y, .int .i64 m, .int .i64 d, .int .i64 h, .int .i64 i, .int .i64 s]] w fun e w' => e = .returned (.int .i64 (wkV y m d h i s)) ∧ Grew w w' := by
  unfold wkV
  cases hok : okB y m d h i s
  · exact specWk_out y m d h i s w hok
  · exact specWk_in y m d h i s w hok

theorem implWk_in (y m d h i s : Int) (w : World) (hok : okB y m d h i s = true) :
    Calls Try.prog 19 #[.agg #[.int .i64 y, .int .i64 m, .int .i64 d, .int .i64 h, .int .i64 i, .int .i64 s]] w fun e w' => e = .returned (.int .i64 ((dayN y m d + 4) % 7)) ∧ Grew w w' := by
  have OK : Hid (dayOk y m d) := dayOk_of hok
  have hbd := day_bd OK.out
  go_enter Try.func19, Try.ntmps19
  go_wp2_with (first | (go_at_call 21; refine (implOk _ _ _ _ _ _ _).mono ?_; rintro e x2 ⟨rfl, hb2⟩; rw [hok]; have hg2 : Grew w x2 := ((Grew.refl w).alloc _).trans hb2; obtain ⟨c0, c1, c2, c3, c4, c5⟩ := boxCells hb2; clear hb2) | (go_at_call 17; refine (implDays_in _ _ _ _ _ _ _ OK.out hok).mono ?_; rintro e x3 ⟨rfl, hb3⟩))
  go_ret
  exact ⟨rfl, hg2.trans hb3⟩

theorem implWk_out (y m d h i s : Int) (w : World) (hok : okB y m d h i s = false) :
    Calls Try.prog 19 #[.agg #[.int .i64 y, .int .i64 m, .int .i64 d, .int .i64 h, .int .i64 i, .int .i64 s]] w fun e w' => e = .returned (.int .i64 (-1)) ∧ Grew w w' := by
  go_enter Try.func19, Try.ntmps19
  go_wp2_with (go_at_call 21; refine (implOk _ _ _ _ _ _ _).mono ?_; rintro e x2 ⟨rfl, hb2⟩; rw [hok])
  go_ret
  exact ⟨rfl, ((Grew.refl w).alloc _).trans hb2⟩

theorem implWk (y m d h i s : Int) (w : World) :
    Calls Try.prog 19 #[.agg #[.int .i64 y, .int .i64 m, .int .i64 d, .int .i64 h, .int .i64 i, .int .i64 s]] w fun e w' => e = .returned (.int .i64 (wkV y m d h i s)) ∧ Grew w w' := by
  unfold wkV
  cases hok : okB y m d h i s
  · exact implWk_out y m d h i s w hok
  · exact implWk_in y m d h i s w hok

set_option maxHeartbeats 1000000 in
theorem specMom_in (y m d h i s : Int) (w : World) (hok : okB y m d h i s = true) :
    Calls Try.prog 15 #[.agg #[.int .i64 y, .int .i64 m, .int .i64 d, .int .i64 h, .int .i64 i, .int .i64 s]] w fun e w' => e = .returned (.int .i64 (momN y m d h i s)) ∧ Grew w w' := by
  have OK : Hid (dayOk y m d) := dayOk_of hok
  have hbd := day_bd OK.out
  have hh : (0 ≤ h ∧ h ≤ 23) ∧ (0 ≤ i ∧ i ≤ 59) ∧ (0 ≤ s ∧ s ≤ 59) := (of_decide_eq_true hok : okD y m d h i s).2.2.2
  have mix := mixed
  have r1 : IntKind.i64.wrap (dayN y m d * 86400) = dayN y m d * 86400 := by rw [IntKind.wrap_i64]; omega
  have r2 : IntKind.i64.wrap (h * 3600) = h * 3600 := by rw [IntKind.wrap_i64]; omega
  have r3 : IntKind.i64.wrap (dayN y m d * 86400 + h * 3600) = dayN y m d * 86400 + h * 3600 := by rw [IntKind.wrap_i64]; omega
  have r4 : IntKind.i64.wrap (i * 60) = i * 60 := by rw [IntKind.wrap_i64]; omega
  have r5 : IntKind.i64.wrap (dayN y m d * 86400 + h * 3600 + i * 60) = dayN y m d * 86400 + h * 3600 + i * 60 := by rw [IntKind.wrap_i64]; omega
  have r6 : IntKind.i64.wrap (dayN y m d * 86400 + h * 3600 + i * 60 + s) = dayN y m d * 86400 + h * 3600 + i * 60 + s := by rw [IntKind.wrap_i64]; omega
  clear hh hbd
  go_enter Try.func15, Try.ntmps15
  go_wp2_with (go_at_call 22; refine (specOk _ _ _ _ _ _ _).mono ?_; rintro e x2 ⟨rfl, hb2⟩; rw [hok]; have hg2 : Grew w x2 := ((Grew.refl w).alloc _).trans hb2; have kk := fun n os => boxCells ((hb2.drewN n).more os); clear hb2)
  have k0 := fun n os => (kk n os).1
  have k1 := fun n os => (kk n os).2.1
  have k2 := fun n os => (kk n os).2.2.1
  have k3 := fun n os => (kk n os).2.2.2.1
  have k4 := fun n os => (kk n os).2.2.2.2.1
  have k5 := fun n os => (kk n os).2.2.2.2.2
  clear kk
  go_quiet_grown ((go_at_call 32; refine callGrew (specDays2 _ _ _ _ _ _ _ OK.out)))
  go_wp2
  go_ret
  exact ⟨rfl, (hg2.drewN _).more _⟩

theorem specMom_out (y m d h i s : Int) (w : World) (hok : okB y m d h i s = false) :
    Calls Try.prog 15 #[.agg #[.int .i64 y, .int .i64 m, .int .i64 d, .int .i64 h, .int .i64 i, .int .i64 s]] w fun e w' => e = .returned (.int .i64 (-1)) ∧ Grew w w' := by
  go_enter Try.func15, Try.ntmps15
  go_wp2_with (go_at_call 22; refine (specOk _ _ _ _ _ _ _).mono ?_; rintro e x2 ⟨rfl, hb2⟩; rw [hok])
  go_ret
  exact ⟨rfl, ((Grew.refl w).alloc _).trans hb2⟩

theorem specMom (y m d h i s : Int) (w : World) :
    Calls Try.prog 15 #[.agg #[.int .i64 y, .int .i64 m, .int .i64 d, .int .i64 h, .int .i64 i, .int .i64 s]] w fun e w' => e = .returned (.int .i64 (momV y m d h i s)) ∧ Grew w w' := by
  unfold momV
  cases hok : okB y m d h i s
  · exact specMom_out y m d h i s w hok
  · exact specMom_in y m d h i s w hok

set_option maxHeartbeats 1000000 in
theorem implMom_in (y m d h i s : Int) (w : World) (hok : okB y m d h i s = true) :
    Calls Try.prog 12 #[.agg #[.int .i64 y, .int .i64 m, .int .i64 d, .int .i64 h, .int .i64 i, .int .i64 s]] w fun e w' => e = .returned (.int .i64 (momN y m d h i s)) ∧ Grew w w' := by
  have OK : Hid (dayOk y m d) := dayOk_of hok
  have hbd := day_bd OK.out
  have hh : (0 ≤ h ∧ h ≤ 23) ∧ (0 ≤ i ∧ i ≤ 59) ∧ (0 ≤ s ∧ s ≤ 59) := (of_decide_eq_true hok : okD y m d h i s).2.2.2
  have mix := mixed
  have r1 : IntKind.i64.wrap (dayN y m d * 86400) = dayN y m d * 86400 := by rw [IntKind.wrap_i64]; omega
  have r2 : IntKind.i64.wrap (h * 3600) = h * 3600 := by rw [IntKind.wrap_i64]; omega
  have r3 : IntKind.i64.wrap (dayN y m d * 86400 + h * 3600) = dayN y m d * 86400 + h * 3600 := by rw [IntKind.wrap_i64]; omega
  have r4 : IntKind.i64.wrap (i * 60) = i * 60 := by rw [IntKind.wrap_i64]; omega
  have r5 : IntKind.i64.wrap (dayN y m d * 86400 + h * 3600 + i * 60) = dayN y m d * 86400 + h * 3600 + i * 60 := by rw [IntKind.wrap_i64]; omega
  have r6 : IntKind.i64.wrap (dayN y m d * 86400 + h * 3600 + i * 60 + s) = dayN y m d * 86400 + h * 3600 + i * 60 + s := by rw [IntKind.wrap_i64]; omega
  clear hh hbd
  go_enter Try.func12, Try.ntmps12
  go_wp2_with (go_at_call 21; refine (implOk _ _ _ _ _ _ _).mono ?_; rintro e x2 ⟨rfl, hb2⟩; rw [hok]; have hg2 : Grew w x2 := ((Grew.refl w).alloc _).trans hb2; have kk := fun n os => boxCells ((hb2.drewN n).more os); clear hb2)
  have k0 := fun n os => (kk n os).1
  have k1 := fun n os => (kk n os).2.1
  have k2 := fun n os => (kk n os).2.2.1
  have k3 := fun n os => (kk n os).2.2.2.1
  have k4 := fun n os => (kk n os).2.2.2.2.1
  have k5 := fun n os => (kk n os).2.2.2.2.2
  clear kk
  go_quiet_grown ((go_at_call 17; refine callGrew (implDays_in _ _ _ _ _ _ _ OK.out hok)))
  go_wp2
  go_ret
  exact ⟨rfl, (hg2.drewN _).more _⟩

theorem implMom_out (y m d h i s : Int) (w : World) (hok : okB y m d h i s = false) :
    Calls Try.prog 12 #[.agg #[.int .i64 y, .int .i64 m, .int .i64 d, .int .i64 h, .int .i64 i, .int .i64 s]] w fun e w' => e = .returned (.int .i64 (-1)) ∧ Grew w w' := by
  go_enter Try.func12, Try.ntmps12
  go_wp2_with (go_at_call 21; refine (implOk _ _ _ _ _ _ _).mono ?_; rintro e x2 ⟨rfl, hb2⟩; rw [hok])
  go_ret
  exact ⟨rfl, ((Grew.refl w).alloc _).trans hb2⟩

theorem implMom (y m d h i s : Int) (w : World) :
    Calls Try.prog 12 #[.agg #[.int .i64 y, .int .i64 m, .int .i64 d, .int .i64 h, .int .i64 i, .int .i64 s]] w fun e w' => e = .returned (.int .i64 (momV y m d h i s)) ∧ Grew w w' := by
  unfold momV
  cases hok : okB y m d h i s
  · exact implMom_out y m d h i s w hok
  · exact implMom_in y m d h i s w hok
end Go.Proofs.Ytfflifhcbfoliaa
