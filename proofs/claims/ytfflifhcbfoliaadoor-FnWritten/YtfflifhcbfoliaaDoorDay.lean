/-
  The days of a date: the specification's and the program's contracts.
-/
import Derived.Test.YtfflifhcbfoliaaDoorCal
import Derived.Test.YtfflifhcbfoliaaDoorOkI
import Derived.Deep.LoopGhost
namespace Go.Proofs.YtfflifhcbfoliaaDoor
open Go.RowKit Go.Sort

set_option maxHeartbeats 1000000 in
theorem specDays2 (y m d h i s : Int) (w : World) (ok : dayOk y m d) :
    Calls Tryd.prog 39 #[.agg #[.int .i64 y, .int .i64 m, .int .i64 d, .int .i64 h, .int .i64 i, .int .i64 s]] w fun e w' => e = .returned (.int .i64 (dayN y m d)) ∧ Grew w w' := by
  have hy : 1970 ≤ y ∧ y ≤ 9999 := ok.1
  have hm : 1 ≤ m ∧ m ≤ 12 := ok.2.1
  have hd : 1 ≤ d ∧ d ≤ 31 := by have := ok.2.2; have := mdays_bd y m; omega
  have hyr : 0 ≤ yr y ∧ yr y ≤ 2933300 := ⟨yr_nonneg hy.1, yr_top (by omega)⟩
  have r1 : IntKind.i64.wrap (yr y + d) = yr y + d := by rw [IntKind.wrap_i64]; omega
  have r2 : IntKind.i64.wrap (yr y + d - 1) = yr y + d - 1 := by rw [IntKind.wrap_i64]; omega
  clear ok
  have mix := mixed
  have bx := boxed (w := w) (t := 25) (fr := (0, 0)) #[.int .i64 y, .int .i64 m, .int .i64 d, .int .i64 h, .int .i64 i, .int .i64 s]
  have k0 := bx 0
  have k2 := bx 2
  clear bx
  go_enter Tryd.func39, Tryd.ntmps39
  go_wp2
  go_quiet_grown ((go_at_call 50; refine callSame (specYear _ _ (by omega))))
  have c0 := k0 nq osq
  have c1 := (boxed (w := w) (t := 25) (fr := (0, 0)) #[.int .i64 y, .int .i64 m, .int .i64 d, .int .i64 h, .int .i64 i, .int .i64 s]) 1 nq osq
  clear k0 k2 r1 r2
  have hg : Grew w (grow ((w.alloc (.cells #[.int .i64 y, .int .i64 m, .int .i64 d, .int .i64 h, .int .i64 i, .int .i64 s] 25)).drewN nq) osq) := (((Grew.refl w).alloc _).drewN _).more _
  have hz : w.heap.size < (grow ((w.alloc (.cells #[.int .i64 y, .int .i64 m, .int .i64 d, .int .i64 h, .int .i64 i, .int .i64 s] 25)).drewN nq) osq).heap.size := by rw [size_grow]; show w.heap.size < (w.alloc _).heap.size + _; simp; omega
  generalize (grow ((w.alloc (.cells #[.int .i64 y, .int .i64 m, .int .i64 d, .int .i64 h, .int .i64 i, .int .i64 s] 25)).drewN nq) osq) = w1 at c0 c1 hg hz ⊢
  go_wp2
  go_loopw [3, 4] (fun n k wr => ∃ j : Nat, (j : Int) + 1 ≤ m ∧ n = .int .i64 (yr y + d - 1 + cum y j) ∧ k = .int .i64 ((j : Int) + 1) ∧ Grew w1 wr) (fun _ k _ => (13 - (intOf k)).toNat)
  case atStart => exact ⟨0, by omega, by simp [cum], rfl, Grew.refl _⟩
  case round =>
    obtain ⟨j, hj, rfl, rfl, hw⟩ := hrel
    have e0 := hw.cell c0 hz
    have e1 := hw.cell c1 hz
    have hc : 0 ≤ cum y j ∧ cum y j ≤ 366 := ⟨cum_nonneg y j, cum_top y (by omega)⟩
    have hmd := mdays_bd y ((j : Int) + 1)
    by_cases hlt : (j : Int) + 1 < m
    · go_wp2_with (go_at_call 28; refine (specMonth _ _ _ (by omega) (by omega)).mono ?_; rintro e x2 ⟨rfl, hb2⟩)
      go_roundw
      case rel => exact ⟨j + 1, by omega, by simp [cum]; omega, by go_num, hw.trans hb2⟩
      case measure => simp [intOf]; omega
    · go_wp2
      go_ret
      exact ⟨ret_int (by unfold dayN; rw [show (m - 1).toNat = j from by omega]), hg.trans hw⟩

set_option maxHeartbeats 1000000 in
theorem implDays_in (y m d h i s : Int) (w : World) (ok : dayOk y m d) (hok : okB y m d h i s = true) :
    Calls Tryd.prog 31 #[.agg #[.int .i64 y, .int .i64 m, .int .i64 d, .int .i64 h, .int .i64 i, .int .i64 s]] w fun e w' => e = .returned (.int .i64 (dayN y m d)) ∧ Grew w w' := by
  have hy : 1970 ≤ y ∧ y ≤ 9999 := ok.1
  have hm : 1 ≤ m ∧ m ≤ 12 := ok.2.1
  have hd : 1 ≤ d ∧ d ≤ 31 := by have := ok.2.2; have := mdays_bd y m; omega
  have hyr : 0 ≤ yr y ∧ yr y ≤ 2933300 := ⟨yr_nonneg hy.1, yr_top (by omega)⟩
  have r1 : IntKind.i64.wrap (yr y + d) = yr y + d := by rw [IntKind.wrap_i64]; omega
  have r2 : IntKind.i64.wrap (yr y + d - 1) = yr y + d - 1 := by rw [IntKind.wrap_i64]; omega
  clear ok
  have mix := mixed
  have bx := boxed (w := w) (t := 25) (fr := (0, 0)) #[.int .i64 y, .int .i64 m, .int .i64 d, .int .i64 h, .int .i64 i, .int .i64 s]
  have b0 := bx 0 0 #[]
  have b1 := bx 1 0 #[]
  have b2 := bx 2 0 #[]
  rw [grow_empty] at b0 b1 b2
  clear bx
  have hz0 : w.heap.size < (w.alloc (.cells #[.int .i64 y, .int .i64 m, .int .i64 d, .int .i64 h, .int .i64 i, .int .i64 s] 25)).heap.size := by simp
  go_enter Tryd.func31, Tryd.ntmps31
  go_wp2_with (go_at_call 18; refine (implOk _ _ _ _ _ _ _).mono ?_; rintro e x2 ⟨rfl, hb2⟩; rw [hok])
  have k0 : ∀ n os, (grow (x2.drewN n) os).cell? ⟨w.heap.size, 0, none⟩ = some (.int .i64 y) := fun n os => ((hb2.drewN n).more os).cell b0 hz0
  have k1 : ∀ n os, (grow (x2.drewN n) os).cell? ⟨w.heap.size, 1, none⟩ = some (.int .i64 m) := fun n os => ((hb2.drewN n).more os).cell b1 hz0
  have k2 : ∀ n os, (grow (x2.drewN n) os).cell? ⟨w.heap.size, 2, none⟩ = some (.int .i64 d) := fun n os => ((hb2.drewN n).more os).cell b2 hz0
  have hg2 : Grew w x2 := ((Grew.refl w).alloc _).trans hb2
  have hz2 : w.heap.size < x2.heap.size := Nat.lt_of_lt_of_le hz0 hb2.1.size
  clear b0 b1 b2 hb2 hz0
  go_quiet_grown ((go_at_call 42; refine callSame (implYear _ _ (by omega))))
  have c0 := k0 nq osq
  have c1 := k1 nq osq
  clear k0 k1 k2 r1 r2
  have hg : Grew w (grow (x2.drewN nq) osq) := (hg2.drewN _).more _
  have hz : w.heap.size < (grow (x2.drewN nq) osq).heap.size := by rw [size_grow]; exact Nat.lt_of_lt_of_le hz2 (Nat.le_add_right _ _)
  generalize (grow (x2.drewN nq) osq) = w1 at c0 c1 hg hz ⊢
  go_wp2
  go_loopw [3, 4] (fun n k wr => ∃ j : Nat, (j : Int) + 1 ≤ m ∧ n = .int .i64 (yr y + d - 1 + cum y j) ∧ k = .int .i64 ((j : Int) + 1) ∧ Grew w1 wr) (fun _ k _ => (13 - (intOf k)).toNat)
  case atStart => exact ⟨0, by omega, by simp [cum], rfl, Grew.refl _⟩
  case round =>
    obtain ⟨j, hj, rfl, rfl, hw⟩ := hrel
    have e0 := hw.cell c0 hz
    have e1 := hw.cell c1 hz
    have hc : 0 ≤ cum y j ∧ cum y j ≤ 366 := ⟨cum_nonneg y j, cum_top y (by omega)⟩
    have hmd := mdays_bd y ((j : Int) + 1)
    by_cases hlt : (j : Int) + 1 < m
    · go_wp2_with (go_at_call 37; refine (implMonth _ _ _ (by omega) (by omega)).mono ?_; rintro e x2 ⟨rfl, hb2⟩)
      go_roundw
      case rel => exact ⟨j + 1, by omega, by simp [cum]; omega, by go_num, hw.trans hb2⟩
      case measure => simp [intOf]; omega
    · go_wp2
      go_ret
      exact ⟨ret_int (by unfold dayN; rw [show (m - 1).toNat = j from by omega]), hg.trans hw⟩

theorem dayOk_of {y m d h i s : Int} (h : okB y m d h i s = true) : dayOk y m d := by
  have := of_decide_eq_true h
  exact ⟨this.1, this.2.1, this.2.2.1⟩
/-- What Days answers. -/
def dayV (y m d h i s : Int) : Int := if okB y m d h i s = true then dayN y m d else -1
theorem implDays_out (y m d h i s : Int) (w : World) (hok : okB y m d h i s = false) :
    Calls Tryd.prog 31 #[.agg #[.int .i64 y, .int .i64 m, .int .i64 d, .int .i64 h, .int .i64 i, .int .i64 s]] w fun e w' => e = .returned (.int .i64 (-1)) ∧ Grew w w' := by
  go_enter Tryd.func31, Tryd.ntmps31
  go_wp2_with (go_at_call 18; refine (implOk _ _ _ _ _ _ _).mono ?_; rintro e x2 ⟨rfl, hb2⟩; rw [hok])
  go_ret
  exact ⟨rfl, ((Grew.refl w).alloc _).trans hb2⟩
theorem implDays (y m d h i s : Int) (w : World) :
    Calls Tryd.prog 31 #[.agg #[.int .i64 y, .int .i64 m, .int .i64 d, .int .i64 h, .int .i64 i, .int .i64 s]] w fun e w' => e = .returned (.int .i64 (dayV y m d h i s)) ∧ Grew w w' := by
  unfold dayV
  cases hok : okB y m d h i s
  · exact implDays_out y m d h i s w hok
  · exact implDays_in y m d h i s w (dayOk_of hok) hok
end Go.Proofs.YtfflifhcbfoliaaDoor
