/-
  Whether a date is one: the program's contract.
  The days of a date: the specification's and the program's contracts.
  The days, moments and weekdays of dates: the specification's and the program's contracts.
  A date shown: the specification's and the program's contracts.
  Numbers and months read from their texts, and the parts of a date that is shown.
  The parts of a date that is shown.
  The date at a moment: the specification's and the program's contracts.
-/
import Derived.Test.YtkaogmdhjcgcdaaGreatDoorG13
import Derived.Test.YtkaogmdhjcgcdaaGreatDoorG12
import Derived.Test.YtkaogmdhjcgcdaaGreatDoorG15
import Derived.Test.YtkaogmdhjcgcdaaGreatDoorG16
import Derived.Test.YtkaogmdhjcgcdaaGreatDoorG17
import Derived.Test.YtkaogmdhjcgcdaaGreatDoorG18
import Derived.Test.YtkaogmdhjcgcdaaGreatDoorG19
import Derived.BigQuiet
import Derived.Deep.LoopGhost
import Derived.Test.YtkaogmdhjcgcdaaGreatDoorG14
import Derived.Test.YtkaogmdhjcgcdaaGreatDoorShelfG
import Derived.Lib.SmallJoins
namespace Go.Proofs.YtkaogmdhjcgcdaaGreatDoor.Dd
open Go.RowKit Go.Sort


theorem implOk (y m d h i s : Int) (w : World) :
    Calls Tryz.prog 142 #[.agg #[.int .i64 y, .int .i64 m, .int .i64 d, .int .i64 h, .int .i64 i, .int .i64 s]] w fun e w' => e = .returned (.bool (okB y m d h i s)) ∧ Grew w w' := by
  by_cases c0 : 1970 ≤ y
  case neg =>
    have E : okB y m d h i s = false := decide_eq_false (by unfold okD; omega)
    rw [E]
    exact implOk_0 y m d h i s w  (decide_eq_false c0)
  by_cases c1 : y ≤ 9999
  case neg =>
    have E : okB y m d h i s = false := decide_eq_false (by unfold okD; omega)
    rw [E]
    exact implOk_1 y m d h i s w c0 (decide_eq_false c1)
  by_cases c2 : 1 ≤ m
  case neg =>
    have E : okB y m d h i s = false := decide_eq_false (by unfold okD; omega)
    rw [E]
    exact implOk_2 y m d h i s w c0 c1 (decide_eq_false c2)
  by_cases c3 : m ≤ 12
  case neg =>
    have E : okB y m d h i s = false := decide_eq_false (by unfold okD; omega)
    rw [E]
    exact implOk_3 y m d h i s w c0 c1 c2 (decide_eq_false c3)
  by_cases c4 : 1 ≤ d
  case neg =>
    have E : okB y m d h i s = false := decide_eq_false (by unfold okD; omega)
    rw [E]
    exact implOk_4 y m d h i s w c0 c1 c2 c3 (decide_eq_false c4)
  by_cases c5 : d ≤ mdays y m
  case neg =>
    have E : okB y m d h i s = false := decide_eq_false (by unfold okD; omega)
    rw [E]
    exact implOk_5 y m d h i s w c0 c1 c2 c3 c4 (decide_eq_false c5)
  by_cases c6 : 0 ≤ h
  case neg =>
    have E : okB y m d h i s = false := decide_eq_false (by unfold okD; omega)
    rw [E]
    exact implOk_6 y m d h i s w c0 c1 c2 c3 c4 c5 (decide_eq_false c6)
  by_cases c7 : h ≤ 23
  case neg =>
    have E : okB y m d h i s = false := decide_eq_false (by unfold okD; omega)
    rw [E]
    exact implOk_7 y m d h i s w c0 c1 c2 c3 c4 c5 c6 (decide_eq_false c7)
  by_cases c8 : 0 ≤ i
  case neg =>
    have E : okB y m d h i s = false := decide_eq_false (by unfold okD; omega)
    rw [E]
    exact implOk_8 y m d h i s w c0 c1 c2 c3 c4 c5 c6 c7 (decide_eq_false c8)
  by_cases c9 : i ≤ 59
  case neg =>
    have E : okB y m d h i s = false := decide_eq_false (by unfold okD; omega)
    rw [E]
    exact implOk_9 y m d h i s w c0 c1 c2 c3 c4 c5 c6 c7 c8 (decide_eq_false c9)
  by_cases c10 : 0 ≤ s
  case neg =>
    have E : okB y m d h i s = false := decide_eq_false (by unfold okD; omega)
    rw [E]
    exact implOk_10 y m d h i s w c0 c1 c2 c3 c4 c5 c6 c7 c8 c9 (decide_eq_false c10)
  have E : okB y m d h i s = decide (s ≤ 59) := by
    unfold okB
    by_cases c : s ≤ 59
    · rw [decide_eq_true c]; exact decide_eq_true (by unfold okD; omega)
    · rw [decide_eq_false c]; exact decide_eq_false (by unfold okD; omega)
  rw [E]
  exact implOk_11 y m d h i s w c0 c1 c2 c3 c4 c5 c6 c7 c8 c9 c10
end Go.Proofs.YtkaogmdhjcgcdaaGreatDoor.Dd
namespace Go.Proofs.YtkaogmdhjcgcdaaGreatDoor.Dd
open Go.RowKit Go.Sort

set_option maxHeartbeats 1000000 in
theorem specDays2 (y m d h i s : Int) (w : World) (ok : dayOk y m d) :
    Calls Tryz.prog 123 #[.agg #[.int .i64 y, .int .i64 m, .int .i64 d, .int .i64 h, .int .i64 i, .int .i64 s]] w fun e w' => e = .returned (.int .i64 (dayN y m d)) ∧ Grew w w' := by
  have hy : 1970 ≤ y ∧ y ≤ 9999 := ok.1
  have hm : 1 ≤ m ∧ m ≤ 12 := ok.2.1
  have hd : 1 ≤ d ∧ d ≤ 31 := by have := ok.2.2; have := mdays_bd y m; omega
  have hyr : 0 ≤ yr y ∧ yr y ≤ 2933300 := ⟨yr_nonneg hy.1, yr_top (by omega)⟩
  have r1 : IntKind.i64.wrap (yr y + d) = yr y + d := by rw [IntKind.wrap_i64]; omega
  have r2 : IntKind.i64.wrap (yr y + d - 1) = yr y + d - 1 := by rw [IntKind.wrap_i64]; omega
  clear ok
  have mix := mixed
  have bx := boxed (w := w) (t := 121) (fr := (0, 0)) #[.int .i64 y, .int .i64 m, .int .i64 d, .int .i64 h, .int .i64 i, .int .i64 s]
  have k0 := bx 0
  have k2 := bx 2
  clear bx
  go_enter Tryz.func123, Tryz.ntmps123
  go_wp2
  go_quiet_grown ((go_at_call 148; refine callSame (specYear _ _ (by omega))))
  have c0 := k0 nq osq
  have c1 := (boxed (w := w) (t := 121) (fr := (0, 0)) #[.int .i64 y, .int .i64 m, .int .i64 d, .int .i64 h, .int .i64 i, .int .i64 s]) 1 nq osq
  clear k0 k2 r1 r2
  have hg : Grew w (grow ((w.alloc (.cells #[.int .i64 y, .int .i64 m, .int .i64 d, .int .i64 h, .int .i64 i, .int .i64 s] 121)).drewN nq) osq) := (((Grew.refl w).alloc _).drewN _).more _
  have hz : w.heap.size < (grow ((w.alloc (.cells #[.int .i64 y, .int .i64 m, .int .i64 d, .int .i64 h, .int .i64 i, .int .i64 s] 121)).drewN nq) osq).heap.size := by rw [size_grow]; show w.heap.size < (w.alloc _).heap.size + _; simp; omega
  generalize (grow ((w.alloc (.cells #[.int .i64 y, .int .i64 m, .int .i64 d, .int .i64 h, .int .i64 i, .int .i64 s] 121)).drewN nq) osq) = w1 at c0 c1 hg hz ⊢
  go_wp2
  go_loopw [3, 4] (fun n k wr => ∃ j : Nat, (j : Int) + 1 ≤ m ∧ n = .int .i64 (yr y + d - 1 + cum y j) ∧ k = .int .i64 ((j : Int) + 1) ∧ Grew w1 wr) (fun _ k _ => (13 - (intOf k)).toNat)
  case atStart => exact ⟨0, by omega, by simp [cum], rfl, Grew.refl _⟩
  case round =>
    obtain ⟨j, hj, rfl, rfl, hw⟩ := hrel
    have e0 := hw.cell c0 hz
    have e1 := hw.cell c1 hz
    have hc : 0 ≤ cum y j ∧ cum y j ≤ 366 := ⟨cum_nonneg y j, cum_top y (by omega)⟩
    have hmd := mdays_bd y ((j : Int) + 1)
    by_cases hlt : (j : Int) + 1 < m
    · go_wp2_with (go_at_call 147; refine (specMonth _ _ _ (by omega) (by omega)).mono ?_; rintro e x2 ⟨rfl, hb2⟩)
      go_roundw
      case rel => exact ⟨j + 1, by omega, by simp [cum]; omega, by go_num, hw.trans hb2⟩
      case measure => simp [intOf]; omega
    · go_wp2
      go_ret
      exact ⟨ret_int (by unfold dayN; rw [show (m - 1).toNat = j from by omega]), hg.trans hw⟩

set_option maxHeartbeats 1000000 in
theorem implDays_in (y m d h i s : Int) (w : World) (ok : dayOk y m d) (hok : okB y m d h i s = true) :
    Calls Tryz.prog 143 #[.agg #[.int .i64 y, .int .i64 m, .int .i64 d, .int .i64 h, .int .i64 i, .int .i64 s]] w fun e w' => e = .returned (.int .i64 (dayN y m d)) ∧ Grew w w' := by
  have hy : 1970 ≤ y ∧ y ≤ 9999 := ok.1
  have hm : 1 ≤ m ∧ m ≤ 12 := ok.2.1
  have hd : 1 ≤ d ∧ d ≤ 31 := by have := ok.2.2; have := mdays_bd y m; omega
  have hyr : 0 ≤ yr y ∧ yr y ≤ 2933300 := ⟨yr_nonneg hy.1, yr_top (by omega)⟩
  have r1 : IntKind.i64.wrap (yr y + d) = yr y + d := by rw [IntKind.wrap_i64]; omega
  have r2 : IntKind.i64.wrap (yr y + d - 1) = yr y + d - 1 := by rw [IntKind.wrap_i64]; omega
  clear ok
  have mix := mixed
  have bx := boxed (w := w) (t := 121) (fr := (0, 0)) #[.int .i64 y, .int .i64 m, .int .i64 d, .int .i64 h, .int .i64 i, .int .i64 s]
  have b0 := bx 0 0 #[]
  have b1 := bx 1 0 #[]
  have b2 := bx 2 0 #[]
  rw [grow_empty] at b0 b1 b2
  clear bx
  have hz0 : w.heap.size < (w.alloc (.cells #[.int .i64 y, .int .i64 m, .int .i64 d, .int .i64 h, .int .i64 i, .int .i64 s] 121)).heap.size := by simp
  go_enter Tryz.func143, Tryz.ntmps143
  go_wp2_with (go_at_call 142; refine (implOk _ _ _ _ _ _ _).mono ?_; rintro e x2 ⟨rfl, hb2⟩; rw [hok])
  have k0 : ∀ n os, (grow (x2.drewN n) os).cell? ⟨w.heap.size, 0, none⟩ = some (.int .i64 y) := fun n os => ((hb2.drewN n).more os).cell b0 hz0
  have k1 : ∀ n os, (grow (x2.drewN n) os).cell? ⟨w.heap.size, 1, none⟩ = some (.int .i64 m) := fun n os => ((hb2.drewN n).more os).cell b1 hz0
  have k2 : ∀ n os, (grow (x2.drewN n) os).cell? ⟨w.heap.size, 2, none⟩ = some (.int .i64 d) := fun n os => ((hb2.drewN n).more os).cell b2 hz0
  have hg2 : Grew w x2 := ((Grew.refl w).alloc _).trans hb2
  have hz2 : w.heap.size < x2.heap.size := Nat.lt_of_lt_of_le hz0 hb2.1.size
  clear b0 b1 b2 hb2 hz0
  go_quiet_grown ((go_at_call 174; refine callSame (implYear _ _ (by omega))))
  have c0 := k0 nq osq
  have c1 := k1 nq osq
  clear k0 k1 k2 r1 r2
  have hg : Grew w (grow (x2.drewN nq) osq) := (hg2.drewN _).more _
  have hz : w.heap.size < (grow (x2.drewN nq) osq).heap.size := by rw [size_grow]; exact Nat.lt_of_lt_of_le hz2 (Nat.le_add_right _ _)
  generalize (grow (x2.drewN nq) osq) = w1 at c0 c1 hg hz ⊢
  go_wp2
  go_loopw [3, 4] (fun n k wr => ∃ j : Nat, (j : Int) + 1 ≤ m ∧ n = .int .i64 (yr y + d - 1 + cum y j) ∧ k = .int .i64 ((j : Int) + 1) ∧ Grew w1 wr) (fun _ k _ => (13 - (intOf k)).toNat)
  case atStart => exact ⟨0, by omega, by simp [cum], rfl, Grew.refl _⟩
  case round =>
    obtain ⟨j, hj, rfl, rfl, hw⟩ := hrel
    have e0 := hw.cell c0 hz
    have e1 := hw.cell c1 hz
    have hc : 0 ≤ cum y j ∧ cum y j ≤ 366 := ⟨cum_nonneg y j, cum_top y (by omega)⟩
    have hmd := mdays_bd y ((j : Int) + 1)
    by_cases hlt : (j : Int) + 1 < m
    · go_wp2_with (go_at_call 173; refine (implMonth _ _ _ (by omega) (by omega)).mono ?_; rintro e x2 ⟨rfl, hb2⟩)
      go_roundw
      case rel => exact ⟨j + 1, by omega, by simp [cum]; omega, by go_num, hw.trans hb2⟩
      case measure => simp [intOf]; omega
    · go_wp2
      go_ret
      exact ⟨ret_int (by unfold dayN; rw [show (m - 1).toNat = j from by omega]), hg.trans hw⟩

theorem dayOk_of {y m d h i s : Int} (h : okB y m d h i s = true) : dayOk y m d := by
  have := of_decide_eq_true h
  exact ⟨this.1, this.2.1, this.2.2.1⟩
end Go.Proofs.YtkaogmdhjcgcdaaGreatDoor.Dd
namespace Go.Proofs.YtkaogmdhjcgcdaaGreatDoor.Dd
open Go.RowKit Go.Sort

/-- The cells of what is boxed, behind a call. -/
theorem boxCells {w x : World} {t : TypeId} {a b c d e f : Value} (hb : Grew (w.alloc (.cells #[a, b, c, d, e, f] t)) x) :
    x.cell? ⟨w.heap.size, 0, none⟩ = some a ∧ x.cell? ⟨w.heap.size, 1, none⟩ = some b ∧ x.cell? ⟨w.heap.size, 2, none⟩ = some c ∧ x.cell? ⟨w.heap.size, 3, none⟩ = some d ∧ x.cell? ⟨w.heap.size, 4, none⟩ = some e ∧ x.cell? ⟨w.heap.size, 5, none⟩ = some f := by
  have hB : w.heap.size < (w.alloc (.cells #[a, b, c, d, e, f] t)).heap.size := by simp
  have k : ∀ j, (w.alloc (.cells #[a, b, c, d, e, f] t)).cell? ⟨w.heap.size, j, none⟩ = #[a, b, c, d, e, f][j]? := fun j => World.cell?_alloc_mark w _ t _ j
  exact ⟨hb.cell (k 0) hB, hb.cell (k 1) hB, hb.cell (k 2) hB, hb.cell (k 3) hB, hb.cell (k 4) hB, hb.cell (k 5) hB⟩

/-- What Moment answers. -/
def momV (y m d h i s : Int) : Int := if okB y m d h i s = true then momN y m d h i s else -1

theorem specWk_in (y m d h i s : Int) (w : World) (hok : okB y m d h i s = true) :
    Calls Tryz.prog 145 #[.agg #[.int .i64 y, .int .i64 m, .int .i64 d, .int .i64 h, .int .i64 i, .int .i64 s]] w fun e w' => e = .returned (.int .i64 ((dayN y m d + 4) % 7)) ∧ Grew w w' := by
  have OK : Hid (dayOk y m d) := dayOk_of hok
  have hbd := day_bd OK.out
  go_enter Tryz.func145, Tryz.ntmps145
  go_wp2_with (first | (go_at_call 122; refine (specOk _ _ _ _ _ _ _).mono ?_; rintro e x2 ⟨rfl, hb2⟩; rw [hok]; have hg2 : Grew w x2 := ((Grew.refl w).alloc _).trans hb2; obtain ⟨c0, c1, c2, c3, c4, c5⟩ := boxCells hb2; clear hb2) | (go_at_call 123; refine (specDays2 _ _ _ _ _ _ _ OK.out).mono ?_; rintro e x3 ⟨rfl, hb3⟩))
  go_ret
  exact ⟨rfl, hg2.trans hb3⟩

theorem implWk_in (y m d h i s : Int) (w : World) (hok : okB y m d h i s = true) :
    Calls Tryz.prog 170 #[.agg #[.int .i64 y, .int .i64 m, .int .i64 d, .int .i64 h, .int .i64 i, .int .i64 s]] w fun e w' => e = .returned (.int .i64 ((dayN y m d + 4) % 7)) ∧ Grew w w' := by
  have OK : Hid (dayOk y m d) := dayOk_of hok
  have hbd := day_bd OK.out
  go_enter Tryz.func170, Tryz.ntmps170
  go_wp2_with (first | (go_at_call 142; refine (implOk _ _ _ _ _ _ _).mono ?_; rintro e x2 ⟨rfl, hb2⟩; rw [hok]; have hg2 : Grew w x2 := ((Grew.refl w).alloc _).trans hb2; obtain ⟨c0, c1, c2, c3, c4, c5⟩ := boxCells hb2; clear hb2) | (go_at_call 143; refine (implDays_in _ _ _ _ _ _ _ OK.out hok).mono ?_; rintro e x3 ⟨rfl, hb3⟩))
  go_ret
  exact ⟨rfl, hg2.trans hb3⟩

end Go.Proofs.YtkaogmdhjcgcdaaGreatDoor.Dd
namespace Go.Proofs.YtkaogmdhjcgcdaaGreatDoor.Dd
open Go.RowKit Go.Sort

theorem wkN_size (k : Int) : (wkN k).size = 3 := by
  unfold wkN
  repeat' split
  all_goals rfl
theorem moN_size (m : Int) : (moN m).size = 3 := by
  unfold moN
  repeat' split
  all_goals rfl
/-- A date as it is shown. -/
def showA (y m d h i s : Int) : ByteArray := wkN ((dayN y m d + 4) % 7) ++ ⟨#[44, 32]⟩ ++ two d ++ ⟨#[32]⟩ ++ moN m ++ ⟨#[32]⟩ ++ two (y / 100) ++ two y ++ ⟨#[32]⟩ ++ two h ++ ⟨#[58]⟩ ++ two i ++ ⟨#[58]⟩ ++ two s ++ ⟨#[32, 71, 77, 84]⟩
/-- What ShowDate answers. -/
def showV (y m d h i s : Int) : ByteArray := if okB y m d h i s = true then showA y m d h i s else ⟨#[]⟩
theorem specWkIs {y m d h i s k : Int} (ok : okB y m d h i s = true) (hk : (dayN y m d + 4) % 7 = k) (w : World) :
    Calls Tryz.prog 145 #[.agg #[.int .i64 y, .int .i64 m, .int .i64 d, .int .i64 h, .int .i64 i, .int .i64 s]] w fun e w' => e = .returned (.int .i64 k) ∧ Grew w w' := hk ▸ specWk_in y m d h i s w ok
theorem implWkIs {y m d h i s k : Int} (ok : okB y m d h i s = true) (hk : (dayN y m d + 4) % 7 = k) (w : World) :
    Calls Tryz.prog 170 #[.agg #[.int .i64 y, .int .i64 m, .int .i64 d, .int .i64 h, .int .i64 i, .int .i64 s]] w fun e w' => e = .returned (.int .i64 k) ∧ Grew w w' := hk ▸ implWk_in y m d h i s w ok

set_option maxHeartbeats 4000000 in
theorem specShow_in (y m d h i s : Int) (w : World) (hok : okB y m d h i s = true) :
    Calls Tryz.prog 121 #[.agg #[.int .i64 y, .int .i64 m, .int .i64 d, .int .i64 h, .int .i64 i, .int .i64 s]] w fun e w' => e = .returned (.string (showA y m d h i s)) ∧ Grew w w' := by
  have ok : okD y m d h i s := of_decide_eq_true hok
  have hd31 := mdays_bd y m
  have OK : Hid (okD y m d h i s ∧ okB y m d h i s = true) := ⟨ok, hok⟩
  have hy : 1970 ≤ y ∧ y ≤ 9999 := ok.1
  have hm : 1 ≤ m ∧ m ≤ 12 := ok.2.1
  have hd : 1 ≤ d ∧ d ≤ 31 := by have := ok.2.2.1; omega
  have hhh : 0 ≤ h ∧ h ≤ 23 := ok.2.2.2.1
  have hi : 0 ≤ i ∧ i ≤ 59 := ok.2.2.2.2.1
  have hs : 0 ≤ s ∧ s ≤ 59 := ok.2.2.2.2.2
  obtain ⟨k, hk⟩ : ∃ k, k = (dayN y m d + 4) % 7 := ⟨_, rfl⟩
  have hkb : 0 ≤ k ∧ k ≤ 6 := by omega
  have HK : Hid ((dayN y m d + 4) % 7 = k) := hk.symm
  have mix := mixed
  have s1 := wkN_size k
  have s2 := moN_size m
  have s3 := two_size
  have hq : y.tdiv 100 = y / 100 := Int.tdiv_eq_ediv_of_nonneg (by omega)
  clear ok hk hd31
  go_enter Tryz.func121, Tryz.ntmps121
  go_wp2_with (go_at_call 122; refine (specOk _ _ _ _ _ _ _).mono ?_; rintro e x2 ⟨rfl, hb2⟩; rw [hok]; have hg2 : Grew w x2 := ((Grew.refl w).alloc _).trans hb2; have kk := fun n os => boxCells ((hb2.drewN n).more os); clear hb2)
  have k0 := fun n os => (kk n os).1
  have k1 := fun n os => (kk n os).2.1
  have k2 := fun n os => (kk n os).2.2.1
  have k3 := fun n os => (kk n os).2.2.2.1
  have k4 := fun n os => (kk n os).2.2.2.2.1
  have k5 := fun n os => (kk n os).2.2.2.2.2
  clear kk hok
  refine wp_region_quiet_grown mix (by kernel_rfl) ?_
  repeat (go_big_quiet_step (first | (go_at_call 145; exact callGrew (specWkIs OK.out.2 HK.out _)) | (go_at_call 144; exact callSame (specWkN _ _ hkb.1 hkb.2)) | (go_at_call 146; exact callGrew (specTwo _ _ (by omega) (by omega))) | (go_at_call 120; exact callSame (specMoN _ _ hm.1 hm.2))))
  refine wpQuiet_nil ?_
  intro _ hw'
  obtain ⟨⟨nq, osq⟩, hw''⟩ := hw'
  subst hw''
  go_wp2_with fail
  go_ret
  exact ⟨ret_str (by unfold showA; rw [HK.out]), (hg2.drewN _).more _⟩

/-- The library's table of powers of ten lies as its text lays it. -/
def Tab (w : World) : Prop := Lib.TabIs Tryz.prog w "internal/strconv.uint64pow10" .u64 Lib.pow10Tab
theorem gPow : Tryz.prog.globalNamed "internal/strconv.uint64pow10" = some 1 := by kernel_rfl
theorem Tab.low {w w' : World} (h : Tab w) (hb : Below w.heap.size w w') : Tab w' := Go.Joins.tab_stays gPow h hb (Nat.le_refl _)
theorem Tab.grew {w w' : World} (h : Tab w) (hb : Grew w w') : Tab w' := h.low hb.low
theorem yearIs {y : Int} {w : World} (h1 : 1970 ≤ y) (h2 : y ≤ 9999) (ht : Tab w) : Calls Tryz.prog 172 #[.int .i64 y, .int .i64 10] w fun e w' => e = .returned (.string (two (y / 100) ++ two y)) ∧ ∃ k os, w' = grow (w.drewN k) os := by
  rw [← itoa_year h1 h2]
  exact Tryz.formatInt y (by omega) (by omega) w ht

set_option maxHeartbeats 4000000 in
theorem implShow_in (y m d h i s : Int) (w : World) (hok : okB y m d h i s = true) (ht : Tab w) :
    Calls Tryz.prog 141 #[.agg #[.int .i64 y, .int .i64 m, .int .i64 d, .int .i64 h, .int .i64 i, .int .i64 s]] w fun e w' => e = .returned (.string (showA y m d h i s)) ∧ Grew w w' := by
  have ok : okD y m d h i s := of_decide_eq_true hok
  have hd31 := mdays_bd y m
  have OK : Hid (okD y m d h i s ∧ okB y m d h i s = true) := ⟨ok, hok⟩
  have hy : 1970 ≤ y ∧ y ≤ 9999 := ok.1
  have hm : 1 ≤ m ∧ m ≤ 12 := ok.2.1
  have hd : 1 ≤ d ∧ d ≤ 31 := by have := ok.2.2.1; omega
  have hhh : 0 ≤ h ∧ h ≤ 23 := ok.2.2.2.1
  have hi : 0 ≤ i ∧ i ≤ 59 := ok.2.2.2.2.1
  have hs : 0 ≤ s ∧ s ≤ 59 := ok.2.2.2.2.2
  obtain ⟨k, hk⟩ : ∃ k, k = (dayN y m d + 4) % 7 := ⟨_, rfl⟩
  have hkb : 0 ≤ k ∧ k ≤ 6 := by omega
  have HK : Hid ((dayN y m d + 4) % 7 = k) := hk.symm
  have mix := mixed
  have s1 := wkN_size k
  have s2 := moN_size m
  have s3 := two_size
  have s4 : (two (y / 100) ++ two y).size = 4 := by rw [ByteArray.size_append, two_size, two_size]
  clear ok hk hd31
  go_enter Tryz.func141, Tryz.ntmps141
  go_wp2_with (go_at_call 142; refine (implOk _ _ _ _ _ _ _).mono ?_; rintro e x2 ⟨rfl, hb2⟩; rw [hok]; have hg2 : Grew w x2 := ((Grew.refl w).alloc _).trans hb2; have ht2 := fun n os => ht.grew ((hg2.drewN n).more os); have kk := fun n os => boxCells ((hb2.drewN n).more os); clear hb2)
  have k0 := fun n os => (kk n os).1
  have k1 := fun n os => (kk n os).2.1
  have k2 := fun n os => (kk n os).2.2.1
  have k3 := fun n os => (kk n os).2.2.2.1
  have k4 := fun n os => (kk n os).2.2.2.2.1
  have k5 := fun n os => (kk n os).2.2.2.2.2
  have HT2 : Hid (∀ n os, Tab (grow (x2.drewN n) os)) := ht2
  clear kk hok ht2 ht
  refine wp_region_quiet_grown mix (by kernel_rfl) ?_
  repeat (go_big_quiet_step (first | (go_at_call 170; exact callGrew (implWkIs OK.out.2 HK.out _)) | (go_at_call 169; exact callGrew (implWkN _ _ hkb.1 hkb.2)) | (go_at_call 171; exact callGrew (implTwo _ _ (by omega) (by omega))) | (go_at_call 168; exact callGrew (implMoN _ _ hm.1 hm.2)) | (go_at_call 172; exact Calls.grown_of (yearIs hy.1 hy.2 (HT2.out _ _)))))
  refine wpQuiet_nil ?_
  intro _ hw'
  obtain ⟨⟨nq, osq⟩, hw''⟩ := hw'
  subst hw''
  go_wp2_with fail
  go_ret
  exact ⟨ret_str (by unfold showA; rw [HK.out]; simp only [ByteArray.append_assoc]), (hg2.drewN _).more _⟩

theorem specShow_out (y m d h i s : Int) (w : World) (hok : okB y m d h i s = false) :
    Calls Tryz.prog 121 #[.agg #[.int .i64 y, .int .i64 m, .int .i64 d, .int .i64 h, .int .i64 i, .int .i64 s]] w fun e w' => e = .returned (.string ⟨#[]⟩) ∧ Grew w w' := by
  go_enter Tryz.func121, Tryz.ntmps121
  go_wp2_with (go_at_call 122; refine (specOk _ _ _ _ _ _ _).mono ?_; rintro e x2 ⟨rfl, hb2⟩; rw [hok])
  go_ret
  exact ⟨rfl, ((Grew.refl w).alloc _).trans hb2⟩
theorem specShow (y m d h i s : Int) (w : World) :
    Calls Tryz.prog 121 #[.agg #[.int .i64 y, .int .i64 m, .int .i64 d, .int .i64 h, .int .i64 i, .int .i64 s]] w fun e w' => e = .returned (.string (showV y m d h i s)) ∧ Grew w w' := by
  unfold showV
  cases hok : okB y m d h i s
  · exact specShow_out y m d h i s w hok
  · exact specShow_in y m d h i s w hok

theorem implShow_out (y m d h i s : Int) (w : World) (hok : okB y m d h i s = false) :
    Calls Tryz.prog 141 #[.agg #[.int .i64 y, .int .i64 m, .int .i64 d, .int .i64 h, .int .i64 i, .int .i64 s]] w fun e w' => e = .returned (.string ⟨#[]⟩) ∧ Grew w w' := by
  go_enter Tryz.func141, Tryz.ntmps141
  go_wp2_with (go_at_call 142; refine (implOk _ _ _ _ _ _ _).mono ?_; rintro e x2 ⟨rfl, hb2⟩; rw [hok])
  go_ret
  exact ⟨rfl, ((Grew.refl w).alloc _).trans hb2⟩
theorem implShow (y m d h i s : Int) (w : World) (ht : Tab w) :
    Calls Tryz.prog 141 #[.agg #[.int .i64 y, .int .i64 m, .int .i64 d, .int .i64 h, .int .i64 i, .int .i64 s]] w fun e w' => e = .returned (.string (showV y m d h i s)) ∧ Grew w w' := by
  unfold showV
  cases hok : okB y m d h i s
  · exact implShow_out y m d h i s w hok
  · exact implShow_in y m d h i s w hok ht
end Go.Proofs.YtkaogmdhjcgcdaaGreatDoor.Dd
namespace Go.Proofs.YtkaogmdhjcgcdaaGreatDoor.Dd
open Go.RowKit Go.Sort

/-- The number of a month's name, nought where it is none. -/
def monV (t : ByteArray) : Int := if moN 1 = t then 1 else if moN 2 = t then 2 else if moN 3 = t then 3 else if moN 4 = t then 4 else if moN 5 = t then 5 else if moN 6 = t then 6 else if moN 7 = t then 7 else if moN 8 = t then 8 else if moN 9 = t then 9 else if moN 10 = t then 10 else if moN 11 = t then 11 else if moN 12 = t then 12 else 0
theorem monV_bd (t : ByteArray) : 0 ≤ monV t ∧ monV t ≤ 12 := by
  unfold monV
  repeat' split
  all_goals omega
theorem monV_of {k : Int} (h1 : 1 ≤ k) (h2 : k ≤ 12) : monV (moN k) = k := by
  rcases months h1 h2 with rfl | rfl | rfl | rfl | rfl | rfl | rfl | rfl | rfl | rfl | rfl | rfl <;> decide
theorem monV_out {t : ByteArray} {k : Int} (h1 : 1 ≤ k) (h : monV t = k) : moN k = t := by
  unfold monV at h
  by_cases h1' : moN 1 = t
  · rw [if_pos h1'] at h; subst h; exact h1'
  rw [if_neg h1'] at h
  by_cases h2' : moN 2 = t
  · rw [if_pos h2'] at h; subst h; exact h2'
  rw [if_neg h2'] at h
  by_cases h3' : moN 3 = t
  · rw [if_pos h3'] at h; subst h; exact h3'
  rw [if_neg h3'] at h
  by_cases h4' : moN 4 = t
  · rw [if_pos h4'] at h; subst h; exact h4'
  rw [if_neg h4'] at h
  by_cases h5' : moN 5 = t
  · rw [if_pos h5'] at h; subst h; exact h5'
  rw [if_neg h5'] at h
  by_cases h6' : moN 6 = t
  · rw [if_pos h6'] at h; subst h; exact h6'
  rw [if_neg h6'] at h
  by_cases h7' : moN 7 = t
  · rw [if_pos h7'] at h; subst h; exact h7'
  rw [if_neg h7'] at h
  by_cases h8' : moN 8 = t
  · rw [if_pos h8'] at h; subst h; exact h8'
  rw [if_neg h8'] at h
  by_cases h9' : moN 9 = t
  · rw [if_pos h9'] at h; subst h; exact h9'
  rw [if_neg h9'] at h
  by_cases h10' : moN 10 = t
  · rw [if_pos h10'] at h; subst h; exact h10'
  rw [if_neg h10'] at h
  by_cases h11' : moN 11 = t
  · rw [if_pos h11'] at h; subst h; exact h11'
  rw [if_neg h11'] at h
  by_cases h12' : moN 12 = t
  · rw [if_pos h12'] at h; subst h; exact h12'
  rw [if_neg h12'] at h
  omega
theorem bytes_ne {a b : ByteArray} (h : a ≠ b) : (a.toList == b.toList) = false := by
  rw [ByteArray.toList_eq, ByteArray.toList_eq]
  refine beq_eq_false_iff_ne.2 fun e => h ?_
  have : a.data = b.data := Array.ext' e
  cases a; cases b; exact congrArg _ this
theorem bytes_eq {a b : ByteArray} (h : a = b) : (a.toList == b.toList) = true := by subst h; simp
theorem monV_not {t : ByteArray} {k : Int} (h1 : 1 ≤ k) (h : moN k ≠ t) : monV t ≠ k := fun e => h (monV_out h1 e)
theorem monV_yes {t : ByteArray} {k : Int} (h1 : 1 ≤ k) (h2 : k ≤ 12) (h : moN k = t) : monV t = k := by subst h; exact monV_of h1 h2

theorem digNought (s : ByteArray) (w : World) (hs : s.size ≤ maxLen) :
    Calls Tryz.prog 139 #[.string s] w fun e w' => e = .returned (.int .i64 (numV 10 15 s)) ∧ Grew w w' := by
  go_enter Tryz.func139, Tryz.ntmps139
  go_wp2_with (go_at_call 149; refine (implDig _ _ hs).mono ?_; rintro e x2 ⟨rfl, hb2⟩; unfold numE)
  go_ret
  exact ⟨rfl, hb2⟩

set_option maxHeartbeats 1000000 in
theorem monNamed (t : ByteArray) (w : World) :
    Calls Tryz.prog 140 #[.string t] w fun e w' => e = .returned (.int .i64 (monV t)) ∧ Grew w w' := by
  go_enter Tryz.func140, Tryz.ntmps140
  go_wp2
  go_loopw [3] (fun v wr => ∃ k : Int, v = .int .i64 k ∧ 1 ≤ k ∧ k ≤ 13 ∧ Hid (∀ j, 1 ≤ j → j < k → monV t ≠ j) ∧ Grew w wr) (fun v _ => (14 - intOf v).toNat)
  case atStart => exact ⟨1, rfl, by omega, by omega, fun j h1 h2 => by omega, Grew.refl _⟩
  case round =>
    obtain ⟨k, rfl, hk1, hk2, hno, hw⟩ := hrel
    by_cases hle : k ≤ 12
    · by_cases he : moN k = t
      · have hv := monV_yes hk1 hle he
        have HV : Hid (monV t = k) := hv
        have hq := bytes_eq he
        clear he
        clear hv
        go_wp2_with (go_at_call 168; refine (implMoN _ _ hk1 hle).mono ?_; rintro e x2 ⟨rfl, hb2⟩)
        go_ret
        exact ⟨ret_int HV.out.symm, hw.trans hb2⟩
      · have hv := monV_not hk1 he
        have HV : Hid (monV t ≠ k) := hv
        have hq := bytes_ne he
        clear he
        clear hv
        go_wp2_with (go_at_call 168; refine (implMoN _ _ hk1 hle).mono ?_; rintro e x2 ⟨rfl, hb2⟩)
        go_roundw
        case rel => exact ⟨k + 1, rfl, by omega, by omega, fun j h1 h2 => by by_cases e : j = k; (· rw [e]; exact HV.out); exact hno.out j h1 (by omega), hw.trans hb2⟩
        case measure => simp [intOf]; omega
    · have hz : monV t = 0 := by
        have h1 := monV_bd t
        by_cases h : monV t = 0
        · exact h
        · exact absurd rfl (hno.out (monV t) (by omega) (by omega))
      have HZ : Hid (monV t = 0) := hz
      clear hz
      go_wp2
      go_ret
      exact ⟨ret_int HZ.out.symm, hw⟩
end Go.Proofs.YtkaogmdhjcgcdaaGreatDoor.Dd
namespace Go.Proofs.YtkaogmdhjcgcdaaGreatDoor.Dd
open Go.RowKit

theorem three {s : ByteArray} (h : s.size = 3) : ∃ a b c, s = ⟨#[a, b, c]⟩ := by
  obtain ⟨⟨l⟩⟩ := s
  match l, h with
  | [a, b, c], _ => exact ⟨a, b, c, rfl⟩
theorem showA_is (y m d h i s : Int) : ∃ a b c p q r, moN m = ⟨#[p, q, r]⟩ ∧ showA y m d h i s = ⟨#[a, b, c, 44, 32, dgt (d / 10), dgt d, 32, p, q, r, 32, dgt (y / 100 / 10), dgt (y / 100), dgt (y / 10), dgt y, 32, dgt (h / 10), dgt h, 58, dgt (i / 10), dgt i, 58, dgt (s / 10), dgt s, 32, 71, 77, 84]⟩ := by
  obtain ⟨a, b, c, h1⟩ := three (wkN_size ((dayN y m d + 4) % 7))
  obtain ⟨p, q, r, h2⟩ := three (moN_size m)
  refine ⟨a, b, c, p, q, r, h2, ?_⟩
  unfold showA
  rw [h1, h2]
  rfl
theorem showA_size (y m d h i s : Int) : (showA y m d h i s).size = 29 := by
  obtain ⟨a, b, c, p, q, r, _, e⟩ := showA_is y m d h i s
  rw [e]; rfl
theorem dig_of (n : Int) : digV ((dgt n).toNat : Int) = n % 10 := by
  rw [dgt_nat, digV_d (by omega)]; omega
theorem digN_of (n : Int) : digN 10 ((dgt n).toNat : Int) = true := digN_yes (by rw [dig_of]; omega) (by rw [dig_of]; omega)
theorem two_num {n : Int} (h0 : 0 ≤ n) (h1 : n ≤ 99) : numV 10 15 (two n) = n := by
  have ok : numOk 10 15 (two n) = true := numOk_in (by rw [two_size]; omega) (by rw [two_size]; omega) (by simp [two, allB, digN_of])
  rw [num_yes ok]
  simp only [two, numL, List.foldl, dig_of]
  omega
theorem four_num {n : Int} (h0 : 0 ≤ n) (h1 : n ≤ 9999) : numV 10 15 ⟨#[dgt (n / 100 / 10), dgt (n / 100), dgt (n / 10), dgt n]⟩ = n := by
  have ok : numOk 10 15 ⟨#[dgt (n / 100 / 10), dgt (n / 100), dgt (n / 10), dgt n]⟩ = true := numOk_in (show 1 ≤ 4 by omega) (show 4 ≤ 15 by omega) (by simp [allB, digN_of])
  rw [num_yes ok]
  simp only [numL, List.foldl, dig_of]
  omega
/-- What the fixed places of a text hold. -/
theorem parts_of {y m d h i s : Int} (ok : okD y m d h i s) {t : ByteArray} (e : showA y m d h i s = t) :
    numV 10 15 (t.extract 12 16) = y ∧ monV (t.extract 8 11) = m ∧ numV 10 15 (t.extract 5 7) = d ∧ numV 10 15 (t.extract 17 19) = h ∧ numV 10 15 (t.extract 20 22) = i ∧ numV 10 15 (t.extract 23 25) = s ∧ numV 10 15 (t.extract 12 14) = y / 100 ∧ numV 10 15 (t.extract 14 16) = y % 100 := by
  obtain ⟨a, b, c, p, q, r, hm, hs⟩ := showA_is y m d h i s
  rw [hs] at e
  subst e
  have hd31 := mdays_bd y m
  obtain ⟨h1, h2, h3, h4, h5, h6⟩ := ok
  refine ⟨?_, ?_, ?_, ?_, ?_, ?_, ?_, ?_⟩
  · exact four_num (n := y) (by omega) (by omega)
  · have : monV ⟨#[p, q, r]⟩ = m := by rw [← hm]; exact monV_of h2.1 h2.2
    exact this
  · exact two_num (n := d) (by omega) (by omega)
  · exact two_num (n := h) (by omega) (by omega)
  · exact two_num (n := i) (by omega) (by omega)
  · exact two_num (n := s) (by omega) (by omega)
  · exact two_num (n := y / 100) (by omega) (by omega)
  · have := two_num (n := y % 100) (by omega) (by omega)
    have e1 : dgt (y % 100 / 10) = dgt (y / 10) := by unfold dgt; rw [show y % 100 / 10 % 10 = y / 10 % 10 from by omega]
    have e2 : dgt (y % 100) = dgt y := by unfold dgt; rw [show y % 100 % 10 = y % 10 from by omega]
    unfold two at this
    rw [e1, e2] at this
    exact this
end Go.Proofs.YtkaogmdhjcgcdaaGreatDoor.Dd
namespace Go.Proofs.YtkaogmdhjcgcdaaGreatDoor.Dd
open Go.RowKit Go.Sort

/-- A block of its own is not frozen. -/
theorem boxFree {w x : World} {t : TypeId} {C : Array Value} (hb : Grew (w.alloc (.cells C t)) x) (j : Nat) : x.frozen? ⟨w.heap.size, j, none⟩ = false := by
  rw [hb.1.frozen (p := ⟨w.heap.size, j, none⟩) (by simp), World.frozen?_alloc_mark]
  simp

set_option maxHeartbeats 1000000 in
theorem specAt_in (t : Int) (w : World) (t0 : 0 ≤ t) (t1 : t ≤ 253402300799) :
    Calls Tryz.prog 136 #[.int .i64 t] w fun e w' => (∃ y m d h i s : Int, e = .returned (.agg #[.int .i64 y, .int .i64 m, .int .i64 d, .int .i64 h, .int .i64 i, .int .i64 s]) ∧ okD y m d h i s ∧ momN y m d h i s = t) ∧ Grew w w' := by
  have hr : inR t 0 253402300799 = true := decide_eq_true (by omega)
  have hb0 : 0 ≤ t / 86400 ∧ t / 86400 ≤ 2932896 := by omega
  have hf := yr_first hb0.1
  have HF : Hid (yr (1970 + t / 86400 / 366) ≤ t / 86400) := hf
  clear hf
  go_enter Tryz.func136, Tryz.ntmps136
  go_wp2_with (go_at_call 63; refine (inRangeIs hr).mono ?_; rintro e x1 ⟨rfl, rfl⟩)
  go_loop [5] (fun v => ∃ y : Int, v = .int .i64 y ∧ 1970 ≤ y ∧ y ≤ 9999 ∧ Hid (yr y ≤ t / 86400)) (fun v => (10000 - intOf v).toNat)
  case atStart => exact ⟨_, rfl, by omega, by omega, HF⟩
  case round =>
    obtain ⟨y, rfl, hy0, hy1, hle⟩ := hrel
    have hyb : 0 ≤ yr (y + 1) ∧ yr (y + 1) ≤ 2933300 := ⟨yr_nonneg (by omega), yr_top (by omega)⟩
    by_cases hlt : yr (y + 1) ≤ t / 86400
    · have hy2 : y + 1 ≤ 9999 := by
        by_cases h : y + 1 < 10000
        · omega
        · have := yr_last (show 10000 ≤ y + 1 from by omega); omega
      go_wp2_with (go_at_call 148; refine (specYear _ _ (by omega)).mono ?_; rintro e x1 ⟨rfl, rfl⟩)
      go_round
      case rel => exact ⟨y + 1, rfl, by omega, by omega, hlt⟩
      case measure => simp [intOf]; omega
    · have hyy : 0 ≤ yr y ∧ yr y ≤ t / 86400 := ⟨yr_nonneg hy0, hle.out⟩
      have hnx : t / 86400 - yr y < 365 + lpN y := by have := yr_next hy0; omega
      have hlp := lpN_bd y
      have h12 := cum_12 y
      have H12 : Hid (cum y 12 = 365 + lpN y) := h12
      clear h12 hle hyb
      go_wp2_with (go_at_call 148; refine (specYear _ _ (by omega)).mono ?_; rintro e x1 ⟨rfl, rfl⟩)
      go_loopw [3, 6] (fun v k wr => ∃ j : Nat, j < 12 ∧ v = .int .i64 (t / 86400 - yr y - cum y j) ∧ k = .int .i64 ((j : Int) + 1) ∧ cum y j ≤ t / 86400 - yr y ∧ Grew (w.alloc (.cells #[.int .i64 0, .int .i64 0, .int .i64 0, .int .i64 0, .int .i64 0, .int .i64 0] 121)) wr) (fun _ k _ => (13 - (intOf k)).toNat)
      case atStart => exact ⟨0, by omega, by simp [cum], rfl, by simp [cum]; omega, Grew.refl _⟩
      case round =>
        obtain ⟨j, hj, rfl, rfl, hcj, hw⟩ := hrel
        have hc : 0 ≤ cum y j ∧ cum y j ≤ 366 := ⟨cum_nonneg y j, cum_top y (by omega)⟩
        have hmd := mdays_bd y ((j : Int) + 1)
        by_cases hlt2 : mdays y ((j : Int) + 1) ≤ t / 86400 - yr y - cum y j
        · have hj2 : j + 1 < 12 := by
            by_cases h : j + 1 < 12
            · exact h
            · have e11 : j = 11 := by omega
              subst e11
              have : cum y 12 = cum y 11 + mdays y (((11 : Nat) : Int) + 1) := rfl
              have := H12.out
              omega
          go_wp2_with (go_at_call 147; refine (specMonth _ _ _ (by omega) (by omega)).mono ?_; rintro e x2 ⟨rfl, hb2⟩; replace hw := hw.trans hb2; clear hb2)
          go_roundw
          case rel => exact ⟨j + 1, by omega, by simp [cum]; omega, by go_num, by simp [cum]; omega, hw⟩
          case measure => simp [intOf]; omega
        · go_wp2_with (go_at_call 147; refine (specMonth _ _ _ (by omega) (by omega)).mono ?_; rintro e x2 ⟨rfl, hb2⟩; replace hw := hw.trans hb2; clear hb2; obtain ⟨c0, c1, c2, c3, c4, c5⟩ := boxCells hw; have f0 := boxFree hw 0; have f1 := boxFree hw 1; have f2 := boxFree hw 2; have f3 := boxFree hw 3; have f4 := boxFree hw 4; have f5 := boxFree hw 5)
          refine bodyPost_ret (v := .agg #[.int .i64 y, .int .i64 ((j : Int) + 1), .int .i64 (t / 86400 - yr y - cum y j + 1), .int .i64 (t % 86400 / 3600), .int .i64 (t % 86400 / 60 % 60), .int .i64 (t % 60)]) (by simp [results, Tryz.results136, go_sem, c0, c1, c2, c3, c4, c5]) rfl ⟨⟨y, (j : Int) + 1, t / 86400 - yr y - cum y j + 1, t % 86400 / 3600, t % 86400 / 60 % 60, t % 60, rfl, ⟨⟨hy0, hy1⟩, ⟨by omega, by omega⟩, ⟨by omega, by omega⟩, by omega, by omega, by omega⟩, ?_⟩, ?_⟩
          · unfold momN dayN; rw [show ((j : Int) + 1 - 1).toNat = j from by omega]; omega
          · exact ((((((((Grew.refl w).alloc _).trans hw).put (Nat.le_refl _) 0 _).put (Nat.le_refl _) 1 _).put (Nat.le_refl _) 2 _).put (Nat.le_refl _) 3 _).put (Nat.le_refl _) 4 _).put (Nat.le_refl _) 5 _

end Go.Proofs.YtkaogmdhjcgcdaaGreatDoor.Dd
