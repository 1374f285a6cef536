/-
  The date at a moment: the specification's and the program's contracts.
  Two digits: the specification's and the program's contracts.
  The names of weekdays and months, and two digits: the specification's and the program's contracts.
  A date shown: the specification's and the program's contracts.
-/
import Derived.Test.YtemmgfnepdgpbaaGreatDoorK35
import Derived.Test.YtemmgfnepdgpbaaGreatDoorK13
import Derived.Laws.Strings
import Derived.Lib.ItoaNum
import Derived.Test.YtemmgfnepdgpbaaGreatDoorShelfG
import Derived.Lib.SmallJoins
import Derived.BigQuiet
namespace Go.Proofs.YtemmgfnepdgpbaaGreatDoor.Dd
open Go.RowKit Go.Sort

/-- A block of its own is not frozen. -/
theorem boxFree {w x : World} {t : TypeId} {C : Array Value} (hb : Grew (w.alloc (.cells C t)) x) (j : Nat) : x.frozen? ⟨w.heap.size, j, none⟩ = false := by
  rw [hb.1.frozen (p := ⟨w.heap.size, j, none⟩) (by simp), World.frozen?_alloc_mark]
  simp

set_option maxHeartbeats 1000000 in
theorem specAt_in (t : Int) (w : World) (t0 : 0 ≤ t) (t1 : t ≤ 253402300799) :
    Calls Tryz.prog 176 #[.int .i64 t] w fun e w' => (∃ y m d h i s : Int, e = .returned (.agg #[.int .i64 y, .int .i64 m, .int .i64 d, .int .i64 h, .int .i64 i, .int .i64 s]) ∧ okD y m d h i s ∧ momN y m d h i s = t) ∧ Grew w w' := by
  have hr : inR t 0 253402300799 = true := decide_eq_true (by omega)
  have hb0 : 0 ≤ t / 86400 ∧ t / 86400 ≤ 2932896 := by omega
  have hf := yr_first hb0.1
  have HF : Hid (yr (1970 + t / 86400 / 366) ≤ t / 86400) := hf
  clear hf
  go_enter Tryz.func176, Tryz.ntmps176
  go_wp2_with (go_at_call 33; refine (inRangeIs hr).mono ?_; rintro e x1 ⟨rfl, rfl⟩)
  go_loop [5] (fun v => ∃ y : Int, v = .int .i64 y ∧ 1970 ≤ y ∧ y ≤ 9999 ∧ Hid (yr y ≤ t / 86400)) (fun v => (10000 - intOf v).toNat)
  case atStart => exact ⟨_, rfl, by omega, by omega, HF⟩
  case round =>
    obtain ⟨y, rfl, hy0, hy1, hle⟩ := hrel
    have hyb : 0 ≤ yr (y + 1) ∧ yr (y + 1) ≤ 2933300 := ⟨yr_nonneg (by omega), yr_top (by omega)⟩
    by_cases hlt : yr (y + 1) ≤ t / 86400
    · have hy2 : y + 1 ≤ 9999 := by
        by_cases h : y + 1 < 10000
        · omega
        · have := yr_last (show 10000 ≤ y + 1 from by omega); omega
      go_wp2_with (go_at_call 188; refine (specYear _ _ (by omega)).mono ?_; rintro e x1 ⟨rfl, rfl⟩)
      go_round
      case rel => exact ⟨y + 1, rfl, by omega, by omega, hlt⟩
      case measure => simp [intOf]; omega
    · have hyy : 0 ≤ yr y ∧ yr y ≤ t / 86400 := ⟨yr_nonneg hy0, hle.out⟩
      have hnx : t / 86400 - yr y < 365 + lpN y := by have := yr_next hy0; omega
      have hlp := lpN_bd y
      have h12 := cum_12 y
      have H12 : Hid (cum y 12 = 365 + lpN y) := h12
      clear h12 hle hyb
      go_wp2_with (go_at_call 188; refine (specYear _ _ (by omega)).mono ?_; rintro e x1 ⟨rfl, rfl⟩)
      go_loopw [3, 6] (fun v k wr => ∃ j : Nat, j < 12 ∧ v = .int .i64 (t / 86400 - yr y - cum y j) ∧ k = .int .i64 ((j : Int) + 1) ∧ cum y j ≤ t / 86400 - yr y ∧ Grew (w.alloc (.cells #[.int .i64 0, .int .i64 0, .int .i64 0, .int .i64 0, .int .i64 0, .int .i64 0] 200)) wr) (fun _ k _ => (13 - (intOf k)).toNat)
      case atStart => exact ⟨0, by omega, by simp [cum], rfl, by simp [cum]; omega, Grew.refl _⟩
      case round =>
        obtain ⟨j, hj, rfl, rfl, hcj, hw⟩ := hrel
        have hc : 0 ≤ cum y j ∧ cum y j ≤ 366 := ⟨cum_nonneg y j, cum_top y (by omega)⟩
        have hmd := mdays_bd y ((j : Int) + 1)
        by_cases hlt2 : mdays y ((j : Int) + 1) ≤ t / 86400 - yr y - cum y j
        · have hj2 : j + 1 < 12 := by
            by_cases h : j + 1 < 12
            · exact h
            · have e11 : j = 11 := by omega
              subst e11
              have : cum y 12 = cum y 11 + mdays y (((11 : Nat) : Int) + 1) := rfl
              have := H12.out
              omega
          go_wp2_with (go_at_call 189; refine (specMonth _ _ _ (by omega) (by omega)).mono ?_; rintro e x2 ⟨rfl, hb2⟩; replace hw := hw.trans hb2; clear hb2)
          go_roundw
          case rel => exact ⟨j + 1, by omega, by simp [cum]; omega, by go_num, by simp [cum]; omega, hw⟩
          case measure => simp [intOf]; omega
        · go_wp2_with (go_at_call 189; refine (specMonth _ _ _ (by omega) (by omega)).mono ?_; rintro e x2 ⟨rfl, hb2⟩; replace hw := hw.trans hb2; clear hb2; obtain ⟨c0, c1, c2, c3, c4, c5⟩ := boxCells hw; have f0 := boxFree hw 0; have f1 := boxFree hw 1; have f2 := boxFree hw 2; have f3 := boxFree hw 3; have f4 := boxFree hw 4; have f5 := boxFree hw 5)
          refine bodyPost_ret (v := .agg #[.int .i64 y, .int .i64 ((j : Int) + 1), .int .i64 (t / 86400 - yr y - cum y j + 1), .int .i64 (t % 86400 / 3600), .int .i64 (t % 86400 / 60 % 60), .int .i64 (t % 60)]) (by simp [results, Tryz.results176, go_sem, c0, c1, c2, c3, c4, c5]) rfl ⟨⟨y, (j : Int) + 1, t / 86400 - yr y - cum y j + 1, t % 86400 / 3600, t % 86400 / 60 % 60, t % 60, rfl, ⟨⟨hy0, hy1⟩, ⟨by omega, by omega⟩, ⟨by omega, by omega⟩, by omega, by omega, by omega⟩, ?_⟩, ?_⟩
          · unfold momN dayN; rw [show ((j : Int) + 1 - 1).toNat = j from by omega]; omega
          · exact ((((((((Grew.refl w).alloc _).trans hw).put (Nat.le_refl _) 0 _).put (Nat.le_refl _) 1 _).put (Nat.le_refl _) 2 _).put (Nat.le_refl _) 3 _).put (Nat.le_refl _) 4 _).put (Nat.le_refl _) 5 _

end Go.Proofs.YtemmgfnepdgpbaaGreatDoor.Dd
namespace Go.Proofs.YtemmgfnepdgpbaaGreatDoor.Dd
open Go.RowKit Go.Sort

/-- A digit. -/
def dgt (n : Int) : UInt8 := UInt8.ofNat (48 + (n % 10).toNat)
theorem dgt_nat (n : Int) : ((dgt n).toNat : Int) = 48 + n % 10 := by
  unfold dgt
  rw [UInt8.toNat_ofNat']
  omega
/-- Two digits. -/
def two (n : Int) : ByteArray := ⟨#[dgt (n / 10), dgt n]⟩
theorem twoText (w : World) (n x y : Int) (hx : x = ((dgt (n / 10)).toNat : Int)) (hy : y = ((dgt n).toNat : Int)) :
    (convert 22 9 (.slice (some ⟨w.heap.size, 0, none⟩) 2 2)).run Tryz.prog (w.alloc (.cells #[.int .u8 x, .int .u8 y] 5)) = .ok (.string (two n)) (w.alloc (.cells #[.int .u8 x, .int .u8 y] 5)) := by
  refine run_convert_bytes_back (P := Tryz.prog) (w.alloc (.cells #[.int .u8 x, .int .u8 y] 5)) 22 9 5 ⟨w.heap.size, 0, none⟩ 2 [dgt (n / 10), dgt n] Tryz.underlying22 Tryz.underlying5 Tryz.underlying9 (fun j hj => ?_)
  rcases (show j = 0 ∨ j = 1 from by simp at hj; omega) with rfl | rfl
  · exact (World.cell?_alloc_mark w #[.int .u8 x, .int .u8 y] 5 (0, 0) 0).trans (by rw [hx]; rfl)
  · exact (World.cell?_alloc_mark w #[.int .u8 x, .int .u8 y] 5 (0, 0) 1).trans (by rw [hy]; rfl)
theorem specTwo (n : Int) (w : World) (h1 : 0 ≤ n) (h2 : n ≤ 9999) :
    Calls Tryz.prog 186 #[.int .i64 n] w fun e w' => e = .returned (.string (two n)) ∧ Grew w w' := by
  have ht := twoText w n (48 + n / 10 % 10) (48 + n % 10) (by rw [dgt_nat]) (by rw [dgt_nat])
  go_enter Tryz.func186, Tryz.ntmps186
  go_wp2
  go_ret
  exact ⟨rfl, (Grew.refl w).alloc _⟩
theorem two_size (n : Int) : (two n).size = 2 := rfl
end Go.Proofs.YtemmgfnepdgpbaaGreatDoor.Dd
namespace Go.Proofs.YtemmgfnepdgpbaaGreatDoor.Dd
open Go.RowKit Go.Sort

theorem ret_str {a b : ByteArray} (h : a = b) : Ending.returned (.string a) = .returned (.string b) := by rw [h]
/-- A weekday's name. -/
def wkN (k : Int) : ByteArray := if k = 0 then ⟨#[83, 117, 110]⟩ else if k = 1 then ⟨#[77, 111, 110]⟩ else if k = 2 then ⟨#[84, 117, 101]⟩ else if k = 3 then ⟨#[87, 101, 100]⟩ else if k = 4 then ⟨#[84, 104, 117]⟩ else if k = 5 then ⟨#[70, 114, 105]⟩ else ⟨#[83, 97, 116]⟩
/-- A month's name. -/
def moN (m : Int) : ByteArray := if m = 1 then ⟨#[74, 97, 110]⟩ else if m = 2 then ⟨#[70, 101, 98]⟩ else if m = 3 then ⟨#[77, 97, 114]⟩ else if m = 4 then ⟨#[65, 112, 114]⟩ else if m = 5 then ⟨#[77, 97, 121]⟩ else if m = 6 then ⟨#[74, 117, 110]⟩ else if m = 7 then ⟨#[74, 117, 108]⟩ else if m = 8 then ⟨#[65, 117, 103]⟩ else if m = 9 then ⟨#[83, 101, 112]⟩ else if m = 10 then ⟨#[79, 99, 116]⟩ else if m = 11 then ⟨#[78, 111, 118]⟩ else ⟨#[68, 101, 99]⟩
theorem weeks {k : Int} (h1 : 0 ≤ k) (h2 : k ≤ 6) : k = 0 ∨ k = 1 ∨ k = 2 ∨ k = 3 ∨ k = 4 ∨ k = 5 ∨ k = 6 := by omega
set_option maxHeartbeats 800000 in
theorem specWkN (k : Int) (w : World) (h1 : 0 ≤ k) (h2 : k ≤ 6) :
    Calls Tryz.prog 184 #[.int .i64 k] w fun e w' => e = .returned (.string (wkN k)) ∧ w = w' := by
  rcases weeks h1 h2 with rfl | rfl | rfl | rfl | rfl | rfl | rfl
  all_goals
    go_enter Tryz.func184, Tryz.ntmps184
    go_wp2
    go_ret
    exact ⟨ret_str (by decide), rfl⟩
set_option maxHeartbeats 800000 in
theorem specMoN (m : Int) (w : World) (h1 : 1 ≤ m) (h2 : m ≤ 12) :
    Calls Tryz.prog 187 #[.int .i64 m] w fun e w' => e = .returned (.string (moN m)) ∧ w = w' := by
  rcases months h1 h2 with rfl | rfl | rfl | rfl | rfl | rfl | rfl | rfl | rfl | rfl | rfl | rfl
  all_goals
    go_enter Tryz.func187, Tryz.ntmps187
    go_wp2
    go_ret
    exact ⟨ret_str (by decide), rfl⟩

end Go.Proofs.YtemmgfnepdgpbaaGreatDoor.Dd
namespace Go.Proofs.YtemmgfnepdgpbaaGreatDoor.Dd
open Go.RowKit Go.Sort

theorem wkN_size (k : Int) : (wkN k).size = 3 := by
  unfold wkN
  repeat' split
  all_goals rfl
theorem moN_size (m : Int) : (moN m).size = 3 := by
  unfold moN
  repeat' split
  all_goals rfl
/-- A date as it is shown. -/
def showA (y m d h i s : Int) : ByteArray := wkN ((dayN y m d + 4) % 7) ++ ⟨#[44, 32]⟩ ++ two d ++ ⟨#[32]⟩ ++ moN m ++ ⟨#[32]⟩ ++ two (y / 100) ++ two y ++ ⟨#[32]⟩ ++ two h ++ ⟨#[58]⟩ ++ two i ++ ⟨#[58]⟩ ++ two s ++ ⟨#[32, 71, 77, 84]⟩
theorem specWkIs {y m d h i s k : Int} (ok : okB y m d h i s = true) (hk : (dayN y m d + 4) % 7 = k) (w : World) :
    Calls Tryz.prog 185 #[.agg #[.int .i64 y, .int .i64 m, .int .i64 d, .int .i64 h, .int .i64 i, .int .i64 s]] w fun e w' => e = .returned (.int .i64 k) ∧ Grew w w' := hk ▸ specWk_in y m d h i s w ok
set_option maxHeartbeats 4000000 in
theorem specShow_in (y m d h i s : Int) (w : World) (hok : okB y m d h i s = true) :
    Calls Tryz.prog 175 #[.agg #[.int .i64 y, .int .i64 m, .int .i64 d, .int .i64 h, .int .i64 i, .int .i64 s]] w fun e w' => e = .returned (.string (showA y m d h i s)) ∧ Grew w w' := by
  have ok : okD y m d h i s := of_decide_eq_true hok
  have hd31 := mdays_bd y m
  have OK : Hid (okD y m d h i s ∧ okB y m d h i s = true) := ⟨ok, hok⟩
  have hy : 1970 ≤ y ∧ y ≤ 9999 := ok.1
  have hm : 1 ≤ m ∧ m ≤ 12 := ok.2.1
  have hd : 1 ≤ d ∧ d ≤ 31 := by have := ok.2.2.1; omega
  have hhh : 0 ≤ h ∧ h ≤ 23 := ok.2.2.2.1
  have hi : 0 ≤ i ∧ i ≤ 59 := ok.2.2.2.2.1
  have hs : 0 ≤ s ∧ s ≤ 59 := ok.2.2.2.2.2
  obtain ⟨k, hk⟩ : ∃ k, k = (dayN y m d + 4) % 7 := ⟨_, rfl⟩
  have hkb : 0 ≤ k ∧ k ≤ 6 := by omega
  have HK : Hid ((dayN y m d + 4) % 7 = k) := hk.symm
  have mix := mixed
  have s1 := wkN_size k
  have s2 := moN_size m
  have s3 := two_size
  have hq : y.tdiv 100 = y / 100 := Int.tdiv_eq_ediv_of_nonneg (by omega)
  clear ok hk hd31
  go_enter Tryz.func175, Tryz.ntmps175
  go_wp2_with (go_at_call 183; refine (specOk _ _ _ _ _ _ _).mono ?_; rintro e x2 ⟨rfl, hb2⟩; rw [hok]; have hg2 : Grew w x2 := ((Grew.refl w).alloc _).trans hb2; have kk := fun n os => boxCells ((hb2.drewN n).more os); clear hb2)
  have k0 := fun n os => (kk n os).1
  have k1 := fun n os => (kk n os).2.1
  have k2 := fun n os => (kk n os).2.2.1
  have k3 := fun n os => (kk n os).2.2.2.1
  have k4 := fun n os => (kk n os).2.2.2.2.1
  have k5 := fun n os => (kk n os).2.2.2.2.2
  clear kk hok
  refine wp_region_quiet_grown mix (by kernel_rfl) ?_
  repeat (go_big_quiet_step (first | (go_at_call 185; exact callGrew (specWkIs OK.out.2 HK.out _)) | (go_at_call 184; exact callSame (specWkN _ _ hkb.1 hkb.2)) | (go_at_call 186; exact callGrew (specTwo _ _ (by omega) (by omega))) | (go_at_call 187; exact callSame (specMoN _ _ hm.1 hm.2))))
  refine wpQuiet_nil ?_
  intro _ hw'
  obtain ⟨⟨nq, osq⟩, hw''⟩ := hw'
  subst hw''
  go_wp2_with fail
  go_ret
  exact ⟨ret_str (by unfold showA; rw [HK.out]), (hg2.drewN _).more _⟩

/-- The library's table of powers of ten lies as its text lays it. -/
def Tab (w : World) : Prop := Lib.TabIs Tryz.prog w "internal/strconv.uint64pow10" .u64 Lib.pow10Tab
theorem gPow : Tryz.prog.globalNamed "internal/strconv.uint64pow10" = some 2 := by kernel_rfl
theorem Tab.low {w w' : World} (h : Tab w) (hb : Below w.heap.size w w') : Tab w' := Go.Joins.tab_stays gPow h hb (Nat.le_refl _)
end Go.Proofs.YtemmgfnepdgpbaaGreatDoor.Dd
