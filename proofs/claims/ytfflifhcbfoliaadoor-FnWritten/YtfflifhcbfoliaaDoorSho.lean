/-
  A date shown: the specification's and the program's contracts.
-/
import Derived.Test.YtfflifhcbfoliaaDoorTwo
import Derived.Test.YtfflifhcbfoliaaDoorNam
import Derived.Test.YtfflifhcbfoliaaDoorMom
import Derived.Test.YtfflifhcbfoliaaDoorShelf
import Derived.Lib.SmallJoins
import Derived.BigQuiet
namespace Go.Proofs.YtfflifhcbfoliaaDoor
open Go.RowKit Go.Sort

theorem wkN_size (k : Int) : (wkN k).size = 3 := by
  unfold wkN
  repeat' split
  all_goals rfl
theorem moN_size (m : Int) : (moN m).size = 3 := by
  unfold moN
  repeat' split
  all_goals rfl
/-- A date as it is shown. -/
def showA (y m d h i s : Int) : ByteArray := wkN ((dayN y m d + 4) % 7) ++ ⟨#[44, 32]⟩ ++ two d ++ ⟨#[32]⟩ ++ moN m ++ ⟨#[32]⟩ ++ two (y / 100) ++ two y ++ ⟨#[32]⟩ ++ two h ++ ⟨#[58]⟩ ++ two i ++ ⟨#[58]⟩ ++ two s ++ ⟨#[32, 71, 77, 84]⟩
/-- What ShowDate answers. -/
def showV (y m d h i s : Int) : ByteArray := if okB y m d h i s = true then showA y m d h i s else ⟨#[]⟩
theorem specWkIs {y m d h i s k : Int} (ok : okB y m d h i s = true) (hk : (dayN y m d + 4) % 7 = k) (w : World) :
    Calls Tryd.prog 24 #[.agg #[.int .i64 y, .int .i64 m, .int .i64 d, .int .i64 h, .int .i64 i, .int .i64 s]] w fun e w' => e = .returned (.int .i64 k) ∧ Grew w w' := hk ▸ specWk_in y m d h i s w ok
theorem implWkIs {y m d h i s k : Int} (ok : okB y m d h i s = true) (hk : (dayN y m d + 4) % 7 = k) (w : World) :
    Calls Tryd.prog 12 #[.agg #[.int .i64 y, .int .i64 m, .int .i64 d, .int .i64 h, .int .i64 i, .int .i64 s]] w fun e w' => e = .returned (.int .i64 k) ∧ Grew w w' := hk ▸ implWk_in y m d h i s w ok

set_option maxHeartbeats 4000000 in
theorem specShow_in (y m d h i s : Int) (w : World) (hok : okB y m d h i s = true) :
    Calls Tryd.prog 9 #[.agg #[.int .i64 y, .int .i64 m, .int .i64 d, .int .i64 h, .int .i64 i, .int .i64 s]] w fun e w' => e = .returned (.string (showA y m d h i s)) ∧ Grew w w' := by
  have ok : okD y m d h i s := of_decide_eq_true hok
  have hd31 := mdays_bd y m
  have OK : Hid (okD y m d h i s ∧ okB y m d h i s = true) := ⟨ok, hok⟩
  have hy : 1970 ≤ y ∧ y ≤ 9999 := ok.1
  have hm : 1 ≤ m ∧ m ≤ 12 := ok.2.1
  have hd : 1 ≤ d ∧ d ≤ 31 := by have := ok.2.2.1; omega
  have hhh : 0 ≤ h ∧ h ≤ 23 := ok.2.2.2.1
  have hi : 0 ≤ i ∧ i ≤ 59 := ok.2.2.2.2.1
  have hs : 0 ≤ s ∧ s ≤ 59 := ok.2.2.2.2.2
  obtain ⟨k, hk⟩ : ∃ k, k = (dayN y m d + 4) % 7 := ⟨_, rfl⟩
  have hkb : 0 ≤ k ∧ k ≤ 6 := by omega
  have HK : Hid ((dayN y m d + 4) % 7 = k) := hk.symm
  have mix := mixed
  have s1 := wkN_size k
  have s2 := moN_size m
  have s3 := two_size
  have hq : y.tdiv 100 = y / 100 := Int.tdiv_eq_ediv_of_nonneg (by omega)
  clear ok hk hd31
  go_enter Tryd.func9, Tryd.ntmps9
  go_wp2_with (go_at_call 10; refine (specOk _ _ _ _ _ _ _).mono ?_; rintro e x2 ⟨rfl, hb2⟩; rw [hok]; have hg2 : Grew w x2 := ((Grew.refl w).alloc _).trans hb2; have kk := fun n os => boxCells ((hb2.drewN n).more os); clear hb2)
  have k0 := fun n os => (kk n os).1
  have k1 := fun n os => (kk n os).2.1
  have k2 := fun n os => (kk n os).2.2.1
  have k3 := fun n os => (kk n os).2.2.2.1
  have k4 := fun n os => (kk n os).2.2.2.2.1
  have k5 := fun n os => (kk n os).2.2.2.2.2
  clear kk hok
  refine wp_region_quiet_grown mix (by kernel_rfl) ?_
  repeat (go_big_quiet_step (first | (go_at_call 24; exact callGrew (specWkIs OK.out.2 HK.out _)) | (go_at_call 23; exact callSame (specWkN _ _ hkb.1 hkb.2)) | (go_at_call 25; exact callGrew (specTwo _ _ (by omega) (by omega))) | (go_at_call 26; exact callSame (specMoN _ _ hm.1 hm.2))))
  refine wpQuiet_nil ?_
  intro _ hw'
  obtain ⟨⟨nq, osq⟩, hw''⟩ := hw'
  subst hw''
  go_wp2_with fail
  go_ret
  exact ⟨ret_str (by unfold showA; rw [HK.out]), (hg2.drewN _).more _⟩

/-- The library's table of powers of ten lies as its text lays it. -/
def Tab (w : World) : Prop := Lib.TabIs Tryd.prog w "internal/strconv.uint64pow10" .u64 Lib.pow10Tab
theorem gPow : Tryd.prog.globalNamed "internal/strconv.uint64pow10" = some 0 := by kernel_rfl
theorem Tab.low {w w' : World} (h : Tab w) (hb : Below w.heap.size w w') : Tab w' := Go.Joins.tab_stays gPow h hb (Nat.le_refl _)
theorem Tab.grew {w w' : World} (h : Tab w) (hb : Grew w w') : Tab w' := h.low hb.low
theorem yearIs {y : Int} {w : World} (h1 : 1970 ≤ y) (h2 : y ≤ 9999) (ht : Tab w) : Calls Tryd.prog 22 #[.int .i64 y, .int .i64 10] w fun e w' => e = .returned (.string (two (y / 100) ++ two y)) ∧ ∃ k os, w' = grow (w.drewN k) os := by
  rw [← itoa_year h1 h2]
  exact Tryd.formatInt y (by omega) (by omega) w ht

set_option maxHeartbeats 4000000 in
theorem implShow_in (y m d h i s : Int) (w : World) (hok : okB y m d h i s = true) (ht : Tab w) :
    Calls Tryd.prog 8 #[.agg #[.int .i64 y, .int .i64 m, .int .i64 d, .int .i64 h, .int .i64 i, .int .i64 s]] w fun e w' => e = .returned (.string (showA y m d h i s)) ∧ Grew w w' := by
  have ok : okD y m d h i s := of_decide_eq_true hok
  have hd31 := mdays_bd y m
  have OK : Hid (okD y m d h i s ∧ okB y m d h i s = true) := ⟨ok, hok⟩
  have hy : 1970 ≤ y ∧ y ≤ 9999 := ok.1
  have hm : 1 ≤ m ∧ m ≤ 12 := ok.2.1
  have hd : 1 ≤ d ∧ d ≤ 31 := by have := ok.2.2.1; omega
  have hhh : 0 ≤ h ∧ h ≤ 23 := ok.2.2.2.1
  have hi : 0 ≤ i ∧ i ≤ 59 := ok.2.2.2.2.1
  have hs : 0 ≤ s ∧ s ≤ 59 := ok.2.2.2.2.2
  obtain ⟨k, hk⟩ : ∃ k, k = (dayN y m d + 4) % 7 := ⟨_, rfl⟩
  have hkb : 0 ≤ k ∧ k ≤ 6 := by omega
  have HK : Hid ((dayN y m d + 4) % 7 = k) := hk.symm
  have mix := mixed
  have s1 := wkN_size k
  have s2 := moN_size m
  have s3 := two_size
  have s4 : (two (y / 100) ++ two y).size = 4 := by rw [ByteArray.size_append, two_size, two_size]
  clear ok hk hd31
  go_enter Tryd.func8, Tryd.ntmps8
  go_wp2_with (go_at_call 18; refine (implOk _ _ _ _ _ _ _).mono ?_; rintro e x2 ⟨rfl, hb2⟩; rw [hok]; have hg2 : Grew w x2 := ((Grew.refl w).alloc _).trans hb2; have ht2 := fun n os => ht.grew ((hg2.drewN n).more os); have kk := fun n os => boxCells ((hb2.drewN n).more os); clear hb2)
  have k0 := fun n os => (kk n os).1
  have k1 := fun n os => (kk n os).2.1
  have k2 := fun n os => (kk n os).2.2.1
  have k3 := fun n os => (kk n os).2.2.2.1
  have k4 := fun n os => (kk n os).2.2.2.2.1
  have k5 := fun n os => (kk n os).2.2.2.2.2
  have HT2 : Hid (∀ n os, Tab (grow (x2.drewN n) os)) := ht2
  clear kk hok ht2 ht
  refine wp_region_quiet_grown mix (by kernel_rfl) ?_
  repeat (go_big_quiet_step (first | (go_at_call 12; exact callGrew (implWkIs OK.out.2 HK.out _)) | (go_at_call 19; exact callGrew (implWkN _ _ hkb.1 hkb.2)) | (go_at_call 20; exact callGrew (implTwo _ _ (by omega) (by omega))) | (go_at_call 21; exact callGrew (implMoN _ _ hm.1 hm.2)) | (go_at_call 22; exact Calls.grown_of (yearIs hy.1 hy.2 (HT2.out _ _)))))
  refine wpQuiet_nil ?_
  intro _ hw'
  obtain ⟨⟨nq, osq⟩, hw''⟩ := hw'
  subst hw''
  go_wp2_with fail
  go_ret
  exact ⟨ret_str (by unfold showA; rw [HK.out]; simp only [ByteArray.append_assoc]), (hg2.drewN _).more _⟩

theorem specShow_out (y m d h i s : Int) (w : World) (hok : okB y m d h i s = false) :
    Calls Tryd.prog 9 #[.agg #[.int .i64 y, .int .i64 m, .int .i64 d, .int .i64 h, .int .i64 i, .int .i64 s]] w fun e w' => e = .returned (.string ⟨#[]⟩) ∧ Grew w w' := by
  go_enter Tryd.func9, Tryd.ntmps9
  go_wp2_with (go_at_call 10; refine (specOk _ _ _ _ _ _ _).mono ?_; rintro e x2 ⟨rfl, hb2⟩; rw [hok])
  go_ret
  exact ⟨rfl, ((Grew.refl w).alloc _).trans hb2⟩
theorem specShow (y m d h i s : Int) (w : World) :
    Calls Tryd.prog 9 #[.agg #[.int .i64 y, .int .i64 m, .int .i64 d, .int .i64 h, .int .i64 i, .int .i64 s]] w fun e w' => e = .returned (.string (showV y m d h i s)) ∧ Grew w w' := by
  unfold showV
  cases hok : okB y m d h i s
  · exact specShow_out y m d h i s w hok
  · exact specShow_in y m d h i s w hok

theorem implShow_out (y m d h i s : Int) (w : World) (hok : okB y m d h i s = false) :
    Calls Tryd.prog 8 #[.agg #[.int .i64 y, .int .i64 m, .int .i64 d, .int .i64 h, .int .i64 i, .int .i64 s]] w fun e w' => e = .returned (.string ⟨#[]⟩) ∧ Grew w w' := by
  go_enter Tryd.func8, Tryd.ntmps8
  go_wp2_with (go_at_call 18; refine (implOk _ _ _ _ _ _ _).mono ?_; rintro e x2 ⟨rfl, hb2⟩; rw [hok])
  go_ret
  exact ⟨rfl, ((Grew.refl w).alloc _).trans hb2⟩
theorem implShow (y m d h i s : Int) (w : World) (ht : Tab w) :
    Calls Tryd.prog 8 #[.agg #[.int .i64 y, .int .i64 m, .int .i64 d, .int .i64 h, .int .i64 i, .int .i64 s]] w fun e w' => e = .returned (.string (showV y m d h i s)) ∧ Grew w w' := by
  unfold showV
  cases hok : okB y m d h i s
  · exact implShow_out y m d h i s w hok
  · exact implShow_in y m d h i s w hok ht
end Go.Proofs.YtfflifhcbfoliaaDoor
