/-
  A date shown: the specification's and the program's contracts.
  The contracts of Digits, the specification's and the program's.
  Numbers and months read from their texts, and the parts of a date that is shown.
  The parts of a date that is shown.
  Drawn dates and fields for policy.
  What renews an object, as plain data; the specification's leaving out of any fields.
  Objects in memory: all cells stored; fields that came in, appended to a row of one's own.
-/
import Derived.Test.YtkaogmdhjcgcdaaGreatDoorH27
import Derived.Test.YtkaogmdhjcgcdaaGreatDoorH28
import Derived.Test.YtkaogmdhjcgcdaaGreatDoorShelfG
import Derived.Lib.SmallJoins
import Derived.BigQuiet
import Derived.Test.YtkaogmdhjcgcdaaGreatDoorH08
import Derived.Test.YtkaogmdhjcgcdaaGreatDoorH06
import Derived.Test.YtkaogmdhjcgcdaaGreatDoorH20
import Derived.WalkKit
import Derived.WalkSpells
import Derived.Deep.LoopGhost
import Derived.Test.YtkaogmdhjcgcdaaGreatDoorH19
import Derived.Deep.DeepCutAuto
import Derived.Test.YtkaogmdhjcgcdaaGreatDoorH15
import Derived.Test.YtkaogmdhjcgcdaaGreatDoorH07
import Derived.Test.YtkaogmdhjcgcdaaGreatDoorH11
import Derived.Test.YtkaogmdhjcgcdaaGreatDoorH14
import Derived.Laws.AppendOwnNone
namespace Go.Proofs.YtkaogmdhjcgcdaaGreatDoor.Dd
open Go.RowKit Go.Sort

theorem wkN_size (k : Int) : (wkN k).size = 3 := by
  unfold wkN
  repeat' split
  all_goals rfl
theorem moN_size (m : Int) : (moN m).size = 3 := by
  unfold moN
  repeat' split
  all_goals rfl
/-- A date as it is shown. -/
def showA (y m d h i s : Int) : ByteArray := wkN ((dayN y m d + 4) % 7) ++ ⟨#[44, 32]⟩ ++ two d ++ ⟨#[32]⟩ ++ moN m ++ ⟨#[32]⟩ ++ two (y / 100) ++ two y ++ ⟨#[32]⟩ ++ two h ++ ⟨#[58]⟩ ++ two i ++ ⟨#[58]⟩ ++ two s ++ ⟨#[32, 71, 77, 84]⟩
/-- What ShowDate answers. -/
def showV (y m d h i s : Int) : ByteArray := if okB y m d h i s = true then showA y m d h i s else ⟨#[]⟩
theorem specWkIs {y m d h i s k : Int} (ok : okB y m d h i s = true) (hk : (dayN y m d + 4) % 7 = k) (w : World) :
    Calls Tryz.prog 145 #[.agg #[.int .i64 y, .int .i64 m, .int .i64 d, .int .i64 h, .int .i64 i, .int .i64 s]] w fun e w' => e = .returned (.int .i64 k) ∧ Grew w w' := hk ▸ specWk_in y m d h i s w ok
theorem implWkIs {y m d h i s k : Int} (ok : okB y m d h i s = true) (hk : (dayN y m d + 4) % 7 = k) (w : World) :
    Calls Tryz.prog 170 #[.agg #[.int .i64 y, .int .i64 m, .int .i64 d, .int .i64 h, .int .i64 i, .int .i64 s]] w fun e w' => e = .returned (.int .i64 k) ∧ Grew w w' := hk ▸ implWk_in y m d h i s w ok

set_option maxHeartbeats 4000000 in
theorem specShow_in (y m d h i s : Int) (w : World) (hok : okB y m d h i s = true) :
    Calls Tryz.prog 121 #[.agg #[.int .i64 y, .int .i64 m, .int .i64 d, .int .i64 h, .int .i64 i, .int .i64 s]] w fun e w' => e = .returned (.string (showA y m d h i s)) ∧ Grew w w' := by
  have ok : okD y m d h i s := of_decide_eq_true hok
  have hd31 := mdays_bd y m
  have OK : Hid (okD y m d h i s ∧ okB y m d h i s = true) := ⟨ok, hok⟩
  have hy : 1970 ≤ y ∧ y ≤ 9999 := ok.1
  have hm : 1 ≤ m ∧ m ≤ 12 := ok.2.1
  have hd : 1 ≤ d ∧ d ≤ 31 := by have := ok.2.2.1; omega
  have hhh : 0 ≤ h ∧ h ≤ 23 := ok.2.2.2.1
  have hi : 0 ≤ i ∧ i ≤ 59 := ok.2.2.2.2.1
  have hs : 0 ≤ s ∧ s ≤ 59 := ok.2.2.2.2.2
  obtain ⟨k, hk⟩ : ∃ k, k = (dayN y m d + 4) % 7 := ⟨_, rfl⟩
  have hkb : 0 ≤ k ∧ k ≤ 6 := by omega
  have HK : Hid ((dayN y m d + 4) % 7 = k) := hk.symm
  have mix := mixed
  have s1 := wkN_size k
  have s2 := moN_size m
  have s3 := two_size
  have hq : y.tdiv 100 = y / 100 := Int.tdiv_eq_ediv_of_nonneg (by omega)
  clear ok hk hd31
  go_enter Tryz.func121, Tryz.ntmps121
  go_wp2_with (go_at_call 122; refine (specOk _ _ _ _ _ _ _).mono ?_; rintro e x2 ⟨rfl, hb2⟩; rw [hok]; have hg2 : Grew w x2 := ((Grew.refl w).alloc _).trans hb2; have kk := fun n os => boxCells ((hb2.drewN n).more os); clear hb2)
  have k0 := fun n os => (kk n os).1
  have k1 := fun n os => (kk n os).2.1
  have k2 := fun n os => (kk n os).2.2.1
  have k3 := fun n os => (kk n os).2.2.2.1
  have k4 := fun n os => (kk n os).2.2.2.2.1
  have k5 := fun n os => (kk n os).2.2.2.2.2
  clear kk hok
  refine wp_region_quiet_grown mix (by kernel_rfl) ?_
  repeat (go_big_quiet_step (first | (go_at_call 145; exact callGrew (specWkIs OK.out.2 HK.out _)) | (go_at_call 144; exact callSame (specWkN _ _ hkb.1 hkb.2)) | (go_at_call 146; exact callGrew (specTwo _ _ (by omega) (by omega))) | (go_at_call 120; exact callSame (specMoN _ _ hm.1 hm.2))))
  refine wpQuiet_nil ?_
  intro _ hw'
  obtain ⟨⟨nq, osq⟩, hw''⟩ := hw'
  subst hw''
  go_wp2_with fail
  go_ret
  exact ⟨ret_str (by unfold showA; rw [HK.out]), (hg2.drewN _).more _⟩

/-- The library's table of powers of ten lies as its text lays it. -/
def Tab (w : World) : Prop := Lib.TabIs Tryz.prog w "internal/strconv.uint64pow10" .u64 Lib.pow10Tab
theorem gPow : Tryz.prog.globalNamed "internal/strconv.uint64pow10" = some 1 := by kernel_rfl
theorem Tab.low {w w' : World} (h : Tab w) (hb : Below w.heap.size w w') : Tab w' := Go.Joins.tab_stays gPow h hb (Nat.le_refl _)
theorem Tab.grew {w w' : World} (h : Tab w) (hb : Grew w w') : Tab w' := h.low hb.low
theorem yearIs {y : Int} {w : World} (h1 : 1970 ≤ y) (h2 : y ≤ 9999) (ht : Tab w) : Calls Tryz.prog 172 #[.int .i64 y, .int .i64 10] w fun e w' => e = .returned (.string (two (y / 100) ++ two y)) ∧ ∃ k os, w' = grow (w.drewN k) os := by
  rw [← itoa_year h1 h2]
  exact Tryz.formatInt y (by omega) (by omega) w ht

set_option maxHeartbeats 4000000 in
theorem implShow_in (y m d h i s : Int) (w : World) (hok : okB y m d h i s = true) (ht : Tab w) :
    Calls Tryz.prog 141 #[.agg #[.int .i64 y, .int .i64 m, .int .i64 d, .int .i64 h, .int .i64 i, .int .i64 s]] w fun e w' => e = .returned (.string (showA y m d h i s)) ∧ Grew w w' := by
  have ok : okD y m d h i s := of_decide_eq_true hok
  have hd31 := mdays_bd y m
  have OK : Hid (okD y m d h i s ∧ okB y m d h i s = true) := ⟨ok, hok⟩
  have hy : 1970 ≤ y ∧ y ≤ 9999 := ok.1
  have hm : 1 ≤ m ∧ m ≤ 12 := ok.2.1
  have hd : 1 ≤ d ∧ d ≤ 31 := by have := ok.2.2.1; omega
  have hhh : 0 ≤ h ∧ h ≤ 23 := ok.2.2.2.1
  have hi : 0 ≤ i ∧ i ≤ 59 := ok.2.2.2.2.1
  have hs : 0 ≤ s ∧ s ≤ 59 := ok.2.2.2.2.2
  obtain ⟨k, hk⟩ : ∃ k, k = (dayN y m d + 4) % 7 := ⟨_, rfl⟩
  have hkb : 0 ≤ k ∧ k ≤ 6 := by omega
  have HK : Hid ((dayN y m d + 4) % 7 = k) := hk.symm
  have mix := mixed
  have s1 := wkN_size k
  have s2 := moN_size m
  have s3 := two_size
  have s4 : (two (y / 100) ++ two y).size = 4 := by rw [ByteArray.size_append, two_size, two_size]
  clear ok hk hd31
  go_enter Tryz.func141, Tryz.ntmps141
  go_wp2_with (go_at_call 142; refine (implOk _ _ _ _ _ _ _).mono ?_; rintro e x2 ⟨rfl, hb2⟩; rw [hok]; have hg2 : Grew w x2 := ((Grew.refl w).alloc _).trans hb2; have ht2 := fun n os => ht.grew ((hg2.drewN n).more os); have kk := fun n os => boxCells ((hb2.drewN n).more os); clear hb2)
  have k0 := fun n os => (kk n os).1
  have k1 := fun n os => (kk n os).2.1
  have k2 := fun n os => (kk n os).2.2.1
  have k3 := fun n os => (kk n os).2.2.2.1
  have k4 := fun n os => (kk n os).2.2.2.2.1
  have k5 := fun n os => (kk n os).2.2.2.2.2
  have HT2 : Hid (∀ n os, Tab (grow (x2.drewN n) os)) := ht2
  clear kk hok ht2 ht
  refine wp_region_quiet_grown mix (by kernel_rfl) ?_
  repeat (go_big_quiet_step (first | (go_at_call 170; exact callGrew (implWkIs OK.out.2 HK.out _)) | (go_at_call 169; exact callGrew (implWkN _ _ hkb.1 hkb.2)) | (go_at_call 171; exact callGrew (implTwo _ _ (by omega) (by omega))) | (go_at_call 168; exact callGrew (implMoN _ _ hm.1 hm.2)) | (go_at_call 172; exact Calls.grown_of (yearIs hy.1 hy.2 (HT2.out _ _)))))
  refine wpQuiet_nil ?_
  intro _ hw'
  obtain ⟨⟨nq, osq⟩, hw''⟩ := hw'
  subst hw''
  go_wp2_with fail
  go_ret
  exact ⟨ret_str (by unfold showA; rw [HK.out]; simp only [ByteArray.append_assoc]), (hg2.drewN _).more _⟩

theorem specShow_out (y m d h i s : Int) (w : World) (hok : okB y m d h i s = false) :
    Calls Tryz.prog 121 #[.agg #[.int .i64 y, .int .i64 m, .int .i64 d, .int .i64 h, .int .i64 i, .int .i64 s]] w fun e w' => e = .returned (.string ⟨#[]⟩) ∧ Grew w w' := by
  go_enter Tryz.func121, Tryz.ntmps121
  go_wp2_with (go_at_call 122; refine (specOk _ _ _ _ _ _ _).mono ?_; rintro e x2 ⟨rfl, hb2⟩; rw [hok])
  go_ret
  exact ⟨rfl, ((Grew.refl w).alloc _).trans hb2⟩
theorem specShow (y m d h i s : Int) (w : World) :
    Calls Tryz.prog 121 #[.agg #[.int .i64 y, .int .i64 m, .int .i64 d, .int .i64 h, .int .i64 i, .int .i64 s]] w fun e w' => e = .returned (.string (showV y m d h i s)) ∧ Grew w w' := by
  unfold showV
  cases hok : okB y m d h i s
  · exact specShow_out y m d h i s w hok
  · exact specShow_in y m d h i s w hok

theorem implShow_out (y m d h i s : Int) (w : World) (hok : okB y m d h i s = false) :
    Calls Tryz.prog 141 #[.agg #[.int .i64 y, .int .i64 m, .int .i64 d, .int .i64 h, .int .i64 i, .int .i64 s]] w fun e w' => e = .returned (.string ⟨#[]⟩) ∧ Grew w w' := by
  go_enter Tryz.func141, Tryz.ntmps141
  go_wp2_with (go_at_call 142; refine (implOk _ _ _ _ _ _ _).mono ?_; rintro e x2 ⟨rfl, hb2⟩; rw [hok])
  go_ret
  exact ⟨rfl, ((Grew.refl w).alloc _).trans hb2⟩
theorem implShow (y m d h i s : Int) (w : World) (ht : Tab w) :
    Calls Tryz.prog 141 #[.agg #[.int .i64 y, .int .i64 m, .int .i64 d, .int .i64 h, .int .i64 i, .int .i64 s]] w fun e w' => e = .returned (.string (showV y m d h i s)) ∧ Grew w w' := by
  unfold showV
  cases hok : okB y m d h i s
  · exact implShow_out y m d h i s w hok
  · exact implShow_in y m d h i s w hok ht
end Go.Proofs.YtkaogmdhjcgcdaaGreatDoor.Dd
namespace Go.Proofs.YtkaogmdhjcgcdaaGreatDoor.Dd
open Go.RowKit

theorem grew_iter (w : World) (s : ByteArray) (pos : Nat) : Grew w (w.iter s pos) := (Grew.refl w).alloc _
theorem implDigV_d (r : Int) (w : World) (h : 48 ≤ r ∧ r ≤ 57) :
    Calls Tryz.prog 191 #[.int .i32 r] w fun e w' => e = .returned (.int .i64 (digV r)) ∧ w' = w := by
  have hd := (digV_d h).symm
  have HD : Hid (_ = digV r) := hd
  clear hd
  obtain ⟨h1, h2⟩ := h
  go_enter Tryz.func191, Tryz.ntmps191
  go_wp2
  go_ret
  exact ⟨ret_int HD.out, rfl⟩
theorem implDigV_a (r : Int) (w : World) (h : 97 ≤ r ∧ r ≤ 102) :
    Calls Tryz.prog 191 #[.int .i32 r] w fun e w' => e = .returned (.int .i64 (digV r)) ∧ w' = w := by
  have hd := (digV_a h).symm
  have HD : Hid (_ = digV r) := hd
  clear hd
  obtain ⟨h1, h2⟩ := h
  go_enter Tryz.func191, Tryz.ntmps191
  go_wp2
  go_ret
  exact ⟨ret_int HD.out, rfl⟩
theorem implDigV_A (r : Int) (w : World) (h : 65 ≤ r ∧ r ≤ 70) :
    Calls Tryz.prog 191 #[.int .i32 r] w fun e w' => e = .returned (.int .i64 (digV r)) ∧ w' = w := by
  have hd := (digV_A h).symm
  have HD : Hid (_ = digV r) := hd
  clear hd
  obtain ⟨h1, h2⟩ := h
  go_enter Tryz.func191, Tryz.ntmps191
  go_wp2
  go_ret
  exact ⟨ret_int HD.out, rfl⟩
theorem implDigV_no (r : Int) (w : World) (h : ¬ (48 ≤ r ∧ r ≤ 57)) (h' : ¬ (97 ≤ r ∧ r ≤ 102)) (h'' : ¬ (65 ≤ r ∧ r ≤ 70)) :
    Calls Tryz.prog 191 #[.int .i32 r] w fun e w' => e = .returned (.int .i64 (digV r)) ∧ w' = w := by
  have hd := digV_no h h' h''
  have HD : Hid (digV r = -1) := hd
  clear hd
  rcases (show r < 48 ∨ (57 < r ∧ r < 65) ∨ (70 < r ∧ r < 97) ∨ 102 < r from by omega) with g | ⟨g, g'⟩ | ⟨g, g'⟩ | g
  all_goals
    clear h h' h''
    go_enter Tryz.func191, Tryz.ntmps191
    go_wp2
    go_ret
    exact ⟨ret_int HD.out.symm, rfl⟩
theorem implDigV (r : Int) (w : World) :
    Calls Tryz.prog 191 #[.int .i32 r] w fun e w' => e = .returned (.int .i64 (digV r)) ∧ w' = w := by
  by_cases h : 48 ≤ r ∧ r ≤ 57
  · exact implDigV_d r w h
  by_cases h' : 97 ≤ r ∧ r ≤ 102
  · exact implDigV_a r w h'
  by_cases h'' : 65 ≤ r ∧ r ≤ 70
  · exact implDigV_A r w h''
  · exact implDigV_no r w h h' h''

theorem specDig_out (s : ByteArray) (w : World) (hs : s.size ≤ maxLen) (h : s.size < 1 ∨ 15 < s.size) :
    Calls Tryz.prog 50 #[.string s] w fun e w' => e = .returned (numE 10 15 s) ∧ Grew w w' := by
  unfold maxLen at hs
  have ht := numE_no (numOk_out (b := 10) h)
  have HT : Hid (_ = Ending.returned (numE 10 15 s)) := ht
  clear ht
  rcases h with h | h
  · go_enter Tryz.func50, Tryz.ntmps50
    go_wp2
    go_ret2
    exact ⟨HT.out, Grew.refl _⟩
  · have h' : ¬ s.size < 1 := by omega
    go_enter Tryz.func50, Tryz.ntmps50
    go_wp2
    go_ret2
    exact ⟨HT.out, Grew.refl _⟩

set_option maxHeartbeats 400000 in
theorem specDig_in (s : ByteArray) (w : World) (h1 : 1 ≤ s.size) (h2 : s.size ≤ 15) :
    Calls Tryz.prog 50 #[.string s] w fun e w' => e = .returned (numE 10 15 s) ∧ Grew w w' := by
  have d1 : decide ((s.size : Int) < 1) = false := by simp; omega
  have d2 : decide (15 < (s.size : Int)) = false := by simp; omega
  go_enter Tryz.func50, Tryz.ntmps50
  go_wp2
  go_loop [4, 5] (fun v i => ∃ (k : Nat) (n : Int), k ≤ s.size ∧ i = .int .i64 k ∧ v = .int .i64 n ∧ 0 ≤ n ∧ n ≤ 1000000000000000 ∧ Hid (allB (digN 10) (s.data.toList.take k) = true) ∧ Hid (n = numL 10 (s.data.toList.take k))) (fun _ i => s.size - (intOf i).toNat)
  case atStart => exact ⟨0, 0, Nat.zero_le _, rfl, rfl, by decide, by decide, allB_nil _ _, rfl⟩
  case round =>
    obtain ⟨k, n, hk, rfl, rfl, hn0, hn1, ha, hn⟩ := hrel
    by_cases hlt : k < s.size
    · by_cases hg : 48 ≤ (s[k].toNat : Int) ∧ (s[k].toNat : Int) ≤ 57
      · have e1 := digV_d hg
        have e2 := allB_step hlt ha.out (digN_yes (b := 10) (digV_ten.2 hg).1 (digV_ten.2 hg).2)
        have e3 := numL_step hlt hn.out
        rw [e1] at e3
        have e4 := num_bound10 (by omega) (by omega) e2
        rw [← e3] at e4
        have H2 : Hid (allB (digN 10) (s.data.toList.take (k + 1)) = true) := e2
        have H3 : Hid (n * 10 + ((s[k].toNat : Int) - 48) = numL 10 (s.data.toList.take (k + 1))) := e3
        have H4 : Hid (0 ≤ n * 10 + ((s[k].toNat : Int) - 48) ∧ n * 10 + ((s[k].toNat : Int) - 48) ≤ 1000000000000000) := e4
        clear e1 e2 e3 e4
        obtain ⟨hg1, hg2⟩ := hg
        go_wp2
        go_round
        case rel => exact ⟨k + 1, _, by omega, by go_num, rfl, H4.out.1, H4.out.2, H2, H3⟩
        case measure => simp [intOf]; omega
      · have hf := numE_no (numOk_in (b := 10) h1 h2 (allB_not hlt (digN_no (fun x => hg (digV_ten.1 x)))))
        have HF : Hid (_ = Ending.returned (numE 10 15 s)) := hf
        clear hf
        rcases (show (s[k].toNat : Int) < 48 ∨ 57 < (s[k].toNat : Int) from by omega) with g | g
        all_goals
          go_wp2
          go_ret2
          exact ⟨HF.out, Grew.refl _⟩
    · have hf := numE_yes (numOk_in (b := 10) h1 h2 (allB_end hlt ha.out)) (hn.out.trans (by rw [take_all s k hlt]))
      have HF : Hid (_ = Ending.returned (numE 10 15 s)) := hf
      clear hf
      go_wp2
      go_ret2
      exact ⟨HF.out, Grew.refl _⟩

theorem specDig (s : ByteArray) (w : World) (hs : s.size ≤ maxLen) :
    Calls Tryz.prog 50 #[.string s] w fun e w' => e = .returned (numE 10 15 s) ∧ Grew w w' := by
  by_cases h : s.size < 1 ∨ 15 < s.size
  · exact specDig_out s w hs h
  · exact specDig_in s w (by omega) (by omega)

theorem implNum10_out (s : ByteArray) (w : World) (hs : s.size ≤ maxLen) (h : s.size < 1 ∨ 15 < s.size) :
    Calls Tryz.prog 176 #[.string s, .int .i64 10, .int .i64 15] w fun e w' => e = .returned (numE 10 15 s) ∧ Grew w w' := by
  unfold maxLen at hs
  have ht := numE_no (numOk_out (b := 10) h)
  have HT : Hid (_ = Ending.returned (numE 10 15 s)) := ht
  clear ht
  rcases h with h | h
  · go_enter Tryz.func176, Tryz.ntmps176
    go_wp2
    go_ret2
    exact ⟨HT.out, Grew.refl _⟩
  · have h' : ¬ s.size < 1 := by omega
    go_enter Tryz.func176, Tryz.ntmps176
    go_wp2
    go_ret2
    exact ⟨HT.out, Grew.refl _⟩

set_option maxHeartbeats 400000 in
theorem implNum10_in (s : ByteArray) (w : World) (h1 : 1 ≤ s.size) (h2 : s.size ≤ 15) :
    Calls Tryz.prog 176 #[.string s, .int .i64 10, .int .i64 15] w fun e w' => e = .returned (numE 10 15 s) ∧ Grew w w' := by
  have d1 : decide ((s.size : Int) < 1) = false := by simp; omega
  have d2 : decide (15 < (s.size : Int)) = false := by simp; omega
  go_enter Tryz.func176, Tryz.ntmps176
  go_wp2
  go_loopw [8] (fun v wr => ∃ (pos : Nat) (n : Int), pos ≤ s.size ∧ wr = w.iter s pos ∧ v = .int .i64 n ∧ 0 ≤ n ∧ n ≤ 1000000000000000 ∧ Hid (allB (digN 10) (s.data.toList.take pos) = true) ∧ Hid (n = numL 10 (s.data.toList.take pos))) (fun _ wr => s.size - wr.iterPos w.heap.size)
  case atStart => exact ⟨0, 0, Nat.zero_le _, rfl, rfl, by decide, by decide, allB_nil _ _, rfl⟩
  case round =>
    obtain ⟨pos, n, hpos, rfl, rfl, hn0, hn1, ha, hn⟩ := hrel
    by_cases hp : pos < s.size
    · by_cases hasc : (s[pos]).toNat < 128
      · have hnx : ∀ ty, (Instr.next (.pointer (some ⟨w.heap.size, 0, none⟩)) true ty).run Tryz.prog (w.iter s pos) = _ := fun ty => run_next_ascii w s pos ty hp hasc
        have hbd := digV_bd (s[pos].toNat : Int)
        by_cases hg : 0 ≤ digV (s[pos].toNat : Int) ∧ digV (s[pos].toNat : Int) < 10
        · have e2 := allB_step hp ha.out (digN_yes (b := 10) hg.1 hg.2)
          have e3 := numL_step hp hn.out
          have e4 := num_bound10 (by omega) (by omega) e2
          rw [← e3] at e4
          have H2 : Hid (allB (digN 10) (s.data.toList.take (pos + 1)) = true) := e2
          have H3 : Hid (n * 10 + digV (s[pos].toNat : Int) = numL 10 (s.data.toList.take (pos + 1))) := e3
          have H4 : Hid (0 ≤ n * 10 + digV (s[pos].toNat : Int) ∧ n * 10 + digV (s[pos].toNat : Int) ≤ 1000000000000000) := e4
          clear e2 e3 e4
          obtain ⟨hb1, hb2⟩ := hbd
          obtain ⟨hg1, hg2⟩ := hg
          go_wp2_with (go_at_call 191; refine (implDigV _ _).mono ?_; rintro e w' ⟨rfl, rfl⟩)
          go_roundw
          case rel => exact ⟨pos + 1, _, by omega, rfl, rfl, H4.out.1, H4.out.2, H2, H3⟩
          case measure => simp; omega
        · have hf := numE_no (numOk_in (b := 10) h1 h2 (allB_not hp (digN_no hg)))
          have HF : Hid (_ = Ending.returned (numE 10 15 s)) := hf
          clear hf
          rcases (show digV (s[pos].toNat : Int) < 0 ∨ (0 ≤ digV (s[pos].toNat : Int) ∧ 10 ≤ digV (s[pos].toNat : Int)) from by omega) with g | ⟨g, g'⟩
          all_goals
            clear hg
            go_wp2_with (go_at_call 191; refine (implDigV _ _).mono ?_; rintro e w' ⟨rfl, rfl⟩)
            go_ret2
            exact ⟨HF.out, grew_iter _ _ _⟩
      · have hnx : ∀ ty, (Instr.next (.pointer (some ⟨w.heap.size, 0, none⟩)) true ty).run Tryz.prog (w.iter s pos) = _ := fun ty => run_next_any w s pos ty hp
        have hd := (decode_high s pos hp (by omega)).1
        have hz : digV (s[pos].toNat : Int) = -1 := digV_high (by omega)
        have hf := numE_no (numOk_in (b := 10) h1 h2 (allB_not hp (digN_no (by omega))))
        have HF : Hid (_ = Ending.returned (numE 10 15 s)) := hf
        clear hf hz
        generalize (Utf8.decode s pos).1 = r at hnx hd
        generalize (Utf8.decode s pos).2 = p2 at hnx
        have ht : digV (r : Int) = -1 := digV_high (by omega)
        go_wp2_with (go_at_call 191; refine (implDigV _ _).mono ?_; rintro e w' ⟨rfl, rfl⟩)
        go_ret2
        exact ⟨HF.out, grew_iter _ _ _⟩
    · have hnx : ∀ ty, (Instr.next (.pointer (some ⟨w.heap.size, 0, none⟩)) true ty).run Tryz.prog (w.iter s pos) = _ := fun ty => run_next_end w s pos ty hp
      have hf := numE_yes (numOk_in (b := 10) h1 h2 (allB_end hp ha.out)) (hn.out.trans (by rw [take_all s pos hp]))
      have HF : Hid (_ = Ending.returned (numE 10 15 s)) := hf
      clear hf
      go_wp2
      go_ret2
      exact ⟨HF.out, grew_iter _ _ _⟩

theorem implNum10 (s : ByteArray) (w : World) (hs : s.size ≤ maxLen) :
    Calls Tryz.prog 176 #[.string s, .int .i64 10, .int .i64 15] w fun e w' => e = .returned (numE 10 15 s) ∧ Grew w w' := by
  by_cases h : s.size < 1 ∨ 15 < s.size
  · exact implNum10_out s w hs h
  · exact implNum10_in s w (by omega) (by omega)

theorem implDig (s : ByteArray) (w : World) (hs : s.size ≤ maxLen) :
    Calls Tryz.prog 149 #[.string s] w fun e w' => e = .returned (numE 10 15 s) ∧ Grew w w' := by
  unfold numE
  go_enter Tryz.func149, Tryz.ntmps149
  go_wp2_with (go_at_call 176; refine (implNum10 _ _ hs).mono ?_; unfold numE; rintro e w' ⟨rfl, hb⟩)
  go_ret2
  exact ⟨rfl, hb⟩
end Go.Proofs.YtkaogmdhjcgcdaaGreatDoor.Dd
namespace Go.Proofs.YtkaogmdhjcgcdaaGreatDoor.Dd
open Go.RowKit Go.Sort

/-- The number of a month's name, nought where it is none. -/
def monV (t : ByteArray) : Int := if moN 1 = t then 1 else if moN 2 = t then 2 else if moN 3 = t then 3 else if moN 4 = t then 4 else if moN 5 = t then 5 else if moN 6 = t then 6 else if moN 7 = t then 7 else if moN 8 = t then 8 else if moN 9 = t then 9 else if moN 10 = t then 10 else if moN 11 = t then 11 else if moN 12 = t then 12 else 0
theorem monV_bd (t : ByteArray) : 0 ≤ monV t ∧ monV t ≤ 12 := by
  unfold monV
  repeat' split
  all_goals omega
theorem monV_of {k : Int} (h1 : 1 ≤ k) (h2 : k ≤ 12) : monV (moN k) = k := by
  rcases months h1 h2 with rfl | rfl | rfl | rfl | rfl | rfl | rfl | rfl | rfl | rfl | rfl | rfl <;> decide
theorem monV_out {t : ByteArray} {k : Int} (h1 : 1 ≤ k) (h : monV t = k) : moN k = t := by
  unfold monV at h
  by_cases h1' : moN 1 = t
  · rw [if_pos h1'] at h; subst h; exact h1'
  rw [if_neg h1'] at h
  by_cases h2' : moN 2 = t
  · rw [if_pos h2'] at h; subst h; exact h2'
  rw [if_neg h2'] at h
  by_cases h3' : moN 3 = t
  · rw [if_pos h3'] at h; subst h; exact h3'
  rw [if_neg h3'] at h
  by_cases h4' : moN 4 = t
  · rw [if_pos h4'] at h; subst h; exact h4'
  rw [if_neg h4'] at h
  by_cases h5' : moN 5 = t
  · rw [if_pos h5'] at h; subst h; exact h5'
  rw [if_neg h5'] at h
  by_cases h6' : moN 6 = t
  · rw [if_pos h6'] at h; subst h; exact h6'
  rw [if_neg h6'] at h
  by_cases h7' : moN 7 = t
  · rw [if_pos h7'] at h; subst h; exact h7'
  rw [if_neg h7'] at h
  by_cases h8' : moN 8 = t
  · rw [if_pos h8'] at h; subst h; exact h8'
  rw [if_neg h8'] at h
  by_cases h9' : moN 9 = t
  · rw [if_pos h9'] at h; subst h; exact h9'
  rw [if_neg h9'] at h
  by_cases h10' : moN 10 = t
  · rw [if_pos h10'] at h; subst h; exact h10'
  rw [if_neg h10'] at h
  by_cases h11' : moN 11 = t
  · rw [if_pos h11'] at h; subst h; exact h11'
  rw [if_neg h11'] at h
  by_cases h12' : moN 12 = t
  · rw [if_pos h12'] at h; subst h; exact h12'
  rw [if_neg h12'] at h
  omega
theorem bytes_ne {a b : ByteArray} (h : a ≠ b) : (a.toList == b.toList) = false := by
  rw [ByteArray.toList_eq, ByteArray.toList_eq]
  refine beq_eq_false_iff_ne.2 fun e => h ?_
  have : a.data = b.data := Array.ext' e
  cases a; cases b; exact congrArg _ this
theorem bytes_eq {a b : ByteArray} (h : a = b) : (a.toList == b.toList) = true := by subst h; simp
theorem monV_not {t : ByteArray} {k : Int} (h1 : 1 ≤ k) (h : moN k ≠ t) : monV t ≠ k := fun e => h (monV_out h1 e)
theorem monV_yes {t : ByteArray} {k : Int} (h1 : 1 ≤ k) (h2 : k ≤ 12) (h : moN k = t) : monV t = k := by subst h; exact monV_of h1 h2

theorem digNought (s : ByteArray) (w : World) (hs : s.size ≤ maxLen) :
    Calls Tryz.prog 139 #[.string s] w fun e w' => e = .returned (.int .i64 (numV 10 15 s)) ∧ Grew w w' := by
  go_enter Tryz.func139, Tryz.ntmps139
  go_wp2_with (go_at_call 149; refine (implDig _ _ hs).mono ?_; rintro e x2 ⟨rfl, hb2⟩; unfold numE)
  go_ret
  exact ⟨rfl, hb2⟩

set_option maxHeartbeats 1000000 in
theorem monNamed (t : ByteArray) (w : World) :
    Calls Tryz.prog 140 #[.string t] w fun e w' => e = .returned (.int .i64 (monV t)) ∧ Grew w w' := by
  go_enter Tryz.func140, Tryz.ntmps140
  go_wp2
  go_loopw [3] (fun v wr => ∃ k : Int, v = .int .i64 k ∧ 1 ≤ k ∧ k ≤ 13 ∧ Hid (∀ j, 1 ≤ j → j < k → monV t ≠ j) ∧ Grew w wr) (fun v _ => (14 - intOf v).toNat)
  case atStart => exact ⟨1, rfl, by omega, by omega, fun j h1 h2 => by omega, Grew.refl _⟩
  case round =>
    obtain ⟨k, rfl, hk1, hk2, hno, hw⟩ := hrel
    by_cases hle : k ≤ 12
    · by_cases he : moN k = t
      · have hv := monV_yes hk1 hle he
        have HV : Hid (monV t = k) := hv
        have hq := bytes_eq he
        clear he
        clear hv
        go_wp2_with (go_at_call 168; refine (implMoN _ _ hk1 hle).mono ?_; rintro e x2 ⟨rfl, hb2⟩)
        go_ret
        exact ⟨ret_int HV.out.symm, hw.trans hb2⟩
      · have hv := monV_not hk1 he
        have HV : Hid (monV t ≠ k) := hv
        have hq := bytes_ne he
        clear he
        clear hv
        go_wp2_with (go_at_call 168; refine (implMoN _ _ hk1 hle).mono ?_; rintro e x2 ⟨rfl, hb2⟩)
        go_roundw
        case rel => exact ⟨k + 1, rfl, by omega, by omega, fun j h1 h2 => by by_cases e : j = k; (· rw [e]; exact HV.out); exact hno.out j h1 (by omega), hw.trans hb2⟩
        case measure => simp [intOf]; omega
    · have hz : monV t = 0 := by
        have h1 := monV_bd t
        by_cases h : monV t = 0
        · exact h
        · exact absurd rfl (hno.out (monV t) (by omega) (by omega))
      have HZ : Hid (monV t = 0) := hz
      clear hz
      go_wp2
      go_ret
      exact ⟨ret_int HZ.out.symm, hw⟩
end Go.Proofs.YtkaogmdhjcgcdaaGreatDoor.Dd
namespace Go.Proofs.YtkaogmdhjcgcdaaGreatDoor.Dd
open Go.RowKit

theorem three {s : ByteArray} (h : s.size = 3) : ∃ a b c, s = ⟨#[a, b, c]⟩ := by
  obtain ⟨⟨l⟩⟩ := s
  match l, h with
  | [a, b, c], _ => exact ⟨a, b, c, rfl⟩
theorem showA_is (y m d h i s : Int) : ∃ a b c p q r, moN m = ⟨#[p, q, r]⟩ ∧ showA y m d h i s = ⟨#[a, b, c, 44, 32, dgt (d / 10), dgt d, 32, p, q, r, 32, dgt (y / 100 / 10), dgt (y / 100), dgt (y / 10), dgt y, 32, dgt (h / 10), dgt h, 58, dgt (i / 10), dgt i, 58, dgt (s / 10), dgt s, 32, 71, 77, 84]⟩ := by
  obtain ⟨a, b, c, h1⟩ := three (wkN_size ((dayN y m d + 4) % 7))
  obtain ⟨p, q, r, h2⟩ := three (moN_size m)
  refine ⟨a, b, c, p, q, r, h2, ?_⟩
  unfold showA
  rw [h1, h2]
  rfl
theorem showA_size (y m d h i s : Int) : (showA y m d h i s).size = 29 := by
  obtain ⟨a, b, c, p, q, r, _, e⟩ := showA_is y m d h i s
  rw [e]; rfl
theorem dig_of (n : Int) : digV ((dgt n).toNat : Int) = n % 10 := by
  rw [dgt_nat, digV_d (by omega)]; omega
theorem digN_of (n : Int) : digN 10 ((dgt n).toNat : Int) = true := digN_yes (by rw [dig_of]; omega) (by rw [dig_of]; omega)
theorem two_num {n : Int} (h0 : 0 ≤ n) (h1 : n ≤ 99) : numV 10 15 (two n) = n := by
  have ok : numOk 10 15 (two n) = true := numOk_in (by rw [two_size]; omega) (by rw [two_size]; omega) (by simp [two, allB, digN_of])
  rw [num_yes ok]
  simp only [two, numL, List.foldl, dig_of]
  omega
theorem four_num {n : Int} (h0 : 0 ≤ n) (h1 : n ≤ 9999) : numV 10 15 ⟨#[dgt (n / 100 / 10), dgt (n / 100), dgt (n / 10), dgt n]⟩ = n := by
  have ok : numOk 10 15 ⟨#[dgt (n / 100 / 10), dgt (n / 100), dgt (n / 10), dgt n]⟩ = true := numOk_in (show 1 ≤ 4 by omega) (show 4 ≤ 15 by omega) (by simp [allB, digN_of])
  rw [num_yes ok]
  simp only [numL, List.foldl, dig_of]
  omega
/-- What the fixed places of a text hold. -/
theorem parts_of {y m d h i s : Int} (ok : okD y m d h i s) {t : ByteArray} (e : showA y m d h i s = t) :
    numV 10 15 (t.extract 12 16) = y ∧ monV (t.extract 8 11) = m ∧ numV 10 15 (t.extract 5 7) = d ∧ numV 10 15 (t.extract 17 19) = h ∧ numV 10 15 (t.extract 20 22) = i ∧ numV 10 15 (t.extract 23 25) = s ∧ numV 10 15 (t.extract 12 14) = y / 100 ∧ numV 10 15 (t.extract 14 16) = y % 100 := by
  obtain ⟨a, b, c, p, q, r, hm, hs⟩ := showA_is y m d h i s
  rw [hs] at e
  subst e
  have hd31 := mdays_bd y m
  obtain ⟨h1, h2, h3, h4, h5, h6⟩ := ok
  refine ⟨?_, ?_, ?_, ?_, ?_, ?_, ?_, ?_⟩
  · exact four_num (n := y) (by omega) (by omega)
  · have : monV ⟨#[p, q, r]⟩ = m := by rw [← hm]; exact monV_of h2.1 h2.2
    exact this
  · exact two_num (n := d) (by omega) (by omega)
  · exact two_num (n := h) (by omega) (by omega)
  · exact two_num (n := i) (by omega) (by omega)
  · exact two_num (n := s) (by omega) (by omega)
  · exact two_num (n := y / 100) (by omega) (by omega)
  · have := two_num (n := y % 100) (by omega) (by omega)
    have e1 : dgt (y % 100 / 10) = dgt (y / 10) := by unfold dgt; rw [show y % 100 / 10 % 10 = y / 10 % 10 from by omega]
    have e2 : dgt (y % 100) = dgt y := by unfold dgt; rw [show y % 100 % 10 = y % 10 from by omega]
    unfold two at this
    rw [e1, e2] at this
    exact this
end Go.Proofs.YtkaogmdhjcgcdaaGreatDoor.Dd
namespace Go.Proofs.YtkaogmdhjcgcdaaGreatDoor
open Go.RowKit Go.Sort
set_option linter.unusedVariables false

set_option maxHeartbeats 1000000 in
theorem l10DrawDate (b : Nat) (sa : Option Addr) (sl sc : Nat) (w : World) (hc : Cur w b sa sl sc) :
    Calls Tryz.prog 109 #[.pointer (some ⟨b, 0, Option.none⟩)] w fun e w' => (∃ t : ByteArray, e = .returned (.string t) ∧ t.size ≤ 29) ∧ Cur w' b sa sl sc ∧ Beside b w w' := by
  have hbz : b < w.heap.size := hc.2.2.1
  go_enter Tryz.func109, Tryz.ntmps109
  go_wp2_with fail
  refine (l1Below b sa sl sc 40 (by decide) (by decide) _ hc).mono ?_
  rintro e w1 ⟨x, rfl, hx0, hx1, hc1, hb1⟩
  have e1 : IntKind.i64.wrap (990 + x) = 990 + x := by rw [IntKind.wrap_i64]; omega
  have C1 : Hid (Cur w1 b sa sl sc) := hc1
  have B1 : Hid (Beside b w w1) := hb1
  clear hc hc1 hb1
  go_wp2_with fail
  refine (Dd.specAt_in (990 + x) _ (by omega) (by omega)).mono ?_
  rintro e w2 ⟨⟨y, m, d, h, i, s, rfl, hok, _⟩, hg2⟩
  have C2 : Hid (Cur w2 b sa sl sc) := C1.out.kept hg2.low C1.out.2.2.1
  have B2 : Hid (Beside b w w2) := B1.out.below hg2.low
  clear hg2 C1 B1
  have hsz := Dd.showA_size y m d h i s
  have hsh := fun W => Dd.specShow_in y m d h i s W (decide_eq_true hok)
  generalize Dd.showA y m d h i s = t at hsz hsh
  go_wp2_with fail
  refine (hsh _).mono ?_
  rintro e w3 ⟨rfl, hg3⟩
  have C3 : Hid (Cur w3 b sa sl sc) := C2.out.kept hg3.low C2.out.2.2.1
  have B3 : Hid (Beside b w w3) := B2.out.below hg3.low
  clear hg3 C2 B2 hsh hok
  go_wp2
  go_ret
  exact ⟨⟨t, rfl, by omega⟩, C3.out, B3.out⟩
theorem OwnsF.but10 {w : World} {B g k : Nat} {v : Value} {l : List Fl} (h : OwnsF w B v l) (hne : ∀ j, v.ownBlock = some j → j ≠ g) (x : Value) : OwnsF (w.setCell ⟨g, k, none⟩ x) B v l := by
  refine ⟨h.1, ?_⟩
  rcases h.2 with h0 | ⟨g2, cap, cur, hv, hbg, hg, rest⟩
  · exact .inl h0
  · exact .inr ⟨g2, cap, cur, hv, hbg, by rw [Below.heap_setCell _ _ _ _ (by show g2 ≠ g; exact hne g2 (by rw [hv]; rfl))]; exact hg, rest⟩
theorem Beside.set10 {b g k : Nat} {w x : World} (h : Beside b w x) (hg : w.heap.size ≤ g) (v : Value) : Beside b w (x.setCell ⟨g, k, none⟩ v) :=
  ⟨h.1, h.2.1, h.2.2.1, by rw [World.size_setCell]; exact h.2.2.2.1, fun j hj hne => (Below.heap_setCell _ _ _ _ (by show j ≠ g; omega)).trans (h.2.2.2.2 j hj hne)⟩
theorem below_set10 (x : World) (g k : Nat) (v : Value) : Below g x (x.setCell ⟨g, k, none⟩ v) := (Below.refl g x).setCell (show g ≤ (⟨g, k, none⟩ : Addr).block from Nat.le_refl _) v
set_option maxRecDepth 100000 in
set_option maxHeartbeats 16000000 in
theorem l10DrawFields (b : Nat) (sa : Option Addr) (sl sc : Nat) (w : World) (hc : Cur w b sa sl sc) :
    Calls Tryz.prog 74 #[.pointer (some ⟨b, 0, Option.none⟩)] w fun e w' => (∃ u l, e = .returned u ∧ OwnsF w' w.heap.size u l ∧ FewF 3 l) ∧ Cur w' b sa sl sc ∧ Beside b w w' := by
  have hbz : b < w.heap.size := hc.2.2.1
  have hb0 := (Below.refl w.heap.size w).alloc (Nat.le_refl _) (.cells #[] 105)
  go_enter Tryz.func74, Tryz.ntmps74
  go_wp2_with fail
  refine (l1Below b sa sl sc 4 (by decide) (by decide) (w.alloc (.cells #[] 105)) (hc.kept hb0 hbz)).mono ?_
  rintro e w1 ⟨z, rfl, hz0, hz1, hc1, hb1⟩
  obtain ⟨m, rfl⟩ : ∃ m : Nat, z = m := ⟨z.toNat, by omega⟩
  have ho1 := (OwnsF.born w).beside10 hb1 hbz
  have hbs1 := ((Beside.refl b w).below hb0).trans hb1
  go_wp2_with fail
  go_loopw [3, 4, 5] (fun u i _ wr => ∃ (k : Nat) (l : List Fl), i = .int .i64 k ∧ l.length + k ≤ 3 ∧ Hid (∀ f ∈ l, f.1.size ≤ 13 ∧ f.2.size ≤ 84) ∧ Hid (OwnsF wr w.heap.size u l) ∧ Hid (Cur wr b sa sl sc) ∧ Hid (Beside b w wr)) (fun _ i _ _ => (intOf i).toNat)
  case atStart => exact ⟨m, [], rfl, by simp; omega, (fun f hf => by cases hf), ho1, hc1, hbs1⟩
  case round =>
    clear ho1 hc1 hbs1 hb1
    obtain ⟨k, l, rfl, hlk, hsm, hown, hcur, hbes⟩ := hrel
    by_cases hk : 0 < k
    · have hbr : b < wr.heap.size := hcur.out.2.2.1
      have hwr : w.heap.size ≤ wr.heap.size := hbes.out.2.2.2.1
      obtain ⟨ua, uc, rfl, _⟩ := hown.out.form
      go_wp2_with fail
      refine (l1Below b sa sl sc 8 (by decide) (by decide) _ (hcur.out.more9 _)).mono ?_
      rintro e w2 ⟨y, rfl, hy0, hy1, hc2, hb2⟩
      obtain ⟨y, rfl⟩ := Int.eq_ofNat_of_zero_le hy0
      have hs2 : wr.heap.size + 1 ≤ w2.heap.size := by have := hb2.2.2.2.1; simpa using this
      have HN : Hid (∀ j, (Value.slice ua l.length uc).ownBlock = some j → j ≠ w2.heap.size) := fun j hj e => by have := hown.out.under j hj; omega
      have HC : Hid (∀ (j : Nat) (s : ByteArray), (wr.alloc (.cells #[.string ⟨#[99, 97, 99, 104, 101, 45, 99, 111, 110, 116, 114, 111, 108]⟩, .string ⟨#[101, 116, 97, 103]⟩, .string ⟨#[100, 97, 116, 101]⟩, .string ⟨#[101, 120, 112, 105, 114, 101, 115]⟩, .string ⟨#[97, 103, 101]⟩, .string ⟨#[118, 97, 114, 121]⟩, .string ⟨#[115, 117, 114, 114, 111, 103, 97, 116, 101, 45, 107, 101, 121]⟩, .string ⟨#[99, 97, 99, 104, 101, 45, 99, 111, 110, 116, 114, 111, 108]⟩] 9)).cell? ⟨wr.heap.size, j, Option.none⟩ = some (.string s) → w2.cell? ⟨wr.heap.size, j, Option.none⟩ = some (.string s)) := fun j s h => besideCell hb2 (by omega) h
      have O2 : Hid (OwnsF w2 w.heap.size (.slice ua l.length uc) l) := (hown.out.alloc _).beside10 hb2 hbz
      have B2 : Hid (Beside b w w2) := (hbes.out.more9 _).trans hb2
      have C2 : Hid (Cur w2 b sa sl sc) := hc2
      have hb2z : b < w2.heap.size := hc2.2.2.1
      clear hb2 hc2 hcur hbes hown
      rcases (show y = 0 ∨ y = 1 ∨ y = 2 ∨ y = 3 ∨ y = 4 ∨ y = 5 ∨ y = 6 ∨ y = 7 by omega) with rfl | rfl | rfl | rfl | rfl | rfl | rfl | rfl
      · have hcell := HC.out 0 ⟨#[99, 97, 99, 104, 101, 45, 99, 111, 110, 116, 114, 111, 108]⟩ (World.cell?_alloc_mark _ _ _ _ _)
        have O3 : Hid (OwnsF (w2.alloc (.cells #[.string ⟨#[99, 97, 99, 104, 101, 45, 99, 111, 110, 116, 114, 111, 108]⟩, .string ⟨#[]⟩] 105)) w.heap.size (.slice ua l.length uc) l) := O2.out.alloc _
        have B3 : Hid (Beside b w (w2.alloc (.cells #[.string ⟨#[99, 97, 99, 104, 101, 45, 99, 111, 110, 116, 114, 111, 108]⟩, .string ⟨#[]⟩] 105))) := B2.out.more9 _
        have C3 : Hid (Cur (w2.alloc (.cells #[.string ⟨#[99, 97, 99, 104, 101, 45, 99, 111, 110, 116, 114, 111, 108]⟩, .string ⟨#[]⟩] 105)) b sa sl sc) := C2.out.more9 _
        have f0 : Hid ((w2.alloc (.cells #[.string ⟨#[99, 97, 99, 104, 101, 45, 99, 111, 110, 116, 114, 111, 108]⟩, .string ⟨#[]⟩] 105)).cell? ⟨w2.heap.size, 0, Option.none⟩ = some (.string ⟨#[99, 97, 99, 104, 101, 45, 99, 111, 110, 116, 114, 111, 108]⟩)) := World.cell?_alloc_mark _ _ _ _ _
        have f1 : Hid ((w2.alloc (.cells #[.string ⟨#[99, 97, 99, 104, 101, 45, 99, 111, 110, 116, 114, 111, 108]⟩, .string ⟨#[]⟩] 105)).cell? ⟨w2.heap.size, 1, Option.none⟩ = some (.string ⟨#[]⟩)) := World.cell?_alloc_mark _ _ _ _ _
        have ff : Hid ((w2.alloc (.cells #[.string ⟨#[99, 97, 99, 104, 101, 45, 99, 111, 110, 116, 114, 111, 108]⟩, .string ⟨#[]⟩] 105)).frozen? ⟨w2.heap.size, 1, Option.none⟩ = false) := by show _ = _; rw [World.frozen?_alloc_mark]; simp
        have hs3 : Hid ((w2.alloc (.cells #[.string ⟨#[99, 97, 99, 104, 101, 45, 99, 111, 110, 116, 114, 111, 108]⟩, .string ⟨#[]⟩] 105)).heap.size = w2.heap.size + 1) := by show _ = _; simp
        clear O2 B2 C2
        go_wp2_with fail
        refine (l9DrawText b sa sl sc _ C3.out).mono ?_
        rintro e w4 ⟨⟨s, rfl, hs⟩, hc4, hb4⟩
        have O4 : Hid (OwnsF w4 w.heap.size (.slice ua l.length uc) l) := O3.out.beside10 hb4 hbz
        have B4 : Hid (Beside b w w4) := B3.out.trans hb4
        have C4 : Hid (Cur w4 b sa sl sc) := hc4
        have g0 := besideCell hb4 (by omega) f0.out
        have g1 := besideCell hb4 (by omega) f1.out
        have gf : w4.frozen? ⟨w2.heap.size, 1, Option.none⟩ = false := (World.frozen?_of_block (a := ⟨w2.heap.size, 1, Option.none⟩) (hb4.2.2.2.2 w2.heap.size (by rw [hs3.out]; omega) (by omega))).trans ff.out
        clear hb4 hc4 O3 B3 C3 f0 f1 ff hcell
        have ht := trimB_size s
        have hT := fun W => specTrim s W (by omega)
        generalize trimB s = t at ht hT
        go_wp2_with fail
        refine (hT _).mono ?_
        rintro e w5 ⟨rfl, rfl⟩
        clear hT
        have htz : t.size ≤ 84 := by omega
        have O6 : Hid (OwnsF (w4.setCell ⟨w2.heap.size, 1, Option.none⟩ (.string t)) w.heap.size (.slice ua l.length uc) l) := O4.out.but10 HN.out _
        have B6 : Hid (Beside b w (w4.setCell ⟨w2.heap.size, 1, Option.none⟩ (.string t))) := B4.out.set10 (by omega) _
        have C6 : Hid (Cur (w4.setCell ⟨w2.heap.size, 1, Option.none⟩ (.string t)) b sa sl sc) := C4.out.kept (below_set10 _ _ _ _) hb2z
        have h0 : (w4.setCell ⟨w2.heap.size, 1, Option.none⟩ (.string t)).cell? ⟨w2.heap.size, 0, Option.none⟩ = some (.string ⟨#[99, 97, 99, 104, 101, 45, 99, 111, 110, 116, 114, 111, 108]⟩) := by rw [World.cell?_setCell_other _ _ _ _ (by simp)]; exact g0
        have h1 : (w4.setCell ⟨w2.heap.size, 1, Option.none⟩ (.string t)).cell? ⟨w2.heap.size, 1, Option.none⟩ = some (.string t) := World.cell?_setCell_same _ _ _ g1
        clear O4 B4 C4
        go_upto_region 20 with fail
        generalize w4.setCell ⟨w2.heap.size, 1, Option.none⟩ (.string t) = w6 at O6 B6 C6 h0 h1 ⊢
        go_wp2_with (at_builtin; refine wpList_pushF _ rfl (.tmp 58) (.tmp 60) rfl w.heap.size _ _ (⟨#[99, 97, 99, 104, 101, 45, 99, 111, 110, 116, 114, 111, 108]⟩, t) rfl O6.out rfl (by omega) B6.out.2.2.2.1 ?_; intro v7 w7 ho7 hg7)
        have O7 : Hid (OwnsF w7 w.heap.size v7 (l ++ [(⟨#[99, 97, 99, 104, 101, 45, 99, 111, 110, 116, 114, 111, 108]⟩, t)])) := ho7
        have B7 : Hid (Beside b w w7) := B6.out.grown10 hg7 (OwnsF.from O6.out)
        have C7 : Hid (Cur w7 b sa sl sc) := C6.out.kept (grown_low10 hg7 (OwnsF.from O6.out) B6.out.2.2.2.1) hbz
        have S7 : Hid (∀ f ∈ l ++ [(⟨#[99, 97, 99, 104, 101, 45, 99, 111, 110, 116, 114, 111, 108]⟩, t)], f.1.size ≤ 13 ∧ f.2.size ≤ 84) := fun g hg => by
          rcases List.mem_append.1 hg with hg | hg
          · exact hsm.out g hg
          · rw [List.mem_singleton.1 hg]; exact ⟨by show (⟨#[99, 97, 99, 104, 101, 45, 99, 111, 110, 116, 114, 111, 108]⟩ : ByteArray).size ≤ 13; decide, htz⟩
        clear ho7 hg7 O6 B6 C6 hsm h0 h1
        go_roundw
        case rel => exact ⟨k - 1, l ++ [(⟨#[99, 97, 99, 104, 101, 45, 99, 111, 110, 116, 114, 111, 108]⟩, t)], by go_num, by simp; omega, S7, O7, C7, B7⟩
        case measure => simp [intOf]; omega
      · have hcell := HC.out 1 ⟨#[101, 116, 97, 103]⟩ (World.cell?_alloc_mark _ _ _ _ _)
        have O3 : Hid (OwnsF (w2.alloc (.cells #[.string ⟨#[101, 116, 97, 103]⟩, .string ⟨#[]⟩] 105)) w.heap.size (.slice ua l.length uc) l) := O2.out.alloc _
        have B3 : Hid (Beside b w (w2.alloc (.cells #[.string ⟨#[101, 116, 97, 103]⟩, .string ⟨#[]⟩] 105))) := B2.out.more9 _
        have C3 : Hid (Cur (w2.alloc (.cells #[.string ⟨#[101, 116, 97, 103]⟩, .string ⟨#[]⟩] 105)) b sa sl sc) := C2.out.more9 _
        have f0 : Hid ((w2.alloc (.cells #[.string ⟨#[101, 116, 97, 103]⟩, .string ⟨#[]⟩] 105)).cell? ⟨w2.heap.size, 0, Option.none⟩ = some (.string ⟨#[101, 116, 97, 103]⟩)) := World.cell?_alloc_mark _ _ _ _ _
        have f1 : Hid ((w2.alloc (.cells #[.string ⟨#[101, 116, 97, 103]⟩, .string ⟨#[]⟩] 105)).cell? ⟨w2.heap.size, 1, Option.none⟩ = some (.string ⟨#[]⟩)) := World.cell?_alloc_mark _ _ _ _ _
        have ff : Hid ((w2.alloc (.cells #[.string ⟨#[101, 116, 97, 103]⟩, .string ⟨#[]⟩] 105)).frozen? ⟨w2.heap.size, 1, Option.none⟩ = false) := by show _ = _; rw [World.frozen?_alloc_mark]; simp
        have hs3 : Hid ((w2.alloc (.cells #[.string ⟨#[101, 116, 97, 103]⟩, .string ⟨#[]⟩] 105)).heap.size = w2.heap.size + 1) := by show _ = _; simp
        have O2x := O2
        have B2x := B2
        have C2x := C2
        clear O2 B2 C2
        have O4 := O3
        have B4 := B3
        have C4 := C3
        have g0 := f0.out
        have g1 := f1.out
        have gf := ff.out
        clear O3 B3 C3 f0 f1 ff
        have htz : (⟨#[34, 97, 34]⟩ : ByteArray).size ≤ 84 := by decide
        have O6 : Hid (OwnsF (w2.alloc (.cells #[.string ⟨#[101, 116, 97, 103]⟩, .string ⟨#[34, 97, 34]⟩] 105)) w.heap.size (.slice ua l.length uc) l) := O2x.out.alloc _
        have B6 : Hid (Beside b w (w2.alloc (.cells #[.string ⟨#[101, 116, 97, 103]⟩, .string ⟨#[34, 97, 34]⟩] 105))) := B2x.out.more9 _
        have C6 : Hid (Cur (w2.alloc (.cells #[.string ⟨#[101, 116, 97, 103]⟩, .string ⟨#[34, 97, 34]⟩] 105)) b sa sl sc) := C2x.out.more9 _
        have h0 : (w2.alloc (.cells #[.string ⟨#[101, 116, 97, 103]⟩, .string ⟨#[34, 97, 34]⟩] 105)).cell? ⟨w2.heap.size, 0, Option.none⟩ = some (.string ⟨#[101, 116, 97, 103]⟩) := World.cell?_alloc_mark _ _ _ _ _
        have h1 : (w2.alloc (.cells #[.string ⟨#[101, 116, 97, 103]⟩, .string ⟨#[34, 97, 34]⟩] 105)).cell? ⟨w2.heap.size, 1, Option.none⟩ = some (.string ⟨#[34, 97, 34]⟩) := World.cell?_alloc_mark _ _ _ _ _
        clear O4 B4 C4
        go_upto_region 20 with fail
        generalize w2.alloc (.cells #[.string ⟨#[101, 116, 97, 103]⟩, .string ⟨#[34, 97, 34]⟩] 105) = w6 at O6 B6 C6 h0 h1 ⊢
        go_wp2_with (at_builtin; refine wpList_pushF _ rfl (.tmp 58) (.tmp 60) rfl w.heap.size _ _ (⟨#[101, 116, 97, 103]⟩, ⟨#[34, 97, 34]⟩) rfl O6.out rfl (by omega) B6.out.2.2.2.1 ?_; intro v7 w7 ho7 hg7)
        have O7 : Hid (OwnsF w7 w.heap.size v7 (l ++ [(⟨#[101, 116, 97, 103]⟩, ⟨#[34, 97, 34]⟩)])) := ho7
        have B7 : Hid (Beside b w w7) := B6.out.grown10 hg7 (OwnsF.from O6.out)
        have C7 : Hid (Cur w7 b sa sl sc) := C6.out.kept (grown_low10 hg7 (OwnsF.from O6.out) B6.out.2.2.2.1) hbz
        have S7 : Hid (∀ f ∈ l ++ [(⟨#[101, 116, 97, 103]⟩, ⟨#[34, 97, 34]⟩)], f.1.size ≤ 13 ∧ f.2.size ≤ 84) := fun g hg => by
          rcases List.mem_append.1 hg with hg | hg
          · exact hsm.out g hg
          · rw [List.mem_singleton.1 hg]; exact ⟨by show (⟨#[101, 116, 97, 103]⟩ : ByteArray).size ≤ 13; decide, htz⟩
        clear ho7 hg7 O6 B6 C6 hsm h0 h1
        go_roundw
        case rel => exact ⟨k - 1, l ++ [(⟨#[101, 116, 97, 103]⟩, ⟨#[34, 97, 34]⟩)], by go_num, by simp; omega, S7, O7, C7, B7⟩
        case measure => simp [intOf]; omega
      · have hcell := HC.out 2 ⟨#[100, 97, 116, 101]⟩ (World.cell?_alloc_mark _ _ _ _ _)
        have O3 : Hid (OwnsF (w2.alloc (.cells #[.string ⟨#[100, 97, 116, 101]⟩, .string ⟨#[]⟩] 105)) w.heap.size (.slice ua l.length uc) l) := O2.out.alloc _
        have B3 : Hid (Beside b w (w2.alloc (.cells #[.string ⟨#[100, 97, 116, 101]⟩, .string ⟨#[]⟩] 105))) := B2.out.more9 _
        have C3 : Hid (Cur (w2.alloc (.cells #[.string ⟨#[100, 97, 116, 101]⟩, .string ⟨#[]⟩] 105)) b sa sl sc) := C2.out.more9 _
        have f0 : Hid ((w2.alloc (.cells #[.string ⟨#[100, 97, 116, 101]⟩, .string ⟨#[]⟩] 105)).cell? ⟨w2.heap.size, 0, Option.none⟩ = some (.string ⟨#[100, 97, 116, 101]⟩)) := World.cell?_alloc_mark _ _ _ _ _
        have f1 : Hid ((w2.alloc (.cells #[.string ⟨#[100, 97, 116, 101]⟩, .string ⟨#[]⟩] 105)).cell? ⟨w2.heap.size, 1, Option.none⟩ = some (.string ⟨#[]⟩)) := World.cell?_alloc_mark _ _ _ _ _
        have ff : Hid ((w2.alloc (.cells #[.string ⟨#[100, 97, 116, 101]⟩, .string ⟨#[]⟩] 105)).frozen? ⟨w2.heap.size, 1, Option.none⟩ = false) := by show _ = _; rw [World.frozen?_alloc_mark]; simp
        have hs3 : Hid ((w2.alloc (.cells #[.string ⟨#[100, 97, 116, 101]⟩, .string ⟨#[]⟩] 105)).heap.size = w2.heap.size + 1) := by show _ = _; simp
        clear O2 B2 C2
        go_wp2_with fail
        refine (l10DrawDate b sa sl sc _ C3.out).mono ?_
        rintro e w4 ⟨⟨t, rfl, hs⟩, hc4, hb4⟩
        have O4 : Hid (OwnsF w4 w.heap.size (.slice ua l.length uc) l) := O3.out.beside10 hb4 hbz
        have B4 : Hid (Beside b w w4) := B3.out.trans hb4
        have C4 : Hid (Cur w4 b sa sl sc) := hc4
        have g0 := besideCell hb4 (by omega) f0.out
        have g1 := besideCell hb4 (by omega) f1.out
        have gf : w4.frozen? ⟨w2.heap.size, 1, Option.none⟩ = false := (World.frozen?_of_block (a := ⟨w2.heap.size, 1, Option.none⟩) (hb4.2.2.2.2 w2.heap.size (by rw [hs3.out]; omega) (by omega))).trans ff.out
        clear hb4 hc4 O3 B3 C3 f0 f1 ff hcell
        have htz : t.size ≤ 84 := by omega
        have O6 : Hid (OwnsF (w4.setCell ⟨w2.heap.size, 1, Option.none⟩ (.string t)) w.heap.size (.slice ua l.length uc) l) := O4.out.but10 HN.out _
        have B6 : Hid (Beside b w (w4.setCell ⟨w2.heap.size, 1, Option.none⟩ (.string t))) := B4.out.set10 (by omega) _
        have C6 : Hid (Cur (w4.setCell ⟨w2.heap.size, 1, Option.none⟩ (.string t)) b sa sl sc) := C4.out.kept (below_set10 _ _ _ _) hb2z
        have h0 : (w4.setCell ⟨w2.heap.size, 1, Option.none⟩ (.string t)).cell? ⟨w2.heap.size, 0, Option.none⟩ = some (.string ⟨#[100, 97, 116, 101]⟩) := by rw [World.cell?_setCell_other _ _ _ _ (by simp)]; exact g0
        have h1 : (w4.setCell ⟨w2.heap.size, 1, Option.none⟩ (.string t)).cell? ⟨w2.heap.size, 1, Option.none⟩ = some (.string t) := World.cell?_setCell_same _ _ _ g1
        clear O4 B4 C4
        go_upto_region 20 with fail
        generalize w4.setCell ⟨w2.heap.size, 1, Option.none⟩ (.string t) = w6 at O6 B6 C6 h0 h1 ⊢
        go_wp2_with (at_builtin; refine wpList_pushF _ rfl (.tmp 58) (.tmp 60) rfl w.heap.size _ _ (⟨#[100, 97, 116, 101]⟩, t) rfl O6.out rfl (by omega) B6.out.2.2.2.1 ?_; intro v7 w7 ho7 hg7)
        have O7 : Hid (OwnsF w7 w.heap.size v7 (l ++ [(⟨#[100, 97, 116, 101]⟩, t)])) := ho7
        have B7 : Hid (Beside b w w7) := B6.out.grown10 hg7 (OwnsF.from O6.out)
        have C7 : Hid (Cur w7 b sa sl sc) := C6.out.kept (grown_low10 hg7 (OwnsF.from O6.out) B6.out.2.2.2.1) hbz
        have S7 : Hid (∀ f ∈ l ++ [(⟨#[100, 97, 116, 101]⟩, t)], f.1.size ≤ 13 ∧ f.2.size ≤ 84) := fun g hg => by
          rcases List.mem_append.1 hg with hg | hg
          · exact hsm.out g hg
          · rw [List.mem_singleton.1 hg]; exact ⟨by show (⟨#[100, 97, 116, 101]⟩ : ByteArray).size ≤ 13; decide, htz⟩
        clear ho7 hg7 O6 B6 C6 hsm h0 h1
        go_roundw
        case rel => exact ⟨k - 1, l ++ [(⟨#[100, 97, 116, 101]⟩, t)], by go_num, by simp; omega, S7, O7, C7, B7⟩
        case measure => simp [intOf]; omega
      · have hcell := HC.out 3 ⟨#[101, 120, 112, 105, 114, 101, 115]⟩ (World.cell?_alloc_mark _ _ _ _ _)
        have O3 : Hid (OwnsF (w2.alloc (.cells #[.string ⟨#[101, 120, 112, 105, 114, 101, 115]⟩, .string ⟨#[]⟩] 105)) w.heap.size (.slice ua l.length uc) l) := O2.out.alloc _
        have B3 : Hid (Beside b w (w2.alloc (.cells #[.string ⟨#[101, 120, 112, 105, 114, 101, 115]⟩, .string ⟨#[]⟩] 105))) := B2.out.more9 _
        have C3 : Hid (Cur (w2.alloc (.cells #[.string ⟨#[101, 120, 112, 105, 114, 101, 115]⟩, .string ⟨#[]⟩] 105)) b sa sl sc) := C2.out.more9 _
        have f0 : Hid ((w2.alloc (.cells #[.string ⟨#[101, 120, 112, 105, 114, 101, 115]⟩, .string ⟨#[]⟩] 105)).cell? ⟨w2.heap.size, 0, Option.none⟩ = some (.string ⟨#[101, 120, 112, 105, 114, 101, 115]⟩)) := World.cell?_alloc_mark _ _ _ _ _
        have f1 : Hid ((w2.alloc (.cells #[.string ⟨#[101, 120, 112, 105, 114, 101, 115]⟩, .string ⟨#[]⟩] 105)).cell? ⟨w2.heap.size, 1, Option.none⟩ = some (.string ⟨#[]⟩)) := World.cell?_alloc_mark _ _ _ _ _
        have ff : Hid ((w2.alloc (.cells #[.string ⟨#[101, 120, 112, 105, 114, 101, 115]⟩, .string ⟨#[]⟩] 105)).frozen? ⟨w2.heap.size, 1, Option.none⟩ = false) := by show _ = _; rw [World.frozen?_alloc_mark]; simp
        have hs3 : Hid ((w2.alloc (.cells #[.string ⟨#[101, 120, 112, 105, 114, 101, 115]⟩, .string ⟨#[]⟩] 105)).heap.size = w2.heap.size + 1) := by show _ = _; simp
        clear O2 B2 C2
        go_wp2_with fail
        refine (l10DrawDate b sa sl sc _ C3.out).mono ?_
        rintro e w4 ⟨⟨t, rfl, hs⟩, hc4, hb4⟩
        have O4 : Hid (OwnsF w4 w.heap.size (.slice ua l.length uc) l) := O3.out.beside10 hb4 hbz
        have B4 : Hid (Beside b w w4) := B3.out.trans hb4
        have C4 : Hid (Cur w4 b sa sl sc) := hc4
        have g0 := besideCell hb4 (by omega) f0.out
        have g1 := besideCell hb4 (by omega) f1.out
        have gf : w4.frozen? ⟨w2.heap.size, 1, Option.none⟩ = false := (World.frozen?_of_block (a := ⟨w2.heap.size, 1, Option.none⟩) (hb4.2.2.2.2 w2.heap.size (by rw [hs3.out]; omega) (by omega))).trans ff.out
        clear hb4 hc4 O3 B3 C3 f0 f1 ff hcell
        have htz : t.size ≤ 84 := by omega
        have O6 : Hid (OwnsF (w4.setCell ⟨w2.heap.size, 1, Option.none⟩ (.string t)) w.heap.size (.slice ua l.length uc) l) := O4.out.but10 HN.out _
        have B6 : Hid (Beside b w (w4.setCell ⟨w2.heap.size, 1, Option.none⟩ (.string t))) := B4.out.set10 (by omega) _
        have C6 : Hid (Cur (w4.setCell ⟨w2.heap.size, 1, Option.none⟩ (.string t)) b sa sl sc) := C4.out.kept (below_set10 _ _ _ _) hb2z
        have h0 : (w4.setCell ⟨w2.heap.size, 1, Option.none⟩ (.string t)).cell? ⟨w2.heap.size, 0, Option.none⟩ = some (.string ⟨#[101, 120, 112, 105, 114, 101, 115]⟩) := by rw [World.cell?_setCell_other _ _ _ _ (by simp)]; exact g0
        have h1 : (w4.setCell ⟨w2.heap.size, 1, Option.none⟩ (.string t)).cell? ⟨w2.heap.size, 1, Option.none⟩ = some (.string t) := World.cell?_setCell_same _ _ _ g1
        clear O4 B4 C4
        go_upto_region 20 with fail
        generalize w4.setCell ⟨w2.heap.size, 1, Option.none⟩ (.string t) = w6 at O6 B6 C6 h0 h1 ⊢
        go_wp2_with (at_builtin; refine wpList_pushF _ rfl (.tmp 58) (.tmp 60) rfl w.heap.size _ _ (⟨#[101, 120, 112, 105, 114, 101, 115]⟩, t) rfl O6.out rfl (by omega) B6.out.2.2.2.1 ?_; intro v7 w7 ho7 hg7)
        have O7 : Hid (OwnsF w7 w.heap.size v7 (l ++ [(⟨#[101, 120, 112, 105, 114, 101, 115]⟩, t)])) := ho7
        have B7 : Hid (Beside b w w7) := B6.out.grown10 hg7 (OwnsF.from O6.out)
        have C7 : Hid (Cur w7 b sa sl sc) := C6.out.kept (grown_low10 hg7 (OwnsF.from O6.out) B6.out.2.2.2.1) hbz
        have S7 : Hid (∀ f ∈ l ++ [(⟨#[101, 120, 112, 105, 114, 101, 115]⟩, t)], f.1.size ≤ 13 ∧ f.2.size ≤ 84) := fun g hg => by
          rcases List.mem_append.1 hg with hg | hg
          · exact hsm.out g hg
          · rw [List.mem_singleton.1 hg]; exact ⟨by show (⟨#[101, 120, 112, 105, 114, 101, 115]⟩ : ByteArray).size ≤ 13; decide, htz⟩
        clear ho7 hg7 O6 B6 C6 hsm h0 h1
        go_roundw
        case rel => exact ⟨k - 1, l ++ [(⟨#[101, 120, 112, 105, 114, 101, 115]⟩, t)], by go_num, by simp; omega, S7, O7, C7, B7⟩
        case measure => simp [intOf]; omega
      · have hcell := HC.out 4 ⟨#[97, 103, 101]⟩ (World.cell?_alloc_mark _ _ _ _ _)
        have O3 : Hid (OwnsF (w2.alloc (.cells #[.string ⟨#[97, 103, 101]⟩, .string ⟨#[]⟩] 105)) w.heap.size (.slice ua l.length uc) l) := O2.out.alloc _
        have B3 : Hid (Beside b w (w2.alloc (.cells #[.string ⟨#[97, 103, 101]⟩, .string ⟨#[]⟩] 105))) := B2.out.more9 _
        have C3 : Hid (Cur (w2.alloc (.cells #[.string ⟨#[97, 103, 101]⟩, .string ⟨#[]⟩] 105)) b sa sl sc) := C2.out.more9 _
        have f0 : Hid ((w2.alloc (.cells #[.string ⟨#[97, 103, 101]⟩, .string ⟨#[]⟩] 105)).cell? ⟨w2.heap.size, 0, Option.none⟩ = some (.string ⟨#[97, 103, 101]⟩)) := World.cell?_alloc_mark _ _ _ _ _
        have f1 : Hid ((w2.alloc (.cells #[.string ⟨#[97, 103, 101]⟩, .string ⟨#[]⟩] 105)).cell? ⟨w2.heap.size, 1, Option.none⟩ = some (.string ⟨#[]⟩)) := World.cell?_alloc_mark _ _ _ _ _
        have ff : Hid ((w2.alloc (.cells #[.string ⟨#[97, 103, 101]⟩, .string ⟨#[]⟩] 105)).frozen? ⟨w2.heap.size, 1, Option.none⟩ = false) := by show _ = _; rw [World.frozen?_alloc_mark]; simp
        have hs3 : Hid ((w2.alloc (.cells #[.string ⟨#[97, 103, 101]⟩, .string ⟨#[]⟩] 105)).heap.size = w2.heap.size + 1) := by show _ = _; simp
        clear O2 B2 C2
        go_wp2_with fail
        refine (l1Below b sa sl sc 20 (by decide) (by decide) _ C3.out).mono ?_
        rintro e w4 ⟨x, rfl, hx0, hx1, hc4, hb4⟩
        have O4 : Hid (OwnsF w4 w.heap.size (.slice ua l.length uc) l) := O3.out.beside10 hb4 hbz
        have B4 : Hid (Beside b w w4) := B3.out.trans hb4
        have C4 : Hid (Cur w4 b sa sl sc) := hc4
        have g0 := besideCell hb4 (by omega) f0.out
        have g1 := besideCell hb4 (by omega) f1.out
        have gf : w4.frozen? ⟨w2.heap.size, 1, Option.none⟩ = false := (World.frozen?_of_block (a := ⟨w2.heap.size, 1, Option.none⟩) (hb4.2.2.2.2 w2.heap.size (by rw [hs3.out]; omega) (by omega))).trans ff.out
        clear hb4 hc4 O3 B3 C3 f0 f1 ff hcell
        obtain ⟨x, rfl⟩ := Int.eq_ofNat_of_zero_le hx0
        have ht := itoS_size (n := x) (by omega)
        have hT := fun W => specIntZ x W (by omega)
        generalize itoS x = t at ht hT
        go_wp2_with fail
        refine (hT _).mono ?_
        rintro e w5 ⟨rfl, hb5⟩
        have O5 : Hid (OwnsF w5 w.heap.size (.slice ua l.length uc) l) := O4.out.kept hb5
        have B5 : Hid (Beside b w w5) := B4.out.below hb5
        have C5 : Hid (Cur w5 b sa sl sc) := C4.out.kept hb5 C4.out.2.2.1
        have G0 := (hb5.cell (p := ⟨w2.heap.size, 0, Option.none⟩) (World.block_lt_of_cell? _ _ g0)).trans g0
        have G1 := (hb5.cell (p := ⟨w2.heap.size, 1, Option.none⟩) (World.block_lt_of_cell? _ _ g1)).trans g1
        have Gf : w5.frozen? ⟨w2.heap.size, 1, Option.none⟩ = false := (World.frozen?_of_block (a := ⟨w2.heap.size, 1, Option.none⟩) (hb5.block w2.heap.size (World.block_lt_of_cell? _ _ g0))).trans gf
        clear hb5 hT O4 B4 C4 g0 g1 gf
        have htz : t.size ≤ 84 := by omega
        obtain ⟨O4, B4, C4, g0, g1, gf⟩ := (⟨O5, B5, C5, G0, G1, Gf⟩ : Hid (OwnsF w5 w.heap.size (.slice ua l.length uc) l) ∧ Hid (Beside b w w5) ∧ Hid (Cur w5 b sa sl sc) ∧ _ ∧ _ ∧ _)
        clear O5 B5 C5 G0 G1 Gf
        have O6 : Hid (OwnsF (w5.setCell ⟨w2.heap.size, 1, Option.none⟩ (.string t)) w.heap.size (.slice ua l.length uc) l) := O4.out.but10 HN.out _
        have B6 : Hid (Beside b w (w5.setCell ⟨w2.heap.size, 1, Option.none⟩ (.string t))) := B4.out.set10 (by omega) _
        have C6 : Hid (Cur (w5.setCell ⟨w2.heap.size, 1, Option.none⟩ (.string t)) b sa sl sc) := C4.out.kept (below_set10 _ _ _ _) hb2z
        have h0 : (w5.setCell ⟨w2.heap.size, 1, Option.none⟩ (.string t)).cell? ⟨w2.heap.size, 0, Option.none⟩ = some (.string ⟨#[97, 103, 101]⟩) := by rw [World.cell?_setCell_other _ _ _ _ (by simp)]; exact g0
        have h1 : (w5.setCell ⟨w2.heap.size, 1, Option.none⟩ (.string t)).cell? ⟨w2.heap.size, 1, Option.none⟩ = some (.string t) := World.cell?_setCell_same _ _ _ g1
        clear O4 B4 C4
        go_upto_region 20 with fail
        generalize w5.setCell ⟨w2.heap.size, 1, Option.none⟩ (.string t) = w6 at O6 B6 C6 h0 h1 ⊢
        go_wp2_with (at_builtin; refine wpList_pushF _ rfl (.tmp 58) (.tmp 60) rfl w.heap.size _ _ (⟨#[97, 103, 101]⟩, t) rfl O6.out rfl (by omega) B6.out.2.2.2.1 ?_; intro v7 w7 ho7 hg7)
        have O7 : Hid (OwnsF w7 w.heap.size v7 (l ++ [(⟨#[97, 103, 101]⟩, t)])) := ho7
        have B7 : Hid (Beside b w w7) := B6.out.grown10 hg7 (OwnsF.from O6.out)
        have C7 : Hid (Cur w7 b sa sl sc) := C6.out.kept (grown_low10 hg7 (OwnsF.from O6.out) B6.out.2.2.2.1) hbz
        have S7 : Hid (∀ f ∈ l ++ [(⟨#[97, 103, 101]⟩, t)], f.1.size ≤ 13 ∧ f.2.size ≤ 84) := fun g hg => by
          rcases List.mem_append.1 hg with hg | hg
          · exact hsm.out g hg
          · rw [List.mem_singleton.1 hg]; exact ⟨by show (⟨#[97, 103, 101]⟩ : ByteArray).size ≤ 13; decide, htz⟩
        clear ho7 hg7 O6 B6 C6 hsm h0 h1
        go_roundw
        case rel => exact ⟨k - 1, l ++ [(⟨#[97, 103, 101]⟩, t)], by go_num, by simp; omega, S7, O7, C7, B7⟩
        case measure => simp [intOf]; omega
      · have hcell := HC.out 5 ⟨#[118, 97, 114, 121]⟩ (World.cell?_alloc_mark _ _ _ _ _)
        have O3 : Hid (OwnsF (w2.alloc (.cells #[.string ⟨#[118, 97, 114, 121]⟩, .string ⟨#[]⟩] 105)) w.heap.size (.slice ua l.length uc) l) := O2.out.alloc _
        have B3 : Hid (Beside b w (w2.alloc (.cells #[.string ⟨#[118, 97, 114, 121]⟩, .string ⟨#[]⟩] 105))) := B2.out.more9 _
        have C3 : Hid (Cur (w2.alloc (.cells #[.string ⟨#[118, 97, 114, 121]⟩, .string ⟨#[]⟩] 105)) b sa sl sc) := C2.out.more9 _
        have f0 : Hid ((w2.alloc (.cells #[.string ⟨#[118, 97, 114, 121]⟩, .string ⟨#[]⟩] 105)).cell? ⟨w2.heap.size, 0, Option.none⟩ = some (.string ⟨#[118, 97, 114, 121]⟩)) := World.cell?_alloc_mark _ _ _ _ _
        have f1 : Hid ((w2.alloc (.cells #[.string ⟨#[118, 97, 114, 121]⟩, .string ⟨#[]⟩] 105)).cell? ⟨w2.heap.size, 1, Option.none⟩ = some (.string ⟨#[]⟩)) := World.cell?_alloc_mark _ _ _ _ _
        have ff : Hid ((w2.alloc (.cells #[.string ⟨#[118, 97, 114, 121]⟩, .string ⟨#[]⟩] 105)).frozen? ⟨w2.heap.size, 1, Option.none⟩ = false) := by show _ = _; rw [World.frozen?_alloc_mark]; simp
        have hs3 : Hid ((w2.alloc (.cells #[.string ⟨#[118, 97, 114, 121]⟩, .string ⟨#[]⟩] 105)).heap.size = w2.heap.size + 1) := by show _ = _; simp
        clear O2 B2 C2
        go_wp2_with fail
        refine (l1Below b sa sl sc 3 (by decide) (by decide) _ (C3.out.more9 _)).mono ?_
        rintro e w4 ⟨x, rfl, hx0, hx1, hc4, hb4'⟩
        obtain ⟨x, rfl⟩ := Int.eq_ofNat_of_zero_le hx0
        obtain ⟨t, htc, htz'⟩ := tabT9 10 hb4' (by simp <;> omega) x (by simp; omega) (by decide)
        rw [hs3.out] at htc
        have O4 : Hid (OwnsF w4 w.heap.size (.slice ua l.length uc) l) := (O3.out.alloc _).beside10 hb4' hbz
        have B4 : Hid (Beside b w w4) := (B3.out.more9 _).trans hb4'
        have C4 : Hid (Cur w4 b sa sl sc) := hc4
        have g0 := besideCell hb4' (by omega) ((((Below.refl _ _).alloc (Nat.le_refl _) _).cell (p := ⟨w2.heap.size, 0, Option.none⟩) (by rw [hs3.out]; show w2.heap.size < _; omega)).trans f0.out)
        have g1 := besideCell hb4' (by omega) ((((Below.refl _ _).alloc (Nat.le_refl _) _).cell (p := ⟨w2.heap.size, 1, Option.none⟩) (by rw [hs3.out]; show w2.heap.size < _; omega)).trans f1.out)
        have gf : w4.frozen? ⟨w2.heap.size, 1, Option.none⟩ = false := (World.frozen?_of_block (a := ⟨w2.heap.size, 1, Option.none⟩) ((hb4'.2.2.2.2 w2.heap.size (by simp <;> omega) (by omega)).trans (((Below.refl _ _).alloc (Nat.le_refl _) _).block w2.heap.size (by rw [hs3.out]; omega)))).trans ff.out
        clear hb4' hc4 O3 B3 C3 f0 f1 ff hcell
        have htz : t.size ≤ 84 := by omega
        have O6 : Hid (OwnsF (w4.setCell ⟨w2.heap.size, 1, Option.none⟩ (.string t)) w.heap.size (.slice ua l.length uc) l) := O4.out.but10 HN.out _
        have B6 : Hid (Beside b w (w4.setCell ⟨w2.heap.size, 1, Option.none⟩ (.string t))) := B4.out.set10 (by omega) _
        have C6 : Hid (Cur (w4.setCell ⟨w2.heap.size, 1, Option.none⟩ (.string t)) b sa sl sc) := C4.out.kept (below_set10 _ _ _ _) hb2z
        have h0 : (w4.setCell ⟨w2.heap.size, 1, Option.none⟩ (.string t)).cell? ⟨w2.heap.size, 0, Option.none⟩ = some (.string ⟨#[118, 97, 114, 121]⟩) := by rw [World.cell?_setCell_other _ _ _ _ (by simp)]; exact g0
        have h1 : (w4.setCell ⟨w2.heap.size, 1, Option.none⟩ (.string t)).cell? ⟨w2.heap.size, 1, Option.none⟩ = some (.string t) := World.cell?_setCell_same _ _ _ g1
        clear O4 B4 C4
        go_upto_region 20 with fail
        generalize w4.setCell ⟨w2.heap.size, 1, Option.none⟩ (.string t) = w6 at O6 B6 C6 h0 h1 ⊢
        go_wp2_with (at_builtin; refine wpList_pushF _ rfl (.tmp 58) (.tmp 60) rfl w.heap.size _ _ (⟨#[118, 97, 114, 121]⟩, t) rfl O6.out rfl (by omega) B6.out.2.2.2.1 ?_; intro v7 w7 ho7 hg7)
        have O7 : Hid (OwnsF w7 w.heap.size v7 (l ++ [(⟨#[118, 97, 114, 121]⟩, t)])) := ho7
        have B7 : Hid (Beside b w w7) := B6.out.grown10 hg7 (OwnsF.from O6.out)
        have C7 : Hid (Cur w7 b sa sl sc) := C6.out.kept (grown_low10 hg7 (OwnsF.from O6.out) B6.out.2.2.2.1) hbz
        have S7 : Hid (∀ f ∈ l ++ [(⟨#[118, 97, 114, 121]⟩, t)], f.1.size ≤ 13 ∧ f.2.size ≤ 84) := fun g hg => by
          rcases List.mem_append.1 hg with hg | hg
          · exact hsm.out g hg
          · rw [List.mem_singleton.1 hg]; exact ⟨by show (⟨#[118, 97, 114, 121]⟩ : ByteArray).size ≤ 13; decide, htz⟩
        clear ho7 hg7 O6 B6 C6 hsm h0 h1
        go_roundw
        case rel => exact ⟨k - 1, l ++ [(⟨#[118, 97, 114, 121]⟩, t)], by go_num, by simp; omega, S7, O7, C7, B7⟩
        case measure => simp [intOf]; omega
      · have hcell := HC.out 6 ⟨#[115, 117, 114, 114, 111, 103, 97, 116, 101, 45, 107, 101, 121]⟩ (World.cell?_alloc_mark _ _ _ _ _)
        have O3 : Hid (OwnsF (w2.alloc (.cells #[.string ⟨#[115, 117, 114, 114, 111, 103, 97, 116, 101, 45, 107, 101, 121]⟩, .string ⟨#[]⟩] 105)) w.heap.size (.slice ua l.length uc) l) := O2.out.alloc _
        have B3 : Hid (Beside b w (w2.alloc (.cells #[.string ⟨#[115, 117, 114, 114, 111, 103, 97, 116, 101, 45, 107, 101, 121]⟩, .string ⟨#[]⟩] 105))) := B2.out.more9 _
        have C3 : Hid (Cur (w2.alloc (.cells #[.string ⟨#[115, 117, 114, 114, 111, 103, 97, 116, 101, 45, 107, 101, 121]⟩, .string ⟨#[]⟩] 105)) b sa sl sc) := C2.out.more9 _
        have f0 : Hid ((w2.alloc (.cells #[.string ⟨#[115, 117, 114, 114, 111, 103, 97, 116, 101, 45, 107, 101, 121]⟩, .string ⟨#[]⟩] 105)).cell? ⟨w2.heap.size, 0, Option.none⟩ = some (.string ⟨#[115, 117, 114, 114, 111, 103, 97, 116, 101, 45, 107, 101, 121]⟩)) := World.cell?_alloc_mark _ _ _ _ _
        have f1 : Hid ((w2.alloc (.cells #[.string ⟨#[115, 117, 114, 114, 111, 103, 97, 116, 101, 45, 107, 101, 121]⟩, .string ⟨#[]⟩] 105)).cell? ⟨w2.heap.size, 1, Option.none⟩ = some (.string ⟨#[]⟩)) := World.cell?_alloc_mark _ _ _ _ _
        have ff : Hid ((w2.alloc (.cells #[.string ⟨#[115, 117, 114, 114, 111, 103, 97, 116, 101, 45, 107, 101, 121]⟩, .string ⟨#[]⟩] 105)).frozen? ⟨w2.heap.size, 1, Option.none⟩ = false) := by show _ = _; rw [World.frozen?_alloc_mark]; simp
        have hs3 : Hid ((w2.alloc (.cells #[.string ⟨#[115, 117, 114, 114, 111, 103, 97, 116, 101, 45, 107, 101, 121]⟩, .string ⟨#[]⟩] 105)).heap.size = w2.heap.size + 1) := by show _ = _; simp
        clear O2 B2 C2
        go_wp2_with fail
        refine (l1Below b sa sl sc 3 (by decide) (by decide) _ (C3.out.more9 _)).mono ?_
        rintro e w4 ⟨x, rfl, hx0, hx1, hc4, hb4'⟩
        obtain ⟨x, rfl⟩ := Int.eq_ofNat_of_zero_le hx0
        obtain ⟨t, htc, htz'⟩ := tabT9 10 hb4' (by simp <;> omega) x (by simp; omega) (by decide)
        rw [hs3.out] at htc
        have O4 : Hid (OwnsF w4 w.heap.size (.slice ua l.length uc) l) := (O3.out.alloc _).beside10 hb4' hbz
        have B4 : Hid (Beside b w w4) := (B3.out.more9 _).trans hb4'
        have C4 : Hid (Cur w4 b sa sl sc) := hc4
        have g0 := besideCell hb4' (by omega) ((((Below.refl _ _).alloc (Nat.le_refl _) _).cell (p := ⟨w2.heap.size, 0, Option.none⟩) (by rw [hs3.out]; show w2.heap.size < _; omega)).trans f0.out)
        have g1 := besideCell hb4' (by omega) ((((Below.refl _ _).alloc (Nat.le_refl _) _).cell (p := ⟨w2.heap.size, 1, Option.none⟩) (by rw [hs3.out]; show w2.heap.size < _; omega)).trans f1.out)
        have gf : w4.frozen? ⟨w2.heap.size, 1, Option.none⟩ = false := (World.frozen?_of_block (a := ⟨w2.heap.size, 1, Option.none⟩) ((hb4'.2.2.2.2 w2.heap.size (by simp <;> omega) (by omega)).trans (((Below.refl _ _).alloc (Nat.le_refl _) _).block w2.heap.size (by rw [hs3.out]; omega)))).trans ff.out
        clear hb4' hc4 O3 B3 C3 f0 f1 ff hcell
        have htz : t.size ≤ 84 := by omega
        have O6 : Hid (OwnsF (w4.setCell ⟨w2.heap.size, 1, Option.none⟩ (.string t)) w.heap.size (.slice ua l.length uc) l) := O4.out.but10 HN.out _
        have B6 : Hid (Beside b w (w4.setCell ⟨w2.heap.size, 1, Option.none⟩ (.string t))) := B4.out.set10 (by omega) _
        have C6 : Hid (Cur (w4.setCell ⟨w2.heap.size, 1, Option.none⟩ (.string t)) b sa sl sc) := C4.out.kept (below_set10 _ _ _ _) hb2z
        have h0 : (w4.setCell ⟨w2.heap.size, 1, Option.none⟩ (.string t)).cell? ⟨w2.heap.size, 0, Option.none⟩ = some (.string ⟨#[115, 117, 114, 114, 111, 103, 97, 116, 101, 45, 107, 101, 121]⟩) := by rw [World.cell?_setCell_other _ _ _ _ (by simp)]; exact g0
        have h1 : (w4.setCell ⟨w2.heap.size, 1, Option.none⟩ (.string t)).cell? ⟨w2.heap.size, 1, Option.none⟩ = some (.string t) := World.cell?_setCell_same _ _ _ g1
        clear O4 B4 C4
        go_upto_region 20 with fail
        generalize w4.setCell ⟨w2.heap.size, 1, Option.none⟩ (.string t) = w6 at O6 B6 C6 h0 h1 ⊢
        go_wp2_with (at_builtin; refine wpList_pushF _ rfl (.tmp 58) (.tmp 60) rfl w.heap.size _ _ (⟨#[115, 117, 114, 114, 111, 103, 97, 116, 101, 45, 107, 101, 121]⟩, t) rfl O6.out rfl (by omega) B6.out.2.2.2.1 ?_; intro v7 w7 ho7 hg7)
        have O7 : Hid (OwnsF w7 w.heap.size v7 (l ++ [(⟨#[115, 117, 114, 114, 111, 103, 97, 116, 101, 45, 107, 101, 121]⟩, t)])) := ho7
        have B7 : Hid (Beside b w w7) := B6.out.grown10 hg7 (OwnsF.from O6.out)
        have C7 : Hid (Cur w7 b sa sl sc) := C6.out.kept (grown_low10 hg7 (OwnsF.from O6.out) B6.out.2.2.2.1) hbz
        have S7 : Hid (∀ f ∈ l ++ [(⟨#[115, 117, 114, 114, 111, 103, 97, 116, 101, 45, 107, 101, 121]⟩, t)], f.1.size ≤ 13 ∧ f.2.size ≤ 84) := fun g hg => by
          rcases List.mem_append.1 hg with hg | hg
          · exact hsm.out g hg
          · rw [List.mem_singleton.1 hg]; exact ⟨by show (⟨#[115, 117, 114, 114, 111, 103, 97, 116, 101, 45, 107, 101, 121]⟩ : ByteArray).size ≤ 13; decide, htz⟩
        clear ho7 hg7 O6 B6 C6 hsm h0 h1
        go_roundw
        case rel => exact ⟨k - 1, l ++ [(⟨#[115, 117, 114, 114, 111, 103, 97, 116, 101, 45, 107, 101, 121]⟩, t)], by go_num, by simp; omega, S7, O7, C7, B7⟩
        case measure => simp [intOf]; omega
      · have hcell := HC.out 7 ⟨#[99, 97, 99, 104, 101, 45, 99, 111, 110, 116, 114, 111, 108]⟩ (World.cell?_alloc_mark _ _ _ _ _)
        have O3 : Hid (OwnsF (w2.alloc (.cells #[.string ⟨#[99, 97, 99, 104, 101, 45, 99, 111, 110, 116, 114, 111, 108]⟩, .string ⟨#[]⟩] 105)) w.heap.size (.slice ua l.length uc) l) := O2.out.alloc _
        have B3 : Hid (Beside b w (w2.alloc (.cells #[.string ⟨#[99, 97, 99, 104, 101, 45, 99, 111, 110, 116, 114, 111, 108]⟩, .string ⟨#[]⟩] 105))) := B2.out.more9 _
        have C3 : Hid (Cur (w2.alloc (.cells #[.string ⟨#[99, 97, 99, 104, 101, 45, 99, 111, 110, 116, 114, 111, 108]⟩, .string ⟨#[]⟩] 105)) b sa sl sc) := C2.out.more9 _
        have f0 : Hid ((w2.alloc (.cells #[.string ⟨#[99, 97, 99, 104, 101, 45, 99, 111, 110, 116, 114, 111, 108]⟩, .string ⟨#[]⟩] 105)).cell? ⟨w2.heap.size, 0, Option.none⟩ = some (.string ⟨#[99, 97, 99, 104, 101, 45, 99, 111, 110, 116, 114, 111, 108]⟩)) := World.cell?_alloc_mark _ _ _ _ _
        have f1 : Hid ((w2.alloc (.cells #[.string ⟨#[99, 97, 99, 104, 101, 45, 99, 111, 110, 116, 114, 111, 108]⟩, .string ⟨#[]⟩] 105)).cell? ⟨w2.heap.size, 1, Option.none⟩ = some (.string ⟨#[]⟩)) := World.cell?_alloc_mark _ _ _ _ _
        have ff : Hid ((w2.alloc (.cells #[.string ⟨#[99, 97, 99, 104, 101, 45, 99, 111, 110, 116, 114, 111, 108]⟩, .string ⟨#[]⟩] 105)).frozen? ⟨w2.heap.size, 1, Option.none⟩ = false) := by show _ = _; rw [World.frozen?_alloc_mark]; simp
        have hs3 : Hid ((w2.alloc (.cells #[.string ⟨#[99, 97, 99, 104, 101, 45, 99, 111, 110, 116, 114, 111, 108]⟩, .string ⟨#[]⟩] 105)).heap.size = w2.heap.size + 1) := by show _ = _; simp
        clear O2 B2 C2
        go_wp2_with fail
        refine (l9DrawText b sa sl sc _ C3.out).mono ?_
        rintro e w4 ⟨⟨s, rfl, hs⟩, hc4, hb4⟩
        have O4 : Hid (OwnsF w4 w.heap.size (.slice ua l.length uc) l) := O3.out.beside10 hb4 hbz
        have B4 : Hid (Beside b w w4) := B3.out.trans hb4
        have C4 : Hid (Cur w4 b sa sl sc) := hc4
        have g0 := besideCell hb4 (by omega) f0.out
        have g1 := besideCell hb4 (by omega) f1.out
        have gf : w4.frozen? ⟨w2.heap.size, 1, Option.none⟩ = false := (World.frozen?_of_block (a := ⟨w2.heap.size, 1, Option.none⟩) (hb4.2.2.2.2 w2.heap.size (by rw [hs3.out]; omega) (by omega))).trans ff.out
        clear hb4 hc4 O3 B3 C3 f0 f1 ff hcell
        have ht := trimB_size s
        have hT := fun W => specTrim s W (by omega)
        generalize trimB s = t at ht hT
        go_wp2_with fail
        refine (hT _).mono ?_
        rintro e w5 ⟨rfl, rfl⟩
        clear hT
        have htz : t.size ≤ 84 := by omega
        have O6 : Hid (OwnsF (w4.setCell ⟨w2.heap.size, 1, Option.none⟩ (.string t)) w.heap.size (.slice ua l.length uc) l) := O4.out.but10 HN.out _
        have B6 : Hid (Beside b w (w4.setCell ⟨w2.heap.size, 1, Option.none⟩ (.string t))) := B4.out.set10 (by omega) _
        have C6 : Hid (Cur (w4.setCell ⟨w2.heap.size, 1, Option.none⟩ (.string t)) b sa sl sc) := C4.out.kept (below_set10 _ _ _ _) hb2z
        have h0 : (w4.setCell ⟨w2.heap.size, 1, Option.none⟩ (.string t)).cell? ⟨w2.heap.size, 0, Option.none⟩ = some (.string ⟨#[99, 97, 99, 104, 101, 45, 99, 111, 110, 116, 114, 111, 108]⟩) := by rw [World.cell?_setCell_other _ _ _ _ (by simp)]; exact g0
        have h1 : (w4.setCell ⟨w2.heap.size, 1, Option.none⟩ (.string t)).cell? ⟨w2.heap.size, 1, Option.none⟩ = some (.string t) := World.cell?_setCell_same _ _ _ g1
        clear O4 B4 C4
        go_upto_region 20 with fail
        generalize w4.setCell ⟨w2.heap.size, 1, Option.none⟩ (.string t) = w6 at O6 B6 C6 h0 h1 ⊢
        go_wp2_with (at_builtin; refine wpList_pushF _ rfl (.tmp 58) (.tmp 60) rfl w.heap.size _ _ (⟨#[99, 97, 99, 104, 101, 45, 99, 111, 110, 116, 114, 111, 108]⟩, t) rfl O6.out rfl (by omega) B6.out.2.2.2.1 ?_; intro v7 w7 ho7 hg7)
        have O7 : Hid (OwnsF w7 w.heap.size v7 (l ++ [(⟨#[99, 97, 99, 104, 101, 45, 99, 111, 110, 116, 114, 111, 108]⟩, t)])) := ho7
        have B7 : Hid (Beside b w w7) := B6.out.grown10 hg7 (OwnsF.from O6.out)
        have C7 : Hid (Cur w7 b sa sl sc) := C6.out.kept (grown_low10 hg7 (OwnsF.from O6.out) B6.out.2.2.2.1) hbz
        have S7 : Hid (∀ f ∈ l ++ [(⟨#[99, 97, 99, 104, 101, 45, 99, 111, 110, 116, 114, 111, 108]⟩, t)], f.1.size ≤ 13 ∧ f.2.size ≤ 84) := fun g hg => by
          rcases List.mem_append.1 hg with hg | hg
          · exact hsm.out g hg
          · rw [List.mem_singleton.1 hg]; exact ⟨by show (⟨#[99, 97, 99, 104, 101, 45, 99, 111, 110, 116, 114, 111, 108]⟩ : ByteArray).size ≤ 13; decide, htz⟩
        clear ho7 hg7 O6 B6 C6 hsm h0 h1
        go_roundw
        case rel => exact ⟨k - 1, l ++ [(⟨#[99, 97, 99, 104, 101, 45, 99, 111, 110, 116, 114, 111, 108]⟩, t)], by go_num, by simp; omega, S7, O7, C7, B7⟩
        case measure => simp [intOf]; omega
    · go_wp2
      go_ret
      exact ⟨⟨_, l, rfl, hown.out, by omega, hsm.out⟩, hcur.out, hbes.out⟩
end Go.Proofs.YtkaogmdhjcgcdaaGreatDoor
namespace Go.Proofs.YtkaogmdhjcgcdaaGreatDoor
open Go.RowKit Go.Sort
set_option linter.unusedVariables false

/-- Fields put over others, one after another. -/
def ovrL (a b : List Fl) : List Fl := b.foldl (fun acc f => wo acc f.1 ++ [f]) a
theorem ovrL_next (a : List Fl) {b : List Fl} {k : Nat} (h : k < b.length) : ovrL a (b.take (k + 1)) = wo (ovrL a (b.take k)) b[k].1 ++ [b[k]] := by
  unfold ovrL
  rw [← List.take_append_getElem h, List.foldl_append]
  rfl
theorem szL_filt (p : Fl → Bool) : ∀ l : List Fl, szL (l.filter p) ≤ szL l
  | [] => Nat.le_refl _
  | f :: l => by
    have ih := szL_filt p l
    cases h : p f with
    | true => rw [List.filter_cons_of_pos h]; unfold szL at ih ⊢; rw [List.map_cons, List.sum_cons, List.map_cons, List.sum_cons]; omega
    | false => rw [List.filter_cons_of_neg (by simp [h])]; unfold szL at ih ⊢; rw [List.map_cons, List.sum_cons]; omega
theorem ovrL_size (b : List Fl) : ∀ a : List Fl, (ovrL a b).length ≤ a.length + b.length ∧ szL (ovrL a b) ≤ szL a + szL b := by
  induction b with
  | nil => intro a; exact ⟨Nat.le_refl _, Nat.le_refl _⟩
  | cons f b ih =>
    intro a
    have h := ih (wo a f.1 ++ [f])
    have h1 := wo_length a f.1
    have h2 := szL_filt (keepB f.1) a
    have h3 : szL (wo a f.1 ++ [f]) = szL (wo a f.1) + szL [f] := szL_append _ _
    have h4 : szL (f :: b) = szL [f] + szL b := szL_append [f] b
    have h5 : szL (wo a f.1) ≤ szL a := h2
    have h6 : (wo a f.1 ++ [f]).length = (wo a f.1).length + 1 := by simp
    rw [List.length_cons]
    refine ⟨?_, ?_⟩
    · show (ovrL (wo a f.1 ++ [f]) b).length ≤ _
      omega
    · show szL (ovrL (wo a f.1 ++ [f]) b) ≤ _
      omega
theorem ovrL_mem (b : List Fl) : ∀ a : List Fl, ∀ f ∈ ovrL a b, f ∈ a ∨ f ∈ b := by
  induction b with
  | nil => intro a f h; exact .inl h
  | cons g b ih =>
    intro a f h
    rcases ih (wo a g.1 ++ [g]) f h with h1 | h1
    · rw [List.mem_append] at h1
      rcases h1 with h1 | h1
      · exact .inl (List.mem_filter.1 h1).1
      · exact .inr (by rw [List.mem_singleton] at h1; rw [h1]; exact List.mem_cons_self)
    · exact .inr (List.mem_cons_of_mem _ h1)
/-- An object whose response a 304 has renewed. -/
def renO (o : Ob) (r : Rs) (asked got : Int) : Ob := ⟨o.k, o.l, ⟨o.r.s, ovrL o.r.l r.l, o.r.b⟩, asked, got, o.ep⟩
def renV (o : Ob) (r : Rs) (asked got : Int) : Ob × Bool :=
  if obB o = true ∧ rsOk r = true ∧ r.s = 304 ∧ obB (renO o r asked got) = true then (renO o r asked got, true) else (noO, false)
set_option maxHeartbeats 1000000 in
theorem specWoN (v : Value) (l : List Fl) (n : ByteArray) (w : World) (h : Fls w v l) (hl : l.length ≤ 900000) (hfs : ∀ f ∈ l, f.1.size ≤ 1048576 ∧ f.2.size ≤ 1048576) (hn : n.size ≤ 1048576) :
    Calls Tryz.prog 80 #[v, .string n] w fun e w' => ∃ u, e = .returned u ∧ OwnsF w' w.heap.size u (wo l n) ∧ Below w.heap.size w w' := by
  obtain ⟨a, cap, rfl, h1, h2, h3⟩ := h
  unfold maxLen at h2
  have hnm : n.size ≤ maxLen := by unfold maxLen; omega
  go_enter Tryz.func80, Tryz.ntmps80
  go_wp2
  go_loopw [5, 6] (fun u i wr => ∃ (k : Nat), k ≤ l.length ∧ i = .int .i64 k ∧ OwnsF wr w.heap.size u ((l.take k).filter (keepB n)) ∧ Below w.heap.size w wr) (fun _ i _ => l.length - (intOf i).toNat)
  case atStart => exact ⟨0, Nat.zero_le _, rfl, OwnsF.born w, (Below.refl _ _).alloc (Nat.le_refl _) _⟩
  case round =>
    obtain ⟨k, hk, rfl, hown, hb⟩ := hrel
    have hfl := filter_le l k (keepB n)
    by_cases hlt : k < l.length
    · obtain ⟨g, o, rfl, hg, hc⟩ := h3 (by omega)
      have c1 := (hb.cell (p := ⟨g, o + k * 2, none⟩) hg).trans (hc k hlt).1
      have c2 := (hb.cell (p := ⟨g, o + k * 2 + 1, none⟩) hg).trans (hc k hlt).2
      have hsz := hfs l[k] (List.getElem_mem hlt)
      have hgr : g < wr.heap.size := Nat.lt_of_lt_of_le hg hb.size
      by_cases he : lowS l[k].1 = lowS n
      · have hq := same_yes he
        have HN : Hid ((l.take (k + 1)).filter (keepB n) = (l.take k).filter (keepB n)) := filter_no hlt (keepB_no he)
        generalize l[k] = f at c1 c2 hsz hq he
        have z1 : f.1.size ≤ maxLen := by unfold maxLen; omega
        clear hc h3 hfs he
        go_wp2_with fail
        refine (specLow _ _ z1).mono ?_
        rintro e w1 ⟨rfl, hb1⟩
        go_wp2_with fail
        refine (specLow _ _ hnm).mono ?_
        rintro e w2 ⟨rfl, hb2⟩
        have ho2 := (hown.kept hb1).kept hb2
        have hb02 : Below w.heap.size w w2 := (hb.trans (hb1.mono hb.size)).trans (hb2.mono (Nat.le_trans hb.size hb1.size))
        rw [← HN.out] at ho2
        clear c1 c2 hb hb1 hb2 hown
        go_wp2
        go_roundw
        case rel => exact ⟨k + 1, by omega, by go_num, ho2, hb02⟩
        case measure => simp [intOf]; omega
      · have hq := same_no he
        have HN : Hid ((l.take (k + 1)).filter (keepB n) = (l.take k).filter (keepB n) ++ [l[k]]) := filter_yes hlt (keepB_yes he)
        generalize l[k] = f at c1 c2 hsz hq he HN
        have z1 : f.1.size ≤ maxLen := by unfold maxLen; omega
        clear hc h3 hfs he
        go_wp2_with fail
        refine (specLow _ _ z1).mono ?_
        rintro e w1 ⟨rfl, hb1⟩
        have d1 := (hb1.cell (p := ⟨g, o + k * 2, none⟩) hgr).trans c1
        have d2 := (hb1.cell (p := ⟨g, o + k * 2 + 1, none⟩) hgr).trans c2
        have hgr1 := Nat.lt_of_lt_of_le hgr hb1.size
        go_wp2_with fail
        refine (specLow _ _ hnm).mono ?_
        rintro e w2 ⟨rfl, hb2⟩
        have e1 := (hb2.cell (p := ⟨g, o + k * 2, none⟩) hgr1).trans d1
        have e2 := (hb2.cell (p := ⟨g, o + k * 2 + 1, none⟩) hgr1).trans d2
        have ho2 := (hown.kept hb1).kept hb2
        have hb02 : Below w.heap.size w w2 := (hb.trans (hb1.mono hb.size)).trans (hb2.mono (Nat.le_trans hb.size hb1.size))
        clear c1 c2 d1 d2 hb hb1 hb2 hown
        go_wp2_with (at_builtin; refine wpList_pushF _ rfl (.tmp 23) (.tmp 28) rfl w.heap.size _ _ f rfl ho2 rfl (by omega) hb02.size ?_; intro v3 w3 ho3 hg3)
        have hb03 := hb02.grown hg3 hb02.size (OwnsF.from ho2)
        rw [← HN.out] at ho3
        clear e1 e2 ho2 hb02 hg3
        go_roundw
        case rel => exact ⟨k + 1, by omega, by go_num, ho3, hb03⟩
        case measure => simp [intOf]; omega
    · rw [filter_end hlt] at hown
      go_wp2
      go_ret
      exact ⟨_, rfl, hown, hb⟩

end Go.Proofs.YtkaogmdhjcgcdaaGreatDoor
namespace Go.Proofs.YtkaogmdhjcgcdaaGreatDoor
open Go.RowKit Go.Sort
set_option linter.unusedVariables false

theorem cells_ofX (l : List Fl) {w : World} {g o : Nat} (hc : ∀ j (hj : j < l.length), w.cell? ⟨g, o + j * 2, none⟩ = some (.string l[j].1) ∧ w.cell? ⟨g, o + j * 2 + 1, none⟩ = some (.string l[j].2)) : ∀ j u, (cellsF l)[j]? = some u → w.cell? ((⟨g, o, none⟩ : Addr).add j) = some u := by
  intro j u hu
  have hj : j < (cellsF l).length := (List.getElem?_eq_some_iff.1 hu).1
  rw [cellsF_length] at hj
  rw [addr_add, ← hu]
  obtain ⟨c1, c2⟩ := cellsF_at l (j / 2) (by omega)
  obtain ⟨d1, d2⟩ := hc (j / 2) (by omega)
  have h2 : j = j / 2 * 2 ∨ j = j / 2 * 2 + 1 := by omega
  rcases h2 with h2 | h2
  · rw [h2, c1]; exact d1
  · rw [h2, c2]; exact d2
/-- Fields that came in, appended to fields of one's own. -/
theorem wpList_catX {ops : Array Oper} {rest : List Oper} {o : Oper} {a : Act} {Q : Exit → Act → World → Prop} (w : World) (hgd : o.guard = none) (s x : Operand)
    (ho : o.op = .call { callee := .builtin .append, args := #[s, x], argTypes := #[24, 24] }) (B : Nat) (v vx : Value) (l m : List Fl) (hs : a.eval s = v) (hown : OwnsF w B v l)
    (hx : a.eval x = vx) (hm : Fls w vx m) (hsd : Solid vx) (hlen : l.length + m.length ≤ 1000000) (hB : B ≤ w.heap.size)
    (h : ∀ v' w', OwnsF w' B v' (l ++ m) → w.grownBy w' v.ownBlock → wpList Tryz.prog ops Q rest (a.put o.dst v') w') :
    wpList Tryz.prog ops Q (o :: rest) a w := by
  obtain ⟨i0, hi, hz0, hz1, hz2⟩ := info_parts Tryz.infoF
  obtain ⟨a1, cap, rfl, h1, h2, h3⟩ := hm
  have hcat : ∀ ad, a1 = some ad → wpList Tryz.prog ops Q (o :: rest) a w := fun ad e => by
    refine wpList_append_own _ hgd s x 24 ho B 105 i0 (.agg #[.string ⟨#[]⟩, .string ⟨#[]⟩]) 2 32 Tryz.underlying24 hi hz0 hz1 hz2 rfl (by decide) v l.length (cellsF l) hs hown ad m.length cap (cellsF m) (by rw [hx, e]) (cellsF_length m) ?_
      (cellsF_one m) (by unfold maxLen; omega) (by omega) hB ?_
    · intro j u hu
      have hj : j < (cellsF m).length := (List.getElem?_eq_some_iff.1 hu).1
      rw [cellsF_length] at hj
      obtain ⟨g, q, e2, _, hc⟩ := h3 (by omega)
      rw [e] at e2
      obtain rfl := Option.some.inj e2
      exact cells_ofX m hc j u hu
    · intro v' w' k1 k2 _
      refine h v' w' ?_ k2
      unfold OwnsF
      rw [cellsF_append, List.length_append]
      exact k1
  cases a1 with
  | some ad => exact hcat ad rfl
  | none =>
    have hm0 : m = [] := by
      cases m with
      | nil => rfl
      | cons f m => obtain ⟨g, q, e2, _⟩ := h3 (by simp); cases e2
    subst hm0
    have hc0 : cap = 0 := hsd _ _ rfl
    subst hc0
    refine wpList_append_own_none hgd s x 24 ho B 105 i0 2 Tryz.underlying24 hi v l.length (cellsF l) hs hown hx ?_
    exact h v w (by rw [List.append_nil]; exact hown) ⟨rfl, rfl, rfl, Nat.le_refl _, fun _ _ _ => rfl⟩
def obL (o : Ob) (v u : Value) : List Value := [.string o.k, v, .int .i64 o.r.s, u, .string o.r.b, .int .i64 o.asked, .int .i64 o.got, .int .i64 o.ep]
theorem ObB.puts {w : World} {b : Nat} {o : Ob} {v u : Value} (h : ObB w b o v u) (o' : Ob) (v' u' : Value) : ObB (putL w b (obL o' v' u') 0) b o' v' u' := by
  have k := fun i => (putL_cells (w0 := w) b (obL o' v' u') 0 w (fun j _ h2 => by
    have h3 : j < 8 := by simpa [obL] using h2
    rcases (show j = 0 ∨ j = 1 ∨ j = 2 ∨ j = 3 ∨ j = 4 ∨ j = 5 ∨ j = 6 ∨ j = 7 by omega) with rfl | rfl | rfl | rfl | rfl | rfl | rfl | rfl
    · exact ⟨_, h.c0⟩
    · exact ⟨_, h.c1⟩
    · exact ⟨_, h.c2⟩
    · exact ⟨_, h.c3⟩
    · exact ⟨_, h.c4⟩
    · exact ⟨_, h.c5⟩
    · exact ⟨_, h.c6⟩
    · exact ⟨_, h.c7⟩) i).1
  exact ⟨k 0 _ ⟨rfl, by omega⟩, k 1 _ ⟨rfl, by omega⟩, k 2 _ ⟨rfl, by omega⟩, k 3 _ ⟨rfl, by omega⟩, k 4 _ ⟨rfl, by omega⟩, k 5 _ ⟨rfl, by omega⟩, k 6 _ ⟨rfl, by omega⟩, k 7 _ ⟨rfl, by omega⟩, fun j => by rw [putL_frozen]; exact h.fz j, by rw [putL_size]; exact h.hi⟩
theorem ObB.same {w w' : World} {b : Nat} {o : Ob} {v u : Value} (h : ObB w b o v u) (e : w'.heap[b]? = w.heap[b]?) (hs : w.heap.size ≤ w'.heap.size) : ObB w' b o v u := by
  have k : ∀ k, w'.cell? ⟨b, k, none⟩ = w.cell? ⟨b, k, none⟩ := fun k => World.cell?_of_block (a := ⟨b, k, none⟩) e
  exact ⟨(k 0).trans h.c0, (k 1).trans h.c1, (k 2).trans h.c2, (k 3).trans h.c3, (k 4).trans h.c4, (k 5).trans h.c5, (k 6).trans h.c6, (k 7).trans h.c7, fun j => (World.frozen?_of_block (a := ⟨b, j, none⟩) e).trans (h.fz j), Nat.lt_of_lt_of_le h.hi hs⟩
theorem RsB.same {w w' : World} {b : Nat} {r : Rs} {v : Value} (h : RsB w b r v) (e : w'.heap[b]? = w.heap[b]?) (hs : w.heap.size ≤ w'.heap.size) : RsB w' b r v := by
  have k : ∀ k, w'.cell? ⟨b, k, none⟩ = w.cell? ⟨b, k, none⟩ := fun k => World.cell?_of_block (a := ⟨b, k, none⟩) e
  exact ⟨(k 0).trans h.c0, (k 1).trans h.c1, (k 2).trans h.c2, fun j => (World.frozen?_of_block (a := ⟨b, j, none⟩) e).trans (h.fz j), Nat.lt_of_lt_of_le h.hi hs⟩
theorem obB_all {o : Ob} (h : obB o = true) : keyO o.k = true ∧ fldsOk o.l = true ∧ rsOk o.r = true ∧ momB o.asked = true ∧ momB o.got = true := by
  unfold obB at h
  simp only [Bool.and_eq_true] at h
  exact ⟨h.1, h.2.1, h.2.2.1, h.2.2.2.1, h.2.2.2.2.1⟩
theorem ownB_flds {l : List Fl} (h : ownB l = true) : fldsOk l = true := by unfold ownB at h; exact (Bool.and_eq_true _ _ ▸ h).1
theorem rsOk_flds {r : Rs} (h : rsOk r = true) : fldsOk r.l = true := ownB_flds (rsOk_parts h).2.1
theorem szL_flds {l : List Fl} (h : fldsOk l = true) : szL l ≤ 13920 := by
  obtain ⟨h1, h2⟩ := fldsOk_parts h
  have : ∀ m : List Fl, (∀ f ∈ m, fldOk f = true) → szL m ≤ m.length * 464 := by
    intro m
    induction m with
    | nil => intro _; exact Nat.zero_le _
    | cons f m ih =>
      intro hm
      have k1 := fldOk_size (hm f (by simp))
      have k2 := ih fun g hg => hm g (by simp [hg])
      have e : szL (f :: m) = szF f + szL m := by simp [szL]
      rw [e, List.length_cons]
      unfold szF
      omega
  have k := this l h2
  omega
end Go.Proofs.YtkaogmdhjcgcdaaGreatDoor
