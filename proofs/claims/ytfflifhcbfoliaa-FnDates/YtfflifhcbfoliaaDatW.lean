/-
  The law FnDates walked.
-/
import Derived.Test.YtfflifhcbfoliaaDt
import Derived.BigQuiet
import Derived.Deep.Cut
import Derived.Deep.CutRange
namespace Go.Proofs.Ytfflifhcbfoliaa
open Go.RowKit Go.Sort

theorem implWkIs {y m d h i s k : Int} (ok : okB y m d h i s = true) (hk : (dayN y m d + 4) % 7 = k) (w : World) :
    Calls Try.prog 19 #[.agg #[.int .i64 y, .int .i64 m, .int .i64 d, .int .i64 h, .int .i64 i, .int .i64 s]] w fun e w' => e = .returned (.int .i64 k) ∧ Grew w w' := hk ▸ implWk_in y m d h i s w ok

set_option maxHeartbeats 4000000 in
theorem datesWalk (sa : Option Addr) (sl sc : Nat) (W : World) (hc : Code8 W W.heap.size sa sl) (hl : sl ≤ 4096) :
    Calls Try.prog 3 #[.slice sa sl sc] W fun e w' => e = .returned (.bool true) ∧ Below W.heap.size W w' := by
  have mix := mixed
  go_enter Try.func3, Try.ntmps3
  go_wp2_with (go_at_call 10; refine (notBig sa sl sc _ hl).mono ?_; rintro e x0 ⟨rfl, rfl⟩)
  refine (drawMoment sa sl sc _ hc hl).mono ?_
  rintro e w1 ⟨⟨y, m, d, h, i, s, rfl⟩, hb1⟩
  have hal1 := fun o => (Grew.refl w1).alloc o
  go_wp2_with fail
  refine (implMom _ _ _ _ _ _ _).mono ?_
  rintro e w2 ⟨rfl, hb2⟩
  have D2 := (Dt.born w1 25 y m d h i s).grew hb2
  have B2 : Below W.heap.size W w2 := hb1.trans (lower ((hal1 _).trans hb2).low hb1.size)
  clear hb1 hal1 hb2
  go_wp2_with fail
  refine (drawDateAt sa sl sc _ (hc.up B2) hl).mono ?_
  rintro e w3 ⟨⟨n, rfl⟩, hb3⟩
  have D3 := D2.below hb3 D2.1
  have B3 := B2.trans (lower hb3 B2.size)
  clear hb3 D2 B2
  go_wp2_with fail
  refine (implAtAll n _).mono ?_
  rintro e w4 ⟨⟨e0, e1, e2, e3, e4, e5, rfl, HS, HE⟩, hb4⟩
  have D5 := (D3.grew hb4).alloc (.cells #[.int .i64 e0, .int .i64 e1, .int .i64 e2, .int .i64 e3, .int .i64 e4, .int .i64 e5] 25)
  have E5 := Dt.born w4 25 e0 e1 e2 e3 e4 e5
  have B5 := B3.trans (lower (hb4.alloc (.cells #[.int .i64 e0, .int .i64 e1, .int .i64 e2, .int .i64 e3, .int .i64 e4, .int .i64 e5] 25)).low B3.size)
  clear hb4 D3 B3
  go_wp2_with fail
  generalize w4.alloc (.cells #[.int .i64 e0, .int .i64 e1, .int .i64 e2, .int .i64 e3, .int .i64 e4, .int .i64 e5] 25) = w5 at D5 E5 B5 ⊢
  generalize w4.heap.size = g2 at E5 ⊢
  generalize w1.heap.size = g1 at D5 ⊢
  have HE' : Hid (0 ≤ n ∧ n ≤ 253402300799 → okD e0 e1 e2 e3 e4 e5 ∧ momN e0 e1 e2 e3 e4 e5 = n) := HE
  have HS' : Hid (∀ w, Calls Try.prog 16 #[.int .i64 n] w fun e w' => e = .returned (.agg #[.int .i64 e0, .int .i64 e1, .int .i64 e2, .int .i64 e3, .int .i64 e4, .int .i64 e5]) ∧ Grew w w') := HS
  clear HE HS
  go_cut [56] from 19 to 56 (fun b wx => b = .bool false ∧ Grew w5 wx)
  case first =>
    obtain ⟨k0, k1, k2, k3, k4, k5⟩ := D5.facts
    obtain ⟨q0, q1, q2, q3, q4, q5⟩ := E5.facts
    clear D5 E5 B5
    refine wp_region_quiet_grown mix (by kernel_rfl) ?_
    repeat (go_big_quiet_step (first | (go_at_call 15; exact callGrew (specMom _ _ _ _ _ _ _)) | (go_at_call 16; exact callGrew (HS'.out _)) | (go_at_call 17; exact callGrew (implDays _ _ _ _ _ _ _)) | (go_at_call 18; exact callGrew (specDays _ _ _ _ _ _ _)) | (go_at_call 19; exact callGrew (implWk _ _ _ _ _ _ _)) | (go_at_call 20; exact callGrew (specWk _ _ _ _ _ _ _)) | (go_at_call 21; exact callGrew (implOk _ _ _ _ _ _ _)) | (go_at_call 22; exact callGrew (specOk _ _ _ _ _ _ _)) | (go_at_call 23; exact callSame (implLeap _ _)) | (go_at_call 24; exact callSame (specLeap _ _))))
    refine wpQuiet_nil ?_
    intro _ hw'
    obtain ⟨⟨nq, osq⟩, hw''⟩ := hw'
    subst hw''
    go_wp2_with fail
    go_meet
    exact ⟨rfl, ((Grew.refl w5).drewN _).more _⟩
  case rest =>
    obtain ⟨rfl, hg6⟩ := hcut
    have D6 := D5.grew hg6
    have E6 := E5.grew hg6
    have B6 := B5.trans (lower hg6.low B5.size)
    clear D5 E5 B5 hg6 HS'
    go_upto_region 9 with fail
    go_cut [68] from 57 to 68 (fun b wx => b = .bool false ∧ Grew wc wx)
    case first =>
      by_cases hn0 : n < 0
      · go_wp2_with fail
        go_meet
        exact ⟨rfl, Grew.refl _⟩
      · by_cases hn1 : 253402300799 < n
        · go_wp2_with fail
          go_meet
          exact ⟨rfl, Grew.refl _⟩
        · obtain ⟨ok, hm⟩ := HE'.out (by omega)
          have hme : momV e0 e1 e2 e3 e4 e5 = n := by unfold momV; rw [if_pos (show okB e0 e1 e2 e3 e4 e5 = true from decide_eq_true ok)]; exact hm
          obtain ⟨_, q0, q1, q2, q3, q4, q5⟩ := E6
          clear ok hm D6 B6
          go_wp2_with (go_at_call 12; refine (implMom _ _ _ _ _ _ _).mono ?_; rintro e x6 ⟨rfl, hb6⟩; rw [hme])
          go_meet
          exact ⟨rfl, hb6⟩
    case rest =>
      obtain ⟨rfl, hg7⟩ := hcut
      have D7 := D6.grew hg7
      have B7 := B6.trans (lower hg7.low B6.size)
      clear D6 E6 B6 hg7 HE'
      cases hok : okB y m d h i s with
      | false =>
        have hmv : momV y m d h i s = -1 := by unfold momV; rw [hok]; rfl
        obtain ⟨_, k0, k1, k2, k3, k4, k5⟩ := D7
        go_wp2_with (go_at_call 21; refine (implOk _ _ _ _ _ _ _).mono ?_; rintro e x8 ⟨rfl, hb8⟩; rw [hok])
        go_ret
        exact ⟨rfl, B7.trans (lower hb8.low B7.size)⟩
      | true =>
        have okd : okD y m d h i s := of_decide_eq_true hok
        have hdo : dayOk y m d := dayOk_of hok
        have hmv : momN y m d h i s = momV y m d h i s := by unfold momV; rw [if_pos hok]
        generalize momV y m d h i s = M at hmv ⊢
        have hbd := day_bd hdo
        have hM : M = dayN y m d * 86400 + h * 3600 + i * 60 + s := hmv.symm
        have hhis : (0 ≤ h ∧ h ≤ 23) ∧ (0 ≤ i ∧ i ≤ 59) ∧ (0 ≤ s ∧ s ≤ 59) := okd.2.2.2
        have hMb : 0 ≤ M ∧ M ≤ 253402300799 := by omega
        have hdiv : M / 86400 = dayN y m d := by omega
        have hdvt : M.tdiv 86400 = dayN y m d := by rw [Int.tdiv_eq_ediv_of_nonneg hMb.1]; exact hdiv
        have OK : Hid (okD y m d h i s ∧ dayOk y m d ∧ momN y m d h i s = M ∧ okB y m d h i s = true) := ⟨okd, hdo, hmv, hok⟩
        have HM : Hid (M = dayN y m d * 86400 + h * 3600 + i * 60 + s) := hM
        have HH : Hid ((0 ≤ h ∧ h ≤ 23) ∧ (0 ≤ i ∧ i ≤ 59) ∧ (0 ≤ s ∧ s ≤ 59)) := hhis
        clear okd hdo hmv hok hM hhis
        go_upto_region 13 with fail
        go_cut [84] from 74 to 84 (fun b wx => b = .bool false ∧ Grew wc wx)
        case first =>
          obtain ⟨k0, k1, k2, k3, k4, k5⟩ := D7.facts
          clear D7 B7
          refine wp_region_quiet_grown mix (by kernel_rfl) ?_
          repeat (go_big_quiet_step (first | (go_at_call 14; exact callGrew (implAtIs OK.out.1 OK.out.2.2.1 _)) | (go_at_call 17; exact callGrew (implDays_in _ _ _ _ _ _ _ OK.out.2.1 OK.out.2.2.2))))
          refine wpQuiet_nil ?_
          intro _ hw'
          obtain ⟨⟨nq, osq⟩, hw''⟩ := hw'
          subst hw''
          go_wp2_with fail
          go_meet
          exact ⟨rfl, ((Grew.refl _).drewN _).more _⟩
        case rest =>
          obtain ⟨rfl, hg8⟩ := hcut
          have D8 := D7.grew hg8
          have B8 := B7.trans (lower hg8.low B7.size)
          clear D7 B7 hg8
          by_cases hlate : 253402300799 < M + 86400
          · go_wp2_with fail
            go_ret
            exact ⟨rfl, B8⟩
          · go_wp2_with fail
            refine (implAt_in _ _ (by omega) (by omega)).mono ?_
            rintro e w9 ⟨⟨y', m', d', h', i', s', rfl, ok', hm'⟩, hg9⟩
            have hdo' : dayOk y' m' d' := ⟨ok'.1, ok'.2.1, ok'.2.2.1⟩
            have hM' : dayN y' m' d' * 86400 + h' * 3600 + i' * 60 + s' = M + 86400 := hm'
            have hM := HM.out
            have hhis := HH.out
            have hhis' : (0 ≤ h' ∧ h' ≤ 23) ∧ (0 ≤ i' ∧ i' ≤ 59) ∧ (0 ≤ s' ∧ s' ≤ 59) := ok'.2.2.2
            have hdn : dayN y' m' d' = dayN y m d + 1 := by omega
            obtain rfl : h' = h := by omega
            have hlater := day_next OK.out.2.1 hdo' hdn
            have hd31 : 1 ≤ d ∧ d ≤ 31 := by have := OK.out.2.1.2.2; have := mdays_bd y m; omega
            have okn : okB y' m' d' h' i' s' = true := decide_eq_true ok'
            obtain ⟨kd, hkd⟩ : ∃ k, k = (dayN y m d + 4) % 7 := ⟨_, rfl⟩
            obtain ⟨kn, hkn⟩ : ∃ k, k = (dayN y' m' d' + 4) % 7 := ⟨_, rfl⟩
            have hkdb : 0 ≤ kd ∧ kd ≤ 6 := by omega
            have hkk : (kd + 1) % 7 = kn := by omega
            have hkt : (kd + 1).tmod 7 = kn := by rw [Int.tmod_eq_emod_of_nonneg (by omega)]; exact hkk
            have hkw : IntKind.i64.wrap (kd + 1) = kd + 1 := by rw [IntKind.wrap_i64]; omega
            have OKN : Hid (okB y' m' d' h' i' s' = true ∧ (dayN y' m' d' + 4) % 7 = kn) := ⟨okn, hkn.symm⟩
            have OKD : Hid (okB y m d h' i s = true ∧ (dayN y m d + 4) % 7 = kd) := ⟨OK.out.2.2.2, hkd.symm⟩
            have D9 := (D8.grew hg9).alloc (.cells #[.int .i64 y', .int .i64 m', .int .i64 d', .int .i64 h', .int .i64 i', .int .i64 s'] 25)
            have E9 := Dt.born w9 25 y' m' d' h' i' s'
            have B9 := B8.trans (lower (hg9.alloc (.cells #[.int .i64 y', .int .i64 m', .int .i64 d', .int .i64 h', .int .i64 i', .int .i64 s'] 25)).low B8.size)
            clear D8 B8 hg9 ok' hm' hdo' hM' hM hhis hhis' hdn okn hkd hkn OK HM HH hdiv hdvt hkdb
            go_upto_region 18 with fail
            generalize w9.alloc (.cells #[.int .i64 y', .int .i64 m', .int .i64 d', .int .i64 h', .int .i64 i', .int .i64 s'] 25) = wa at D9 E9 B9 ⊢
            generalize w9.heap.size = g3 at E9 ⊢
            go_cut [8] from 91 to 124 (fun b wx => b = .bool true ∧ wx = wa)
            case first =>
              obtain ⟨_, k0, k1, k2, k3, k4, k5⟩ := D9
              obtain ⟨_, q0, q1, q2, q3, q4, q5⟩ := E9
              clear B9 OKN OKD hkk hkt hkw
              rcases hlater with hl1 | ⟨rfl, hl2 | ⟨rfl, rfl⟩⟩
              · go_wp2_with fail
                go_meet
                exact ⟨rfl, rfl⟩
              · go_wp2_with fail
                go_meet
                exact ⟨by simp, rfl⟩
              · go_wp2_with fail
                go_meet
                exact ⟨by simp, rfl⟩
            case rest =>
              obtain ⟨rfl, rfl⟩ := hcut
              clear hlater
              obtain ⟨k0, k1, k2, k3, k4, k5⟩ := D9.facts
              obtain ⟨q0, q1, q2, q3, q4, q5⟩ := E9.facts
              clear D9 E9
              go_wp2_with fail
              refine wp_region_quiet_grown mix (by kernel_rfl) ?_
              repeat (go_big_quiet_step ((go_at_call 19; first | exact callGrew (implWkIs OKN.out.1 OKN.out.2 _) | exact callGrew (implWkIs OKD.out.1 OKD.out.2 _))))
              refine wpQuiet_nil ?_
              intro _ hw'
              obtain ⟨⟨nq, osq⟩, hw''⟩ := hw'
              subst hw''
              go_wp2_with fail
              go_ret
              exact ⟨rfl, B9.trans (lower (((Grew.refl _).drewN _).more _).low B9.size)⟩
end Go.Proofs.Ytfflifhcbfoliaa
