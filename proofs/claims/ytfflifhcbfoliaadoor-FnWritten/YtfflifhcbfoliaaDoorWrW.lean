/-
  The law FnWritten walked.
-/
import Derived.Test.YtfflifhcbfoliaaDoorDrR
import Derived.BigQuiet
import Derived.Deep.Cut
import Derived.Deep.CutRange
namespace Go.Proofs.YtfflifhcbfoliaaDoor
open Go.RowKit Go.Sort

/-- The cells of a date, in every world that grew. -/
theorem Dt.facts {w : World} {g : Nat} {y m d h i s : Int} (k : Dt w g y m d h i s) : (∀ n os, (grow (w.drewN n) os).cell? ⟨g, 0, none⟩ = some (.int .i64 y)) ∧ (∀ n os, (grow (w.drewN n) os).cell? ⟨g, 1, none⟩ = some (.int .i64 m)) ∧ (∀ n os, (grow (w.drewN n) os).cell? ⟨g, 2, none⟩ = some (.int .i64 d)) ∧ (∀ n os, (grow (w.drewN n) os).cell? ⟨g, 3, none⟩ = some (.int .i64 h)) ∧ (∀ n os, (grow (w.drewN n) os).cell? ⟨g, 4, none⟩ = some (.int .i64 i)) ∧ (∀ n os, (grow (w.drewN n) os).cell? ⟨g, 5, none⟩ = some (.int .i64 s)) := by
  have q := fun n os => k.grew (((Grew.refl w).drewN n).more os)
  exact ⟨fun n os => (q n os).2.1, fun n os => (q n os).2.2.1, fun n os => (q n os).2.2.2.1, fun n os => (q n os).2.2.2.2.1, fun n os => (q n os).2.2.2.2.2.1, fun n os => (q n os).2.2.2.2.2.2⟩
theorem ok_400 {y m d h i s : Int} (ok : okD y m d h i s) (hy : y + 400 < 10000) : okB (y + 400) m d h i s = true := by
  obtain ⟨h1, h2, h3, h4⟩ := ok
  exact decide_eq_true ⟨⟨by omega, by omega⟩, h2, by rw [mdays_400 (by omega)]; exact h3, h4⟩
theorem implWkOf {y m d h i s k : Int} (ok : okB y m d h i s = true) (hk : (dayN y m d + 4) % 7 = k) (w : World) :
    Calls Tryd.prog 12 #[.agg #[.int .i64 y, .int .i64 m, .int .i64 d, .int .i64 h, .int .i64 i, .int .i64 s]] w fun e w' => e = .returned (.int .i64 k) ∧ Grew w w' := implWkIs ok hk w
theorem full29 {t : ByteArray} (h : t.size = 29) : (t.toList == []) = false := by
  rw [ByteArray.toList_eq]
  refine beq_eq_false_iff_ne.2 fun e => ?_
  have h3 : t.data.toList.length = t.size := by simp
  rw [e] at h3
  simp at h3
  omega

set_option maxHeartbeats 4000000 in
theorem writtenWalk (sa : Option Addr) (sl sc : Nat) (W : World) (hc : Code8 W W.heap.size sa sl) (hl : sl ≤ 4096) (ht : Tab W) :
    Calls Tryd.prog 3 #[.slice sa sl sc] W fun e w' => e = .returned (.bool true) ∧ Below W.heap.size W w' := by
  have mix := mixed
  have HT : Hid (∀ x, Below W.heap.size W x → Tab x) := fun x h => ht.low h
  clear ht
  go_enter Tryd.func3, Tryd.ntmps3
  go_wp2_with (go_at_call 6; refine (notBig sa sl sc _ hl).mono ?_; rintro e x0 ⟨rfl, rfl⟩)
  refine (drawShowDate sa sl sc _ hc hl).mono ?_
  rintro e w1 ⟨⟨y, m, d, h, i, s, rfl⟩, hb1⟩
  have B1 : ∀ o, Below W.heap.size W (w1.alloc o) := fun o => hb1.alloc hb1.size o
  have ht1 := fun o => HT.out _ (B1 o)
  go_wp2_with fail
  refine (implShow _ _ _ _ _ _ _ (ht1 _)).mono ?_
  rintro e w2 ⟨rfl, hb2⟩
  have D2 := (Dt.born w1 25 y m d h i s).grew hb2
  have B2 : Below W.heap.size W w2 := (B1 _).trans (lower hb2.low (B1 _).size)
  clear hb1 hb2 B1 ht1
  generalize w1.heap.size = g1 at D2 ⊢
  cases hok : okB y m d h i s with
  | false =>
    have hsv : showV y m d h i s = ⟨#[]⟩ := by unfold showV; rw [hok]; rfl
    rw [hsv]
    have D3 := fun x (hx : Grew w2 x) => D2.grew hx
    obtain ⟨_, k0, k1, k2, k3, k4, k5⟩ := D2
    go_wp2_with (first | (go_at_call 9; refine (specShow _ _ _ _ _ _ _).mono ?_; rintro e w3 ⟨rfl, hb3⟩; rw [hsv]; obtain ⟨_, n0, n1, n2, n3, n4, n5⟩ := D3 w3 hb3; clear D3) | (go_at_call 10; refine (specOk _ _ _ _ _ _ _).mono ?_; rintro e w4 ⟨rfl, hb4⟩; rw [hok]))
    have B4 : Below W.heap.size W w4 := B2.trans (lower (hb3.trans hb4).low B2.size)
    clear B2 hb3 hb4
    go_wp2_with fail
    refine (drawReadDate sa sl sc _ (hc.up B4) hl).mono ?_
    rintro e x1 ⟨⟨t, rfl, htz⟩, hb1⟩
    have hm : t.size ≤ maxLen := by unfold maxLen; omega
    have X1 : Below W.heap.size W x1 := B4.trans (lower hb1 B4.size)
    clear hb1
    go_wp2_with fail
    refine (implRead t _ (HT.out _ X1) hm).mono ?_
    rintro e x2 ⟨⟨v, rfl, hv⟩, hb2⟩
    have X2 : Below W.heap.size W x2 := X1.trans (lower hb2.low X1.size)
    have HV : Hid (∀ v', ReadIs t v' → v' = v) := fun v' h => h.one hv
    clear hb2 X1
    rcases hv with ⟨y', m', d', h', i', s', ok', e', rfl⟩ | ⟨_, rfl⟩
    · have hq := bytes_eq ((showV_of ok').trans e')
      clear ok' e'
      go_wp2_with fail
      refine (specRead t _ hm).mono ?_
      rintro e x3 ⟨⟨v', rfl, hv'⟩, hb3⟩
      obtain rfl := HV.out v' hv'
      have E3 : Dt x3 x2.heap.size y' m' d' h' i' s' := (Dt.born x2 25 y' m' d' h' i' s').below hb3 (by simp)
      have X3 : Below W.heap.size W x3 := X2.trans (((Below.refl W.heap.size x2).alloc X2.size (.cells #[.int .i64 y', .int .i64 m', .int .i64 d', .int .i64 h', .int .i64 i', .int .i64 s'] 25)).trans (lower hb3 (by have := X2.size; simp; omega)))
      obtain ⟨hz3, q0, q1, q2, q3, q4, q5⟩ := E3
      clear hb3 hv' HV X2
      have X4 : ∀ o, Below W.heap.size W (x3.alloc o) := fun o => X3.alloc X3.size o
      have ht4 := fun o => HT.out _ (X4 o)
      go_wp2_with (go_at_call 8; refine (implShow _ _ _ _ _ _ _ (ht4 _)).mono ?_; rintro e x5 ⟨rfl, hb5⟩)
      go_ret
      exact ⟨rfl, (X4 _).trans (lower hb5.low (X4 _).size)⟩
    · go_wp2_with fail
      refine (specRead t _ hm).mono ?_
      rintro e x3 ⟨⟨v', rfl, hv'⟩, hb3⟩
      obtain rfl := HV.out v' hv'
      have E3 : Dt x3 x2.heap.size 0 0 0 0 0 0 := (Dt.born x2 25 0 0 0 0 0 0).below hb3 (by simp)
      have X3 : Below W.heap.size W x3 := X2.trans (((Below.refl W.heap.size x2).alloc X2.size (.cells #[.int .i64 0, .int .i64 0, .int .i64 0, .int .i64 0, .int .i64 0, .int .i64 0] 25)).trans (lower hb3 (by have := X2.size; simp; omega)))
      obtain ⟨hz3, q0, q1, q2, q3, q4, q5⟩ := E3
      clear hb3 hv' HV X2
      go_wp2
      go_ret
      exact ⟨rfl, X3.alloc X3.size _⟩
  | true =>
    have ok : okD y m d h i s := of_decide_eq_true hok
    have hsv : showV y m d h i s = showA y m d h i s := showV_of ok
    have hS := showA_size y m d h i s
    have hRd : Hid (ReadIs (showA y m d h i s) (.tuple #[.agg #[.int .i64 y, .int .i64 m, .int .i64 d, .int .i64 h, .int .i64 i, .int .i64 s], .bool true])) := .inl ⟨y, m, d, h, i, s, ok, rfl, rfl⟩
    rw [hsv]
    generalize showA y m d h i s = S at hsv hS hRd ⊢
    have hne := full29 hS
    have hmS : S.size ≤ maxLen := by unfold maxLen; omega
    have hyb : 1970 ≤ y ∧ y ≤ 9999 := ok.1
    have OK : Hid (okD y m d h i s ∧ okB y m d h i s = true) := ⟨ok, hok⟩
    have D3 := fun x (hx : Grew w2 x) => D2.grew hx
    have HD : Hid (Dt w2 g1 y m d h i s) := D2
    obtain ⟨_, k0, k1, k2, k3, k4, k5⟩ := D2
    clear ok
    go_wp2_with (first | (go_at_call 9; refine (specShow _ _ _ _ _ _ _).mono ?_; rintro e w3 ⟨rfl, hb3⟩; rw [hsv]; obtain ⟨_, n0, n1, n2, n3, n4, n5⟩ := D3 w3 hb3; clear D3) | (go_at_call 10; refine (specOk _ _ _ _ _ _ _).mono ?_; rintro e w4 ⟨rfl, hb4⟩; rw [hok]))
    have B4 : Below W.heap.size W w4 := B2.trans (lower (hb3.trans hb4).low B2.size)
    have D4 : Hid (Dt w4 g1 y m d h i s) := HD.out.grew (hb3.trans hb4)
    clear B2 hb3 hb4 HD k0 k1 k2 k3 k4 k5 n0 n1 n2 n3 n4 n5
    refine (implRead S _ (HT.out _ B4) hmS).mono ?_
    rintro e w5 ⟨⟨v, rfl, hv⟩, hb5⟩
    obtain rfl := hv.one hRd.out
    have B5 : Below W.heap.size W w5 := B4.trans (lower hb5.low B4.size)
    have D5 := D4.out.grew hb5
    clear B4 D4 hb5 hv hRd
    have hz5 : g1 < w5.heap.size := D5.1
    have D6 : Dt ((w5.alloc (.cells #[.int .i64 y, .int .i64 m, .int .i64 d, .int .i64 h, .int .i64 i, .int .i64 s] 25)).alloc (.cells #[.int .i64 (y + 400), .int .i64 m, .int .i64 d, .int .i64 h, .int .i64 i, .int .i64 s] 25)) g1 y m d h i s := (D5.alloc _).alloc _
    have E6 : Dt ((w5.alloc (.cells #[.int .i64 y, .int .i64 m, .int .i64 d, .int .i64 h, .int .i64 i, .int .i64 s] 25)).alloc (.cells #[.int .i64 (y + 400), .int .i64 m, .int .i64 d, .int .i64 h, .int .i64 i, .int .i64 s] 25)) w5.heap.size y m d h i s := (Dt.born w5 25 y m d h i s).alloc _
    have F6 : Dt ((w5.alloc (.cells #[.int .i64 y, .int .i64 m, .int .i64 d, .int .i64 h, .int .i64 i, .int .i64 s] 25)).alloc (.cells #[.int .i64 (y + 400), .int .i64 m, .int .i64 d, .int .i64 h, .int .i64 i, .int .i64 s] 25)) (w5.heap.size + 1) (y + 400) m d h i s := by
      have := Dt.born (w5.alloc (.cells #[.int .i64 y, .int .i64 m, .int .i64 d, .int .i64 h, .int .i64 i, .int .i64 s] 25)) 25 (y + 400) m d h i s
      simpa using this
    have B6 : Below W.heap.size W ((w5.alloc (.cells #[.int .i64 y, .int .i64 m, .int .i64 d, .int .i64 h, .int .i64 i, .int .i64 s] 25)).alloc (.cells #[.int .i64 (y + 400), .int .i64 m, .int .i64 d, .int .i64 h, .int .i64 i, .int .i64 s] 25)) := (B5.alloc B5.size _).alloc (by have := B5.size; simp; omega) _
    obtain ⟨_, k0, k1, k2, k3, k4, k5⟩ := D5
    go_wp2_with fail
    generalize ((w5.alloc (.cells #[.int .i64 y, .int .i64 m, .int .i64 d, .int .i64 h, .int .i64 i, .int .i64 s] 25)).alloc (.cells #[.int .i64 (y + 400), .int .i64 m, .int .i64 d, .int .i64 h, .int .i64 i, .int .i64 s] 25)) = w6 at D6 E6 F6 B6 ⊢
    generalize w5.heap.size = g5 at E6 F6 ⊢
    clear k0 k1 k2 k3 k4 k5 hz5 B5
    go_cut [65] from 42 to 65 (fun b wx => b = .bool false ∧ Grew w6 wx)
    case first =>
      obtain ⟨k0, k1, k2, k3, k4, k5⟩ := D6.facts
      obtain ⟨q0, q1, q2, q3, q4, q5⟩ := E6.facts
      obtain ⟨r0, r1, r2, r3, r4, r5⟩ := F6.facts
      clear D6 E6 F6 B6
      by_cases hy4 : y + 400 < 10000
      · obtain ⟨kd, hkd⟩ : ∃ k, k = (dayN y m d + 4) % 7 := ⟨_, rfl⟩
        have HF : Hid (okB (y + 400) m d h i s = true ∧ (dayN (y + 400) m d + 4) % 7 = kd) := ⟨ok_400 OK.out.1 hy4, by rw [day_400 (by omega)]; omega⟩
        have HK : Hid (okB y m d h i s = true ∧ (dayN y m d + 4) % 7 = kd) := ⟨OK.out.2, hkd.symm⟩
        clear hkd hok
        refine wp_region_quiet_grown mix (by kernel_rfl) ?_
        repeat (go_big_quiet_step ((go_at_call 12; first | exact callGrew (implWkOf HF.out.1 HF.out.2 _) | exact callGrew (implWkOf HK.out.1 HK.out.2 _))))
        refine wpQuiet_nil ?_
        intro _ hw'
        obtain ⟨⟨nq, osq⟩, hw''⟩ := hw'
        subst hw''
        go_wp2_with fail
        go_meet
        exact ⟨rfl, ((Grew.refl w6).drewN _).more _⟩
      · have hy5 : decide (y + 400 < 10000) = false := decide_eq_false hy4
        refine wp_region_quiet_grown mix (by kernel_rfl) ?_
        repeat (go_big_quiet_step (fail))
        refine wpQuiet_nil ?_
        intro _ hw'
        obtain ⟨⟨nq, osq⟩, hw''⟩ := hw'
        subst hw''
        go_wp2_with fail
        go_meet
        exact ⟨rfl, ((Grew.refl w6).drewN _).more _⟩
    case rest =>
      obtain ⟨rfl, hg7⟩ := hcut
      have B7 : Below W.heap.size W wc := B6.trans (lower hg7.low B6.size)
      clear D6 E6 F6 B6 hg7
      go_wp2_with fail
      refine (drawReadDate sa sl sc _ (hc.up B7) hl).mono ?_
      rintro e x1 ⟨⟨t, rfl, htz⟩, hb1⟩
      have hm : t.size ≤ maxLen := by unfold maxLen; omega
      have X1 : Below W.heap.size W x1 := B7.trans (lower hb1 B7.size)
      clear hb1
      go_wp2_with fail
      refine (implRead t _ (HT.out _ X1) hm).mono ?_
      rintro e x2 ⟨⟨v, rfl, hv⟩, hb2⟩
      have X2 : Below W.heap.size W x2 := X1.trans (lower hb2.low X1.size)
      have HV : Hid (∀ v', ReadIs t v' → v' = v) := fun v' h => h.one hv
      clear hb2 X1
      rcases hv with ⟨y', m', d', h', i', s', ok', e', rfl⟩ | ⟨_, rfl⟩
      · have hq := bytes_eq ((showV_of ok').trans e')
        clear ok' e'
        go_wp2_with fail
        refine (specRead t _ hm).mono ?_
        rintro e x3 ⟨⟨v', rfl, hv'⟩, hb3⟩
        obtain rfl := HV.out v' hv'
        have E3 : Dt x3 x2.heap.size y' m' d' h' i' s' := (Dt.born x2 25 y' m' d' h' i' s').below hb3 (by simp)
        have X3 : Below W.heap.size W x3 := X2.trans (((Below.refl W.heap.size x2).alloc X2.size (.cells #[.int .i64 y', .int .i64 m', .int .i64 d', .int .i64 h', .int .i64 i', .int .i64 s'] 25)).trans (lower hb3 (by have := X2.size; simp; omega)))
        obtain ⟨hz3, q0, q1, q2, q3, q4, q5⟩ := E3
        clear hb3 hv' HV X2
        have X4 : ∀ o, Below W.heap.size W (x3.alloc o) := fun o => X3.alloc X3.size o
        have ht4 := fun o => HT.out _ (X4 o)
        go_wp2_with (go_at_call 8; refine (implShow _ _ _ _ _ _ _ (ht4 _)).mono ?_; rintro e x5 ⟨rfl, hb5⟩)
        go_ret
        exact ⟨rfl, (X4 _).trans (lower hb5.low (X4 _).size)⟩
      · go_wp2_with fail
        refine (specRead t _ hm).mono ?_
        rintro e x3 ⟨⟨v', rfl, hv'⟩, hb3⟩
        obtain rfl := HV.out v' hv'
        have E3 : Dt x3 x2.heap.size 0 0 0 0 0 0 := (Dt.born x2 25 0 0 0 0 0 0).below hb3 (by simp)
        have X3 : Below W.heap.size W x3 := X2.trans (((Below.refl W.heap.size x2).alloc X2.size (.cells #[.int .i64 0, .int .i64 0, .int .i64 0, .int .i64 0, .int .i64 0, .int .i64 0] 25)).trans (lower hb3 (by have := X2.size; simp; omega)))
        obtain ⟨hz3, q0, q1, q2, q3, q4, q5⟩ := E3
        clear hb3 hv' HV X2
        go_wp2
        go_ret
        exact ⟨rfl, X3.alloc X3.size _⟩
end Go.Proofs.YtfflifhcbfoliaaDoor
