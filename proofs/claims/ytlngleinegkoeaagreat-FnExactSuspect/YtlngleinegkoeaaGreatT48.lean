/-
  The specification's Suspect.
  The program's suspect and Suspect.
-/
import Derived.Test.YtlngleinegkoeaaGreatT39
import Derived.Test.YtlngleinegkoeaaGreatT43
import Derived.Test.YtlngleinegkoeaaGreatT47
import Derived.Test.YtlngleinegkoeaaGreatT40
namespace Go.Proofs.YtlngleinegkoeaaGreat.Rl
open Go.RowKit Go.Sort Go.Shelf Pg
set_option linter.unusedVariables false
set_option linter.unusedSimpArgs false

/-- What both sides' Suspect answers. -/
noncomputable def susA (r : Rp) : Rp × List Ms := @ite _ (RpOk r) (Classical.propDecidable _) (susF r) (noRp, [])
def SusAns (r : Rp) (w : World) (e : Ending) (w' : World) : Prop := ∃ u' v T, e = .returned (.tuple #[rpA (susA r).1 u', v]) ∧ RmAns (susA r).1 (susA r).2 w w' u' v T
def frSbe (s t : Nat → Value) : Act := { tmps := #[s 0, s 1, s 2, s 3, s 4, s 5, s 6, s 7, s 8, s 9, s 10, s 11, s 12, s 13, s 14, s 15, s 16, s 17, s 18, s 19, s 20, s 21, t 22, t 23, t 24], defers := [] }
def LSbe : List Nat := [22, 23, 24, 100003]
def dSbe (i : Nat) : Nat := LSbe.getD i (i + 5000)
theorem dSbe_ne {i j : Nat} (hi : i < 4) (hj : j < 4) (h : j ≠ i) : dSbe j ≠ dSbe i := slotsNe (L := LSbe) (by decide) rfl hi hj h
def GSbe (R : Rp) (ux : Rv) (gb lo b : Nat) (i : Nat) (x : World) (v : Value) : Prop := match i with
  | 0 => v = .agg (rpC R ux)
  | 1 => v = .agg (rpC R ux)
  | 2 => ∃ (C : Nat) (T : List Mx) (p1 : Option Addr) (d1 : Nat), v = .slice p1 T.length d1 ∧ (lo ≤ C ∧ C ≤ x.heap.size ∧ MsOwn x C (.slice p1 T.length d1) T (sprL R))
  | 3 => (v = undef ∧ Bx x (b + 1) 28 (rpC R ux))
  | _ => True
theorem GSbe.keep {R : Rp} {ux : Rv} {gb lo b : Nat} {x y : World} (hb : Below x.heap.size x y) (j : Nat) (v : Value) (hj : j < 4) (h : GSbe R ux gb lo b j x v) : GSbe R ux gb lo b j y v := by
  rcases (show j = 0 ∨ j = 1 ∨ j = 2 ∨ j = 3 by omega) with rfl | rfl | rfl | rfl
  · exact h
  · exact h
  · obtain ⟨C, T, p1, d1, h1, h2⟩ := h; exact ⟨C, T, p1, d1, h1, h2.1, Nat.le_trans h2.2.1 hb.size, h2.2.2.kept hb⟩
  · exact ⟨h.1, h.2.kept hb⟩
theorem GSbe.keepS {R : Rp} {ux : Rv} {gb lo b : Nat} {x y : World} (hlc : b + 1 < lo) (hc : ChS (fun k => k = b + 1) x y) (j : Nat) (v : Value) (hj : j < 4) (hne : j ≠ 3) (h : GSbe R ux gb lo b j x v) : GSbe R ux gb lo b j y v := by
  rcases (show j = 0 ∨ j = 1 ∨ j = 2 ∨ j = 3 by omega) with rfl | rfl | rfl | rfl
  · exact h
  · exact h
  · obtain ⟨C, T, p1, d1, h1, h2⟩ := h; exact ⟨C, T, p1, d1, h1, h2.1, Nat.le_trans h2.2.1 hc.size, h2.2.2.off (fun k k1 k2 => hc.block k k2 (by have := h2.1; omega))⟩
  · exact absurd rfl hne
set_option maxRecDepth 100000 in
set_option maxHeartbeats 16000000 in
theorem specSusR (r : Rp) (u : Rv) (w : World) (h : RpGot w u r) (hf : Fit r) : Calls Tryz.prog 28 #[rpA r u] w fun e w' => SusAns r w e w' := by
  obtain ⟨la, lc, oa, oc, ca, cc, ta, tc, T, rfl⟩ := h.form
  obtain ⟨b, hb⟩ : ∃ b, b = w.heap.size := ⟨_, rfl⟩
  obtain ⟨w1, hw1⟩ : ∃ w1, w1 = (w.alloc (.cells #[.int .i64 r.id, .int .i64 r.p, .int .i64 r.v, .bool r.n, .int .i64 r.la, .slice la r.l.length lc, .int .i64 r.c, .slice oa r.ok.length oc, .slice ca r.ch.length cc, .slice ta r.te.length tc] 28)).alloc (.cells #[.int .i64 0, .int .i64 0, .int .i64 0, .bool false, .int .i64 0, .slice none 0 0, .int .i64 0, .slice none 0 0, .slice none 0 0, .slice none 0 0] 28) := ⟨_, rfl⟩
  have XB1 : Hid (Bx w1 b 28 #[.int .i64 r.id, .int .i64 r.p, .int .i64 r.v, .bool r.n, .int .i64 r.la, .slice la r.l.length lc, .int .i64 r.c, .slice oa r.ok.length oc, .slice ca r.ch.length cc, .slice ta r.te.length tc]) := (show Hid _ from by rw [hw1, hb]; exact (Bx.new _ _ _).alloc _)
  have ZB1 : Hid (Bx w1 (b + 1) 28 zR) := (show Hid _ from by rw [hw1, hb]; exact Bx.at _ _ (by simp))
  have B1 : Hid (Below b w w1) := (show Hid _ from by rw [hw1, hb]; exact ((Below.refl _ w).alloc (Nat.le_refl _) _).alloc (by simp) _)
  have S1 : Hid (w1.heap.size = b + 2) := (show _ = _ by rw [hw1, hb]; simp)
  have HB : Hid (b = w.heap.size) := hb
  have HG : Hid (RpGot w ⟨.slice la r.l.length lc, .slice oa r.ok.length oc, .slice ca r.ch.length cc, .slice ta r.te.length tc, T⟩ r) := h
  have HF : Hid (Fit r) := hf
  have jo := fun W hW => specRok r _ W (HG.out.kept hW) hf
  have jn := fun W hW => specCpR r _ W (HG.out.kept hW) hf
  unfold rpA at *
  simp only at jo jn ⊢
  clear h hf
  go_enter Tryz.func28, Tryz.ntmps28
  go_upto_region 1 with fail
  rw [← hb, ← hw1]
  clear hw1 hb
  go_wp2_with (refine wpList_ldR rfl (.tmp 1) rfl b rfl XB1.out rfl ?_)
  refine (jo _ (by rw [← HB.out]; exact B1.out)).mono ?_
  rintro e w2 ⟨rfl, hb2⟩
  have hz2 : b + 2 ≤ w2.heap.size := by have := hb2.size; have := S1.out; omega
  replace hb2 : Below (b + 2) w1 w2 := hb2.mono (by have := S1.out; omega)
  have XB2 : Hid (Bx w2 b 28 #[.int .i64 r.id, .int .i64 r.p, .int .i64 r.v, .bool r.n, .int .i64 r.la, .slice la r.l.length lc, .int .i64 r.c, .slice oa r.ok.length oc, .slice ca r.ch.length cc, .slice ta r.te.length tc]) := (show Hid _ from Bx.low XB1.out hb2 (by omega))
  have ZB2 : Hid (Bx w2 (b + 1) 28 zR) := (show Hid _ from Bx.low ZB1.out hb2 (by omega))
  have B2 : Hid (Below b w w2) := (show Hid _ from B1.out.trans (hb2.mono (by omega)))
  have S2 : Hid (b + 2 ≤ w2.heap.size) := hz2
  clear hb2 hz2 jo XB1 ZB1 B1 S1
  cases hr : dB (RpOk r) with
  | false =>
    have HS : Hid (susA r = (noRp, [])) := (show _ = _ by unfold susA; exact if_neg (dB_not hr))
    have hba : Hid (Below w2.heap.size w2 (w2.alloc (.cells #[] 30))) := (show Hid _ from (Below.refl _ w2).alloc (Nat.le_refl _) _)
    go_wp2_with (refine wpList_stR rfl rfl (.tmp 2) (.tmp 8) rfl (b + 1) zR rfl rfl (ZB2.out.alloc _) rfl rfl zR_one ?_; intro w9 hz9 hc9)
    have OM : MsOwn w9 w2.heap.size (.slice (some ⟨w2.heap.size, 0, none⟩) 0 0) [] [] := (MsOwn.born w2).off (fun k h1 h2 => hc9.block k h2 (by have := S2.out; omega))
    have B9 : Below b w w9 := hc9.below (B2.out.trans (hba.out.mono (by have := S2.out; omega))) (by have := S2.out; have := hba.out.size; omega) (fun k hk => by omega)
    have hrl := results_row2 (P := Tryz.prog) (fn := Tryz.f28) (p := 2) (q := 3) (ty := 28) rfl
    refine bodyPost_ret (v := .tuple #[.agg zR, .slice (some ⟨w2.heap.size, 0, none⟩) 0 0]) (hrl _ _ (b + 1) 28 zR (0, 0) _ rfl _ rfl hz9 Tryz.underlying28 rfl (by rw [Tryz.rszR]; rfl)) rfl ?_
    unfold SusAns
    rw [HS.out]
    exact ⟨rv0, _, [], rfl, RmAns.no (OM.low (by have := S2.out; have := HB.out; omega)) (by rw [← HB.out]; exact B9)⟩
  | true =>
    have HS : Hid (susA r = susF r) := (show _ = _ by unfold susA; exact if_pos (dB_is hr))
    have HR : Hid (RpOk r) := dB_is hr
    have jn2 := jn w2 (by rw [← HB.out]; exact B2.out)
    clear jn hr
    go_upto_region 4 with (first
      | (refine wpList_ldR rfl (.tmp 1) rfl b rfl XB2.out rfl ?_)
      | (go_at_call 90
         refine jn2.mono ?_
         rintro e w3 ⟨u3, rfl, h3, hl3, ha3, b3⟩
         have Z3 : Hid (Bx (w3.alloc (.cells zR 28)) w3.heap.size 28 zR) := (show Hid _ from Bx.new _ _ _)
         unfold zR at Z3
         unfold rpA)
      | (refine wpList_stR rfl rfl (.tmp 4) (.tmp 11) rfl w3.heap.size (rpC r u3) rfl rfl Z3.out rfl rfl (rpC_one h3.got) ?_; intro w4 hz4 hc4))
    obtain ⟨a1, d1, a2, d2, a3, d3, a4, d4, M, rfl⟩ := h3.got.form
    obtain ⟨gb, hgb⟩ : ∃ gb, gb = w3.heap.size := ⟨_, rfl⟩
    have hba : Below w3.heap.size w3 (w3.alloc (.cells zR 28)) := (Below.refl _ w3).alloc (Nat.le_refl _) _
    unfold zR at hba
    have H4 : Hid (RpAt w4 (b + 2) gb ⟨.slice a1 r.l.length d1, .slice a2 r.ok.length d2, .slice a3 r.ch.length d3, .slice a4 r.te.length d4, M⟩ r) := (show RpAt _ _ _ _ _ from by
      have hs2 := S2.out
      have hs3 := b3.size
      rw [hgb]
      exact ⟨hz4, ((h3.kept hba).off (fun v hv k hk => hc4.block k ((h3.kept hba).has.under v hv k hk) (by have := h3.has.under v hv k hk; omega))).low hs2, ha3, by omega⟩)
    have hb4 : Below (b + 2) w2 w4 := (hc4.below (b3.trans (hba.mono b3.size)) (by have := hba.size; have := b3.size; omega) (fun k hk => by have := b3.size; omega)).mono S2.out
    have XB4 : Hid (Bx w4 b 28 #[.int .i64 r.id, .int .i64 r.p, .int .i64 r.v, .bool r.n, .int .i64 r.la, .slice la r.l.length lc, .int .i64 r.c, .slice oa r.ok.length oc, .slice ca r.ch.length cc, .slice ta r.te.length tc]) := (show Hid _ from Bx.low XB2.out hb4 (by omega))
    have ZB4 : Hid (Bx w4 (b + 1) 28 zR) := (show Hid _ from Bx.low ZB2.out hb4 (by omega))
    have B4 : Hid (Below b w w4) := (show Hid _ from B2.out.trans (hb4.mono (by omega)))
    rw [← hgb]
    clear hz4 hc4 h3 hl3 ha3 b3 hba hb4 hgb jn2 XB2 ZB2 B2
    have xv : w4.cell? ⟨b, 2, none⟩ = some (.int .i64 r.v) := XB4.out.cell 2
    by_cases hv : r.v = 10000
    · have HE : Hid (susF r = (r, [])) := (show _ = _ by unfold susF; exact if_pos hv)
      have ev : (r.v == 10000) = true := by simp [hv]
      clear hv
      go_wp2_with (first | (refine wpList_ldR rfl (.tmp 4) rfl gb rfl H4.out.c rfl ?_) | (refine wpList_stR rfl rfl (.tmp 2) (.tmp 15) rfl (b + 1) (rpC r ⟨.slice a1 r.l.length d1, .slice a2 r.ok.length d2, .slice a3 r.ch.length d3, .slice a4 r.te.length d4, M⟩) rfl rfl (ZB4.out.alloc _) rfl rfl (rpC_one H4.out.got) ?_; intro w9 hz9 hc9))
      have hba : Below w4.heap.size w4 (w4.alloc (.cells #[] 30)) := (Below.refl _ w4).alloc (Nat.le_refl _) _
      have hlt7 := H4.out.lt
      have hhb7 := H4.out.hb
      have OM : MsOwn w9 w4.heap.size (.slice (some ⟨w4.heap.size, 0, none⟩) 0 0) [] [] := (MsOwn.born w4).off (fun k h1 h2 => hc9.block k h2 (by omega))
      have B9 : Below b w w9 := hc9.below (B4.out.trans (hba.mono (by omega))) (by have := hba.size; omega) (fun k hk => by omega)
      have HH : RpHas w9 (b + 2) ⟨.slice a1 r.l.length d1, .slice a2 r.ok.length d2, .slice a3 r.ch.length d3, .slice a4 r.te.length d4, M⟩ r := (H4.out.kept hba).o.has.off (fun v hv k hk => hc9.block k ((H4.out.kept hba).under v hv k hk) (by have := H4.out.o.has.from v hv k hk; omega))
      have hrl := results_row2 (P := Tryz.prog) (fn := Tryz.f28) (p := 2) (q := 3) (ty := 28) rfl
      refine bodyPost_ret (v := .tuple #[.agg (rpC r ⟨.slice a1 r.l.length d1, .slice a2 r.ok.length d2, .slice a3 r.ch.length d3, .slice a4 r.te.length d4, M⟩), .slice (some ⟨w4.heap.size, 0, none⟩) 0 0]) (hrl _ _ (b + 1) 28 _ (0, 0) _ rfl _ rfl hz9 Tryz.underlying28 rfl (by rw [Tryz.rszR]; rfl)) rfl ?_
      unfold SusAns
      rw [HS.out, HE.out]
      exact ⟨⟨.slice a1 r.l.length d1, .slice a2 r.ok.length d2, .slice a3 r.ch.length d3, .slice a4 r.te.length d4, M⟩, _, [], rfl, ⟨HH.low (by have := HB.out; omega), H4.out.apt, ⟨w4.heap.size, H4.out.under, by have := HB.out; omega, OM⟩, by rw [← HB.out]; exact B9⟩⟩
    · have ev : (r.v == 10000) = false := by simp [hv]
      have hv1 := HR.out.v
      have HE : Hid (susF r = (told (askF r (r.v + 1)), sprL (told (askF r (r.v + 1))))) := (show _ = _ by unfold susF; exact if_neg hv)
      have HAK : Hid (RpOk (askF r (r.v + 1))) := (show RpOk _ from (ask_kp HR.out (by omega) (by omega)).ok)
      have HK : Hid (RpOk (told (askF r (r.v + 1)))) := (show RpOk _ from (told_kp HAK.out).ok)
      have ew : wrap64 (r.v + 1) = r.v + 1 := by unfold wrap64; omega
      clear hv
      go_upto_region 7 with (go_at_call 113; refine (specAsk r _ (b + 2) gb (r.v + 1) _ H4.out).mono ?_; rintro e w6 ⟨rfl, u6, h6, b6⟩)
      have H6 : Hid (RpAt w6 (b + 2) gb u6 (askF r (r.v + 1))) := (show Hid _ from h6)
      have XB6 : Hid (Bx w6 b 28 #[.int .i64 r.id, .int .i64 r.p, .int .i64 r.v, .bool r.n, .int .i64 r.la, .slice la r.l.length lc, .int .i64 r.c, .slice oa r.ok.length oc, .slice ca r.ch.length cc, .slice ta r.te.length tc]) := (show Hid _ from Bx.low XB4.out b6 (by omega))
      have ZB6 : Hid (Bx w6 (b + 1) 28 zR) := (show Hid _ from Bx.low ZB4.out b6 (by omega))
      have B6 : Hid (Below b w w6) := (show Hid _ from B4.out.trans (b6.mono (by omega)))
      clear h6 b6 xv ev hv1 ew H4 XB4 ZB4 B4
      go_upto_region 8 with (go_at_call 114; refine (specTld _ _ (b + 2) gb _ H6.out HAK.out).mono ?_; rintro e w10 ⟨rfl, ux, h10, b10⟩)
      generalize hR : told (askF r (r.v + 1)) = R at h10 HE HK
      have H10 : Hid (RpAt w10 (b + 2) gb ux R) := h10
      have XBA : Hid (Bx w10 b 28 #[.int .i64 r.id, .int .i64 r.p, .int .i64 r.v, .bool r.n, .int .i64 r.la, .slice la r.l.length lc, .int .i64 r.c, .slice oa r.ok.length oc, .slice ca r.ch.length cc, .slice ta r.te.length tc]) := (show Hid _ from Bx.low XB6.out b10 (by omega))
      have ZBA : Hid (Bx w10 (b + 1) 28 zR) := (show Hid _ from Bx.low ZB6.out b10 (by omega))
      have BA : Hid (Below b w w10) := (show Hid _ from B6.out.trans (b10.mono (by omega)))
      clear h10 b10 hR H6 XB6 ZB6 B6
      have HK10 : Hid (∀ x, StS w10 (b + 1) x → RpAt x (b + 2) gb ux R) := (show ∀ _ _, _ from fun x hS => ⟨(hS.ch.block gb H10.out.lt (by have := H10.out.hb; omega)).trans H10.out.c, H10.out.o.off (fun v hv k hk => hS.ch.block k (H10.out.under v hv k hk) (by have := H10.out.o.has.from v hv k hk; omega)), H10.out.apt, H10.out.hb⟩)
      have jS := fun x (hS : StS w10 (b + 1) x) => specSpr R ux x (HK10.out x hS).got ⟨HK.out.v.1, by have := HK.out.v; omega⟩ HK.out.p (by have := logB_sm HK.out.l; omega) (by have := HK.out.ch5; omega)
      unfold rpA at jS
      have HC : Hid (∀ x, StS w10 (b + 1) x → Bx x gb 28 (rpC R ux)) := (show ∀ _ _, _ from fun x hS => (HK10.out x hS).c)
      have S0 : StS w10 (b + 1) w10.drew := ⟨⟨rfl, rfl, rfl, Nat.le_refl _, fun _ _ _ => rfl⟩, zR, ZBA.out, rfl⟩
      have HLT : Hid (b + 1 < w10.heap.size) := (show _ < _ by have := H10.out.lt; have := H10.out.hb; omega)
      obtain ⟨lo, hlo⟩ : ∃ lo, lo = w10.heap.size := ⟨_, rfl⟩
      generalize hA : Act.mk _ _ = A
      obtain ⟨s, hs, s2_, s4_⟩ : ∃ s : Nat → Value, A = frSbe s s ∧ s 2 = .pointer (some ⟨b + 1, 0, none⟩) ∧ s 4 = .pointer (some ⟨gb, 0, none⟩) := by
        refine ⟨fun i => A.tmps.getD i undef, ?_, ?_, ?_⟩ <;> rw [← hA] <;> rfl
      rw [hs]
      clear hs hA
      refine region_heads 4 mixed (by decide) (by kernel_rfl) (by kernel_rfl) (by kernel_rfl) (by kernel_rfl) (frSbe s) dSbe (fun x => StS w10 (b + 1) x) (GSbe R ux gb lo b) (fun i j hi hj h => dSbe_ne hi hj h) ?put s rfl S0 ?step ?done
      case put =>
        intro i o hi ho t v
        rcases (show i = 0 ∨ i = 1 ∨ i = 2 ∨ i = 3 by omega) with rfl | rfl | rfl | rfl
        all_goals
          obtain rfl := Option.some.inj ho
          rfl
      case step =>
        intro i o hi ho t x hS hdep K hK
        rcases (show i = 0 ∨ i = 1 ∨ i = 2 ∨ i = 3 by omega) with rfl | rfl | rfl | rfl
        all_goals obtain rfl := Option.some.inj ho
        · have h2 := hK (.agg (rpC R ux)) x hS (fun j u hj hne h => h) rfl
          refine ldG (by rfl) (.tmp 4) rfl gb (by show (frSbe s t).eval (.tmp 4) = _; unfold frSbe; simp [Act.eval, s4_]) (HC.out x hS) (rpC_size R ux) ?_
          exact h2
        · have h2 := hK (.agg (rpC R ux)) x hS (fun j u hj hne h => h) rfl
          refine ldG (by rfl) (.tmp 4) rfl gb (by show (frSbe s t).eval (.tmp 4) = _; unfold frSbe; simp [Act.eval, s4_]) (HC.out x hS) (rpC_size R ux) ?_
          exact h2
        · have e1 : t 23 = .agg (rpC R ux) := hdep { on := 1, ground := Ground.data } (by simp) rfl
          refine callG1 (by rfl) 112 (.tmp 23) _ rfl (.agg (rpC R ux)) e1 (Go.Proofs.enters_of Tryz.func112 (by kernel_rfl) rfl _) (fun v y => (∃ (C : Nat) (T : List Mx) (p1 : Option Addr) (d1 : Nat), v = .slice p1 T.length d1 ∧ (lo ≤ C ∧ C ≤ y.heap.size ∧ MsOwn y C (.slice p1 T.length d1) T (sprL R))) ∧ Below x.heap.size x y) ((jS x hS).mono ?_) ?_
          · rintro e0 y0 ⟨u0, T0, h0, h1, h2⟩
            obtain ⟨q1, g1, rfl, _⟩ := h1.row.form
            exact ⟨_, h0, ⟨x.heap.size, T0, q1, g1, rfl, by rw [hlo]; exact hS.ch.size, h2.size, h1⟩, h2⟩
          · rintro v y ⟨h0, hb2⟩
            exact hK v y (hS.kept hb2) (fun j u hj hne h => GSbe.keep hb2 j u hj h) h0
        · have e0 : t 22 = .agg (rpC R ux) := hdep { on := 0, ground := Ground.data } (by simp) rfl
          obtain ⟨old, ho1, ho2⟩ := hS.bx
          refine stG (by rfl) (.tmp 2) (.tmp 22) rfl (b + 1) (rpC R ux) (by show (frSbe s t).eval (.tmp 2) = _; unfold frSbe; simp [Act.eval, s2_]) (by show (frSbe s t).eval (.tmp 22) = _; unfold frSbe; simp [Act.eval, e0]) ho1 ho2 (rpC_size R ux) (rpC_one H10.out.got) ?_
          intro W hW hc
          exact hK undef W (hS.put hW (rpC_size R ux) hc) (fun j u hj hne h => GSbe.keepS (by rw [hlo]; exact HLT.out) hc j u hj hne h) ⟨rfl, hW⟩
      case done =>
        intro tt w11 hS hG
        have e0 : tt 22 = .agg (rpC R ux) := hG 0 (by decide)
        obtain ⟨C, TT, p1, d1', e7, k2⟩ : ∃ (C : Nat) (T : List Mx) (p1 : Option Addr) (d1 : Nat), tt 24 = .slice p1 T.length d1 ∧ (lo ≤ C ∧ C ≤ w11.heap.size ∧ MsOwn w11 C (.slice p1 T.length d1) T (sprL R)) := hG 2 (by decide)
        obtain ⟨_, hz12⟩ : tt 100003 = undef ∧ Bx w11 (b + 1) 28 (rpC R ux) := hG 3 (by decide)
        rw [hlo] at k2
        have H11 : Hid (RpAt w11 (b + 2) gb ux R) := (show Hid _ from HK10.out _ hS)
        have HZ : Hid (Bx w11 (b + 1) 28 (rpC R ux)) := hz12
        have BB : Hid (Below b w w11) := (show Hid _ from hS.ch.below BA.out (by have := HLT.out; omega) (fun k hk => by omega))
        have UX : Hid (∀ v ∈ ux.rows, ∀ k, v.ownBlock = some k → k < w10.heap.size) := H10.out.under
        have LT : Hid (gb < w10.heap.size ∧ b + 2 ≤ gb) := (show _ ∧ _ from ⟨H10.out.lt, H10.out.hb⟩)
        have K2 : Hid (w10.heap.size ≤ C ∧ C ≤ w11.heap.size ∧ MsOwn w11 C (.slice p1 TT.length d1') TT (sprL R)) := (show Hid _ from k2)
        clear jS HC hG hS S0 hlo H10 XBA ZBA BA k2 hz12 HK10
        show wpList Tryz.prog _ _ [_] _ w11
        unfold frSbe
        simp only [e0, e7, s2_, s4_]
        clear e0 e7 s2_ s4_
        go_wp2_with fail
        have hlt := LT.out
        have hrl := results_row2 (P := Tryz.prog) (fn := Tryz.f28) (p := 2) (q := 3) (ty := 28) rfl
        refine bodyPost_ret (v := .tuple #[.agg (rpC R ux), .slice p1 TT.length d1']) (hrl _ _ (b + 1) 28 _ (0, 0) _ rfl _ rfl HZ.out Tryz.underlying28 rfl (by rw [Tryz.rszR]; rfl)) rfl ?_
        unfold SusAns
        rw [HS.out, HE.out]
        exact ⟨ux, _, TT, rfl, ⟨H11.out.o.has.low (by have := HB.out; omega), H11.out.apt, ⟨C, fun v hv k hk => Nat.lt_of_lt_of_le (UX.out v hv k hk) K2.out.1, by have := HB.out; have := K2.out.1; omega, K2.out.2.2⟩, by rw [← HB.out]; exact BB.out⟩⟩
end Go.Proofs.YtlngleinegkoeaaGreat.Rl
namespace Go.Proofs.YtlngleinegkoeaaGreat.Rl
open Go.RowKit Go.Sort Go.Shelf Pg
set_option linter.unusedVariables false
set_option linter.unusedSimpArgs false

set_option maxRecDepth 100000 in
set_option maxHeartbeats 16000000 in
theorem implSusM (r : Rp) (u : Rv) (B b : Nat) (w : World) (h : RpAt w B b u r) (hr : RpOk r) :
    Calls Tryz.prog 108 #[.pointer (some ⟨b, 0, none⟩)] w fun e w' => ∃ u' v T, e = .returned v ∧ RpMs (susF r).1 (susF r).2 B b w w' u' v T := by
  have H0 : Hid (RpAt w B b u r) := h
  have HR : Hid (RpOk r) := hr
  have c2 : w.cell? ⟨b, 2, none⟩ = some (.int .i64 r.v) := h.c.cells.2.2.1
  by_cases hv : r.v = 10000
  · have HE : Hid (susF r = (r, [])) := (show _ = _ by unfold susF; exact if_pos hv)
    have hge : (10000 : Int) ≤ r.v := by omega
    clear h hr hv
    go_enter Tryz.func108, Tryz.ntmps108
    go_wp2
    have hba : Below w.heap.size w (w.alloc (.cells #[] 30)) := (Below.refl _ w).alloc (Nat.le_refl _) _
    go_ret
    rw [HE.out]
    exact ⟨u, _, [], rfl, ⟨H0.out.kept hba, ⟨w.heap.size, H0.out.under, H0.out.lt, Nat.le_refl _, MsOwn.born w⟩, hba.mono H0.out.le⟩⟩
  · have hlt : ¬ (10000 : Int) ≤ r.v := by have := hr.v; omega
    have hv1 := hr.v
    have HE : Hid (susF r = (told (askF r (r.v + 1)), sprL (told (askF r (r.v + 1))))) := (show _ = _ by unfold susF; exact if_neg hv)
    have HAK : Hid (RpOk (askF r (r.v + 1))) := (show RpOk _ from (ask_kp hr (by omega) (by omega)).ok)
    have HK : Hid (RpOk (told (askF r (r.v + 1)))) := (show RpOk _ from (told_kp HAK.out).ok)
    have ew : wrap64 (r.v + 1) = r.v + 1 := by unfold wrap64; omega
    clear h hr hv
    go_enter Tryz.func108, Tryz.ntmps108
    go_upto_region 4 with (go_at_call 174; refine (implAsk r u B b (r.v + 1) _ H0.out).mono ?_; rintro e w3 ⟨rfl, u3, h3, b3⟩)
    have H3 : Hid (RpAt w3 B b u3 (askF r (r.v + 1))) := (show Hid _ from h3)
    have B3 : Hid (Below B w w3) := (show Hid _ from b3)
    have Z3 : Hid (w.heap.size ≤ w3.heap.size) := b3.size
    clear h3 b3 c2 hlt hv1 ew H0
    have js := implSet (askF r (r.v + 1)) u3 B b w3 H3.out HAK.out (fun _ _ => implPut0 _ B b _ rfl)
    go_upto_region 5 with (go_at_call 175; refine js.mono ?_; rintro e w4 ⟨rfl, u4, h4, b4⟩)
    generalize hR : told (askF r (r.v + 1)) = R at h4 HE HK
    have H4 : Hid (RpAt w4 B b u4 R) := (show Hid _ from h4)
    have B4 : Hid (Below B w w4) := (show Hid _ from B3.out.trans b4)
    have Z4 : Hid (w.heap.size ≤ w4.heap.size) := (show _ ≤ _ from Nat.le_trans Z3.out b4.size)
    clear h4 b4 hR H3 B3 Z3 js
    have jp := implSpr R u4 b w4 H4.out.c ⟨HK.out.v.1, by have := HK.out.v; omega⟩ HK.out.p H4.out.got.l H4.out.got.ch (by have := (logB_sm HK.out.l).1; omega) (by have := HK.out.ch5; omega) (fun y hy => by have := (logB_sm HK.out.l).2 y hy; omega)
    go_wp2_with fail
    refine jp.mono ?_
    rintro e w5 ⟨v, T, rfl, h5, b5⟩
    have H5 : Hid (RpAt w5 B b u4 R) := (show Hid _ from H4.out.kept b5)
    have B5 : Hid (Below B w w5) := (show Hid _ from B4.out.trans (b5.mono H4.out.le))
    have M5 : Hid (MsOwn w5 w4.heap.size v T (sprL R)) := (show Hid _ from h5)
    have hret : v = v := rfl
    obtain ⟨va, vc, rfl, _⟩ := h5.row.form
    clear h5 b5 jp
    go_wp2
    go_ret
    rw [HE.out]
    exact ⟨u4, _, T, rfl, ⟨H5.out, ⟨w4.heap.size, H4.out.under, H4.out.lt, Z4.out, M5.out⟩, B5.out⟩⟩
set_option maxRecDepth 100000 in
set_option maxHeartbeats 16000000 in
theorem implSusR (r : Rp) (u : Rv) (w : World) (h : RpGot w u r) (hf : Fit r) : Calls Tryz.prog 25 #[rpA r u] w fun e w' => SusAns r w e w' := by
  obtain ⟨la, lc, oa, oc, ca, cc, ta, tc, T, rfl⟩ := h.form
  obtain ⟨b, hb⟩ : ∃ b, b = w.heap.size := ⟨_, rfl⟩
  obtain ⟨w1, hw1⟩ : ∃ w1, w1 = (w.alloc (.cells #[.int .i64 r.id, .int .i64 r.p, .int .i64 r.v, .bool r.n, .int .i64 r.la, .slice la r.l.length lc, .int .i64 r.c, .slice oa r.ok.length oc, .slice ca r.ch.length cc, .slice ta r.te.length tc] 28)).alloc (.cells #[.int .i64 0, .int .i64 0, .int .i64 0, .bool false, .int .i64 0, .slice none 0 0, .int .i64 0, .slice none 0 0, .slice none 0 0, .slice none 0 0] 28) := ⟨_, rfl⟩
  have XB1 : Hid (Bx w1 b 28 #[.int .i64 r.id, .int .i64 r.p, .int .i64 r.v, .bool r.n, .int .i64 r.la, .slice la r.l.length lc, .int .i64 r.c, .slice oa r.ok.length oc, .slice ca r.ch.length cc, .slice ta r.te.length tc]) := (show Hid _ from by rw [hw1, hb]; exact (Bx.new _ _ _).alloc _)
  have ZB1 : Hid (Bx w1 (b + 1) 28 zR) := (show Hid _ from by rw [hw1, hb]; exact Bx.at _ _ (by simp))
  have B1 : Hid (Below b w w1) := (show Hid _ from by rw [hw1, hb]; exact ((Below.refl _ w).alloc (Nat.le_refl _) _).alloc (by simp) _)
  have S1 : Hid (w1.heap.size = b + 2) := (show _ = _ by rw [hw1, hb]; simp)
  have HB : Hid (b = w.heap.size) := hb
  have HG : Hid (RpGot w ⟨.slice la r.l.length lc, .slice oa r.ok.length oc, .slice ca r.ch.length cc, .slice ta r.te.length tc, T⟩ r) := h
  have jo := fun W hW => implRok r _ W (HG.out.kept hW) hf
  have jn := fun W hW (hr : RpOk r) => implNewRp r _ W (HG.out.kept hW) hf hr.few
  unfold rpA at *
  simp only at jo jn ⊢
  clear h hf
  go_enter Tryz.func25, Tryz.ntmps25
  go_upto_region 1 with fail
  rw [← hb, ← hw1]
  clear hw1 hb
  go_wp2_with (refine wpList_ldR rfl (.tmp 1) rfl b rfl XB1.out rfl ?_)
  refine (jo _ (by rw [← HB.out]; exact B1.out)).mono ?_
  rintro e w2 ⟨rfl, hb2⟩
  have hz2 : b + 2 ≤ w2.heap.size := by have := hb2.size; have := S1.out; omega
  replace hb2 : Below (b + 2) w1 w2 := hb2.mono (by have := S1.out; omega)
  have XB2 : Hid (Bx w2 b 28 #[.int .i64 r.id, .int .i64 r.p, .int .i64 r.v, .bool r.n, .int .i64 r.la, .slice la r.l.length lc, .int .i64 r.c, .slice oa r.ok.length oc, .slice ca r.ch.length cc, .slice ta r.te.length tc]) := (show Hid _ from Bx.low XB1.out hb2 (by omega))
  have ZB2 : Hid (Bx w2 (b + 1) 28 zR) := (show Hid _ from Bx.low ZB1.out hb2 (by omega))
  have B2 : Hid (Below b w w2) := (show Hid _ from B1.out.trans (hb2.mono (by omega)))
  have S2 : Hid (b + 2 ≤ w2.heap.size) := hz2
  clear hb2 hz2 jo XB1 ZB1 B1 S1
  cases hr : dB (RpOk r) with
  | false =>
    have HS : Hid (susA r = (noRp, [])) := (show _ = _ by unfold susA; exact if_neg (dB_not hr))
    have hba : Hid (Below w2.heap.size w2 (w2.alloc (.cells #[] 30))) := (show Hid _ from (Below.refl _ w2).alloc (Nat.le_refl _) _)
    go_wp2_with (refine wpList_stR rfl rfl (.tmp 2) (.tmp 9) rfl (b + 1) zR rfl rfl (ZB2.out.alloc _) rfl rfl zR_one ?_; intro w9 hz9 hc9)
    have OM : MsOwn w9 w2.heap.size (.slice (some ⟨w2.heap.size, 0, none⟩) 0 0) [] [] := (MsOwn.born w2).off (fun k h1 h2 => hc9.block k h2 (by have := S2.out; omega))
    have B9 : Below b w w9 := hc9.below (B2.out.trans (hba.out.mono (by have := S2.out; omega))) (by have := S2.out; have := hba.out.size; omega) (fun k hk => by omega)
    have hrl := results_row2 (P := Tryz.prog) (fn := Tryz.f25) (p := 2) (q := 3) (ty := 28) rfl
    refine bodyPost_ret (v := .tuple #[.agg zR, .slice (some ⟨w2.heap.size, 0, none⟩) 0 0]) (hrl _ _ (b + 1) 28 zR (0, 0) _ rfl _ rfl hz9 Tryz.underlying28 rfl (by rw [Tryz.rszR]; rfl)) rfl ?_
    unfold SusAns
    rw [HS.out]
    exact ⟨rv0, _, [], rfl, RmAns.no (OM.low (by have := S2.out; have := HB.out; omega)) (by rw [← HB.out]; exact B9)⟩
  | true =>
    have HS : Hid (susA r = susF r) := (show _ = _ by unfold susA; exact if_pos (dB_is hr))
    have HR : Hid (RpOk r) := dB_is hr
    have jn2 := jn w2 (by rw [← HB.out]; exact B2.out) HR.out
    clear jn hr
    go_upto_region 4 with (first | (refine wpList_ldR rfl (.tmp 1) rfl b rfl XB2.out rfl ?_) | (go_at_call 87; refine jn2.mono ?_; rintro e w3 ⟨rfl, u3, h3, hl3, b3⟩))
    obtain ⟨gb, hgb⟩ : ∃ gb, gb = w2.heap.size := ⟨_, rfl⟩
    have H3 : Hid (RpAt w3 (b + 2) gb u3 r) := (show Hid _ from by rw [hgb]; exact h3.low S2.out)
    have ZB3 : Hid (Bx w3 (b + 1) 28 zR) := (show Hid _ from Bx.low ZB2.out b3 (by have := S2.out; omega))
    have B3 : Hid (Below b w w3) := (show Hid _ from B2.out.trans (b3.mono (by have := S2.out; omega)))
    have S3 : Hid (b + 2 ≤ w3.heap.size) := (show _ ≤ _ by have := S2.out; have := b3.size; omega)
    rw [← hgb]
    clear h3 hl3 b3 jn2 hgb XB2 ZB2 B2
    have js := implSusM r u3 (b + 2) gb w3 H3.out HR.out
    go_upto_region 5 with (first | (go_at_call 108; refine js.mono ?_; rintro e w4 ⟨u4, v4, T4, rfl, h4⟩))
    obtain ⟨h4, ⟨C, c1, c2, c3, c4⟩, b4⟩ := h4
    have H4 : Hid (RpAt w4 (b + 2) gb u4 (susF r).1) := h4
    have M4 : Hid (MsOwn w4 C v4 T4 (susF r).2) := c4
    have C4 : Hid (∀ x ∈ u4.rows, ∀ k, x.ownBlock = some k → k < C) := c1
    have D4 : Hid (w3.heap.size ≤ C) := c3
    have ZB4 : Hid (Bx w4 (b + 1) 28 zR) := (show Hid _ from Bx.low ZB3.out b4 (by omega))
    have B4 : Hid (Below b w w4) := (show Hid _ from B3.out.trans (b4.mono (by omega)))
    clear h4 b4 c1 c2 c3 c4 js H3 ZB3 B3
    generalize susF r = P at HS H4 M4 ⊢
    obtain ⟨R, L⟩ := P
    simp only at H4 M4 ⊢
    obtain ⟨va, vn, vc, rfl⟩ : ∃ va vn vc, v4 = .slice va vn vc := by obtain ⟨x, y, e, _⟩ := M4.out.row.form; exact ⟨x, _, y, e⟩
    go_wp2_with (first | (refine wpList_ldR rfl (.tmp 16) rfl gb rfl H4.out.c rfl ?_) | (refine wpList_stR rfl rfl (.tmp 2) (.tmp 17) rfl (b + 1) (rpC R u4) rfl rfl ZB4.out rfl rfl (rpC_one H4.out.got) ?_; intro w9 hz9 hc9))
    have hlt4 := H4.out.lt
    have hhb4 := H4.out.hb
    have hd4 := D4.out
    have hs3 := S3.out
    have OM : MsOwn w9 C (.slice va vn vc) T4 L := M4.out.off (fun k h1 h2 => hc9.block k h2 (by omega))
    have B9 : Below b w w9 := hc9.below B4.out (by omega) (fun k hk => by omega)
    have HH : RpHas w9 (b + 2) u4 R := H4.out.o.has.off (fun v hv k hk => hc9.block k (H4.out.under v hv k hk) (by have := H4.out.o.has.from v hv k hk; omega))
    have hrl := results_row2 (P := Tryz.prog) (fn := Tryz.f25) (p := 2) (q := 3) (ty := 28) rfl
    refine bodyPost_ret (v := .tuple #[.agg (rpC R u4), .slice va vn vc]) (hrl _ _ (b + 1) 28 _ (0, 0) _ rfl _ rfl hz9 Tryz.underlying28 rfl (by rw [Tryz.rszR]; rfl)) rfl ?_
    unfold SusAns
    rw [HS.out]
    exact ⟨u4, _, T4, rfl, ⟨HH.low (by have := HB.out; omega), H4.out.apt, ⟨C, C4.out, by have := HB.out; omega, OM⟩, by rw [← HB.out]; exact B9⟩⟩
end Go.Proofs.YtlngleinegkoeaaGreat.Rl
