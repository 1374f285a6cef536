/-
  The specification's Submit.
  A region that draws its order, as in RgH; what holds all along may speak of which operations are done and of what they have left.
  A region that draws its order, one of whose operations is an append to a row of the call's own.
-/
import Derived.Test.YtdahfhkeeemdiaaGreatT37
import Derived.Test.YtdahfhkeeemdiaaGreatT38
import Derived.Test.YtdahfhkeeemdiaaGreatT39
import Derived.Test.YtdahfhkeeemdiaaGreatT31
import Derived.Test.YtdahfhkeeemdiaaGreatT28
import Derived.Test.YtdahfhkeeemdiaaGreatT17
namespace Go.Proofs.YtdahfhkeeemdiaaGreat.Rl
open Go.RowKit Go.Sort Go.Shelf Pg
set_option linter.unusedVariables false
set_option linter.unusedSimpArgs false

/-- What both sides' Submit answers. -/
noncomputable def subA (r : Rp) (t : ByteArray) : Rp × List Ms × Int := @ite _ (RpOk r) (Classical.propDecidable _) (subF r t) (noRp, [], -1)
def SubAns (r : Rp) (t : ByteArray) (w : World) (e : Ending) (w' : World) : Prop := ∃ u' v T, e = .returned (.tuple #[rpA (subA r t).1 u', v, .int .i64 (subA r t).2.2]) ∧ RmAns (subA r t).1 (subA r t).2.1 w w' u' v T
def frSbs (s t : Nat → Value) : Act := { tmps := #[s 0, s 1, s 2, s 3, s 4, t 5, s 6, s 7, s 8, s 9, s 10, s 11, s 12, s 13, s 14, s 15, s 16, s 17, s 18, s 19, s 20, s 21, s 22, s 23, s 24, s 25, s 26, s 27, s 28, s 29, s 30, s 31, s 32, s 33, s 34, s 35, s 36, s 37, s 38, s 39, s 40, s 41, s 42, s 43, t 44, t 45, t 46, t 47, t 48, t 49], defers := [] }
def LSbs : List Nat := [44, 45, 46, 47, 48, 49, 100006, 5]
def dSbs (i : Nat) : Nat := LSbs.getD i (i + 5000)
theorem dSbs_ne {i j : Nat} (hi : i < 8) (hj : j < 8) (h : j ≠ i) : dSbs j ≠ dSbs i := slotsNe (L := LSbs) (by decide) rfl hi hj h
def GSbs (R : Rp) (ux : Rv) (gb lo : Nat) (la : Option Addr) (lc : Nat) (b : Nat) (i : Nat) (x : World) (v : Value) : Prop := match i with
  | 0 => v = .agg (rpC R ux)
  | 1 => v = .agg (rpC R ux)
  | 2 => ∃ (C : Nat) (T : List Mx) (p1 : Option Addr) (d1 : Nat), v = .slice p1 T.length d1 ∧ (lo ≤ C ∧ C ≤ x.heap.size ∧ MsOwn x C (.slice p1 T.length d1) T (sprL R))
  | 3 => v = .pointer (some ⟨gb, 5, none⟩)
  | 4 => v = .slice la R.l.length lc
  | 5 => v = .int .i64 (R.l.length : Int)
  | 6 => (v = undef ∧ Bx x (b + 1) 28 (rpC R ux))
  | 7 => ∃ (C : Nat) (T : List Mx) (p1 : Option Addr) (d1 : Nat), v = .slice p1 T.length d1 ∧ (lo ≤ C ∧ C ≤ x.heap.size ∧ MsOwn x C (.slice p1 T.length d1) T (sprL R))
  | _ => True
theorem GSbs.keep {R : Rp} {ux : Rv} {gb lo : Nat} {la : Option Addr} {lc : Nat} {b : Nat} {x y : World} (hb : Below x.heap.size x y) (j : Nat) (v : Value) (hj : j < 8) (h : GSbs R ux gb lo la lc b j x v) : GSbs R ux gb lo la lc b j y v := by
  rcases (show j = 0 ∨ j = 1 ∨ j = 2 ∨ j = 3 ∨ j = 4 ∨ j = 5 ∨ j = 6 ∨ j = 7 by omega) with rfl | rfl | rfl | rfl | rfl | rfl | rfl | rfl
  · exact h
  · exact h
  · obtain ⟨C, T, p1, d1, h1, h2⟩ := h; exact ⟨C, T, p1, d1, h1, h2.1, Nat.le_trans h2.2.1 hb.size, h2.2.2.kept hb⟩
  · exact h
  · exact h
  · exact h
  · exact ⟨h.1, h.2.kept hb⟩
  · obtain ⟨C, T, p1, d1, h1, h2⟩ := h; exact ⟨C, T, p1, d1, h1, h2.1, Nat.le_trans h2.2.1 hb.size, h2.2.2.kept hb⟩
theorem GSbs.keepS {R : Rp} {ux : Rv} {gb lo : Nat} {la : Option Addr} {lc : Nat} {b : Nat} {x y : World} (hlc : b + 1 < lo) (hc : ChS (fun k => k = b + 1) x y) (j : Nat) (v : Value) (hj : j < 8) (hne : j ≠ 6) (h : GSbs R ux gb lo la lc b j x v) : GSbs R ux gb lo la lc b j y v := by
  rcases (show j = 0 ∨ j = 1 ∨ j = 2 ∨ j = 3 ∨ j = 4 ∨ j = 5 ∨ j = 6 ∨ j = 7 by omega) with rfl | rfl | rfl | rfl | rfl | rfl | rfl | rfl
  · exact h
  · exact h
  · obtain ⟨C, T, p1, d1, h1, h2⟩ := h; exact ⟨C, T, p1, d1, h1, h2.1, Nat.le_trans h2.2.1 hc.size, h2.2.2.off (fun k k1 k2 => hc.block k k2 (by have := h2.1; omega))⟩
  · exact h
  · exact h
  · exact h
  · exact absurd rfl hne
  · obtain ⟨C, T, p1, d1, h1, h2⟩ := h; exact ⟨C, T, p1, d1, h1, h2.1, Nat.le_trans h2.2.1 hc.size, h2.2.2.off (fun k k1 k2 => hc.block k k2 (by have := h2.1; omega))⟩
set_option maxRecDepth 100000 in
set_option maxHeartbeats 16000000 in
theorem specSubR (r : Rp) (u : Rv) (t : ByteArray) (w : World) (h : RpGot w u r) (hf : Fit r) (ht : t.size ≤ 1048576) : Calls Tryz.prog 23 #[rpA r u, .string t] w fun e w' => SubAns r t w e w' := by
  obtain ⟨la, lc, oa, oc, ca, cc, ta, tc, T, rfl⟩ := h.form
  obtain ⟨b, hb⟩ : ∃ b, b = w.heap.size := ⟨_, rfl⟩
  obtain ⟨w1, hw1⟩ : ∃ w1, w1 = (w.alloc (.cells #[.int .i64 r.id, .int .i64 r.p, .int .i64 r.v, .bool r.n, .int .i64 r.la, .slice la r.l.length lc, .int .i64 r.c, .slice oa r.ok.length oc, .slice ca r.ch.length cc, .slice ta r.te.length tc] 28)).alloc (.cells #[.int .i64 0, .int .i64 0, .int .i64 0, .bool false, .int .i64 0, .slice none 0 0, .int .i64 0, .slice none 0 0, .slice none 0 0, .slice none 0 0] 28) := ⟨_, rfl⟩
  have XB1 : Hid (Bx w1 b 28 #[.int .i64 r.id, .int .i64 r.p, .int .i64 r.v, .bool r.n, .int .i64 r.la, .slice la r.l.length lc, .int .i64 r.c, .slice oa r.ok.length oc, .slice ca r.ch.length cc, .slice ta r.te.length tc]) := (show Hid _ from by rw [hw1, hb]; exact (Bx.new _ _ _).alloc _)
  have ZB1 : Hid (Bx w1 (b + 1) 28 zR) := (show Hid _ from by rw [hw1, hb]; exact Bx.at _ _ (by simp))
  have B1 : Hid (Below b w w1) := (show Hid _ from by rw [hw1, hb]; exact ((Below.refl _ w).alloc (Nat.le_refl _) _).alloc (by simp) _)
  have S1 : Hid (w1.heap.size = b + 2) := (show _ = _ by rw [hw1, hb]; simp)
  have HB : Hid (b = w.heap.size) := hb
  have HG : Hid (RpGot w ⟨.slice la r.l.length lc, .slice oa r.ok.length oc, .slice ca r.ch.length cc, .slice ta r.te.length tc, T⟩ r) := h
  have HF : Hid (Fit r) := hf
  have jo := fun W hW => specRok r _ W (HG.out.kept hW) hf
  have jn := fun W hW => specCpR r _ W (HG.out.kept hW) hf
  have jp := fun W => specRdp t W ht
  unfold rpA at *
  simp only at jo jn ⊢
  clear h hf ht
  go_enter Tryz.func23, Tryz.ntmps23
  go_upto_region 1 with fail
  rw [← hb, ← hw1]
  clear hw1 hb
  go_wp2_with (refine wpList_ldR rfl (.tmp 2) rfl b rfl XB1.out rfl ?_)
  refine (jo _ (by rw [← HB.out]; exact B1.out)).mono ?_
  rintro e w2 ⟨rfl, hb2⟩
  have hz2 : b + 2 ≤ w2.heap.size := by have := hb2.size; have := S1.out; omega
  replace hb2 : Below (b + 2) w1 w2 := hb2.mono (by have := S1.out; omega)
  have XB2 : Hid (Bx w2 b 28 #[.int .i64 r.id, .int .i64 r.p, .int .i64 r.v, .bool r.n, .int .i64 r.la, .slice la r.l.length lc, .int .i64 r.c, .slice oa r.ok.length oc, .slice ca r.ch.length cc, .slice ta r.te.length tc]) := (show Hid _ from Bx.low XB1.out hb2 (by omega))
  have ZB2 : Hid (Bx w2 (b + 1) 28 zR) := (show Hid _ from Bx.low ZB1.out hb2 (by omega))
  have B2 : Hid (Below b w w2) := (show Hid _ from B1.out.trans (hb2.mono (by omega)))
  have S2 : Hid (b + 2 ≤ w2.heap.size) := hz2
  clear hb2 hz2 jo XB1 ZB1 B1 S1
  cases hr : dB (RpOk r) with
  | false =>
    have HS : Hid (subA r t = (noRp, [], -1)) := (show _ = _ by unfold subA; exact if_neg (dB_not hr))
    have hba : Hid (Below w2.heap.size w2 (w2.alloc (.cells #[] 30))) := (show Hid _ from (Below.refl _ w2).alloc (Nat.le_refl _) _)
    go_wp2_with (refine wpList_stR rfl rfl (.tmp 4) (.tmp 13) rfl (b + 1) zR rfl rfl (ZB2.out.alloc _) rfl rfl zR_one ?_; intro w9 hz9 hc9)
    have OM : MsOwn w9 w2.heap.size (.slice (some ⟨w2.heap.size, 0, none⟩) 0 0) [] [] := (MsOwn.born w2).off (fun k h1 h2 => hc9.block k h2 (by have := S2.out; omega))
    have B9 : Below b w w9 := hc9.below (B2.out.trans (hba.out.mono (by have := S2.out; omega))) (by have := S2.out; have := hba.out.size; omega) (fun k hk => by omega)
    have hrl := results_row3 (P := Tryz.prog) (fn := Tryz.f23) (p := 4) (q := 5) (q2 := 6) (ty := 28) rfl
    refine bodyPost_ret (v := .tuple #[.agg zR, .slice (some ⟨w2.heap.size, 0, none⟩) 0 0, .int .i64 (-1)]) (hrl _ _ (b + 1) 28 zR (0, 0) _ rfl _ _ rfl rfl hz9 Tryz.underlying28 rfl (by rw [Tryz.rszR]; rfl)) rfl ?_
    unfold SubAns
    rw [HS.out]
    exact ⟨rv0, _, [], rfl, RmAns.no (OM.low (by have := S2.out; have := HB.out; omega)) (by rw [← HB.out]; exact B9)⟩
  | true =>
    have HS : Hid (subA r t = subF r t) := (show _ = _ by unfold subA; exact if_pos (dB_is hr))
    have HR : Hid (RpOk r) := dB_is hr
    have jn2 := jn w2 (by rw [← HB.out]; exact B2.out)
    have jL := fun W => specLds r ⟨.slice la r.l.length lc, .slice oa r.ok.length oc, .slice ca r.ch.length cc, .slice ta r.te.length tc, T⟩ W ⟨HR.out.v.1, by have := HR.out.v; omega⟩ HR.out.p
    unfold rpA at jL
    clear jn hr
    go_upto_region 4 with (first
      | (refine wpList_ldR rfl (.tmp 2) rfl b rfl XB2.out rfl ?_)
      | (go_at_call 53
         refine jn2.mono ?_
         rintro e w3 ⟨u3, rfl, h3, hl3, ha3, b3⟩
         have Z3 : Hid (Bx (w3.alloc (.cells zR 28)) w3.heap.size 28 zR) := (show Hid _ from Bx.new _ _ _)
         unfold zR at Z3
         unfold rpA)
      | (refine wpList_stR rfl rfl (.tmp 7) (.tmp 16) rfl w3.heap.size (rpC r u3) rfl rfl Z3.out rfl rfl (rpC_one h3.got) ?_; intro w4 hz4 hc4))
    obtain ⟨a1, d1, a2, d2, a3, d3, a4, d4, M, rfl⟩ := h3.got.form
    obtain ⟨gb, hgb⟩ : ∃ gb, gb = w3.heap.size := ⟨_, rfl⟩
    have hba : Below w3.heap.size w3 (w3.alloc (.cells zR 28)) := (Below.refl _ w3).alloc (Nat.le_refl _) _
    unfold zR at hba
    have H4 : Hid (RpAt w4 (b + 2) gb ⟨.slice a1 r.l.length d1, .slice a2 r.ok.length d2, .slice a3 r.ch.length d3, .slice a4 r.te.length d4, M⟩ r) := (show RpAt _ _ _ _ _ from by
      have hs2 := S2.out
      have hs3 := b3.size
      rw [hgb]
      exact ⟨hz4, ((h3.kept hba).off (fun v hv k hk => hc4.block k ((h3.kept hba).has.under v hv k hk) (by have := h3.has.under v hv k hk; omega))).low hs2, ha3, by omega⟩)
    have HL4 : Hid (OwnsX w4 (b + 2) (.slice a1 r.l.length d1) r.l) := (show Hid _ from (OwnsE.off (hl3.kept hba) (fun k hk => hc4.block k ((hl3.kept hba).under k hk) (by have := hl3.under k hk; omega))).low S2.out)
    have hb4 : Below (b + 2) w2 w4 := (hc4.below (b3.trans (hba.mono b3.size)) (by have := hba.size; have := b3.size; omega) (fun k hk => by have := b3.size; omega)).mono S2.out
    have XB4 : Hid (Bx w4 b 28 #[.int .i64 r.id, .int .i64 r.p, .int .i64 r.v, .bool r.n, .int .i64 r.la, .slice la r.l.length lc, .int .i64 r.c, .slice oa r.ok.length oc, .slice ca r.ch.length cc, .slice ta r.te.length tc]) := (show Hid _ from Bx.low XB2.out hb4 (by omega))
    have ZB4 : Hid (Bx w4 (b + 1) 28 zR) := (show Hid _ from Bx.low ZB2.out hb4 (by omega))
    have B4 : Hid (Below b w w4) := (show Hid _ from B2.out.trans (hb4.mono (by omega)))
    rw [← hgb]
    clear hz4 hc4 h3 hl3 ha3 b3 hba hb4 hgb jn2 XB2 ZB2 B2
    go_wp2_with fail
    refine (jp _).mono ?_
    rintro e w5 ⟨rfl, hb5⟩
    have hb6 : Below w4.heap.size w4 (w5.alloc (.cells #[.int .i64 (rdV t).1, .string (rdV t).2] 89)) := hb5.trans ((Below.refl _ w5).alloc hb5.size _)
    unfold pgV
    go_upto_region 5 with fail
    generalize hw6 : w5.alloc (.cells #[.int .i64 (rdV t).1, .string (rdV t).2] 89) = w6 at hb6 ⊢
    have H6 : Hid (RpAt w6 (b + 2) gb ⟨.slice a1 r.l.length d1, .slice a2 r.ok.length d2, .slice a3 r.ch.length d3, .slice a4 r.te.length d4, M⟩ r) := (show Hid _ from H4.out.kept hb6)
    have HL6 : Hid (OwnsX w6 (b + 2) (.slice a1 r.l.length d1) r.l) := (show Hid _ from HL4.out.kept hb6)
    replace hb6 : Below (b + 2) w4 w6 := hb6.mono H4.out.le
    have XB6 : Hid (Bx w6 b 28 #[.int .i64 r.id, .int .i64 r.p, .int .i64 r.v, .bool r.n, .int .i64 r.la, .slice la r.l.length lc, .int .i64 r.c, .slice oa r.ok.length oc, .slice ca r.ch.length cc, .slice ta r.te.length tc]) := (show Hid _ from Bx.low XB4.out hb6 (by omega))
    have ZB6 : Hid (Bx w6 (b + 1) 28 zR) := (show Hid _ from Bx.low ZB4.out hb6 (by omega))
    have B6 : Hid (Below b w w6) := (show Hid _ from B4.out.trans (hb6.mono (by omega)))
    clear hw6 hb5 hb6 H4 HL4 XB4 ZB4 B4 jp
    go_wp2_with (refine wpList_ldR rfl (.tmp 2) rfl b rfl XB6.out rfl ?_)
    refine (jL _).mono ?_
    rintro e w7 ⟨rfl, hb7⟩
    have H7 : Hid (RpAt w7 (b + 2) gb ⟨.slice a1 r.l.length d1, .slice a2 r.ok.length d2, .slice a3 r.ch.length d3, .slice a4 r.te.length d4, M⟩ r) := (show Hid _ from H6.out.kept hb7)
    have HL7 : Hid (OwnsX w7 (b + 2) (.slice a1 r.l.length d1) r.l) := (show Hid _ from HL6.out.kept hb7)
    replace hb7 : Below (b + 2) w6 w7 := hb7.mono H6.out.le
    have XB7 : Hid (Bx w7 b 28 #[.int .i64 r.id, .int .i64 r.p, .int .i64 r.v, .bool r.n, .int .i64 r.la, .slice la r.l.length lc, .int .i64 r.c, .slice oa r.ok.length oc, .slice ca r.ch.length cc, .slice ta r.te.length tc]) := (show Hid _ from Bx.low XB6.out hb7 (by omega))
    have ZB7 : Hid (Bx w7 (b + 1) 28 zR) := (show Hid _ from Bx.low ZB6.out hb7 (by omega))
    have B7 : Hid (Below b w w7) := (show Hid _ from B6.out.trans (hb7.mono (by omega)))
    clear hb7 H6 HL6 XB6 ZB6 B6 jL
    have xl := XB7.out.cell 5
    cases hld : dB (leads r) with
    | false =>
      have HREF : Hid (¬ leads r ∨ ¬ rdB t = true ∨ r.l.length = 60) := (show _ ∨ _ from .inl (dB_not hld))
      have HE : Hid (subF r t = (r, [], -1)) := (show _ = _ by unfold subF; exact if_pos HREF.out)
      go_wp2_with (first | (refine wpList_ldR rfl (.tmp 7) rfl gb rfl H7.out.c rfl ?_) | (refine wpList_stR rfl rfl (.tmp 4) (.tmp 35) rfl (b + 1) (rpC r ⟨.slice a1 r.l.length d1, .slice a2 r.ok.length d2, .slice a3 r.ch.length d3, .slice a4 r.te.length d4, M⟩) rfl rfl (ZB7.out.alloc _) rfl rfl (rpC_one H7.out.got) ?_; intro w9 hz9 hc9))
      have hba : Below w7.heap.size w7 (w7.alloc (.cells #[] 30)) := (Below.refl _ w7).alloc (Nat.le_refl _) _
      have hlt7 := H7.out.lt
      have hhb7 := H7.out.hb
      have OM : MsOwn w9 w7.heap.size (.slice (some ⟨w7.heap.size, 0, none⟩) 0 0) [] [] := (MsOwn.born w7).off (fun k h1 h2 => hc9.block k h2 (by omega))
      have B9 : Below b w w9 := hc9.below (B7.out.trans (hba.mono (by omega))) (by have := hba.size; omega) (fun k hk => by omega)
      have HH : RpHas w9 (b + 2) ⟨.slice a1 r.l.length d1, .slice a2 r.ok.length d2, .slice a3 r.ch.length d3, .slice a4 r.te.length d4, M⟩ r := (H7.out.kept hba).o.has.off (fun v hv k hk => hc9.block k ((H7.out.kept hba).under v hv k hk) (by have := H7.out.o.has.from v hv k hk; omega))
      have hrl := results_row3 (P := Tryz.prog) (fn := Tryz.f23) (p := 4) (q := 5) (q2 := 6) (ty := 28) rfl
      refine bodyPost_ret (v := .tuple #[.agg (rpC r ⟨.slice a1 r.l.length d1, .slice a2 r.ok.length d2, .slice a3 r.ch.length d3, .slice a4 r.te.length d4, M⟩), .slice (some ⟨w7.heap.size, 0, none⟩) 0 0, .int .i64 (-1)]) (hrl _ _ (b + 1) 28 _ (0, 0) _ rfl _ _ rfl rfl hz9 Tryz.underlying28 rfl (by rw [Tryz.rszR]; rfl)) rfl ?_
      unfold SubAns
      rw [HS.out, HE.out]
      exact ⟨⟨.slice a1 r.l.length d1, .slice a2 r.ok.length d2, .slice a3 r.ch.length d3, .slice a4 r.te.length d4, M⟩, _, [], rfl, ⟨HH.low (by have := HB.out; omega), H7.out.apt, ⟨w7.heap.size, H7.out.under, by have := HB.out; omega, OM⟩, by rw [← HB.out]; exact B9⟩⟩
    | true =>
      cases hrd : rdB t with
      | false =>
        have HREF : Hid (¬ leads r ∨ ¬ rdB t = true ∨ r.l.length = 60) := (show _ ∨ _ from .inr (.inl (by rw [hrd]; decide)))
        have HE : Hid (subF r t = (r, [], -1)) := (show _ = _ by unfold subF; exact if_pos HREF.out)
        go_wp2_with (first | (refine wpList_ldR rfl (.tmp 7) rfl gb rfl H7.out.c rfl ?_) | (refine wpList_stR rfl rfl (.tmp 4) (.tmp 35) rfl (b + 1) (rpC r ⟨.slice a1 r.l.length d1, .slice a2 r.ok.length d2, .slice a3 r.ch.length d3, .slice a4 r.te.length d4, M⟩) rfl rfl (ZB7.out.alloc _) rfl rfl (rpC_one H7.out.got) ?_; intro w9 hz9 hc9))
        have hba : Below w7.heap.size w7 (w7.alloc (.cells #[] 30)) := (Below.refl _ w7).alloc (Nat.le_refl _) _
        have hlt7 := H7.out.lt
        have hhb7 := H7.out.hb
        have OM : MsOwn w9 w7.heap.size (.slice (some ⟨w7.heap.size, 0, none⟩) 0 0) [] [] := (MsOwn.born w7).off (fun k h1 h2 => hc9.block k h2 (by omega))
        have B9 : Below b w w9 := hc9.below (B7.out.trans (hba.mono (by omega))) (by have := hba.size; omega) (fun k hk => by omega)
        have HH : RpHas w9 (b + 2) ⟨.slice a1 r.l.length d1, .slice a2 r.ok.length d2, .slice a3 r.ch.length d3, .slice a4 r.te.length d4, M⟩ r := (H7.out.kept hba).o.has.off (fun v hv k hk => hc9.block k ((H7.out.kept hba).under v hv k hk) (by have := H7.out.o.has.from v hv k hk; omega))
        have hrl := results_row3 (P := Tryz.prog) (fn := Tryz.f23) (p := 4) (q := 5) (q2 := 6) (ty := 28) rfl
        refine bodyPost_ret (v := .tuple #[.agg (rpC r ⟨.slice a1 r.l.length d1, .slice a2 r.ok.length d2, .slice a3 r.ch.length d3, .slice a4 r.te.length d4, M⟩), .slice (some ⟨w7.heap.size, 0, none⟩) 0 0, .int .i64 (-1)]) (hrl _ _ (b + 1) 28 _ (0, 0) _ rfl _ _ rfl rfl hz9 Tryz.underlying28 rfl (by rw [Tryz.rszR]; rfl)) rfl ?_
        unfold SubAns
        rw [HS.out, HE.out]
        exact ⟨⟨.slice a1 r.l.length d1, .slice a2 r.ok.length d2, .slice a3 r.ch.length d3, .slice a4 r.te.length d4, M⟩, _, [], rfl, ⟨HH.low (by have := HB.out; omega), H7.out.apt, ⟨w7.heap.size, H7.out.under, by have := HB.out; omega, OM⟩, by rw [← HB.out]; exact B9⟩⟩
      | true =>
        by_cases h60 : r.l.length = 60
        · have HREF : Hid (¬ leads r ∨ ¬ rdB t = true ∨ r.l.length = 60) := (show _ ∨ _ from .inr (.inr h60))
          have e60 : ((r.l.length : Int) == 60) = true := by simp [h60]
          clear h60
          have HE : Hid (subF r t = (r, [], -1)) := (show _ = _ by unfold subF; exact if_pos HREF.out)
          go_wp2_with (first | (refine wpList_ldR rfl (.tmp 7) rfl gb rfl H7.out.c rfl ?_) | (refine wpList_stR rfl rfl (.tmp 4) (.tmp 35) rfl (b + 1) (rpC r ⟨.slice a1 r.l.length d1, .slice a2 r.ok.length d2, .slice a3 r.ch.length d3, .slice a4 r.te.length d4, M⟩) rfl rfl (ZB7.out.alloc _) rfl rfl (rpC_one H7.out.got) ?_; intro w9 hz9 hc9))
          have hba : Below w7.heap.size w7 (w7.alloc (.cells #[] 30)) := (Below.refl _ w7).alloc (Nat.le_refl _) _
          have hlt7 := H7.out.lt
          have hhb7 := H7.out.hb
          have OM : MsOwn w9 w7.heap.size (.slice (some ⟨w7.heap.size, 0, none⟩) 0 0) [] [] := (MsOwn.born w7).off (fun k h1 h2 => hc9.block k h2 (by omega))
          have B9 : Below b w w9 := hc9.below (B7.out.trans (hba.mono (by omega))) (by have := hba.size; omega) (fun k hk => by omega)
          have HH : RpHas w9 (b + 2) ⟨.slice a1 r.l.length d1, .slice a2 r.ok.length d2, .slice a3 r.ch.length d3, .slice a4 r.te.length d4, M⟩ r := (H7.out.kept hba).o.has.off (fun v hv k hk => hc9.block k ((H7.out.kept hba).under v hv k hk) (by have := H7.out.o.has.from v hv k hk; omega))
          have hrl := results_row3 (P := Tryz.prog) (fn := Tryz.f23) (p := 4) (q := 5) (q2 := 6) (ty := 28) rfl
          refine bodyPost_ret (v := .tuple #[.agg (rpC r ⟨.slice a1 r.l.length d1, .slice a2 r.ok.length d2, .slice a3 r.ch.length d3, .slice a4 r.te.length d4, M⟩), .slice (some ⟨w7.heap.size, 0, none⟩) 0 0, .int .i64 (-1)]) (hrl _ _ (b + 1) 28 _ (0, 0) _ rfl _ _ rfl rfl hz9 Tryz.underlying28 rfl (by rw [Tryz.rszR]; rfl)) rfl ?_
          unfold SubAns
          rw [HS.out, HE.out]
          exact ⟨⟨.slice a1 r.l.length d1, .slice a2 r.ok.length d2, .slice a3 r.ch.length d3, .slice a4 r.te.length d4, M⟩, _, [], rfl, ⟨HH.low (by have := HB.out; omega), H7.out.apt, ⟨w7.heap.size, H7.out.under, by have := HB.out; omega, OM⟩, by rw [← HB.out]; exact B9⟩⟩
        · have e60 : ((r.l.length : Int) == 60) = false := by simp; omega
          have HACC : Hid (leads r ∧ rdB t = true ∧ ¬ r.l.length = 60) := (show _ ∧ _ ∧ _ from ⟨dB_is hld, hrd, h60⟩)
          clear h60
          go_upto_region 7 with fail
          clear xl e60
          have xg := H7.out.c.cells.2.2.2.2.2.1
          have HLa : Hid (OwnsX (w7.alloc (.cells #[.string t] 9)) (b + 2) (.slice a1 r.l.length d1) r.l) := (show Hid _ from HL7.out.alloc _)
          have hba : Below w7.heap.size w7 (w7.alloc (.cells #[.string t] 9)) := (Below.refl _ w7).alloc (Nat.le_refl _) _
          have hle7 := H7.out.le
          have hfl := HF.out.l.1
          have HFC : Hid (∀ j u, (cellsE txtE [t])[j]? = some u → (w7.alloc (.cells #[.string t] 9)).cell? ((⟨w7.heap.size, 0, none⟩ : Addr).add j) = some u) := (show ∀ _ _, _ from fresh_cell w7 t #[.string t] 9 rfl)
          go_upto_region 8 with (first
            | (at_builtin
               refine wpList_rowE_at (E := txtE) _ rfl (.tmp 38) (.tmp 40) 24 9 (.string ⟨#[]⟩) 16 Tryz.underlying24 Tryz.infoX9 rfl rfl (b + 2) (.slice a1 r.l.length d1) r.l rfl HLa.out ⟨w7.heap.size, 0, none⟩ 1 [t] rfl HFC.out (by unfold maxLen; simp only [List.length_singleton]; omega) (by simp only [List.length_singleton]; omega) (by simp; omega) ?_
               intro v w8 ho hg _ hv)
            | (refine wpList_rpGrL H7.out hba ho hg hv rfl rfl (.tmp 42) (.tmp 41) rfl rfl rfl ?_; intro w9 h9 hl9 b9))
          obtain ⟨pa, pd, rfl, _⟩ := ho.form
          obtain ⟨r1, hr1⟩ : ∃ r1 : Rp, r1 = { r with l := r.l ++ [t] } := ⟨_, rfl⟩
          have H9 : Hid (RpAt w9 (b + 2) gb ⟨.slice pa (r.l ++ [t]).length pd, .slice a2 r.ok.length d2, .slice a3 r.ch.length d3, .slice a4 r.te.length d4, M⟩ r1) := (show Hid _ from by rw [hr1]; exact h9)
          have HR1 : Hid (r1 = { r with l := r.l ++ [t] }) := hr1
          have e1 : r1.l.length = r.l.length + 1 := by rw [hr1]; exact push_len _ _
          have E1 : Hid (r1.l.length = r.l.length + 1) := e1
          have L1 : Hid (∃ la1 lc1, Value.slice pa (r.l ++ [t]).length pd = .slice la1 r1.l.length lc1) := (show ∃ _ _, _ from ⟨pa, pd, by rw [e1, push_len]⟩)
          have XB9 : Hid (Bx w9 b 28 #[.int .i64 r.id, .int .i64 r.p, .int .i64 r.v, .bool r.n, .int .i64 r.la, .slice la r.l.length lc, .int .i64 r.c, .slice oa r.ok.length oc, .slice ca r.ch.length cc, .slice ta r.te.length tc]) := (show Hid _ from Bx.low XB7.out b9 (by omega))
          have ZB9 : Hid (Bx w9 (b + 1) 28 zR) := (show Hid _ from Bx.low ZB7.out b9 (by omega))
          have B9 : Hid (Below b w w9) := (show Hid _ from B7.out.trans (b9.mono (by omega)))
          clear ho hg hv h9 hl9 b9 hr1 e1 HLa HFC hba xg hle7 hfl H7 HL7 XB7 ZB7 B7
          have hok := HR.out.ok1 HACC.out.1.1 HACC.out.1.2
          have jc := specCnt r1 ⟨.slice pa (r.l ++ [t]).length pd, .slice a2 r.ok.length d2, .slice a3 r.ch.length d3, .slice a4 r.te.length d4, M⟩ gb (b + 2) w9 H9.out.c H9.out.o.ok L1.out (H9.out.o.ne H9.out.c _ (rows_ok _)) (by rw [HR1.out]; exact HR.out.p) (by rw [HR1.out]; exact hok.1) (by rw [HR1.out]; exact HR.out.id) (by have := HR.out.c; have := E1.out; rw [this]; rw [HR1.out]; exact ⟨HR.out.c.1, by show r.c ≤ _; omega⟩) (by have := E1.out; have := logB_sm HR.out.l; omega)
          go_upto_region 9 with (go_at_call 75; refine jc.mono ?_; rintro e w10 ⟨rfl, k1, k2, k3⟩)
          obtain ⟨h10, b10⟩ := H9.out.counted k1 k2 k3
          have HE : Hid (subF r t = (cntd r1, sprL (cntd r1), ((r.l.length + 1 : Nat) : Int))) := (show _ = _ by
            unfold subF
            rw [if_neg (fun hh => by
              rcases hh with hh | hh | hh
              · exact hh HACC.out.1
              · exact hh HACC.out.2.1
              · exact HACC.out.2.2 hh), HR1.out])
          have HK : Hid (RpOk (cntd r1)) := (show RpOk _ by have := (sub_kp (t := t) HR.out).1.ok; rw [HE.out] at this; exact this)
          have EL : Hid ((cntd r1).l = r1.l) := (show _ = _ from rfl)
          generalize hR : cntd r1 = R at h10 HE HK EL
          have H10 : Hid (RpAt w10 (b + 2) gb ⟨.slice pa (r.l ++ [t]).length pd, .slice a2 r.ok.length d2, .slice a3 r.ch.length d3, .slice a4 r.te.length d4, M⟩ R) := h10
          have XBA : Hid (Bx w10 b 28 #[.int .i64 r.id, .int .i64 r.p, .int .i64 r.v, .bool r.n, .int .i64 r.la, .slice la r.l.length lc, .int .i64 r.c, .slice oa r.ok.length oc, .slice ca r.ch.length cc, .slice ta r.te.length tc]) := (show Hid _ from Bx.low XB9.out b10 (by omega))
          have ZBA : Hid (Bx w10 (b + 1) 28 zR) := (show Hid _ from Bx.low ZB9.out b10 (by omega))
          have BA : Hid (Below b w w10) := (show Hid _ from B9.out.trans (b10.mono (by omega)))
          clear h10 b10 k1 k2 k3 jc hok H9 XB9 ZB9 B9 hR
          obtain ⟨ux, hux⟩ : ∃ ux : Rv, ux = ⟨.slice pa (r.l ++ [t]).length pd, .slice a2 r.ok.length d2, .slice a3 r.ch.length d3, .slice a4 r.te.length d4, M⟩ := ⟨_, rfl⟩
          rw [← hux] at H10
          obtain ⟨la5, lc5, e5⟩ : ∃ la5 lc5, ux.l = .slice la5 R.l.length lc5 := by
            obtain ⟨x1, x2, x3⟩ := L1.out
            exact ⟨x1, x2, by rw [hux, EL.out]; exact x3⟩
          clear hux
          have HK10 : Hid (∀ x, StS w10 (b + 1) x → RpAt x (b + 2) gb ux R) := (show ∀ _ _, _ from fun x hS => ⟨(hS.ch.block gb H10.out.lt (by have := H10.out.hb; omega)).trans H10.out.c, H10.out.o.off (fun v hv k hk => hS.ch.block k (H10.out.under v hv k hk) (by have := H10.out.o.has.from v hv k hk; omega)), H10.out.apt, H10.out.hb⟩)
          have hsp := fun x (hS : StS w10 (b + 1) x) => specSpr R ux x (HK10.out x hS).got ⟨HK.out.v.1, by have := HK.out.v; omega⟩ HK.out.p (by have := logB_sm HK.out.l; omega) (by have := HK.out.ch5; omega)
          unfold rpA at hsp
          have jS := hsp
          have HC : Hid (∀ x, StS w10 (b + 1) x → Bx x gb 28 (rpC R ux)) := (show ∀ _ _, _ from fun x hS => (HK10.out x hS).c)
          have CB := fun x (hS : StS w10 (b + 1) x) => (show x.cell? ⟨gb, 5, none⟩ = some (.slice la5 R.l.length lc5) from by rw [← e5]; exact (HK10.out x hS).c.cells.2.2.2.2.2.1)
          clear hsp e5
          have S0 : StS w10 (b + 1) w10.drew := ⟨⟨rfl, rfl, rfl, Nat.le_refl _, fun _ _ _ => rfl⟩, zR, ZBA.out, rfl⟩
          have HLT : Hid (b + 1 < w10.heap.size) := (show _ < _ by have := H10.out.lt; have := H10.out.hb; omega)
          obtain ⟨lo, hlo⟩ : ∃ lo, lo = w10.heap.size := ⟨_, rfl⟩
          generalize hA : Act.mk _ _ = A
          obtain ⟨s, hs, s4_, s7_⟩ : ∃ s : Nat → Value, A = frSbs s s ∧ s 4 = .pointer (some ⟨b + 1, 0, none⟩) ∧ s 7 = .pointer (some ⟨gb, 0, none⟩) := by
            refine ⟨fun i => A.tmps.getD i undef, ?_, ?_, ?_⟩ <;> rw [← hA] <;> rfl
          rw [hs]
          clear hs hA
          refine region_heads 8 mixed (by decide) (by kernel_rfl) (by kernel_rfl) (by kernel_rfl) (by kernel_rfl) (frSbs s) dSbs (fun x => StS w10 (b + 1) x) (GSbs R ux gb lo la5 lc5 b) (fun i j hi hj h => dSbs_ne hi hj h) ?put s rfl S0 ?step ?done
          case put =>
            intro i o hi ho t v
            rcases (show i = 0 ∨ i = 1 ∨ i = 2 ∨ i = 3 ∨ i = 4 ∨ i = 5 ∨ i = 6 ∨ i = 7 by omega) with rfl | rfl | rfl | rfl | rfl | rfl | rfl | rfl
            all_goals
              obtain rfl := Option.some.inj ho
              rfl
          case step =>
            intro i o hi ho t x hS hdep K hK
            rcases (show i = 0 ∨ i = 1 ∨ i = 2 ∨ i = 3 ∨ i = 4 ∨ i = 5 ∨ i = 6 ∨ i = 7 by omega) with rfl | rfl | rfl | rfl | rfl | rfl | rfl | rfl
            all_goals obtain rfl := Option.some.inj ho
            · have h2 := hK (.agg (rpC R ux)) x hS (fun j u hj hne h => h) rfl
              refine ldG (by rfl) (.tmp 7) rfl gb (by show (frSbs s t).eval (.tmp 7) = _; unfold frSbs; simp [Act.eval, s7_]) (HC.out x hS) (rpC_size R ux) ?_
              exact h2
            · have h2 := hK (.agg (rpC R ux)) x hS (fun j u hj hne h => h) rfl
              refine ldG (by rfl) (.tmp 7) rfl gb (by show (frSbs s t).eval (.tmp 7) = _; unfold frSbs; simp [Act.eval, s7_]) (HC.out x hS) (rpC_size R ux) ?_
              exact h2
            · have e1 : t 45 = .agg (rpC R ux) := hdep { on := 1, ground := Ground.data } (by simp) rfl
              refine callG1 (by rfl) 76 (.tmp 45) _ rfl (.agg (rpC R ux)) e1 (Go.Proofs.enters_of Tryz.func76 (by kernel_rfl) rfl _) (fun v y => (∃ (C : Nat) (T : List Mx) (p1 : Option Addr) (d1 : Nat), v = .slice p1 T.length d1 ∧ (lo ≤ C ∧ C ≤ y.heap.size ∧ MsOwn y C (.slice p1 T.length d1) T (sprL R))) ∧ Below x.heap.size x y) ((jS x hS).mono ?_) ?_
              · rintro e0 y0 ⟨u0, T0, h0, h1, h2⟩
                obtain ⟨q1, g1, rfl, _⟩ := h1.row.form
                exact ⟨_, h0, ⟨x.heap.size, T0, q1, g1, rfl, by rw [hlo]; exact hS.ch.size, h2.size, h1⟩, h2⟩
              · rintro v y ⟨h0, hb2⟩
                exact hK v y (hS.kept hb2) (fun j u hj hne h => GSbs.keep hb2 j u hj h) h0
            · have h2 := hK (.pointer (some ⟨gb, 5, none⟩)) x hS (fun j u hj hne h => h) rfl
              unfold frSbs at h2 ⊢
              clear hK
              go_simp
              simpa [Act.put, s7_, s4_] using h2
            · have e3 : t 47 = .pointer (some ⟨gb, 5, none⟩) := hdep { on := 3, ground := Ground.data } (by simp) rfl
              have y0 := (CB x hS)
              have h2 := hK (.slice la5 R.l.length lc5) x hS (fun j u hj hne h => h) rfl
              unfold frSbs at h2 ⊢
              clear hK
              go_simp
              simpa [Act.put, e3, y0, s7_, s4_] using h2
            · have e4 : t 48 = .slice la5 R.l.length lc5 := hdep { on := 4, ground := Ground.data } (by simp) rfl
              have h2 := hK (.int .i64 (R.l.length : Int)) x hS (fun j u hj hne h => h) rfl
              unfold frSbs at h2 ⊢
              clear hK
              go_simp
              simpa [Act.put, e4, s7_, s4_] using h2
            · have e0 : t 44 = .agg (rpC R ux) := hdep { on := 0, ground := Ground.data } (by simp) rfl
              obtain ⟨old, ho1, ho2⟩ := hS.bx
              refine stG (by rfl) (.tmp 4) (.tmp 44) rfl (b + 1) (rpC R ux) (by show (frSbs s t).eval (.tmp 4) = _; unfold frSbs; simp [Act.eval, s4_]) (by show (frSbs s t).eval (.tmp 44) = _; unfold frSbs; simp [Act.eval, e0]) ho1 ho2 (rpC_size R ux) (rpC_one H10.out.got) ?_
              intro W hW hc
              exact hK undef W (hS.put hW (rpC_size R ux) hc) (fun j u hj hne h => GSbs.keepS (by rw [hlo]; exact HLT.out) hc j u hj hne h) ⟨rfl, hW⟩
            · obtain ⟨C_2, T_2, p1_2, d1_2, e2, k2⟩ : ∃ (C : Nat) (T : List Mx) (p1 : Option Addr) (d1 : Nat), t 46 = .slice p1 T.length d1 ∧ (lo ≤ C ∧ C ≤ x.heap.size ∧ MsOwn x C (.slice p1 T.length d1) T (sprL R)) := hdep { on := 2, ground := Ground.data } (by simp) rfl
              have h2 := hK (.slice p1_2 T_2.length d1_2) x hS (fun j u hj hne h => h) ⟨_, _, _, _, rfl, k2⟩
              unfold frSbs at h2 ⊢
              clear hK
              go_simp
              simpa [Act.put, e2, s7_, s4_] using h2
          case done =>
            intro tt w11 hS hG
            have e0 : tt 44 = .agg (rpC R ux) := hG 0 (by decide)
            obtain ⟨C, TT, p1, d1', e7, k2⟩ : ∃ (C : Nat) (T : List Mx) (p1 : Option Addr) (d1 : Nat), tt 5 = .slice p1 T.length d1 ∧ (lo ≤ C ∧ C ≤ w11.heap.size ∧ MsOwn w11 C (.slice p1 T.length d1) T (sprL R)) := hG 7 (by decide)
            have e5 : tt 49 = .int .i64 (R.l.length : Int) := hG 5 (by decide)
            obtain ⟨_, hz12⟩ : tt 100006 = undef ∧ Bx w11 (b + 1) 28 (rpC R ux) := hG 6 (by decide)
            rw [hlo] at k2
            have H11 : Hid (RpAt w11 (b + 2) gb ux R) := (show Hid _ from HK10.out _ hS)
            have HZ : Hid (Bx w11 (b + 1) 28 (rpC R ux)) := hz12
            have BB : Hid (Below b w w11) := (show Hid _ from hS.ch.below BA.out (by have := HLT.out; omega) (fun k hk => by omega))
            have UX : Hid (∀ v ∈ ux.rows, ∀ k, v.ownBlock = some k → k < w10.heap.size) := H10.out.under
            have LT : Hid (gb < w10.heap.size ∧ b + 2 ≤ gb) := (show _ ∧ _ from ⟨H10.out.lt, H10.out.hb⟩)
            have K2 : Hid (w10.heap.size ≤ C ∧ C ≤ w11.heap.size ∧ MsOwn w11 C (.slice p1 TT.length d1') TT (sprL R)) := (show Hid _ from k2)
            clear jS CB HC hG hS S0 hlo H10 XBA ZBA BA k2 hz12 HK10
            show wpList Tryz.prog _ _ [_] _ w11
            unfold frSbs
            simp only [e0, e5, e7, s4_, s7_]
            clear e0 e5 e7 s4_ s7_
            go_wp2
            have hlt := LT.out
            have hrl := results_row3 (P := Tryz.prog) (fn := Tryz.f23) (p := 4) (q := 5) (q2 := 6) (ty := 28) rfl
            refine bodyPost_ret (v := .tuple #[.agg (rpC R ux), .slice p1 TT.length d1', .int .i64 (R.l.length : Int)]) (hrl _ _ (b + 1) 28 _ (0, 0) _ rfl _ _ rfl rfl HZ.out Tryz.underlying28 rfl (by rw [Tryz.rszR]; rfl)) rfl ?_
            unfold SubAns
            rw [HS.out, HE.out]
            have e9 : (R.l.length : Int) = ((r.l.length + 1 : Nat) : Int) := by rw [EL.out, E1.out]
            rw [e9]
            exact ⟨ux, _, TT, rfl, ⟨H11.out.o.has.low (by have := HB.out; omega), H11.out.apt, ⟨C, fun v hv k hk => Nat.lt_of_lt_of_le (UX.out v hv k hk) K2.out.1, by have := HB.out; have := K2.out.1; omega, K2.out.2.2⟩, by rw [← HB.out]; exact BB.out⟩⟩
end Go.Proofs.YtdahfhkeeemdiaaGreat.Rl
namespace Go.Proofs.YtdahfhkeeemdiaaGreat
open Go Go.RowKit Go.Sort
set_option linter.unusedVariables false

section
variable {P : Program}
theorem any_headsL {l : List Oper} {Q : Exit → Act → World → Prop} (n : Nat) (hn : n < l.length) (hs : Region.sinkB .any l.toArray n = true) (hc : Region.chainB .any l.toArray n = true)
    (hq : Region.seqB .any l.toArray (l.length - n) n (Array.replicate n true ++ Array.replicate (l.length - n) false) = true) (hb : backB l.toArray n = true)
    (F : (Nat → Value) → Act) (d : Nat → Nat) (S : Array Bool → (Nat → Value) → World → Prop) (G : Nat → World → Value → Prop) (hinj : ∀ i j, i < n → j < n → j ≠ i → d j ≠ d i) (hput : ∀ (i : Nat) (o : Oper), i < n → l[i]? = some o → ∀ (t : Nat → Value) (v : Value), (F t).put o.dst v = F (updH t (d i) v))
    (hstep : ∀ (i : Nat) (o : Oper), i < n → l[i]? = some o → ∀ (listed : Array Bool), listed.getD i false = false → (∀ j oj, l.toArray[j]? = some oj → listed.getD j false = true → ∀ e ∈ oj.after, Region.binds .any e = true → listed.getD e.on false = true) → listed.size = l.toArray.size → ∀ (t : Nat → Value) (x : World), S listed t x → (∀ e ∈ o.after, Region.binds .any e = true → G e.on x (t (d e.on))) → ∀ K : Act → World → Prop,
      (∀ v y, S (listed.setIfInBounds i true) (updH t (d i) v) y → (∀ j u, j < n → j ≠ i → G j x u → G j y u) → G i y v → K ((F t).put o.dst v) y) →
      if Region.wanted o (yielded l.toArray (F t).tmps) = true then Oper.wp P o (F t) x K Q else K ((F t).put o.dst undef) x)
    (hdone : ∀ (listed : Array Bool) (t : Nat → Value) (x : World), (∀ i, i < n → listed.getD i false = true) → S listed t x → (∀ j, j < n → G j x (t (d j))) → wpList P l.toArray Q (l.drop n) (F t) x) :
    ∀ (f : Nat) (listed : Array Bool) (t : Nat → Value) (x : World), leftH listed = f → HeadInv .any l.toArray n listed → S listed t x → (∀ j, j < n → listed.getD j false = true → G j x (t (d j))) → wpAny P .any l.toArray Q f listed (F t) x := by
  have hsz : l.toArray.size = n + (l.length - n) := by simp; omega
  have hn2 : n < l.toArray.size := by simpa using hn
  intro f
  induction f with
  | zero =>
    intro listed t x hf inv hS hG
    have h1 := inv.tail n (Nat.le_refl _) hn2
    have := leftH_set h1
    omega
  | succ f ih =>
    intro listed t x hf inv hS hG
    by_cases hall : ∀ i, i < n → listed.getD i false = true
    · have e := allListed (inv.size.trans hsz) hall (fun u h1 h2 => inv.tail u h1 (by omega))
      have hl : leftH listed = l.length - n := by rw [e]; unfold leftH; simp [List.count_replicate]
      have hf2 : f + 1 = (l.drop n).length := by rw [List.length_drop]; omega
      rw [hf2]
      refine wpAny_of_seq (md := .any) (Q' := Q) (l.drop n) n listed (F t) x (fun j => by simp [List.getElem?_drop]) ?_ (hdone listed t x hall hS fun j hj => hG j hj (hall j hj))
      rw [List.length_drop, e]
      exact hq
    · obtain ⟨i0, hi0, hu0⟩ : ∃ i, i < n ∧ listed.getD i false = false := by
        refine Classical.byContradiction fun hno => hall fun i hi => ?_
        cases h : listed.getD i false with
        | true => rfl
        | false => exact absurd ⟨i, hi, h⟩ hno
      have hu0' : listed.getD i0 true = false := getD_in (by rw [inv.size]; omega) hu0
      refine ⟨fun hr => absurd (firsts inv.size hn2 hb hr) hall, fun i hi => ?_⟩
      have hin : i < n := by
        rcases Nat.lt_or_ge i n with h | h
        · exact h
        · exact absurd hi (tail_waits hs hc hn2 inv _ i0 rfl hi0 hu0' i h)
      obtain ⟨h1, o, ho, hdep⟩ := mem_ready.1 hi
      have hdn : ∀ e ∈ o.after, Region.binds .any e = true → e.on < i := backB_spec hb hin ho
      have ho2 : l[i]? = some o := by simpa using ho
      have hc1 := leftH_set h1
      have key := hstep i o hin ho2 listed (getD_both h1) inv.closed inv.size t x hS (fun e he hbd => hG e.on (by have := hdn e he hbd; omega) (hdep e he hbd)) (wpAny P .any l.toArray Q f (listed.setIfInBounds i true)) (fun v y hSy hkeep hGi => by
        rw [hput i o hin ho2 t v]
        refine ih _ _ y (by omega) (inv.set hi hin) hSy fun j hj hl => ?_
        by_cases hji : j = i
        · subst hji
          rw [updH_same]
          exact hGi
        · rw [updH_other _ _ (hinj i j hin hj hji)]
          rw [getD_set_ne false (Ne.symm hji)] at hl
          exact hkeep j _ hj hji (hG j hj hl))
      unfold wpOp
      rw [ho]
      show if Region.wanted o (yielded l.toArray (F t).tmps) = true then _ else _
      split
      · rename_i hw
        rw [if_pos hw] at key
        exact Or.inl key
      · rename_i hw
        rw [if_neg hw] at key
        exact key
/-- The first n operations come whichever way; what each leaves (G) is good for as long as the others leave it so; then the rest, in order. -/
theorem region_headsL {l : List Oper} {Q : Exit → Act → World → Prop} {id : Nat} {a : Act} {w : World} (n : Nat) (hm : P.follows .mixedOrders = true) (hn : n < l.length) (hs : Region.sinkB .any l.toArray n = true) (hc : Region.chainB .any l.toArray n = true)
    (hq : Region.seqB .any l.toArray (l.length - n) n (Array.replicate n true ++ Array.replicate (l.length - n) false) = true) (hb : backB l.toArray n = true)
    (F : (Nat → Value) → Act) (d : Nat → Nat) (S : Array Bool → (Nat → Value) → World → Prop) (G : Nat → World → Value → Prop) (hinj : ∀ i j, i < n → j < n → j ≠ i → d j ≠ d i) (hput : ∀ (i : Nat) (o : Oper), i < n → l[i]? = some o → ∀ (t : Nat → Value) (v : Value), (F t).put o.dst v = F (updH t (d i) v)) (t0 : Nat → Value) (h0 : a = F t0) (hS : S (Array.replicate l.toArray.size false) t0 w.drew)
    (hstep : ∀ (i : Nat) (o : Oper), i < n → l[i]? = some o → ∀ (listed : Array Bool), listed.getD i false = false → (∀ j oj, l.toArray[j]? = some oj → listed.getD j false = true → ∀ e ∈ oj.after, Region.binds .any e = true → listed.getD e.on false = true) → listed.size = l.toArray.size → ∀ (t : Nat → Value) (x : World), S listed t x → (∀ e ∈ o.after, Region.binds .any e = true → G e.on x (t (d e.on))) → ∀ K : Act → World → Prop,
      (∀ v y, S (listed.setIfInBounds i true) (updH t (d i) v) y → (∀ j u, j < n → j ≠ i → G j x u → G j y u) → G i y v → K ((F t).put o.dst v) y) →
      if Region.wanted o (yielded l.toArray (F t).tmps) = true then Oper.wp P o (F t) x K Q else K ((F t).put o.dst undef) x)
    (hdone : ∀ (listed : Array Bool) (t : Nat → Value) (x : World), (∀ i, i < n → listed.getD i false = true) → S listed t x → (∀ j, j < n → G j x (t (d j))) → wpList P l.toArray Q (l.drop n) (F t) x) : (Code.region id l.toArray true).wp P Q a w := by
  subst h0
  refine wp_region_any hm ?_
  have inv0 : HeadInv .any l.toArray n (Array.replicate l.toArray.size false) := ⟨by simp, fun j oj _ hl => (by rw [getD_replicate_false] at hl; cases hl), fun t _ ht => getD_in (by simpa using ht) (getD_replicate_false _ _)⟩
  exact any_headsL n hn hs hc hq hb F d S G hinj hput hstep hdone _ _ t0 _ (by unfold leftH; simp) inv0 hS (fun j _ hl => by rw [getD_replicate_false] at hl; cases hl)
end
end Go.Proofs.YtdahfhkeeemdiaaGreat
namespace Go.Proofs.YtdahfhkeeemdiaaGreat
open Go.RowKit Go.Sort
set_option linter.unusedVariables false

/-- What holds until operation m is done, and what from then on. -/
def StepM (m dm : Nat) (S0 : World → Prop) (S1 : Value → World → Prop) (listed : Array Bool) (t : Nat → Value) (x : World) : Prop := (listed.getD m false = false → S0 x) ∧ (listed.getD m false = true → S1 (t dm) x)
theorem StepM.before {m dm : Nat} {S0 : World → Prop} {S1 : Value → World → Prop} {listed : Array Bool} (h8 : listed.getD m false = false) {i : Nat} (hi : i ≠ m) {t' : Nat → Value} {y : World} (hy : S0 y) : StepM m dm S0 S1 (listed.setIfInBounds i true) t' y :=
  ⟨fun _ => hy, fun h => by rw [getD_set_ne false hi, h8] at h; cases h⟩
theorem StepM.free {m dm : Nat} {S0 : World → Prop} {S1 : Value → World → Prop} {listed : Array Bool} {t : Nat → Value} {x : World} (h : StepM m dm S0 S1 listed t x) {i d : Nat} {v : Value} (hi : i ≠ m) (hd : dm ≠ d) : StepM m dm S0 S1 (listed.setIfInBounds i true) (updH t d v) x :=
  ⟨fun h1 => h.1 (by rw [getD_set_ne false hi] at h1; exact h1), fun h1 => by rw [updH_other _ _ hd]; exact h.2 (by rw [getD_set_ne false hi] at h1; exact h1)⟩
theorem StepM.at {m dm : Nat} {S0 : World → Prop} {S1 : Value → World → Prop} {listed : Array Bool} {t : Nat → Value} {v : Value} {y : World} (hm : m < listed.size) (h : S1 v y) : StepM m dm S0 S1 (listed.setIfInBounds m true) (updH t dm v) y :=
  ⟨fun h1 => by simp [hm] at h1, fun _ => by rw [updH_same]; exact h⟩
/-- Some elements appended, as a step. -/
theorem appG {α : Type} {E : Enc α} {P : Program} {ops : Array Oper} {o : Oper} {a : Act} {w : World} {K : Act → World → Prop} {Q : Exit → Act → World → Prop} {X : Prop} (hgd : o.guard = Option.none) (s x : Operand) (ts te : TypeId) (z : Value) (bytes : Nat)
    (hts : P.underlying ts = some (.slice te)) (hinfo : (P.info? te).map (fun i => (i.zero, i.size, i.bytes)) = some (some z, E.k, bytes)) (hz : z.cells.size = E.k)
    (ho : o.op = .call { callee := .builtin .append, args := #[s, x], argTypes := #[ts, ts] }) (B : Nat) (v : Value) (l : List α) (hs : a.eval s = v) (hown : OwnsE E te w B v l)
    (ad : Addr) (c : Nat) (m : List α) (hx : a.eval x = .slice (some ad) m.length c) (hcell : ∀ j u, (cellsE E m)[j]? = some u → w.cell? (ad.add j) = some u)
    (h63 : l.length + m.length ≤ maxLen) (hbytes : (l.length + m.length) * bytes ≤ 140737488355328) (hB : B ≤ w.heap.size)
    (h : ∀ v' w', OwnsE E te w' B v' (l ++ m) → w.grownBy w' v.ownBlock → (v'.ownBlock = v.ownBlock ∨ v'.ownBlock = some w.heap.size) → K (a.put o.dst v') w') :
    if Region.wanted o (yielded ops a.tmps) = true then Oper.wp P o a w K Q else X := by
  have hw : Region.wanted o (yielded ops a.tmps) = true := by simp [Region.wanted, hgd]
  rw [if_pos hw]
  obtain ⟨i0, hi, hz0, hz1, hz2⟩ := info_parts hinfo
  obtain ⟨v', w', hr, h2, h3, h4, h5⟩ := run_append_own_at (P := P) w B ts o.type te i0 z E.k bytes hts hi hz0 hz1 hz2 hz E.pos v l.length (cellsE E l) hown ad m.length c (cellsE E m) (cellsE_length E m) hcell (cellsE_one E m) h63 hbytes hB
  unfold Oper.wp execOp
  simp only [ho, resolve, invoke, builtin, Sem.run_bind, Sem.run_pure, Result.andThen_ok, List.map_toArray, List.map_cons, List.map_nil, hs, hx, hr]
  refine h v' w' ?_ h3 h5
  unfold OwnsE
  rw [cellsE_append, List.length_append]
  exact h2
end Go.Proofs.YtdahfhkeeemdiaaGreat
