/-
  The specification's l17Receive at MsChange, of its own view.
  The specification's l17Receive, whole.
  The specification's Receive.
  What the walk of FnExactReceive asks of messages: rows that may be empty, one message marked; what is received stays within bounds.
  A region that copies a replica and a message, and hands both to Receive: what holds along it.
  A region that copies a replica and a message, and hands both to Receive: what holds along it.
-/
import Derived.Test.YtdkhdjickkcaiaaGreatRVS
import Derived.Test.YtdkhdjickkcaiaaGreatRV29
import Derived.Test.YtdkhdjickkcaiaaGreatRV27
import Derived.Test.YtdkhdjickkcaiaaGreatRV22
import Derived.Test.YtdkhdjickkcaiaaGreatRV23
import Derived.Test.YtdkhdjickkcaiaaGreatRV19
import Derived.Test.YtdkhdjickkcaiaaGreatRV18
import Derived.Test.YtdkhdjickkcaiaaGreatRV24
import Derived.Test.YtdkhdjickkcaiaaGreatRV26
set_option linter.unusedVariables false
set_option linter.unusedSimpArgs false
set_option maxRecDepth 100000
set_option maxHeartbeats 64000000
namespace Go.Proofs.YtdkhdjickkcaiaaGreat.Rl.Fr
open Go.RowKit Go.Sort Go.Shelf Pg
theorem specRcvCB (r : Rp) (u : Rv) (B : Nat) (X : Mx) (w : World) (ho : RpOw w B u r) (hap : RpAp u) (hX : ∀ W, Below B w W → Sls txtE W X.u X.m.l) (hr : RpOk r) (hxs : X.m.l.length ≤ 1048576 ∧ ∀ x ∈ X.m.l, x.size ≤ 1048576) (hB : B ≤ w.heap.size) (hm : MsOk X.m r.p) (ht : X.m.t = r.id) (hf : X.m.f ≠ r.id) (hk : X.m.k = 3) (heq : X.m.v = r.v) (hnn : r.n = false) :
  Calls Tryz.prog 49 #[rpA r u, .agg (mxV X)] w fun e w' => RvE r X B w e w' := by
 obtain ⟨la, lc, oa, oc, ca, cc, ta, tc, T0, rfl⟩ := ho.got.form
 obtain ⟨b, hb⟩ : ∃ b, b = w.heap.size := ⟨_, rfl⟩
 obtain ⟨w1, hw1⟩ : ∃ w1, w1 = ((w.alloc (.cells #[.int .i64 r.id, .int .i64 r.p, .int .i64 r.v, .bool r.n, .int .i64 r.la, .slice la r.l.length lc, .int .i64 r.c, .slice oa r.ok.length oc, .slice ca r.ch.length cc, .slice ta r.te.length tc] 28)).alloc (.cells #[.int .i64 X.m.k, .int .i64 X.m.f, .int .i64 X.m.t, .int .i64 X.m.v, .int .i64 X.m.la, .slice X.pl X.m.l.length X.cl, .int .i64 X.m.c] 30)).alloc (.cells #[.int .i64 0, .int .i64 0, .int .i64 0, .bool false, .int .i64 0, .slice none 0 0, .int .i64 0, .slice none 0 0, .slice none 0 0, .slice none 0 0] 28) := ⟨_, rfl⟩
 have bw1 : Below w.heap.size w w1 := by rw [hw1]; exact (((Below.refl _ w).alloc (Nat.le_refl _) _).alloc (by simp) _).alloc (by simp; omega) _
 have XB : Bx w1 b 28 #[.int .i64 r.id, .int .i64 r.p, .int .i64 r.v, .bool r.n, .int .i64 r.la, .slice la r.l.length lc, .int .i64 r.c, .slice oa r.ok.length oc, .slice ca r.ch.length cc, .slice ta r.te.length tc] := by rw [hw1, hb]; exact ((Bx.new _ _ _).alloc _).alloc _
 have XM : Bx w1 (b + 1) 30 (mxV X) := by rw [hw1, hb]; exact (Bx.at _ _ (by simp)).alloc _
 have XZ : Bx w1 (b + 2) 28 zR := by rw [hw1, hb]; exact Bx.at _ _ (by simp)
 have hru : ∀ v ∈ Rv.rows ⟨.slice la r.l.length lc, .slice oa r.ok.length oc, .slice ca r.ch.length cc, .slice ta r.te.length tc, T0⟩, ∀ k, v.ownBlock = some k → k < b := fun v hv k hk => by rw [hb]; exact ho.has.under v hv k hk
 have hat : RpAt [] w1 B b ⟨.slice la r.l.length lc, .slice oa r.ok.length oc, .slice ca r.ch.length cc, .slice ta r.te.length tc, T0⟩ r := ⟨XB, ho.kept bw1, hap, by omega, ⟨fun x hx => nomatch hx⟩⟩
 have H1 : Hid (RpAt [(b + 1, 30, mxV X), (b + 2, 28, zR)] w1 B b ⟨.slice la r.l.length lc, .slice oa r.ok.length oc, .slice ca r.ch.length cc, .slice ta r.te.length tc, T0⟩ r) := (show RpAt _ _ _ _ _ _ from (hat.beside (k := b + 2) XZ (by omega) (fun v hv e => by have := hru v hv _ e; omega)).beside (k := b + 1) XM (by omega) (fun v hv e => by have := hru v hv _ e; omega))
 have B1 : Hid (Below B w w1) := hH_ (bw1.mono hB)
 have S1 : Hid (w1.heap.size = b + 3) := (show _ = _ by rw [hw1, hb]; simp)
 have HB : Hid (b = w.heap.size ∧ B ≤ b) := hH_ (⟨hb, by omega⟩)
 have HX : Hid (∀ W, Below B w W → Sls txtE W X.u X.m.l) := hH_ (hX)
 have HR : Hid (RpOk r) := hr
 have HXS : Hid (X.m.l.length ≤ 1048576 ∧ ∀ x ∈ X.m.l, x.size ≤ 1048576) := hH_ (hxs)
 have jm := fun W (hW : Below B w W) => specMok X.m X.u r.p W (hX W hW) hxs.2 hr.p
 clear ho hap hX hr hxs hB bw1 XB XM XZ hru hat
 unfold rpA mxV
 unfold msA Mx.u at jm
 simp only at jm ⊢
 have HM : Hid (MsOk X.m r.p ∧ X.m.t = r.id ∧ X.m.f ≠ r.id) := hH_ (⟨hm, ht, hf⟩)
 have bt : (X.m.t != r.id) = false := by simp [ht]
 have bf : (X.m.f == r.id) = false := by simp [hf]
 rw [msB_yes hm] at jm
 clear hm ht hf
 have HK : Hid (X.m.k = 3) := hk
 clear hk
 have HAS : Hid (¬ r.v < X.m.v) := hH_ (by omega)
 have hgt : ¬ r.v < X.m.v := by omega
 have HEQ : Hid (X.m.v = r.v) := heq
 have HNN : Hid (r.n = false) := hnn
 clear heq hnn
 go_enter Tryz.func49, Tryz.ntmps49
 go_upto_region 1 with fail
 rw [← hb, ← hw1, show b + 1 + 1 = b + 2 from rfl]
 clear hw1 hb
 go_upto_region 2 with fail
 have bA : Below w1.heap.size w1 (w1.alloc (.cells #[] 30)) := (Below.refl _ w1).alloc (Nat.le_refl _) _
 obtain ⟨e0, he0⟩ : ∃ e0, e0 = w1.heap.size := ⟨_, rfl⟩
 have H2 := hH_ (H1.out.kept bA)
 have B2 := hH_ (B1.out.trans (bA.mono H1.out.le))
 have HE0 : Hid (e0 = b + 3) := (show _ = _ by rw [he0, S1.out])
 rw [← he0]
 generalize w1.alloc (.cells #[] 30) = w2 at H2 B2 ⊢
 clear bA he0 H1 B1 S1
 have y1 : w2.cell? ⟨b, 1, none⟩ = some (.int .i64 r.p) := H2.out.c.cell 1
 go_wp2_with (refine wpList_ldM rfl (.tmp 3) rfl (b + 1) rfl (H2.out.box (k := b + 1) (ty := 30) (vs := mxV X) (by simp)) rfl ?_)
 refine (jm _ B2.out).mono ?_
 rintro e w3 ⟨rfl, hb3⟩
 have H3 := hH_ (H2.out.kept hb3)
 have B3 := hH_ (B2.out.trans (hb3.mono H2.out.le))
 clear hb3 H2 B2 y1 jm
 have y0 : w3.cell? ⟨b, 0, none⟩ = some (.int .i64 r.id) := H3.out.c.cell 0
 have x1 : w3.cell? ⟨b + 1, 1, none⟩ = some (.int .i64 X.m.f) := (H3.out.box (k := b + 1) (ty := 30) (vs := mxV X) (by simp)).cell 1
 have x2 : w3.cell? ⟨b + 1, 2, none⟩ = some (.int .i64 X.m.t) := (H3.out.box (k := b + 1) (ty := 30) (vs := mxV X) (by simp)).cell 2
 have x0 : w3.cell? ⟨b + 1, 0, none⟩ = some (.int .i64 3) := by rw [← HK.out]; exact (H3.out.box (k := b + 1) (ty := 30) (vs := mxV X) (by simp)).cell 0
 have x3 : w3.cell? ⟨b + 1, 3, none⟩ = some (.int .i64 X.m.v) := (H3.out.box (k := b + 1) (ty := 30) (vs := mxV X) (by simp)).cell 3
 have y1 : w3.cell? ⟨b, 1, none⟩ = some (.int .i64 r.p) := H3.out.c.cell 1
 go_upto_region 23 with fail
 go_quiet (fail)
 have BN := hH_ (dwNB w3 nq)
 generalize w3.drewN nq = w5 at BN ⊢
 have H5 := hH_ (H3.out.kept BN.out)
 have B5 := hH_ (B3.out.trans (BN.out.mono H3.out.le))
 clear x0 x1 x2 x3 y0 y1 BN H3 B3
 have beq : (X.m.v != r.v) = false := by simp [HEQ.out]
 have x3 : w5.cell? ⟨b + 1, 3, none⟩ = some (.int .i64 X.m.v) := (H5.out.box (k := b + 1) (ty := 30) (vs := mxV X) (by simp)).cell 3
 have y2 : w5.cell? ⟨b, 2, none⟩ = some (.int .i64 r.v) := H5.out.c.cell 2
 have y3 : w5.cell? ⟨b, 3, none⟩ = some (.bool false) := by rw [← HNN.out]; exact H5.out.c.cell 3
 go_upto_region 30 with fail
 clear x3 y2 y3 hgt beq
 obtain ⟨w6, hw6⟩ : ∃ w6, w6 = w5 := ⟨_, rfl⟩
 rw [← hw6] at H5 B5 ⊢
 clear hw6
 obtain ⟨a, ha⟩ : ∃ a, a = r := ⟨_, rfl⟩
 obtain ⟨ua, H6⟩ : ∃ ua, Hid (RpAt [(b + 1, 30, mxV X), (b + 2, 28, zR)] w6 B b ua a) := ⟨_, (show Hid _ from by rw [ha]; exact H5.out)⟩
 have B6 : Hid (Below B w w6) := B5
 have HAA : Hid (a = if r.v < X.m.v then askF r X.m.v else r) := hH_ (by rw [ha]; exact (if_neg (fun h => absurd HAS.out (by omega))).symm)
 have ha9 : Hid (RpOk a ∧ a.n = false ∧ a.v = X.m.v ∧ a.p = r.p ∧ a.id = r.id) := hH_ (by rw [ha]; exact ⟨HR.out, HNN.out, HEQ.out.symm, rfl, rfl⟩)
 clear ha H5 B5
 have HA : Hid (RpOk a ∧ a.n = false ∧ a.v = X.m.v ∧ a.p = r.p ∧ a.id = r.id) := ha9
 clear ha9
 have hch := HA.out.1.ch1 HA.out.2.1
 have hcl := HA.out.1.ch5
 obtain ⟨g, cap, hgc⟩ : ∃ g cap, ua.ch = .slice (some ⟨g, 0, none⟩) a.ch.length cap := by
  obtain ⟨ad, cap, e, _⟩ := H6.out.o.ch.form
  obtain ⟨g, e2⟩ := ownsN_some (by rw [← e]; exact H6.out.o.ch) (List.length_pos_of_mem hch.1)
  exact ⟨g, cap, by rw [e, e2]⟩
 have y8 : w6.cell? ⟨b, 8, none⟩ = some (.slice (some ⟨g, 0, none⟩) a.ch.length cap) := by rw [← hgc]; exact H6.out.c.cell 8
 have y1 : w6.cell? ⟨b, 1, none⟩ = some (.int .i64 a.p) := H6.out.c.cell 1
 have j1 := fun W => specMaj a.ch.length a.p W (by omega)
 obtain ⟨BM, hBM⟩ : ∃ BM, BM = dB (maj a.ch.length a.p) := ⟨_, rfl⟩
 have HBM : Hid (BM = dB (maj a.ch.length a.p)) := hBM
 rw [← hBM] at j1
 clear hBM
 go_upto_region 31 with (go_at_call 109; refine (j1 _).mono ?_; rintro e wm ⟨rfl, rfl⟩)
 have x1 : w6.cell? ⟨b + 1, 1, none⟩ = some (.int .i64 X.m.f) := (H6.out.box (k := b + 1) (ty := 30) (vs := mxV X) (by simp)).cell 1
 have jp := specPutG g cap a.ch X.m.f B w6 (by rw [← hgc]; exact H6.out.o.ch) hch.2.1 (by omega) H6.out.le
 clear hch hcl j1
 go_upto_region 32 with (first | (go_at_call 110; refine jp.mono ?_; rintro e wp ⟨g9, c9, rfl, o9, b9, n9⟩) | (refine wpList_rpPut H6.out b9 rfl rfl (.tmp 206) (.tmp 205) rfl o9 (putN8 hgc n9) rfl rfl ?_; intro w7 h7 b7))
 obtain ⟨c1, hc1⟩ : ∃ c1 : Rp, c1 = { a with ch := Sk.put X.m.f a.ch } := ⟨_, rfl⟩
 rw [← hc1] at h7
 have HC1 : Hid (c1 = { a with ch := Sk.put X.m.f a.ch }) := hc1
 have hK1 : RpOk c1 := by rw [hc1]; exact (ch_kp HA.out.1 HA.out.2.1 (by rw [HA.out.2.2.2.1]; exact HM.out.1.f)).ok
 have HK1 : Hid (RpOk c1 ∧ c1.n = false ∧ c1.v = X.m.v ∧ c1.p = r.p ∧ c1.id = r.id) := hH_ (⟨hK1, by rw [hc1]; exact HA.out.2.1, by rw [hc1]; exact HA.out.2.2.1, by rw [hc1]; exact HA.out.2.2.2.1, by rw [hc1]; exact HA.out.2.2.2.2⟩)
 have H7 : Hid (RpAt [(b + 1, 30, mxV X), (b + 2, 28, zR)] w7 B b _ c1) := h7
 have B7 := hH_ (B6.out.trans b7)
 have hl2 : c1.ch.length ≤ 1048576 := by have := hK1.ch5; omega
 have e2 : (Sk.put X.m.f a.ch).length = c1.ch.length := by rw [hc1]
 have y8 : w7.cell? ⟨b, 8, none⟩ = some (.slice (some ⟨g9, 0, none⟩) c1.ch.length c9) := by rw [← e2]; exact H7.out.c.cell 8
 have y1 : w7.cell? ⟨b, 1, none⟩ = some (.int .i64 c1.p) := H7.out.c.cell 1
 have x0 : w7.cell? ⟨b + 1, 0, none⟩ = some (.int .i64 3) := by rw [← HK.out]; exact (H7.out.box (k := b + 1) (ty := 30) (vs := mxV X) (by simp)).cell 0
 have j1 := fun W => specMaj c1.ch.length c1.p W hl2
 obtain ⟨NM, hNM⟩ : ∃ NM, NM = dB (maj c1.ch.length c1.p) := ⟨_, rfl⟩
 have HNM : Hid (NM = dB (maj c1.ch.length c1.p)) := hNM
 rw [← hNM] at j1
 rw [e2]
 clear hNM h7 b7 o9 b9 n9 hgc hc1 hK1 hl2 e2 x1 jp H6 B6
 go_upto_region 39 with (go_at_call 109; refine (j1 _).mono ?_; rintro e wm ⟨rfl, rfl⟩)
 clear y8 y1 x0 j1
 have HT : Hid (rcvF r X.m = @ite _ (r.v < X.m.v ∨ (maj c1.ch.length c1.p ∧ ¬ maj a.ch.length a.p)) (Classical.propDecidable _) (told c1, sprL (told c1)) (c1, [])) := (show _ = _ from by
  rw [rcv_C HM.out (.inl HK.out), rcvC_C HAA.out (by rintro (h | h); exact h HA.out.2.2.1.symm; rw [HA.out.2.1] at h; cases h) HK.out HA.out.2.2.2.1, HC1.out]
  exact ite_one _ _ _ _)
 cases NM with
 | false =>
  have HE : Hid (rcvF r X.m = (c1, [])) := hH_ (by rw [HT.out]; exact if_neg (by rintro (h | h); (have:=HAS.out;omega); exact dB_not HNM.out.symm h.1))
  clear HT
  go_upto_region 42 with fail
  obtain ⟨uz, HZ7⟩ : ∃ uz, Hid (RpAt [(b + 1, 30, mxV X), (b + 2, 28, zR)] w7 B b uz c1) := ⟨_, H7⟩
  go_wp2_with (first | (refine wpList_ldR rfl (.tmp 2) rfl b rfl HZ7.out.c rfl ?_) | (refine wpList_stR rfl rfl (.tmp 4) (.tmp 241) rfl (b + 2) (rpC c1 uz) rfl rfl (HZ7.out.box (k := b + 2) (ty := 28) (vs := zR) (by simp)) rfl rfl (rpC_one HZ7.out.got) ?_; intro w9 hz9 hc9))
  have B9 : Below B w w9 := hc9.below B7.out (by have:=HB.out;have := HZ7.out.lt; omega) (fun k hk => by have:=HB.out;omega)
  have HO : RpOw w9 B uz c1 := HZ7.out.o.off (fun v hv k hk => hc9.block k (HZ7.out.under v hv k hk) (fun e => by
   have h5 := (HZ7.out.fr.k (b + 2, 28, zR) (by simp)).2.2 v hv
   rw [e] at hk
   exact h5 hk))
  have hrl := results_row2 (P := Tryz.prog) (fn := Tryz.f49) (p := 4) (q := 5) (ty := 28) rfl
  refine bodyPost_ret (v := .tuple #[.agg (rpC c1 uz), .slice (some ⟨e0, 0, none⟩) 0 0]) (hrl _ _ (b + 2) 28 _ (0, 0) _ rfl _ rfl hz9 Tryz.underlying28 rfl (by rw [Tryz.rszR]; rfl)) rfl ?_
  unfold RvE
  rw [HE.out]
  exact ⟨uz, _, [], rfl, RvAns.no HO HZ7.out.apt B9⟩
 | true =>
  cases BM with
  | true =>
   have HE : Hid (rcvF r X.m = (c1, [])) := hH_ (by rw [HT.out]; exact if_neg (by rintro (h | h); (have:=HAS.out;omega); exact h.2 (dB_is HBM.out.symm)))
   clear HT
   go_upto_region 42 with fail
   obtain ⟨uz, HZ7⟩ : ∃ uz, Hid (RpAt [(b + 1, 30, mxV X), (b + 2, 28, zR)] w7 B b uz c1) := ⟨_, H7⟩
   go_wp2_with (first | (refine wpList_ldR rfl (.tmp 2) rfl b rfl HZ7.out.c rfl ?_) | (refine wpList_stR rfl rfl (.tmp 4) (.tmp 241) rfl (b + 2) (rpC c1 uz) rfl rfl (HZ7.out.box (k := b + 2) (ty := 28) (vs := zR) (by simp)) rfl rfl (rpC_one HZ7.out.got) ?_; intro w9 hz9 hc9))
   have B9 : Below B w w9 := hc9.below B7.out (by have:=HB.out;have := HZ7.out.lt; omega) (fun k hk => by have:=HB.out;omega)
   have HO : RpOw w9 B uz c1 := HZ7.out.o.off (fun v hv k hk => hc9.block k (HZ7.out.under v hv k hk) (fun e => by
    have h5 := (HZ7.out.fr.k (b + 2, 28, zR) (by simp)).2.2 v hv
    rw [e] at hk
    exact h5 hk))
   have hrl := results_row2 (P := Tryz.prog) (fn := Tryz.f49) (p := 4) (q := 5) (ty := 28) rfl
   refine bodyPost_ret (v := .tuple #[.agg (rpC c1 uz), .slice (some ⟨e0, 0, none⟩) 0 0]) (hrl _ _ (b + 2) 28 _ (0, 0) _ rfl _ rfl hz9 Tryz.underlying28 rfl (by rw [Tryz.rszR]; rfl)) rfl ?_
   unfold RvE
   rw [HE.out]
   exact ⟨uz, _, [], rfl, RvAns.no HO HZ7.out.apt B9⟩
  | false =>
   have HE : Hid (rcvF r X.m = (told c1, sprL (told c1))) := hH_ (by rw [HT.out]; exact if_pos (.inr ⟨dB_is HNM.out.symm, dB_not HBM.out.symm⟩))
   clear HT
   go_upto_region 40 with fail
   go_upto_region 41 with (go_at_call 75; refine (specTld _ _ B b _ H7.out HK1.out.1).mono ?_; rintro e w9 ⟨rfl, ux, h9, b9⟩)
   obtain ⟨R, hR⟩ : ∃ R, R = told c1 := ⟨_, rfl⟩
   rw [← hR] at h9 HE
   have HK9 : Hid (RpOk R) := (show RpOk _ from by rw [hR]; exact (told_kp HK1.out.1).ok)
   have HH : Hid (RpAt [(b + 1, 30, mxV X), (b + 2, 28, zR)] w9 B b ux R) := h9
   have BB := hH_ (B7.out.trans b9)
   clear h9 b9 hR H7 B7
   have HW : Hid (RpAt [(b + 1, 30, mxV X), (b + 2, 28, zR)] w9 B b ux R) := HH
   have BW : Hid (Below B w w9) := BB
   clear HH BB
   have hz2 := Bx.lt (HW.out.box (k := b + 2) (ty := 28) (vs := zR) (by simp))
   have HC : Hid (∀ x, StS w9 (b + 2) x → Bx x b 28 (rpC R ux)) := hH_ (fun x hS => (hS.ch.block b HW.out.lt (by omega)).trans HW.out.c)
   have HOX := fun x (hS : StS w9 (b + 2) x) => (show RpOw x B ux R from HW.out.o.off (fun v hv k hk => hS.ch.block k (HW.out.under v hv k hk) (fun e => by
    have h5 := (HW.out.fr.k (b + 2, 28, zR) (by simp)).2.2 v hv
    rw [e] at hk
    exact h5 hk)))
   have jS := fun x (hS : StS w9 (b + 2) x) => specSpr R ux x (HOX x hS).got ⟨HK9.out.v.1, by have := HK9.out.v; omega⟩ HK9.out.p (by have := logB_sm HK9.out.l; omega) (by have := HK9.out.ch5; omega)
   unfold rpA at jS
   have S0 : StS w9 (b + 2) w9.drew := ⟨⟨rfl, rfl, rfl, Nat.le_refl _, fun _ _ _ => rfl⟩, zR, (HW.out.box (k := b + 2) (ty := 28) (vs := zR) (by simp)), rfl⟩
   have HLT : Hid (b + 2 < w9.heap.size) := hz2
   have Z9 : Hid (w.heap.size ≤ w9.heap.size) := hH_ (BW.out.size)
   clear hz2
   obtain ⟨lo, hlo⟩ : ∃ lo, lo = w9.heap.size := ⟨_, rfl⟩
   generalize hA : Act.mk _ _ = A
   obtain ⟨s, hs, s2_, s4_⟩ : ∃ s : Nat → Value, A = frRcU s s ∧ s 2 = .pointer (some ⟨b, 0, none⟩) ∧ s 4 = .pointer (some ⟨b + 2, 0, none⟩) := by
    refine ⟨fun i => A.tmps.getD i undef, ?_, ?_, ?_⟩ <;> rw [← hA] <;> rfl
   rw [hs]
   clear hs hA
   refine region_heads 4 mixed (by decide) (by kernel_rfl) (by kernel_rfl) (by kernel_rfl) (by kernel_rfl) (frRcU s) dRcU (fun x => StS w9 (b + 2) x) (GRcU R ux b lo) (fun i j hi hj h => dRcU_ne hi hj h) ?put s rfl S0 ?step ?done
   case put =>
    intro i o hi ho t v
    rcases (show i = 0 ∨ i = 1 ∨ i = 2 ∨ i = 3 by omega) with rfl | rfl | rfl | rfl
    all_goals
     obtain rfl := Option.some.inj ho
     rfl
   case step =>
    intro i o hi ho t x hS hdep K hK
    rcases (show i = 0 ∨ i = 1 ∨ i = 2 ∨ i = 3 by omega) with rfl | rfl | rfl | rfl
    all_goals obtain rfl := Option.some.inj ho
    ·
     have h2 := hK (.agg (rpC R ux)) x hS kI_ rfl
     refine ldG (by rfl) (.tmp 2) rfl b (by show (frRcU s t).eval (.tmp 2) = _; unfold frRcU; simp [Act.eval, s2_]) (HC.out x hS) (rpC_size R ux) ?_
     exact h2
    ·
     have h2 := hK (.agg (rpC R ux)) x hS kI_ rfl
     refine ldG (by rfl) (.tmp 2) rfl b (by show (frRcU s t).eval (.tmp 2) = _; unfold frRcU; simp [Act.eval, s2_]) (HC.out x hS) (rpC_size R ux) ?_
     exact h2
    ·
     have e1 : t 239 = .agg (rpC R ux) := hdep ⟨1, .data⟩ (by simp) rfl
     refine callG1 (by rfl) 73 (.tmp 239) _ rfl (.agg (rpC R ux)) e1 (Go.Proofs.enters_of Tryz.func73 (by kernel_rfl) rfl _) (fun v y => (∃ (C : Nat) (T : List Mx) (p1 : Option Addr) (d1 : Nat), v = .slice p1 T.length d1 ∧ (lo ≤ C ∧ C ≤ y.heap.size ∧ MsOwn y C (.slice p1 T.length d1) T (sprL R))) ∧ Below x.heap.size x y) ((jS x hS).mono ?_) ?_
     ·
      rintro e0 y0 ⟨u0, T0, h0, h1, h2⟩
      obtain ⟨q1, g1, rfl, _⟩ := h1.row.form
      exact ⟨_, h0, ⟨x.heap.size, T0, q1, g1, rfl, by rw [hlo]; exact hS.ch.size, h2.size, h1⟩, h2⟩
     ·
      rintro v y ⟨h0, hb2⟩
      exact hK v y (hS.kept hb2) (fun j u hj hne h => GRcU.keep hb2 j u hj h) h0
    ·
     have e0 : t 238 = .agg (rpC R ux) := hdep ⟨0, .data⟩ (by simp) rfl
     obtain ⟨old, ho1, ho2⟩ := hS.bx
     refine stG (by rfl) (.tmp 4) (.tmp 238) rfl (b + 2) (rpC R ux) (by show (frRcU s t).eval (.tmp 4) = _; unfold frRcU; simp [Act.eval, s4_]) (by show (frRcU s t).eval (.tmp 238) = _; unfold frRcU; simp [Act.eval, e0]) ho1 ho2 (rpC_size R ux) (rpC_one HW.out.got) ?_
     intro W hW hc
     exact hK undef W (hS.put hW (rpC_size R ux) hc) (fun j u hj hne h => GRcU.keepS (by rw [hlo]; exact HLT.out) hc j u hj hne h) ⟨rfl, hW⟩
   case done =>
    intro tt wz hS hG
    obtain ⟨C, TT, p1, d1', e7, k2⟩ : ∃ (C : Nat) (T : List Mx) (p1 : Option Addr) (d1 : Nat), tt 240 = .slice p1 T.length d1 ∧ (lo ≤ C ∧ C ≤ wz.heap.size ∧ MsOwn wz C (.slice p1 T.length d1) T (sprL R)) := hG 2 (by decide)
    obtain ⟨_, hz12⟩ : tt 100003 = undef ∧ Bx wz (b + 2) 28 (rpC R ux) := hG 3 (by decide)
    rw [hlo] at k2
    have HO : Hid (RpOw wz B ux R) := hH_ (HOX wz hS)
    have HZ : Hid (Bx wz (b + 2) 28 (rpC R ux)) := hz12
    have BB : Hid (Below B w wz) := hH_ (hS.ch.below BW.out HW.out.le (fun k hk => by have:=HB.out;omega))
    have K2 : Hid (w9.heap.size ≤ C ∧ C ≤ wz.heap.size ∧ MsOwn wz C (.slice p1 TT.length d1') TT (sprL R)) := hH_ (k2)
    clear jS HC HOX hG hS S0 hlo BW k2 hz12
    show wpList Tryz.prog _ _ [_] _ wz
    unfold frRcU
    simp only [e7, s2_, s4_]
    clear e7 s2_ s4_
    go_wp2_with fail
    have hrl := results_row2 (P := Tryz.prog) (fn := Tryz.f49) (p := 4) (q := 5) (ty := 28) rfl
    refine bodyPost_ret (v := .tuple #[.agg (rpC R ux), .slice p1 TT.length d1']) (hrl _ _ (b + 2) 28 _ (0, 0) _ rfl _ rfl HZ.out Tryz.underlying28 rfl (by rw [Tryz.rszR]; rfl)) rfl ?_
    unfold RvE
    rw [HE.out]
    exact ⟨ux, _, TT, rfl, ⟨HO.out, HW.out.apt, ⟨C, fun v hv k hk => Nat.lt_of_lt_of_le (HW.out.under v hv k hk) K2.out.1, Nat.le_trans Z9.out K2.out.1, K2.out.2.1, .inl K2.out.2.2⟩, BB.out⟩⟩
open Go.RowKit Go.Sort Go.Shelf Pg
theorem specRcv (r : Rp) (u : Rv) (B : Nat) (X : Mx) (w : World) (ho : RpOw w B u r) (hap : RpAp u) (hX : ∀ W, Below B w W → Sls txtE W X.u X.m.l) (hr : RpOk r) (hxs : X.m.l.length ≤ 1048576 ∧ ∀ x ∈ X.m.l, x.size ≤ 1048576) (hB : B ≤ w.heap.size) :
  Calls Tryz.prog 49 #[rpA r u, .agg (mxV X)] w fun e w' => RvE r X B w e w' := by
 by_cases hn : ¬ MsOk X.m r.p ∨ X.m.t ≠ r.id ∨ X.m.f = r.id
 ·
  exact specRcvN r u B X w ho hap hX hr hxs hB hn
 have hm : MsOk X.m r.p := Classical.byContradiction fun h => hn (.inl h)
 have ht : X.m.t = r.id := Classical.byContradiction fun h => hn (.inr (.inl h))
 have hf : X.m.f ≠ r.id := fun h => hn (.inr (.inr h))
 rcases (show X.m.k = 1 ∨ X.m.k = 2 ∨ X.m.k = 3 ∨ X.m.k = 4 by have := hm.k; omega) with hk | hk | hk | hk
 ·
  exact specRcvL r u B X w ho hap hX hr hxs hB hm ht hf hk
 ·
  exact specRcvO r u B X w ho hap hX hr hxs hB hm ht hf hk
 ·
  by_cases has : r.v < X.m.v
  ·
   exact specRcvCA r u B X w ho hap hX hr hxs hB hm ht hf hk has
  ·
   by_cases heq : X.m.v = r.v
   ·
    cases hnn : r.n with
    | false => exact specRcvCB r u B X w ho hap hX hr hxs hB hm ht hf hk heq hnn
    | true => exact specRcvC1 r u B X w ho hap hX hr hxs hB hm ht hf hk ⟨has, .inr hnn⟩
   ·
    exact specRcvC1 r u B X w ho hap hX hr hxs hB hm ht hf hk ⟨has, .inl heq⟩
 ·
  by_cases hq : X.m.v % r.p = r.id
  ·
   by_cases has : r.v < X.m.v
   ·
    exact specRcvTA r u B X w ho hap hX hr hxs hB hm ht hf hk hq has
   ·
    by_cases heq : X.m.v = r.v
    ·
     cases hnn : r.n with
     | false => exact specRcvTB r u B X w ho hap hX hr hxs hB hm ht hf hk hq heq hnn
     | true => exact specRcvT1 r u B X w ho hap hX hr hxs hB hm ht hf hk hq ⟨has, .inr hnn⟩
    ·
     exact specRcvT1 r u B X w ho hap hX hr hxs hB hm ht hf hk hq ⟨has, .inl heq⟩
  ·
   exact specRcvT0 r u B X w ho hap hX hr hxs hB hm ht hf hk hq
open Go.RowKit Go.Sort Go.Shelf Pg
def frRk (s t : Nat → Value) : Act := { tmps := #[s 0, s 1, s 2, s 3, s 4, s 5, s 6, s 7, s 8, s 9, s 10, t 11, t 12, t 13, t 14, t 15, t 16], defers := [] }
def dRk (i : Nat) : Nat := [11, 12, 13, 14, 15, 16, 100006].getD i (i + 5000)
theorem dRk_ne {i j : Nat} (hi : i < 7) (hj : j < 7) (h : j ≠ i) : dRk j ≠ dRk i := slotsNe (L := [11, 12, 13, 14, 15, 16, 100006]) (by decide) rfl hi hj h
def GRk (L0 : Array Value) (X : Mx) (i : Nat) (x : World) (v : Value) : Prop := match i with
 | 0 => v = .agg L0
 | 1 => v ≠ undef
 | 2 => v = .agg (mxV X)
 | 3 => v ≠ undef
 | 4 => v ≠ undef
 | _ => True
structure SRk (r R : Rp) (L : List Ms) (b : Nat) (w2 : World) (listed : Array Bool) (t : Nat → Value) (x : World) : Prop where
 st : StS w2 (b + 2) x
 cp : t 12 ≠ undef → t 14 = undef → ∃ u3, t 12 = .agg (rpC r u3) ∧ RpOw x w2.heap.size u3 r ∧ RpAp u3
 rc : t 14 ≠ undef → ∃ u' v T C, t 14 = .tuple #[.agg (rpC R u'), v] ∧ RpOw x w2.heap.size u' R ∧ RpAp u' ∧ ((∀ y ∈ u'.rows, ∀ k, y.ownBlock = some k → k < C) ∧ w2.heap.size ≤ C ∧ C ≤ x.heap.size ∧ MsG x C v T L) ∧ (t 15 ≠ undef → t 15 = .agg (rpC R u')) ∧ (listed.getD 5 false = true → t 16 = v) ∧ (listed.getD 6 false = true → Bx x (b + 2) 28 (rpC R u'))
 st14 : t 14 ≠ undef → listed.getD 3 false = true
 u15 : t 14 = undef → t 15 = undef
theorem MsG.off {w w' : World} {C : Nat} {v : Value} {T : List Mx} {L : List Ms} (h : MsG w C v T L) (hk : ∀ k, C ≤ k → k < w.heap.size → w'.heap[k]? = w.heap[k]?) : MsG w' C v T L := by
 rcases h with h | h
 ·
  exact .inl (h.off hk)
 ·
  exact .inr h
theorem SRk.idle {r R : Rp} {L : List Ms} {b : Nat} {w2 : World} {listed : Array Bool} {t : Nat → Value} {x : World} (h : SRk r R L b w2 listed t x) {i d : Nat} {v : Value} (h3 : i ≠ 3) (h5 : i ≠ 5) (h6 : i ≠ 6) (d12 : 12 ≠ d) (d14 : 14 ≠ d) (d15 : 15 ≠ d) (d16 : 16 ≠ d) : SRk r R L b w2 (listed.setIfInBounds i true) (updH t d v) x := by
 refine ⟨h.st, fun a1 a2 => ?_, fun a => ?_, fun a => ?_, fun a => ?_⟩
 ·
  rw [updH_other _ _ d12] at a1 ⊢
  rw [updH_other _ _ d14] at a2
  exact h.cp a1 a2
 ·
  rw [updH_other _ _ d14] at a ⊢
  rw [updH_other _ _ d15, updH_other _ _ d16, getD_set_ne false h5, getD_set_ne false h6]
  exact h.rc a
 ·
  rw [updH_other _ _ d14] at a
  rw [getD_set_ne false h3]
  exact h.st14 a
 ·
  rw [updH_other _ _ d14] at a
  rw [updH_other _ _ d15]
  exact h.u15 a
theorem getD_set_at {a : Array Bool} {n i : Nat} (h : a.size = n) : (a.setIfInBounds i true).getD i false = decide (i < n) := by
 subst h
 by_cases hi : i < a.size
 ·
  simp [Array.getD, hi]
 ·
  simp [Array.getD, hi]
structure RgAns (R : Rp) (L : List Ms) (w w' : World) (u' : Rv) (v : Value) (T : List Mx) : Prop where
 h : RpHas w' w.heap.size u' R
 a : RpAp u'
 m : ∃ C, (∀ x ∈ u'.rows, ∀ k, x.ownBlock = some k → k < C) ∧ w.heap.size ≤ C ∧ C ≤ w'.heap.size ∧ MsG w' C v T L
 b : Below w.heap.size w w'
noncomputable def rcvA (r : Rp) (m : Ms) : Rp × List Ms := @ite _ (RpOk r) (Classical.propDecidable _) (rcvF r m) (noRp, [])
def RcvAns (r : Rp) (m : Ms) (w : World) (e : Ending) (w' : World) : Prop := ∃ u' v T, e = .returned (.tuple #[rpA (rcvA r m).1 u', v]) ∧ RgAns (rcvA r m).1 (rcvA r m).2 w w' u' v T
theorem specRcvR (r : Rp) (u : Rv) (X : Mx) (w : World) (h : RpGot w u r) (hf : Fit r) (hX : Sls txtE w X.u X.m.l) (hxs : X.m.l.length ≤ 1048576 ∧ ∀ x ∈ X.m.l, x.size ≤ 1048576) : Calls Tryz.prog 9 #[rpA r u, .agg (mxV X)] w fun e w' => RcvAns r X.m w e w' := by
 obtain ⟨la, lc, oa, oc, ca, cc, ta, tc, T, rfl⟩ := h.form
 obtain ⟨b, hb⟩ : ∃ b, b = w.heap.size := ⟨_, rfl⟩
 obtain ⟨w1, hw1⟩ : ∃ w1, w1 = ((w.alloc (.cells #[.int .i64 r.id, .int .i64 r.p, .int .i64 r.v, .bool r.n, .int .i64 r.la, .slice la r.l.length lc, .int .i64 r.c, .slice oa r.ok.length oc, .slice ca r.ch.length cc, .slice ta r.te.length tc] 28)).alloc (.cells #[.int .i64 X.m.k, .int .i64 X.m.f, .int .i64 X.m.t, .int .i64 X.m.v, .int .i64 X.m.la, .slice X.pl X.m.l.length X.cl, .int .i64 X.m.c] 30)).alloc (.cells #[.int .i64 0, .int .i64 0, .int .i64 0, .bool false, .int .i64 0, .slice none 0 0, .int .i64 0, .slice none 0 0, .slice none 0 0, .slice none 0 0] 28) := ⟨_, rfl⟩
 have XB1 : Hid (Bx w1 b 28 #[.int .i64 r.id, .int .i64 r.p, .int .i64 r.v, .bool r.n, .int .i64 r.la, .slice la r.l.length lc, .int .i64 r.c, .slice oa r.ok.length oc, .slice ca r.ch.length cc, .slice ta r.te.length tc]) := hH_ (by rw [hw1, hb]; exact ((Bx.new _ _ _).alloc _).alloc _)
 have XM1 : Hid (Bx w1 (b + 1) 30 (mxV X)) := hH_ (by rw [hw1, hb]; exact (Bx.at _ _ (by simp)).alloc _)
 have ZB1 : Hid (Bx w1 (b + 2) 28 zR) := hH_ (by rw [hw1, hb]; exact Bx.at _ _ (by simp))
 have B1 : Hid (Below b w w1) := hH_ (by rw [hw1, hb]; exact (((Below.refl _ w).alloc (Nat.le_refl _) _).alloc (by simp) _).alloc (by simp; omega) _)
 have S1 : Hid (w1.heap.size = b + 3) := (show _ = _ by rw [hw1, hb]; simp)
 have HB : Hid (b = w.heap.size) := hb
 have HG : Hid (RpGot w ⟨.slice la r.l.length lc, .slice oa r.ok.length oc, .slice ca r.ch.length cc, .slice ta r.te.length tc, T⟩ r) := h
 have HF : Hid (Fit r) := hf
 have HX : Hid (Sls txtE w X.u X.m.l) := hX
 have HXS : Hid (X.m.l.length ≤ 1048576 ∧ ∀ x ∈ X.m.l, x.size ≤ 1048576) := hH_ (hxs)
 have jo := fun W hW => specRok r _ W (HG.out.kept hW) hf
 have jn := fun W hW => specCpR r _ W (HG.out.kept hW) hf
 unfold rpA mxV at *
 simp only at jo jn ⊢
 clear h hf hX hxs
 go_enter Tryz.func9, Tryz.ntmps9
 go_upto_region 1 with fail
 rw [← hb, ← hw1, show b + 1 + 1 = b + 2 from rfl]
 clear hw1 hb
 go_wp2_with (refine wpList_ldR rfl (.tmp 2) rfl b rfl XB1.out rfl ?_)
 refine (jo _ (by rw [← HB.out]; exact B1.out)).mono ?_
 rintro e w2 ⟨rfl, hb2⟩
 have hz2 : b + 3 ≤ w2.heap.size := by have := hb2.size; have:=S1.out;omega
 replace hb2 : Below (b + 3) w1 w2 := hb2.mono (by have:=S1.out;omega)
 have XB2 : Hid (Bx w2 b 28 #[.int .i64 r.id, .int .i64 r.p, .int .i64 r.v, .bool r.n, .int .i64 r.la, .slice la r.l.length lc, .int .i64 r.c, .slice oa r.ok.length oc, .slice ca r.ch.length cc, .slice ta r.te.length tc]) := hH_ (Bx.low XB1.out hb2 (by omega))
 have XM2 : Hid (Bx w2 (b + 1) 30 (mxV X)) := hH_ (Bx.low XM1.out hb2 (by omega))
 have ZB2 : Hid (Bx w2 (b + 2) 28 zR) := hH_ (Bx.low ZB1.out hb2 (by omega))
 have B2 := hH_ (B1.out.trans (hb2.mono (by omega)))
 have S2 : Hid (b + 3 ≤ w2.heap.size) := hz2
 clear hb2 hz2 jo XB1 XM1 ZB1 B1 S1
 cases hr : dB (RpOk r) with
 | false =>
  have HS : Hid (rcvA r X.m = (noRp, [])) := (show _ = _ by unfold rcvA; exact if_neg (dB_not hr))
  have hba : Hid (Below w2.heap.size w2 (w2.alloc (.cells #[] 30))) := hH_ ((Below.refl _ w2).alloc (Nat.le_refl _) _)
  go_wp2_with (refine wpList_stR rfl rfl (.tmp 4) (.tmp 9) rfl (b + 2) zR rfl rfl (ZB2.out.alloc _) rfl rfl zR_one ?_; intro w9 hz9 hc9)
  have OM : MsOwn w9 w2.heap.size (.slice (some ⟨w2.heap.size, 0, none⟩) 0 0) [] [] := (MsOwn.born w2).off (fun k h1 h2 => hc9.block k h2 (by have:=S2.out;omega))
  have B9 : Below b w w9 := hc9.below (B2.out.trans (hba.out.mono (by have:=S2.out;omega))) (by have:=S2.out;have := hba.out.size; omega) (fun k hk => by omega)
  have hrl := results_row2 (P := Tryz.prog) (fn := Tryz.f9) (p := 4) (q := 5) (ty := 28) rfl
  refine bodyPost_ret (v := .tuple #[.agg zR, .slice (some ⟨w2.heap.size, 0, none⟩) 0 0]) (hrl _ _ (b + 2) 28 zR (0, 0) _ rfl _ rfl hz9 Tryz.underlying28 rfl (by rw [Tryz.rszR]; rfl)) rfl ?_
  unfold RcvAns
  rw [HS.out]
  have hq := RmAns.no (w := w) (OM.low (by have:=S2.out;have:=HB.out;omega)) (by rw [← HB.out]; exact B9)
  exact ⟨rv0, _, [], rfl, ⟨hq.h, hq.a, ⟨w9.heap.size, hq.h.under, hq.b.size, Nat.le_refl _, .inr ⟨rfl, rfl, _, _, rfl, Nat.zero_le _⟩⟩, hq.b⟩⟩
 | true =>
  have HS : Hid (rcvA r X.m = rcvF r X.m) := (show _ = _ by unfold rcvA; exact if_pos (dB_is hr))
  have HR : Hid (RpOk r) := dB_is hr
  clear hr
  go_upto_region 3 with fail
  have hx2 : ∀ x, StS w2 (b + 2) x → Bx x b 28 #[.int .i64 r.id, .int .i64 r.p, .int .i64 r.v, .bool r.n, .int .i64 r.la, .slice la r.l.length lc, .int .i64 r.c, .slice oa r.ok.length oc, .slice ca r.ch.length cc, .slice ta r.te.length tc] ∧ Bx x (b + 1) 30 (mxV X) := fun x hS => ⟨(hS.ch.block b (Bx.lt XB2.out) (by omega)).trans XB2.out, (hS.ch.block (b + 1) (Bx.lt XM2.out) (by omega)).trans XM2.out⟩
  have HX2 : Hid (∀ x, StS w2 (b + 2) x → Bx x b 28 #[.int .i64 r.id, .int .i64 r.p, .int .i64 r.v, .bool r.n, .int .i64 r.la, .slice la r.l.length lc, .int .i64 r.c, .slice oa r.ok.length oc, .slice ca r.ch.length cc, .slice ta r.te.length tc] ∧ Bx x (b + 1) 30 (mxV X)) := hx2
  have hbx : ∀ x, StS w2 (b + 2) x → Below b w x := fun x hS => hS.ch.below B2.out (by have:=S2.out;omega) (fun k hk => by omega)
  have HBX : Hid (∀ x, StS w2 (b + 2) x → Below b w x) := hbx
  obtain ⟨R, L, hP⟩ : ∃ R L, rcvF r X.m = (R, L) := ⟨_, _, rfl⟩
  have HP : Hid (rcvF r X.m = (R, L)) := hP
  have S0 : SRk r R L b w2 (Array.replicate 8 false) (fun _ => undef) w2.drew := ⟨⟨⟨rfl, rfl, rfl, Nat.le_refl _, fun _ _ _ => rfl⟩, zR, ZB2.out, rfl⟩, fun h => absurd rfl h, fun h => absurd rfl h, fun h => absurd rfl h, fun _ => rfl⟩
  clear hx2 hbx hP
  generalize hA : Act.mk _ _ = A
  obtain ⟨s, hs, s2_, s3_, s4_⟩ : ∃ s : Nat → Value, A = frRk s (fun _ => undef) ∧ s 2 = .pointer (some ⟨b, 0, none⟩) ∧ s 3 = .pointer (some ⟨b + 1, 0, none⟩) ∧ s 4 = .pointer (some ⟨b + 2, 0, none⟩) := by
   refine ⟨fun i => A.tmps.getD i undef, ?_, ?_, ?_, ?_⟩ <;> rw [← hA] <;> rfl
  rw [hs]
  clear hs hA
  refine region_headsL 7 mixed (by decide) (by kernel_rfl) (by kernel_rfl) (by kernel_rfl) (by kernel_rfl) (frRk s) dRk (SRk r R L b w2) (GRk #[.int .i64 r.id, .int .i64 r.p, .int .i64 r.v, .bool r.n, .int .i64 r.la, .slice la r.l.length lc, .int .i64 r.c, .slice oa r.ok.length oc, .slice ca r.ch.length cc, .slice ta r.te.length tc] X) (fun i j hi hj h => dRk_ne hi hj h) ?put (fun _ => undef) rfl S0 ?step ?done
  case put =>
   intro i o hi ho t v
   iterate 7 rcases ltS hi with hi | rfl
   cases hi
   all_goals
    obtain rfl := Option.some.inj ho
    rfl
  case step =>
   intro i o hi ho listed hnl hcl hls t x hS hdep K hK
   iterate 7 rcases ltS hi with hi | rfl
   cases hi
   all_goals obtain rfl := Option.some.inj ho
   ·
    refine ldG (by rfl) (.tmp 2) rfl b (by show (frRk s t).eval (.tmp 2) = _; unfold frRk; simp [Act.eval, s2_]) (HX2.out x hS.st).1 rfl ?_
    exact hK (.agg #[.int .i64 r.id, .int .i64 r.p, .int .i64 r.v, .bool r.n, .int .i64 r.la, .slice la r.l.length lc, .int .i64 r.c, .slice oa r.ok.length oc, .slice ca r.ch.length cc, .slice ta r.te.length tc]) x (hS.idle (by decide) (by decide) (by decide) (by decide) (by decide) (by decide) (by decide)) kI_ rfl
   ·
    have e0 : t 11 = .agg #[.int .i64 r.id, .int .i64 r.p, .int .i64 r.v, .bool r.n, .int .i64 r.la, .slice la r.l.length lc, .int .i64 r.c, .slice oa r.ok.length oc, .slice ca r.ch.length cc, .slice ta r.te.length tc] := hdep ⟨0, .data⟩ (by simp) rfl
    refine callG1 (by rfl) 50 (.tmp 11) _ rfl (.agg #[.int .i64 r.id, .int .i64 r.p, .int .i64 r.v, .bool r.n, .int .i64 r.la, .slice la r.l.length lc, .int .i64 r.c, .slice oa r.ok.length oc, .slice ca r.ch.length cc, .slice ta r.te.length tc]) (by show (frRk s t).eval (.tmp 11) = _; unfold frRk; simp [Act.eval, e0]) (Go.Proofs.enters_of Tryz.func50 (by kernel_rfl) rfl _) (fun v y => ∃ u3, v = .agg (rpC r u3) ∧ RpOw y w2.heap.size u3 r ∧ RpAp u3 ∧ Below x.heap.size x y) ((jn x (by rw [← HB.out]; exact HBX.out x hS.st)).mono ?_) ?_
    ·
     rintro e0 y0 ⟨u3, rfl, h3, _, ha3, b3⟩
     exact ⟨_, rfl, u3, rfl, h3.low hS.st.ch.size, ha3, b3⟩
    ·
     rintro v y ⟨u3, rfl, h3, ha3, b3⟩
     have h14 : t 14 = undef := Classical.byContradiction fun h => by
      have a3 := hcl 3 _ rfl (hS.st14 h) ⟨1, .data⟩ (by simp) rfl
      rw [hnl] at a3
      cases a3
     exact hK _ y ⟨hS.st.kept b3, fun _ _ => ⟨u3, updH_same _ _ _, h3, ha3⟩, fun h => absurd (by rw [updH_other _ _ (by decide)]; exact h14) h, fun h => absurd (by rw [updH_other _ _ (by decide)]; exact h14) h, fun _ => by rw [updH_other _ _ (by decide)]; exact hS.u15 h14⟩ kI_ (by intro h; cases h)
   ·
    have h2 := hK (.agg (mxV X)) x (hS.idle (by decide) (by decide) (by decide) (by decide) (by decide) (by decide) (by decide)) kI_ rfl
    refine ldGM (by rfl) (.tmp 3) rfl (b + 1) (by show (frRk s t).eval (.tmp 3) = _; unfold frRk; simp [Act.eval, s3_]) (HX2.out x hS.st).2 rfl ?_
    exact h2
   ·
    have h12 : t 12 ≠ undef := hdep ⟨1, .data⟩ (by simp) rfl
    have e2 : t 13 = .agg (mxV X) := hdep ⟨2, .data⟩ (by simp) rfl
    have h14 : t 14 = undef := Classical.byContradiction fun h => by
     have a3 := hS.st14 h
     rw [hnl] at a3
     cases a3
    obtain ⟨u3, e1, h3, ha3⟩ := hS.cp h12 h14
    have hsz := hS.st.ch.size
    refine callG2 (by rfl) 49 (.tmp 12) (.tmp 13) _ rfl (.agg (rpC r u3)) (.agg (mxV X)) (by show (frRk s t).eval (.tmp 12) = _; unfold frRk; simp [Act.eval, e1]) (by show (frRk s t).eval (.tmp 13) = _; unfold frRk; simp [Act.eval, e2]) (Go.Proofs.enters_of Tryz.func49 (by kernel_rfl) rfl _) (fun v y => ∃ u' vv T, v = .tuple #[.agg (rpC R u'), vv] ∧ RvAns R L w2.heap.size x y u' vv T) ((specRcv r u3 w2.heap.size X x h3 ha3 (fun W hW => HX.out.kept (by rw [← HB.out]; exact (HBX.out x hS.st).trans (hW.mono (by have:=S2.out;omega)))) HR.out HXS.out hsz).mono ?_) ?_
    ·
     rintro e0 y0 ⟨u', vv, T, k1, k2⟩
     rw [HP.out] at k1 k2
     exact ⟨_, k1, u', vv, T, rfl, k2⟩
    ·
     rintro v y ⟨u', vv, T9, rfl, k2⟩
     obtain ⟨C, c1, c2, c3, c4⟩ := k2.m
     have hst : StS w2 (b + 2) y := by
      obtain ⟨old, o1, o2⟩ := hS.st.bx
      exact ⟨⟨k2.b.os.trans hS.st.ch.os, k2.b.tape.trans hS.st.ch.tape, k2.b.output.trans hS.st.ch.output, Nat.le_trans hsz k2.b.size, fun k hk hn => (k2.b.block k hk).trans (hS.st.ch.block k hk hn)⟩, old, (k2.b.block (b + 2) (by have:=S2.out;omega)).trans o1, o2⟩
     exact hK _ y ⟨hst, fun _ h => absurd ((updH_same _ _ _).symm.trans h) (by intro h; cases h), fun _ => ⟨u', vv, T9, C, updH_same _ _ _, k2.o, k2.a, ⟨c1, Nat.le_trans hsz c2, c3, c4⟩, fun h => absurd (by rw [updH_other _ _ (by decide)]; exact hS.u15 h14) h, fun h5 => (by
      rw [getD_set_ne false (by decide)] at h5
      have a3 := hcl 5 _ rfl h5 ⟨3, .data⟩ (by simp) rfl
      rw [hnl] at a3
      cases a3), fun h6 => (by
      rw [getD_set_ne false (by decide)] at h6
      have a4 := hcl 6 _ rfl h6 ⟨4, .data⟩ (by simp) rfl
      have a3 := hcl 4 _ rfl a4 ⟨3, .data⟩ (by simp) rfl
      rw [hnl] at a3
      cases a3)⟩, fun _ => (by rw [getD_set_at hls]; rfl), fun h => absurd ((updH_same _ _ _).symm.trans h) (by intro h; cases h)⟩ kI_ (by intro h; cases h)
   ·
    have h14 : t 14 ≠ undef := hdep ⟨3, .data⟩ (by simp) rfl
    obtain ⟨u', v, T9, C, k1, k2, k3, k4, k5, k6, k7⟩ := hS.rc h14
    have h2 := hK (.agg (rpC R u')) x ⟨hS.st, fun _ h => absurd (by rw [updH_other _ _ (by decide)] at h; exact h) h14, fun _ => ⟨u', v, T9, C, by rw [updH_other _ _ (by decide)]; exact k1, k2, k3, k4, fun _ => updH_same _ _ _, fun h5 => by
     rw [getD_set_ne false (by decide)] at h5
     rw [updH_other _ _ (by decide)]
     exact k6 h5, fun h6 => k7 (by rw [getD_set_ne false (by decide)] at h6; exact h6)⟩, fun _ => by rw [getD_set_ne false (by decide)]; exact hS.st14 h14, fun h => absurd (by rw [updH_other _ _ (by decide)] at h; exact h) h14⟩ kI_ (by intro h; cases h)
    unfold frRk at h2 ⊢
    clear hK
    go_simp
    simpa [Act.put, k1, s2_, s3_, s4_] using h2
   ·
    have h14 : t 14 ≠ undef := hdep ⟨3, .data⟩ (by simp) rfl
    obtain ⟨u', v, T9, C, k1, k2, k3, k4, k5, k6, k7⟩ := hS.rc h14
    have h2 := hK v x ⟨hS.st, fun _ h => absurd (by rw [updH_other _ _ (by decide)] at h; exact h) h14, fun _ => ⟨u', v, T9, C, by rw [updH_other _ _ (by decide)]; exact k1, k2, k3, k4, fun h => by
     rw [updH_other _ _ (by decide)] at h ⊢
     exact k5 h, fun _ => updH_same _ _ _, fun h6 => k7 (by rw [getD_set_ne false (by decide)] at h6; exact h6)⟩, fun _ => by rw [getD_set_ne false (by decide)]; exact hS.st14 h14, fun h => absurd (by rw [updH_other _ _ (by decide)] at h; exact h) h14⟩ kI_ trivial
    unfold frRk at h2 ⊢
    clear hK
    go_simp
    simpa [Act.put, k1, s2_, s3_, s4_] using h2
   ·
    have h15 : t 15 ≠ undef := hdep ⟨4, .data⟩ (by simp) rfl
    have h14 : t 14 ≠ undef := fun h => h15 (hS.u15 h)
    obtain ⟨u', v, T9, C, k1, k2, k3, k4, k5, k6, k7⟩ := hS.rc h14
    have e15 := k5 h15
    obtain ⟨old, ho1, ho2⟩ := hS.st.bx
    refine stG (by rfl) (.tmp 4) (.tmp 15) rfl (b + 2) (rpC R u') (by show (frRk s t).eval (.tmp 4) = _; unfold frRk; simp [Act.eval, s4_]) (by show (frRk s t).eval (.tmp 15) = _; unfold frRk; simp [Act.eval, e15]) ho1 ho2 (rpC_size R u') (rpC_one k2.got) ?_
    intro W hW hc
    exact hK undef W ⟨hS.st.put hW (rpC_size R u') hc, fun _ h => absurd (by rw [updH_other _ _ (by decide)] at h; exact h) h14, fun _ => ⟨u', v, T9, C, by rw [updH_other _ _ (by decide)]; exact k1, k2.off (fun y hy k hk => hc.block k (k2.has.under y hy k hk) (by have := k2.has.from y hy k hk; have:=S2.out;omega)), k3, ⟨k4.1, k4.2.1, Nat.le_trans k4.2.2.1 hc.size, k4.2.2.2.off (fun k h1 h2 => hc.block k h2 (by have := k4.2.1; have:=S2.out;omega))⟩, fun _ => by rw [updH_other _ _ (by decide)]; exact e15, fun h5 => by
     rw [getD_set_ne false (by decide)] at h5
     rw [updH_other _ _ (by decide)]
     exact k6 h5, fun _ => hW⟩, fun _ => by rw [getD_set_ne false (by decide)]; exact hS.st14 h14, fun h => absurd (by rw [updH_other _ _ (by decide)] at h; exact h) h14⟩ kI_ trivial
  case done =>
   intro listed tt x hall hS hG
   have h14 : tt 14 ≠ undef := hG 3 (by decide)
   obtain ⟨u', v, T9, C, k1, k2, k3, k4, k5, k6, k7⟩ := hS.rc h14
   have e16 := k6 (hall 5 (by decide))
   have hZ := k7 (hall 6 (by decide))
   have hb9 := HBX.out x hS.st
   have K2 : Hid (RpOw x w2.heap.size u' R) := hH_ (k2)
   have K4 : Hid ((∀ y ∈ u'.rows, ∀ k, y.ownBlock = some k → k < C) ∧ w2.heap.size ≤ C ∧ C ≤ x.heap.size ∧ MsG x C v T9 L) := hH_ (k4)
   have HZ : Hid (Bx x (b + 2) 28 (rpC R u')) := hZ
   have HB9 : Hid (Below b w x) := hb9
   have K3 : Hid (RpAp u') := k3
   clear hS hG hall k2 k4 k5 k6 k7 hZ hb9 k1 S0 jn k3
   show wpList Tryz.prog _ _ [_] _ x
   unfold frRk
   simp only [e16, s2_, s3_, s4_]
   clear e16 s2_ s3_ s4_
   go_wp2_with fail
   have hrl := results_row2 (P := Tryz.prog) (fn := Tryz.f9) (p := 4) (q := 5) (ty := 28) rfl
   refine bodyPost_ret (v := .tuple #[.agg (rpC R u'), v]) (hrl _ _ (b + 2) 28 _ (0, 0) _ rfl _ rfl HZ.out Tryz.underlying28 rfl (by rw [Tryz.rszR]; rfl)) rfl ?_
   unfold RcvAns
   rw [HS.out, HP.out]
   have hle : w.heap.size ≤ w2.heap.size := by have:=S2.out;have:=HB.out;omega
   exact ⟨u', v, T9, rfl, ⟨K2.out.has.low hle, K3.out, ⟨C, K4.out.1, Nat.le_trans hle K4.out.2.1, K4.out.2.2⟩, by rw [← HB.out]; exact HB9.out⟩⟩
end Go.Proofs.YtdkhdjickkcaiaaGreat.Rl.Fr
namespace Go.Proofs.YtdkhdjickkcaiaaGreat.Rl
open Go.RowKit Go.Sort Pg

theorem bx7 {W : World} {b : Nat} {ty : TypeId} {v0 v1 v2 v3 v4 v5 v6 : Value} (h : Bx W b ty #[v0, v1, v2, v3, v4, v5, v6]) : W.cell? ⟨b, 0, none⟩ = some v0 ∧ W.cell? ⟨b, 1, none⟩ = some v1 ∧ W.cell? ⟨b, 2, none⟩ = some v2 ∧ W.cell? ⟨b, 3, none⟩ = some v3 ∧ W.cell? ⟨b, 4, none⟩ = some v4 ∧ W.cell? ⟨b, 5, none⟩ = some v5 ∧ W.cell? ⟨b, 6, none⟩ = some v6 := ⟨h.cell 0, h.cell 1, h.cell 2, h.cell 3, h.cell 4, h.cell 5, h.cell 6⟩
theorem bx10 {W : World} {b : Nat} {ty : TypeId} {v0 v1 v2 v3 v4 v5 v6 v7 v8 v9 : Value} (h : Bx W b ty #[v0, v1, v2, v3, v4, v5, v6, v7, v8, v9]) : W.cell? ⟨b, 0, none⟩ = some v0 ∧ W.cell? ⟨b, 1, none⟩ = some v1 ∧ W.cell? ⟨b, 2, none⟩ = some v2 ∧ W.cell? ⟨b, 3, none⟩ = some v3 ∧ W.cell? ⟨b, 4, none⟩ = some v4 ∧ W.cell? ⟨b, 5, none⟩ = some v5 ∧ W.cell? ⟨b, 6, none⟩ = some v6 ∧ W.cell? ⟨b, 7, none⟩ = some v7 ∧ W.cell? ⟨b, 8, none⟩ = some v8 ∧ W.cell? ⟨b, 9, none⟩ = some v9 := ⟨h.cell 0, h.cell 1, h.cell 2, h.cell 3, h.cell 4, h.cell 5, h.cell 6, h.cell 7, h.cell 8, h.cell 9⟩
def MsE (lo hi : Nat) (v : Value) (T : List Mx) (W : World) : Prop := MsF lo hi v T W ∨ (T = [] ∧ ∃ a c, v = .slice a 0 c ∧ c ≤ maxLen)
theorem MsE.got {lo hi : Nat} {v : Value} {T : List Mx} {W : World} (h : MsE lo hi v T W) : TeGot W v T := by
 rcases h with h | ⟨rfl, a, c, rfl, hc⟩
 ·
  exact h.got
 ·
  exact ⟨Sls.nil hc, fun x hx => nomatch hx⟩
theorem Liv.mse {W : World} {lo hi : Nat} {v : Value} {T : List Mx} (h : MsE lo hi v T W) (ht : hi ≤ W.heap.size) : Liv lo hi (MsE lo hi v T) W := by
 rcases h with h | h
 ·
  exact (Liv.ms h ht).turn fun V hV => .inl hV
 ·
  exact ⟨.inr h, ht, fun _ _ _ => .inr h⟩
theorem MsE.of {W : World} {lo : Nat} {v : Value} {T : List Mx} {L : List Ms} (h : Fr.MsG W lo v T L) : MsE lo W.heap.size v T W := by
 rcases h with h | ⟨_, h1, h2⟩
 ·
  exact .inl (MsF.of h)
 ·
  exact .inr ⟨h1, h2⟩
theorem MsG_is {W : World} {lo : Nat} {v : Value} {T : List Mx} {L : List Ms} (h : Fr.MsG W lo v T L) : T.map (·.m) = L := by
 rcases h with h | ⟨h0, h1, _⟩
 ·
  exact h.is
 ·
  rw [h0, h1]; rfl
theorem eqMsE {L : List Ms} (hL : Few L) {lo hi lo2 hi2 : Nat} {v v2 : Value} {T T2 : List Mx} (W : World) (h : MsE lo hi v T W) (h2 : MsE lo2 hi2 v2 T2 W) (i : T.map (·.m) = L) (i2 : T2.map (·.m) = L) :
  Calls Tryz.prog 34 #[v, v2] W fun e w' => e = .returned (.bool true) ∧ Below W.heap.size W w' :=
 eqMsS v v2 T T2 W h.got h2.got (i2.trans i.symm) (hL.each i) (by have := hL.len i; omega)
theorem mark0 (a : Option Addr) (c : Nat) (s : Nat) (w : World) : Calls Tryz.prog 38 #[.slice a 0 c, .int .i64 (s : Int)] w fun e w' => e = .returned (.int .i64 (s : Int)) ∧ w = w' := by
 go_enter Tryz.func38, Tryz.ntmps38
 go_wp2
 go_loopw [5, 1] (fun s5 s1 wr => s5 = .int .i64 0 ∧ s1 = .int .i64 (s : Int) ∧ w = wr) (fun _ _ _ => 0)
 case atStart => exact ⟨rfl, rfl, rfl⟩
 case round =>
  obtain ⟨rfl, rfl, rfl⟩ := hrel
  go_wp2
  go_ret
  exact ⟨rfl, rfl⟩
theorem mkTe_nil (s : Nat) : mkTe s [] = [] := List.length_eq_zero_iff.1 (mkTe_length s [])
theorem mkS_nil (s : Nat) : mkS s [] = (s : Int) := by
 have : cT [] = 0 := rfl
 unfold mkS
 rw [this]
 simp
theorem markMsE {L : List Ms} (hL : Few L) {s : Nat} (hs1 : 1 ≤ s) (hs : s ≤ 40000000) {lo hi : Nat} {v : Value} {T : List Mx} (W : World) (h : MsE lo hi v T W) (i : T.map (·.m) = L) :
  Calls Tryz.prog 38 #[v, .int .i64 (s : Int)] W fun e w' => e = .returned (.int .i64 (mkS s T)) ∧ MsE lo hi v (mkTe s T) w' ∧ Chg lo hi W w' := by
 rcases h with h | ⟨rfl, a, c, rfl, hc⟩
 ·
  exact (markMsN hL hs1 hs W h i).mono fun e w' ⟨h1, h2, h3⟩ => ⟨h1, .inl h2, h3⟩
 ·
  refine (mark0 a c s W).mono ?_
  rintro e w' ⟨rfl, rfl⟩
  rw [mkTe_nil, mkS_nil]
  exact ⟨rfl, .inr ⟨rfl, a, c, rfl, hc⟩, ⟨rfl, rfl, rfl, Nat.le_refl _, fun _ _ _ => rfl⟩⟩
theorem heldMsE {L : List Ms} (hL : Few L) {s : Nat} (hs1 : 1 ≤ s) (hs : s ≤ 40000000) {lo hi : Nat} {v : Value} {T : List Mx} (W : World) (h : MsE lo hi v (mkTe s T) W) (i : T.map (·.m) = L) :
  Calls Tryz.prog 40 #[v, .int .i64 (s : Int)] W fun e w' => e = .returned (.int .i64 (mkS s T)) ∧ Below W.heap.size W w' :=
 heldMsS s hs1 v T (few_cTs hL i hs) W h.got (hL.each i) (by have := hL.len i; omega)
def MgF (lo hi : Nat) (v : Value) (l : List ByteArray) (W : World) : Prop := HasX W lo v l ∧ ∀ k, v.ownBlock = some k → k < hi
theorem Liv.mg {W : World} {lo hi : Nat} {v : Value} {l : List ByteArray} (h : MgF lo hi v l W) (ht : hi ≤ W.heap.size) : Liv lo hi (MgF lo hi v l) W :=
 ⟨h, ht, fun W' hW _ => ⟨h.1.off fun k hk => hW k (h.1.from k hk) (h.2 k hk), h.2⟩⟩
theorem Liv.newMg {W : World} {lo : Nat} {v : Value} {l : List ByteArray} (h : HasX W lo v l) : Liv lo W.heap.size (MgF lo W.heap.size v l) W := Liv.mg ⟨h, h.under⟩ (Nat.le_refl _)
theorem markMg {s : Nat} (hs1 : 1 ≤ s) (hs : s ≤ 50000000) {lo hi : Nat} {m : Ms} {a : Option Addr} {c : Nat} (W : World) (h : MgF lo hi (.slice a m.l.length c) m.l W) (hl : m.l.length ≤ 1048576) :
  Calls Tryz.prog 37 #[msA m (.slice a m.l.length c), .int .i64 (s : Int)] W fun e w' => (∃ z : Int, e = .returned (.int .i64 z) ∧ ¬ z < 0) ∧ Chg lo hi W w' := by
 have HH : Hid (MgF lo hi (.slice a m.l.length c) m.l W) := h
 have jm := fun W' (hW : Below W.heap.size W W') => markTxt s hs1 hs (.slice a m.l.length c) m.l lo W' (HH.out.1.kept hW) hl
 unfold msA
 obtain ⟨k, f, t, v, la, l, cc⟩ := m
 simp only at jm HH ⊢
 clear h
 go_enter Tryz.func37, Tryz.ntmps37
 go_wp2_with fail
 refine (jm _ ((Below.refl _ W).alloc (Nat.le_refl _) _)).mono ?_
 rintro e w1 ⟨rfl, _, hg⟩
 have hlt : ∀ k, (Value.slice a l.length c).ownBlock = some k → k < W.heap.size := HH.out.1.under
 have hfr : ∀ k, (Value.slice a l.length c).ownBlock = some k → lo ≤ k := HH.out.1.from
 have C1 : Hid (Chg lo hi W w1) := (show Hid _ from ⟨hg.os, hg.tape, hg.output, by have := hg.size; simp at this; omega, fun q hk hn => by
  have e : (W.alloc (.cells #[.int .i64 k, .int .i64 f, .int .i64 t, .int .i64 v, .int .i64 la, .slice a l.length c, .int .i64 cc] 30)).heap[q]? = W.heap[q]? := ((Below.refl _ W).alloc (Nat.le_refl _) _).block q hk
  rw [← e]
  exact hg.block q (by simp; omega) (fun e => by
   have h1 := hfr q e.symm
   have h2 := HH.out.2 q e.symm
   omega)⟩)
 clear hg hlt hfr jm
 go_wp2
 go_ret
 exact ⟨⟨_, rfl, by omega⟩, C1.out⟩
theorem rcv_few {r : Rp} {m : Ms} (h : RpOk r) : Few (rcvF r m).2 := by
 unfold rcvF
 split
 ·
  exact few_nil
 ·
  rename_i hh
  have hm : MsOk m r.p := Classical.byContradiction fun e => hh (.inl e)
  split
  ·
   unfold rcvL
   split
   ·
    exact ⟨by simp, fun q hq => by rw [List.mem_singleton.1 hq]; simp⟩
   ·
    exact few_nil
  ·
   split
   ·
    unfold rcvO
    split <;> exact few_nil
   ·
    have ht : m.t = r.id := Classical.byContradiction fun e => hh (.inr (.inl e))
    have hk := hm.k
    unfold rcvC
    split
    ·
     exact few_nil
    ·
     rename_i hz
     have ha : Kp r (if r.v < m.v then askF r m.v else r) := by
      split
      ·
       rename_i hv
       exact ask_kp h hv hm.v.2
      ·
       exact Kp.refl h
     simp only
     generalize (if r.v < m.v then askF r m.v else r) = a at ha ⊢
     split
     ·
      exact few_nil
     ·
      rename_i hy
      have hn : a.n = false := by
       cases e : a.n with
       | false => rfl
       | true => exact absurd (Or.inr e) hy
      have hv : m.v = a.v := Classical.byContradiction fun e => hy (.inl e)
      have hb := ch_kp ha.ok hn (q := m.f) (by rw [ha.p]; exact hm.f)
      split
      ·
       rename_i h4
       have hmine : mine { a with ch := Sk.put m.f a.ch } := by
        show a.v % a.p = a.id
        rw [← hv, ha.p, ha.id]
        exact Classical.byContradiction fun e => hz ⟨h4, e⟩
       have hte : TeOk m { a with ch := Sk.put m.f a.ch } := ⟨h4, by show m.t = a.id; rw [ha.id]; exact ht, hv, by show MsOk m a.p; rw [ha.p]; exact hm⟩
       have hs := told_kp (te_kp hb.ok hn hmine hte).ok
       split
       ·
        exact sprL_few hs.ok
       ·
        exact few_nil
      ·
       split
       ·
        exact sprL_few (told_kp hb.ok).ok
       ·
        exact few_nil
theorem rcvA_fit (r : Rp) (m : Ms) : (Fit (Fr.rcvA r m).1 ∧ 1 + cR (Fr.rcvA r m).1 ≤ 40000000) ∧ Few (Fr.rcvA r m).2 := by
 by_cases h : RpOk r
 ·
  have e : Fr.rcvA r m = rcvF r m := by unfold Fr.rcvA; exact if_pos h
  rw [e]
  exact ⟨rp_fit (rcv_kp h).1.ok, rcv_few h⟩
 ·
  have e : Fr.rcvA r m = (noRp, []) := by unfold Fr.rcvA; exact if_neg h
  rw [e]
  exact ⟨⟨noRp_fit.1, by decide⟩, few_nil⟩
theorem RcvAns.open {r : Rp} {m : Ms} {R : Rp} {L : List Ms} (hP : Fr.rcvA r m = (R, L)) {w w' : World} {e : Ending} (h : Fr.RcvAns r m w e w') : ∃ pl0 ql0 po0 qo0 pc0 qc0 pt0 qt0 M0 v T C, e = .returned (.tuple #[.agg #[.int .i64 R.id, .int .i64 R.p, .int .i64 R.v, .bool R.n, .int .i64 R.la, .slice pl0 R.l.length ql0, .int .i64 R.c, .slice po0 R.ok.length qo0, .slice pc0 R.ch.length qc0, .slice pt0 R.te.length qt0], v]) ∧ RpHas w' w.heap.size ⟨.slice pl0 R.l.length ql0, .slice po0 R.ok.length qo0, .slice pc0 R.ch.length qc0, .slice pt0 R.te.length qt0, M0⟩ R ∧ RpAp ⟨.slice pl0 R.l.length ql0, .slice po0 R.ok.length qo0, .slice pc0 R.ch.length qc0, .slice pt0 R.te.length qt0, M0⟩ ∧ (∀ x ∈ Rv.rows ⟨.slice pl0 R.l.length ql0, .slice po0 R.ok.length qo0, .slice pc0 R.ch.length qc0, .slice pt0 R.te.length qt0, M0⟩, ∀ k, x.ownBlock = some k → k < C) ∧ (w.heap.size ≤ C ∧ C ≤ w'.heap.size) ∧ Fr.MsG w' C v T L ∧ Below w.heap.size w w' := by
 obtain ⟨u, v, T, h1, h2⟩ := h
 rw [hP] at h1 h2
 obtain ⟨C, c1, c2, c3, c4⟩ := h2.m
 have hh := h2.h
 have ha := h2.a
 have hb := h2.b
 obtain ⟨a, b, c, d, e', f, g, i, M, rfl⟩ := hh.got.form
 exact ⟨a, b, c, d, e', f, g, i, M, v, T, C, h1, hh, ha, c1, ⟨c2, c3⟩, c4, hb⟩
open Go.RowKit Go.Sort Pg

theorem toMs7 (m : Ms) (u : Value) (w : World) (h : Sls txtE w u m.l) (hl : m.l.length ≤ 1048576) :
  Calls Tryz.prog 32 #[msA m u] w fun e w' => ∃ p q, e = .returned (.agg #[.int .i64 m.k, .int .i64 m.f, .int .i64 m.t, .int .i64 m.v, .int .i64 m.la, .slice p m.l.length q, .int .i64 m.c]) ∧ HasX w' w.heap.size (.slice p m.l.length q) m.l ∧ Below w.heap.size w w' :=
 (toMs m u w h hl).mono fun e w' ⟨u', h1, h2, h3⟩ => by
  obtain ⟨p, q, rfl, _⟩ := h2.form
  exact ⟨p, q, h1, h2.has, h3⟩
theorem Tryz.rszLR : (Tryz.prog.info? 53).map (·.size) = some 10 := by kernel_rfl
theorem Tryz.rszLM : (Tryz.prog.info? 54).map (·.size) = some 7 := by kernel_rfl
theorem ldGL {ops : Array Oper} {o : Oper} {a : Act} {w : World} {K : Act → World → Prop} {Q : Exit → Act → World → Prop} {E : Prop} (hw : Region.wanted o (yielded ops a.tmps) = true) (x : Operand) (ho : o.op = .load 53 x) (b : Nat) (hx : a.eval x = .pointer (some ⟨b, 0, none⟩)) {vs : Array Value} (hB : Bx w b 53 vs) (hs : vs.size = 10)
  (h : K (a.put o.dst (.agg vs)) w) : if Region.wanted o (yielded ops a.tmps) = true then Oper.wp Tryz.prog o a w K Q else E := by
 rw [if_pos hw]
 exact wp_load_row _ x ho b hx _ vs (0, 0) _ hB Tryz.underlying53 rfl (by rw [Tryz.rszLR, hs]) h
theorem ldGLM {ops : Array Oper} {o : Oper} {a : Act} {w : World} {K : Act → World → Prop} {Q : Exit → Act → World → Prop} {E : Prop} (hw : Region.wanted o (yielded ops a.tmps) = true) (x : Operand) (ho : o.op = .load 54 x) (b : Nat) (hx : a.eval x = .pointer (some ⟨b, 0, none⟩)) {vs : Array Value} (hB : Bx w b 54 vs) (hs : vs.size = 7)
  (h : K (a.put o.dst (.agg vs)) w) : if Region.wanted o (yielded ops a.tmps) = true then Oper.wp Tryz.prog o a w K Q else E := by
 rw [if_pos hw]
 exact wp_load_row _ x ho b hx _ vs (0, 0) _ hB Tryz.underlying54 rfl (by rw [Tryz.rszLM, hs]) h
structure SRa (r : Rp) (m : Ms) (R : Rp) (L : List Ms) (w1 : World) (listed : Array Bool) (t : Nat → Value) (x : World) : Prop where
 b : Below w1.heap.size w1 x
 cp : t 29 ≠ undef → t 32 = undef → ∃ u, t 29 = rpA r u ∧ RpGot x u r
 cm : t 31 ≠ undef → t 32 = undef → ∃ a c, t 31 = .agg (mxV ⟨m, a, c⟩) ∧ Sls txtE x (.slice a m.l.length c) m.l
 al : t 6 ≠ undef → ∃ gb old, t 6 = .pointer (some ⟨gb, 0, none⟩) ∧ w1.heap.size ≤ gb ∧ Bx x gb 28 old ∧ old.size = 10
 rc : t 32 ≠ undef → ∃ u' v T C lo hi, t 32 = .tuple #[rpA R u', v] ∧ Liv lo C (RpF lo C u' R) x ∧ RpAp u' ∧ (w1.heap.size ≤ lo ∧ lo ≤ C ∧ C ≤ hi) ∧ Liv C hi (MsE C hi v T) x ∧ T.map (·.m) = L ∧ (∀ gb, t 6 = .pointer (some ⟨gb, 0, none⟩) → gb < lo ∨ hi ≤ gb) ∧ (t 27 ≠ undef → t 27 = .tuple #[rpA R u', v]) ∧ (t 33 ≠ undef → t 33 = rpA R u') ∧ (listed.getD 7 false = true → t 34 = v) ∧ (listed.getD 9 false = true → ∃ gb, t 6 = .pointer (some ⟨gb, 0, none⟩) ∧ w1.heap.size ≤ gb ∧ Bx x gb 28 (rpC R u'))
 s4 : t 32 ≠ undef → listed.getD 4 false = true
 u5 : t 32 = undef → t 27 = undef
 u6 : t 27 = undef → t 33 = undef
def frRa (s t : Nat → Value) : Act := { tmps := #[s 0, s 1, s 2, s 3, s 4, s 5, t 6, s 7, s 8, s 9, s 10, s 11, s 12, s 13, s 14, s 15, s 16, s 17, s 18, s 19, s 20, s 21, s 22, s 23, s 24, s 25, s 26, t 27, t 28, t 29, t 30, t 31, t 32, t 33, t 34, s 35, s 36, s 37, s 38, s 39, s 40, s 41, s 42, s 43, s 44, s 45, s 46, s 47, s 48, s 49, s 50, s 51, s 52, s 53, s 54, s 55, s 56, s 57, s 58, s 59, s 60, s 61, s 62, s 63, s 64, s 65, s 66, s 67, s 68, s 69, s 70, s 71, s 72, s 73, s 74, s 75, s 76, s 77, s 78, s 79, s 80, s 81, s 82, s 83, s 84, s 85, s 86, s 87, s 88, s 89, s 90, s 91, s 92, s 93, s 94, s 95, s 96, s 97, s 98, s 99, s 100, s 101, s 102, s 103, s 104, s 105, s 106, s 107, s 108, s 109, s 110, s 111, s 112, s 113, s 114, s 115, s 116, s 117, s 118, s 119, s 120, s 121, s 122, s 123, s 124, s 125, s 126, s 127, s 128, s 129, s 130, s 131, s 132, s 133, s 134], defers := [] }
def dRa (i : Nat) : Nat := ([28, 29, 30, 31, 32, 27, 33, 34, 6, 100009] : List Nat).getD i (i + 5000)
theorem dRa_ne {i j : Nat} (hi : i < 10) (hj : j < 10) (h : j ≠ i) : dRa j ≠ dRa i := slotsNe (L := [28, 29, 30, 31, 32, 27, 33, 34, 6, 100009]) (by decide) rfl hi hj h
def GRa (A0 M0 : Array Value) (i : Nat) (x : World) (v : Value) : Prop := match i with
 | 0 => v = .agg A0
 | 1 => v ≠ undef
 | 2 => v = .agg M0
 | 3 => v ≠ undef
 | 4 => v ≠ undef
 | 5 => v ≠ undef
 | 6 => v ≠ undef
 | 8 => v ≠ undef
 | _ => True
variable {r : Rp} {m : Ms} {R : Rp} {L : List Ms} {w1 : World} {listed : Array Bool} {t : Nat → Value} {x y : World}
theorem SRa.init (b : Below w1.heap.size w1 x) (l : Array Bool) : SRa r m R L w1 l (fun _ => undef) x :=
 ⟨b, fun h => absurd rfl h, fun h => absurd rfl h, fun h => absurd rfl h, fun h => absurd rfl h, fun h => absurd rfl h, fun _ => rfl, fun _ => rfl⟩
theorem SRa.kept (h : SRa r m R L w1 listed t x) (hb : Below x.heap.size x y) : SRa r m R L w1 listed t y :=
 ⟨h.b.trans (hb.mono h.b.size), fun a c => by
  obtain ⟨u, e, k⟩ := h.cp a c
  exact ⟨u, e, k.kept hb⟩, fun a c => by
  obtain ⟨q1, q2, e, k⟩ := h.cm a c
  exact ⟨q1, q2, e, k.kept hb⟩, fun a => by
  obtain ⟨gb, old, e, k1, k2, k3⟩ := h.al a
  exact ⟨gb, old, e, k1, k2.kept hb, k3⟩, fun a => by
  obtain ⟨u', v, T, C, lo, hi, k1, k2, k3, k4, k5, k6, k7, k8, k9, k10, k11⟩ := h.rc a
  exact ⟨u', v, T, C, lo, hi, k1, k2.kept hb, k3, k4, k5.kept hb, k6, k7, k8, k9, k10, fun l => by
   obtain ⟨gb, e1, e2, e3⟩ := k11 l
   exact ⟨gb, e1, e2, e3.kept hb⟩⟩, h.s4, h.u5, h.u6⟩
theorem SRa.idle (h : SRa r m R L w1 listed t x) {i d : Nat} {v : Value} (h4 : i ≠ 4) (h7 : i ≠ 7) (h9 : i ≠ 9) (d1 : 29 ≠ d) (d3 : 31 ≠ d) (d4 : 32 ≠ d) (d5 : 27 ≠ d) (d6 : 33 ≠ d) (d7 : 34 ≠ d) (d8 : 6 ≠ d) : SRa r m R L w1 (listed.setIfInBounds i true) (updH t d v) x := by
 refine ⟨h.b, ?_, ?_, ?_, ?_, ?_, ?_, ?_⟩
 ·
  rw [updH_other _ _ d1, updH_other _ _ d4]; exact h.cp
 ·
  rw [updH_other _ _ d3, updH_other _ _ d4]; exact h.cm
 ·
  rw [updH_other _ _ d8]; exact h.al
 ·
  rw [updH_other _ _ d4, updH_other _ _ d5, updH_other _ _ d6, updH_other _ _ d7, updH_other _ _ d8, getD_set_ne false h7, getD_set_ne false h9]; exact h.rc
 ·
  rw [updH_other _ _ d4, getD_set_ne false h4]; exact h.s4
 ·
  rw [updH_other _ _ d4, updH_other _ _ d5]; exact h.u5
 ·
  rw [updH_other _ _ d5, updH_other _ _ d6]; exact h.u6
theorem SRa.to1 (h : SRa r m R L w1 listed t x) (h4 : t 32 = undef) (hb : Below x.heap.size x y) {u : Rv} (hu : RpGot y u r) : SRa r m R L w1 (listed.setIfInBounds 1 true) (updH t 29 (rpA r u)) y := by
 have k := h.kept hb
 refine ⟨k.b, fun _ _ => ⟨u, updH_same _ _ _, hu⟩, ?_, ?_, fun a => ?_, fun a => ?_, ?_, ?_⟩
 ·
  rw [updH_other _ _ (by decide), updH_other _ _ (by decide)]; exact k.cm
 ·
  rw [updH_other _ _ (by decide)]; exact k.al
 ·
  rw [updH_other _ _ (by decide)] at a; exact absurd h4 a
 ·
  rw [updH_other _ _ (by decide)] at a; exact absurd h4 a
 ·
  rw [updH_other _ _ (by decide), updH_other _ _ (by decide)]; exact k.u5
 ·
  rw [updH_other _ _ (by decide), updH_other _ _ (by decide)]; exact k.u6
theorem SRa.to3 (h : SRa r m R L w1 listed t x) (h4 : t 32 = undef) (hb : Below x.heap.size x y) {a : Option Addr} {c : Nat} (hu : Sls txtE y (.slice a m.l.length c) m.l) : SRa r m R L w1 (listed.setIfInBounds 3 true) (updH t 31 (.agg (mxV ⟨m, a, c⟩))) y := by
 have k := h.kept hb
 refine ⟨k.b, ?_, fun _ _ => ⟨a, c, updH_same _ _ _, hu⟩, ?_, fun a => ?_, fun a => ?_, ?_, ?_⟩
 ·
  rw [updH_other _ _ (by decide), updH_other _ _ (by decide)]; exact k.cp
 ·
  rw [updH_other _ _ (by decide)]; exact k.al
 ·
  rw [updH_other _ _ (by decide)] at a; exact absurd h4 a
 ·
  rw [updH_other _ _ (by decide)] at a; exact absurd h4 a
 ·
  rw [updH_other _ _ (by decide), updH_other _ _ (by decide)]; exact k.u5
 ·
  rw [updH_other _ _ (by decide), updH_other _ _ (by decide)]; exact k.u6
theorem SRa.call (h : SRa r m R L w1 listed t x) (hsz : listed.size = 11) (h4 : t 32 = undef) (l7 : listed.getD 7 false = false) (l9 : listed.getD 9 false = false) {u' : Rv} {v : Value} {T : List Mx} {C : Nat}
  (hb : Below x.heap.size x y) (ho : RpHas y x.heap.size u' R) (ha : RpAp u') (hu : ∀ z ∈ u'.rows, ∀ k, z.ownBlock = some k → k < C) (hc : x.heap.size ≤ C ∧ C ≤ y.heap.size) (hm : Fr.MsG y C v T L) :
  SRa r m R L w1 (listed.setIfInBounds 4 true) (updH t 32 (.tuple #[rpA R u', v])) y := by
 have k := h.kept hb
 have n5 := h.u5 h4
 have n6 := h.u6 n5
 refine ⟨k.b, fun _ a => ?_, fun _ a => ?_, ?_, fun _ => ⟨u', v, T, C, x.heap.size, y.heap.size, updH_same _ _ _, Liv.rp ho hu hc.2, ha, ⟨h.b.size, hc.1, hc.2⟩, Liv.mse (MsE.of hm) (Nat.le_refl _), MsG_is hm, fun gb e => ?_, fun a => ?_, fun a => ?_, fun a => ?_, fun a => ?_⟩, fun _ => ?_, fun a => ?_, ?_⟩
 ·
  rw [updH_same] at a; cases a
 ·
  rw [updH_same] at a; cases a
 ·
  rw [updH_other _ _ (by decide)]; exact k.al
 ·
  rw [updH_other _ _ (by decide)] at e
  obtain ⟨g2, old, e1, e2, e3, _⟩ := h.al (by rw [e]; intro q; cases q)
  rw [e] at e1
  cases e1
  exact .inl (Bx.lt e3)
 ·
  rw [updH_other _ _ (by decide)] at a; exact absurd n5 a
 ·
  rw [updH_other _ _ (by decide)] at a; exact absurd n6 a
 ·
  rw [getD_set_ne false (by decide), l7] at a; cases a
 ·
  rw [getD_set_ne false (by decide), l9] at a; cases a
 ·
  rw [Fr.getD_set_at hsz]; rfl
 ·
  rw [updH_same] at a; cases a
 ·
  rw [updH_other _ _ (by decide), updH_other _ _ (by decide)]; exact k.u6
theorem SRa.mv5 (h : SRa r m R L w1 listed t x) (h4 : t 32 ≠ undef) : t 32 ≠ undef ∧ SRa r m R L w1 (listed.setIfInBounds 5 true) (updH t 27 (t 32)) x := by
 refine ⟨h4, h.b, ?_, ?_, ?_, fun a => ?_, ?_, fun a => ?_, fun a => ?_⟩
 ·
  rw [updH_other _ _ (by decide), updH_other _ _ (by decide)]; exact h.cp
 ·
  rw [updH_other _ _ (by decide), updH_other _ _ (by decide)]; exact h.cm
 ·
  rw [updH_other _ _ (by decide)]; exact h.al
 ·
  rw [updH_other _ _ (by decide)] at a ⊢
  rw [updH_same, updH_other _ _ (by decide), updH_other _ _ (by decide), updH_other _ _ (by decide), getD_set_ne false (by decide), getD_set_ne false (by decide)]
  obtain ⟨u', v, T, C, lo, hi, k1, k2, k3, k4, k5, k6, k7, k8, k9, k10, k11⟩ := h.rc a
  exact ⟨u', v, T, C, lo, hi, k1, k2, k3, k4, k5, k6, k7, fun _ => k1, k9, k10, k11⟩
 ·
  rw [updH_other _ _ (by decide), getD_set_ne false (by decide)]; exact h.s4
 ·
  rw [updH_other _ _ (by decide)] at a; exact absurd a h4
 ·
  rw [updH_same] at a; exact absurd a h4
theorem SRa.ex6 (h : SRa r m R L w1 listed t x) (h5 : t 27 ≠ undef) : ∃ V v, t 27 = .tuple #[V, v] ∧ V ≠ undef ∧ SRa r m R L w1 (listed.setIfInBounds 6 true) (updH t 33 V) x := by
 have h4 : t 32 ≠ undef := fun e => h5 (h.u5 e)
 obtain ⟨u', v, T, C, lo, hi, k1, k2, k3, k4, k5, k6, k7, k8, k9, k10, k11⟩ := h.rc h4
 refine ⟨_, _, k8 h5, (by intro q; cases q), h.b, ?_, ?_, ?_, fun a => ?_, ?_, ?_, fun a => ?_⟩
 ·
  rw [updH_other _ _ (by decide), updH_other _ _ (by decide)]; exact h.cp
 ·
  rw [updH_other _ _ (by decide), updH_other _ _ (by decide)]; exact h.cm
 ·
  rw [updH_other _ _ (by decide)]; exact h.al
 ·
  rw [updH_other _ _ (by decide)] at a ⊢
  rw [updH_same, updH_other _ _ (by decide), updH_other _ _ (by decide), updH_other _ _ (by decide), getD_set_ne false (by decide), getD_set_ne false (by decide)]
  exact ⟨u', v, T, C, lo, hi, k1, k2, k3, k4, k5, k6, k7, k8, fun _ => rfl, k10, k11⟩
 ·
  rw [updH_other _ _ (by decide), getD_set_ne false (by decide)]; exact h.s4
 ·
  rw [updH_other _ _ (by decide), updH_other _ _ (by decide)]; exact h.u5
 ·
  rw [updH_other _ _ (by decide)] at a; exact absurd a h5
theorem SRa.ex7 (h : SRa r m R L w1 listed t x) (h5 : t 27 ≠ undef) : ∃ V v, t 27 = .tuple #[V, v] ∧ SRa r m R L w1 (listed.setIfInBounds 7 true) (updH t 34 v) x := by
 have h4 : t 32 ≠ undef := fun e => h5 (h.u5 e)
 obtain ⟨u', v, T, C, lo, hi, k1, k2, k3, k4, k5, k6, k7, k8, k9, k10, k11⟩ := h.rc h4
 refine ⟨_, _, k8 h5, h.b, ?_, ?_, ?_, fun a => ?_, ?_, ?_, ?_⟩
 ·
  rw [updH_other _ _ (by decide), updH_other _ _ (by decide)]; exact h.cp
 ·
  rw [updH_other _ _ (by decide), updH_other _ _ (by decide)]; exact h.cm
 ·
  rw [updH_other _ _ (by decide)]; exact h.al
 ·
  rw [updH_other _ _ (by decide)] at a ⊢
  have e9 : (listed.setIfInBounds 7 true).getD 9 false = listed.getD 9 false := getD_set_ne false (by decide)
  rw [updH_same, updH_other _ _ (by decide), updH_other _ _ (by decide), updH_other _ _ (by decide), e9]
  exact ⟨u', v, T, C, lo, hi, k1, k2, k3, k4, k5, k6, k7, k8, k9, fun _ => rfl, k11⟩
 ·
  rw [updH_other _ _ (by decide), getD_set_ne false (by decide)]; exact h.s4
 ·
  rw [updH_other _ _ (by decide), updH_other _ _ (by decide)]; exact h.u5
 ·
  rw [updH_other _ _ (by decide), updH_other _ _ (by decide)]; exact h.u6
theorem SRa.al8 (h : SRa r m R L w1 listed t x) (l9 : listed.getD 9 false = false) {zs : Array Value} (hz : zs.size = 10) : SRa r m R L w1 (listed.setIfInBounds 8 true) (updH t 6 (.pointer (some ⟨x.heap.size, 0, none⟩))) (x.alloc (.cells zs 28)) := by
 have k := h.kept ((Below.refl x.heap.size x).alloc (Nat.le_refl _) (.cells zs 28))
 refine ⟨k.b, ?_, ?_, fun _ => ⟨x.heap.size, zs, updH_same _ _ _, h.b.size, Bx.new _ _ _, hz⟩, fun a => ?_, ?_, ?_, ?_⟩
 ·
  rw [updH_other _ _ (by decide), updH_other _ _ (by decide)]; exact k.cp
 ·
  rw [updH_other _ _ (by decide), updH_other _ _ (by decide)]; exact k.cm
 ·
  rw [updH_other _ _ (by decide)] at a ⊢
  rw [updH_same, updH_other _ _ (by decide), updH_other _ _ (by decide), updH_other _ _ (by decide), getD_set_ne false (by decide), getD_set_ne false (by decide)]
  obtain ⟨u', v, T, C, lo, hi, _, _, _, _, q5, _⟩ := h.rc a
  obtain ⟨u', v, T, C, lo, hi, k1, k2, k3, k4, k5, k6, k7, k8, k9, k10, k11⟩ := h.rc a
  have hb := (Below.refl x.heap.size x).alloc (Nat.le_refl _) (.cells zs 28)
  refine ⟨u', v, T, C, lo, hi, k1, k2.kept hb, k3, k4, k5.kept hb, k6, fun gb e => ?_, k8, k9, k10, fun e => by rw [l9] at e; cases e⟩
  injection e with e
  injection e with e
  injection e with e
  subst e
  exact .inr k5.top
 ·
  rw [updH_other _ _ (by decide), getD_set_ne false (by decide)]; exact k.s4
 ·
  rw [updH_other _ _ (by decide), updH_other _ _ (by decide)]; exact k.u5
 ·
  rw [updH_other _ _ (by decide), updH_other _ _ (by decide)]; exact k.u6
theorem SRa.st9 (h : SRa r m R L w1 listed t x) (h6 : t 33 ≠ undef) (h8 : t 6 ≠ undef) : ∃ gb old u', t 6 = .pointer (some ⟨gb, 0, none⟩) ∧ t 33 = .agg (rpC R u') ∧ Bx x gb 28 old ∧ old.size = 10 ∧ RpGot x u' R ∧
  ∀ (W : World) (d : Nat) (v : Value), Bx W gb 28 (rpC R u') → ChS (fun k => k = gb) x W → 29 ≠ d → 31 ≠ d → 32 ≠ d → 27 ≠ d → 33 ≠ d → 34 ≠ d → 6 ≠ d → SRa r m R L w1 (listed.setIfInBounds 9 true) (updH t d v) W := by
 have h5 : t 27 ≠ undef := fun e => h6 (h.u6 e)
 have h4 : t 32 ≠ undef := fun e => h5 (h.u5 e)
 obtain ⟨u', v, T, C, lo, hi, k1, k2, k3, k4, k5, k6, k7, k8, k9, k10, k11⟩ := h.rc h4
 obtain ⟨gb, old, g1, g2, g3, g4⟩ := h.al h8
 refine ⟨gb, old, u', g1, k9 h6, g3, g4, k2.now.1.got, fun W d v9 hW hc d1 d3 d4 d5 d6 d7 d8 => ?_⟩
 have hcg : Chg gb (gb + 1) x W := hc.chg (fun k e => by omega)
 have hd : gb < lo ∨ hi ≤ gb := k7 gb g1
 refine ⟨?_, fun _ a => ?_, fun _ a => ?_, fun _ => ⟨gb, _, by rw [updH_other _ _ d8]; exact g1, g2, hW, rpC_size R u'⟩, fun _ => ⟨u', v, T, C, lo, hi, by rw [updH_other _ _ d4]; exact k1, k2.off hcg (by omega), k3, k4, k5.off hcg (by omega), k6, by rw [updH_other _ _ d8]; exact k7, by rw [updH_other _ _ d5]; exact k8, by rw [updH_other _ _ d6]; exact k9, fun l => by
  rw [getD_set_ne false (by decide)] at l
  rw [updH_other _ _ d7]
  exact k10 l, fun _ => ⟨gb, by rw [updH_other _ _ d8]; exact g1, g2, hW⟩⟩, ?_, fun a => ?_, fun a => ?_⟩
 ·
  exact hc.below h.b h.b.size (fun k e => by omega)
 ·
  rw [updH_other _ _ d4] at a; exact absurd a h4
 ·
  rw [updH_other _ _ d4] at a; exact absurd a h4
 ·
  rw [updH_other _ _ d4, getD_set_ne false (by decide)]; exact h.s4
 ·
  rw [updH_other _ _ d4] at a; exact absurd a h4
 ·
  rw [updH_other _ _ d5] at a; exact absurd a h5
theorem SRa.fin (h : SRa r m R L w1 listed t x) (h4 : t 32 ≠ undef) (l7 : listed.getD 7 false = true) (l9 : listed.getD 9 false = true) : ∃ p1 d1 p2 d2 p3 d3 p4 d4 M v T C lo hi gb, t 34 = v ∧ t 6 = .pointer (some ⟨gb, 0, none⟩) ∧ Liv lo C (RpF lo C ⟨.slice p1 R.l.length d1, .slice p2 R.ok.length d2, .slice p3 R.ch.length d3, .slice p4 R.te.length d4, M⟩ R) x ∧ RpAp ⟨.slice p1 R.l.length d1, .slice p2 R.ok.length d2, .slice p3 R.ch.length d3, .slice p4 R.te.length d4, M⟩ ∧ Liv C hi (MsE C hi v T) x ∧ T.map (·.m) = L ∧ (w1.heap.size ≤ lo ∧ lo ≤ C ∧ C ≤ hi ∧ hi ≤ x.heap.size ∧ w1.heap.size ≤ gb ∧ gb + 1 ≤ x.heap.size) ∧
  Bx x gb 28 #[.int .i64 R.id, .int .i64 R.p, .int .i64 R.v, .bool R.n, .int .i64 R.la, .slice p1 R.l.length d1, .int .i64 R.c, .slice p2 R.ok.length d2, .slice p3 R.ch.length d3, .slice p4 R.te.length d4] ∧ Below w1.heap.size w1 x := by
 obtain ⟨u', v, T, C, lo, hi, k1, k2, k3, k4, k5, k6, k7, k8, k9, k10, k11⟩ := h.rc h4
 obtain ⟨gb, g1, g2, g3⟩ := k11 l9
 obtain ⟨p1, d1, p2, d2, p3, d3, p4, d4, M, rfl⟩ := k2.now.1.got.form
 exact ⟨p1, d1, p2, d2, p3, d3, p4, d4, M, v, T, C, lo, hi, gb, k10 l7, g1, k2, k3, k5, k6, ⟨k4.1, k4.2.1, k4.2.2, k5.top, g2, Bx.lt g3⟩, g3, h.b⟩
open Go.RowKit Go.Sort Pg

structure SRb (r : Rp) (m : Ms) (R : Rp) (L : List Ms) (w1 : World) (listed : Array Bool) (t : Nat → Value) (x : World) : Prop where
 b : Below w1.heap.size w1 x
 cp : t 106 ≠ undef → t 109 = undef → ∃ u, t 106 = rpA r u ∧ RpGot x u r
 cm : t 108 ≠ undef → t 109 = undef → ∃ a c, t 108 = .agg (mxV ⟨m, a, c⟩) ∧ Sls txtE x (.slice a m.l.length c) m.l
 al : t 15 ≠ undef → ∃ gb old, t 15 = .pointer (some ⟨gb, 0, none⟩) ∧ w1.heap.size ≤ gb ∧ Bx x gb 28 old ∧ old.size = 10
 rc : t 109 ≠ undef → ∃ u' v T C lo hi, t 109 = .tuple #[rpA R u', v] ∧ Liv lo C (RpF lo C u' R) x ∧ RpAp u' ∧ (w1.heap.size ≤ lo ∧ lo ≤ C ∧ C ≤ hi) ∧ Liv C hi (MsE C hi v T) x ∧ T.map (·.m) = L ∧ (∀ gb, t 15 = .pointer (some ⟨gb, 0, none⟩) → gb < lo ∨ hi ≤ gb) ∧ (t 104 ≠ undef → t 104 = .tuple #[rpA R u', v]) ∧ (t 110 ≠ undef → t 110 = rpA R u') ∧ (listed.getD 7 false = true → t 111 = v) ∧ (listed.getD 9 false = true → ∃ gb, t 15 = .pointer (some ⟨gb, 0, none⟩) ∧ w1.heap.size ≤ gb ∧ Bx x gb 28 (rpC R u'))
 s4 : t 109 ≠ undef → listed.getD 4 false = true
 u5 : t 109 = undef → t 104 = undef
 u6 : t 104 = undef → t 110 = undef
def frRb (s t : Nat → Value) : Act := { tmps := #[s 0, s 1, s 2, s 3, s 4, s 5, s 6, s 7, s 8, s 9, s 10, s 11, s 12, s 13, s 14, t 15, s 16, s 17, s 18, s 19, s 20, s 21, s 22, s 23, s 24, s 25, s 26, s 27, s 28, s 29, s 30, s 31, s 32, s 33, s 34, s 35, s 36, s 37, s 38, s 39, s 40, s 41, s 42, s 43, s 44, s 45, s 46, s 47, s 48, s 49, s 50, s 51, s 52, s 53, s 54, s 55, s 56, s 57, s 58, s 59, s 60, s 61, s 62, s 63, s 64, s 65, s 66, s 67, s 68, s 69, s 70, s 71, s 72, s 73, s 74, s 75, s 76, s 77, s 78, s 79, s 80, s 81, s 82, s 83, s 84, s 85, s 86, s 87, s 88, s 89, s 90, s 91, s 92, s 93, s 94, s 95, s 96, s 97, s 98, s 99, s 100, s 101, s 102, s 103, t 104, t 105, t 106, t 107, t 108, t 109, t 110, t 111, s 112, s 113, s 114, s 115, s 116, s 117, s 118, s 119, s 120, s 121, s 122, s 123, s 124, s 125, s 126, s 127, s 128, s 129, s 130, s 131, s 132, s 133, s 134], defers := [] }
def dRb (i : Nat) : Nat := ([105, 106, 107, 108, 109, 104, 110, 111, 15, 100009] : List Nat).getD i (i + 5000)
theorem dRb_ne {i j : Nat} (hi : i < 10) (hj : j < 10) (h : j ≠ i) : dRb j ≠ dRb i := slotsNe (L := [105, 106, 107, 108, 109, 104, 110, 111, 15, 100009]) (by decide) rfl hi hj h
def GRb (A0 M0 : Array Value) (i : Nat) (x : World) (v : Value) : Prop := match i with
 | 0 => v = .agg A0
 | 1 => v ≠ undef
 | 2 => v = .agg M0
 | 3 => v ≠ undef
 | 4 => v ≠ undef
 | 5 => v ≠ undef
 | 6 => v ≠ undef
 | 8 => v ≠ undef
 | _ => True
variable {r : Rp} {m : Ms} {R : Rp} {L : List Ms} {w1 : World} {listed : Array Bool} {t : Nat → Value} {x y : World}
theorem SRb.init (b : Below w1.heap.size w1 x) (l : Array Bool) : SRb r m R L w1 l (fun _ => undef) x :=
 ⟨b, fun h => absurd rfl h, fun h => absurd rfl h, fun h => absurd rfl h, fun h => absurd rfl h, fun h => absurd rfl h, fun _ => rfl, fun _ => rfl⟩
theorem SRb.kept (h : SRb r m R L w1 listed t x) (hb : Below x.heap.size x y) : SRb r m R L w1 listed t y :=
 ⟨h.b.trans (hb.mono h.b.size), fun a c => by
  obtain ⟨u, e, k⟩ := h.cp a c
  exact ⟨u, e, k.kept hb⟩, fun a c => by
  obtain ⟨q1, q2, e, k⟩ := h.cm a c
  exact ⟨q1, q2, e, k.kept hb⟩, fun a => by
  obtain ⟨gb, old, e, k1, k2, k3⟩ := h.al a
  exact ⟨gb, old, e, k1, k2.kept hb, k3⟩, fun a => by
  obtain ⟨u', v, T, C, lo, hi, k1, k2, k3, k4, k5, k6, k7, k8, k9, k10, k11⟩ := h.rc a
  exact ⟨u', v, T, C, lo, hi, k1, k2.kept hb, k3, k4, k5.kept hb, k6, k7, k8, k9, k10, fun l => by
   obtain ⟨gb, e1, e2, e3⟩ := k11 l
   exact ⟨gb, e1, e2, e3.kept hb⟩⟩, h.s4, h.u5, h.u6⟩
theorem SRb.idle (h : SRb r m R L w1 listed t x) {i d : Nat} {v : Value} (h4 : i ≠ 4) (h7 : i ≠ 7) (h9 : i ≠ 9) (d1 : 106 ≠ d) (d3 : 108 ≠ d) (d4 : 109 ≠ d) (d5 : 104 ≠ d) (d6 : 110 ≠ d) (d7 : 111 ≠ d) (d8 : 15 ≠ d) : SRb r m R L w1 (listed.setIfInBounds i true) (updH t d v) x := by
 refine ⟨h.b, ?_, ?_, ?_, ?_, ?_, ?_, ?_⟩
 ·
  rw [updH_other _ _ d1, updH_other _ _ d4]; exact h.cp
 ·
  rw [updH_other _ _ d3, updH_other _ _ d4]; exact h.cm
 ·
  rw [updH_other _ _ d8]; exact h.al
 ·
  rw [updH_other _ _ d4, updH_other _ _ d5, updH_other _ _ d6, updH_other _ _ d7, updH_other _ _ d8, getD_set_ne false h7, getD_set_ne false h9]; exact h.rc
 ·
  rw [updH_other _ _ d4, getD_set_ne false h4]; exact h.s4
 ·
  rw [updH_other _ _ d4, updH_other _ _ d5]; exact h.u5
 ·
  rw [updH_other _ _ d5, updH_other _ _ d6]; exact h.u6
theorem SRb.to1 (h : SRb r m R L w1 listed t x) (h4 : t 109 = undef) (hb : Below x.heap.size x y) {u : Rv} (hu : RpGot y u r) : SRb r m R L w1 (listed.setIfInBounds 1 true) (updH t 106 (rpA r u)) y := by
 have k := h.kept hb
 refine ⟨k.b, fun _ _ => ⟨u, updH_same _ _ _, hu⟩, ?_, ?_, fun a => ?_, fun a => ?_, ?_, ?_⟩
 ·
  rw [updH_other _ _ (by decide), updH_other _ _ (by decide)]; exact k.cm
 ·
  rw [updH_other _ _ (by decide)]; exact k.al
 ·
  rw [updH_other _ _ (by decide)] at a; exact absurd h4 a
 ·
  rw [updH_other _ _ (by decide)] at a; exact absurd h4 a
 ·
  rw [updH_other _ _ (by decide), updH_other _ _ (by decide)]; exact k.u5
 ·
  rw [updH_other _ _ (by decide), updH_other _ _ (by decide)]; exact k.u6
theorem SRb.to3 (h : SRb r m R L w1 listed t x) (h4 : t 109 = undef) (hb : Below x.heap.size x y) {a : Option Addr} {c : Nat} (hu : Sls txtE y (.slice a m.l.length c) m.l) : SRb r m R L w1 (listed.setIfInBounds 3 true) (updH t 108 (.agg (mxV ⟨m, a, c⟩))) y := by
 have k := h.kept hb
 refine ⟨k.b, ?_, fun _ _ => ⟨a, c, updH_same _ _ _, hu⟩, ?_, fun a => ?_, fun a => ?_, ?_, ?_⟩
 ·
  rw [updH_other _ _ (by decide), updH_other _ _ (by decide)]; exact k.cp
 ·
  rw [updH_other _ _ (by decide)]; exact k.al
 ·
  rw [updH_other _ _ (by decide)] at a; exact absurd h4 a
 ·
  rw [updH_other _ _ (by decide)] at a; exact absurd h4 a
 ·
  rw [updH_other _ _ (by decide), updH_other _ _ (by decide)]; exact k.u5
 ·
  rw [updH_other _ _ (by decide), updH_other _ _ (by decide)]; exact k.u6
theorem SRb.call (h : SRb r m R L w1 listed t x) (hsz : listed.size = 11) (h4 : t 109 = undef) (l7 : listed.getD 7 false = false) (l9 : listed.getD 9 false = false) {u' : Rv} {v : Value} {T : List Mx} {C : Nat}
  (hb : Below x.heap.size x y) (ho : RpHas y x.heap.size u' R) (ha : RpAp u') (hu : ∀ z ∈ u'.rows, ∀ k, z.ownBlock = some k → k < C) (hc : x.heap.size ≤ C ∧ C ≤ y.heap.size) (hm : Fr.MsG y C v T L) :
  SRb r m R L w1 (listed.setIfInBounds 4 true) (updH t 109 (.tuple #[rpA R u', v])) y := by
 have k := h.kept hb
 have n5 := h.u5 h4
 have n6 := h.u6 n5
 refine ⟨k.b, fun _ a => ?_, fun _ a => ?_, ?_, fun _ => ⟨u', v, T, C, x.heap.size, y.heap.size, updH_same _ _ _, Liv.rp ho hu hc.2, ha, ⟨h.b.size, hc.1, hc.2⟩, Liv.mse (MsE.of hm) (Nat.le_refl _), MsG_is hm, fun gb e => ?_, fun a => ?_, fun a => ?_, fun a => ?_, fun a => ?_⟩, fun _ => ?_, fun a => ?_, ?_⟩
 ·
  rw [updH_same] at a; cases a
 ·
  rw [updH_same] at a; cases a
 ·
  rw [updH_other _ _ (by decide)]; exact k.al
 ·
  rw [updH_other _ _ (by decide)] at e
  obtain ⟨g2, old, e1, e2, e3, _⟩ := h.al (by rw [e]; intro q; cases q)
  rw [e] at e1
  cases e1
  exact .inl (Bx.lt e3)
 ·
  rw [updH_other _ _ (by decide)] at a; exact absurd n5 a
 ·
  rw [updH_other _ _ (by decide)] at a; exact absurd n6 a
 ·
  rw [getD_set_ne false (by decide), l7] at a; cases a
 ·
  rw [getD_set_ne false (by decide), l9] at a; cases a
 ·
  rw [Fr.getD_set_at hsz]; rfl
 ·
  rw [updH_same] at a; cases a
 ·
  rw [updH_other _ _ (by decide), updH_other _ _ (by decide)]; exact k.u6
theorem SRb.mv5 (h : SRb r m R L w1 listed t x) (h4 : t 109 ≠ undef) : t 109 ≠ undef ∧ SRb r m R L w1 (listed.setIfInBounds 5 true) (updH t 104 (t 109)) x := by
 refine ⟨h4, h.b, ?_, ?_, ?_, fun a => ?_, ?_, fun a => ?_, fun a => ?_⟩
 ·
  rw [updH_other _ _ (by decide), updH_other _ _ (by decide)]; exact h.cp
 ·
  rw [updH_other _ _ (by decide), updH_other _ _ (by decide)]; exact h.cm
 ·
  rw [updH_other _ _ (by decide)]; exact h.al
 ·
  rw [updH_other _ _ (by decide)] at a ⊢
  rw [updH_same, updH_other _ _ (by decide), updH_other _ _ (by decide), updH_other _ _ (by decide), getD_set_ne false (by decide), getD_set_ne false (by decide)]
  obtain ⟨u', v, T, C, lo, hi, k1, k2, k3, k4, k5, k6, k7, k8, k9, k10, k11⟩ := h.rc a
  exact ⟨u', v, T, C, lo, hi, k1, k2, k3, k4, k5, k6, k7, fun _ => k1, k9, k10, k11⟩
 ·
  rw [updH_other _ _ (by decide), getD_set_ne false (by decide)]; exact h.s4
 ·
  rw [updH_other _ _ (by decide)] at a; exact absurd a h4
 ·
  rw [updH_same] at a; exact absurd a h4
theorem SRb.ex6 (h : SRb r m R L w1 listed t x) (h5 : t 104 ≠ undef) : ∃ V v, t 104 = .tuple #[V, v] ∧ V ≠ undef ∧ SRb r m R L w1 (listed.setIfInBounds 6 true) (updH t 110 V) x := by
 have h4 : t 109 ≠ undef := fun e => h5 (h.u5 e)
 obtain ⟨u', v, T, C, lo, hi, k1, k2, k3, k4, k5, k6, k7, k8, k9, k10, k11⟩ := h.rc h4
 refine ⟨_, _, k8 h5, (by intro q; cases q), h.b, ?_, ?_, ?_, fun a => ?_, ?_, ?_, fun a => ?_⟩
 ·
  rw [updH_other _ _ (by decide), updH_other _ _ (by decide)]; exact h.cp
 ·
  rw [updH_other _ _ (by decide), updH_other _ _ (by decide)]; exact h.cm
 ·
  rw [updH_other _ _ (by decide)]; exact h.al
 ·
  rw [updH_other _ _ (by decide)] at a ⊢
  rw [updH_same, updH_other _ _ (by decide), updH_other _ _ (by decide), updH_other _ _ (by decide), getD_set_ne false (by decide), getD_set_ne false (by decide)]
  exact ⟨u', v, T, C, lo, hi, k1, k2, k3, k4, k5, k6, k7, k8, fun _ => rfl, k10, k11⟩
 ·
  rw [updH_other _ _ (by decide), getD_set_ne false (by decide)]; exact h.s4
 ·
  rw [updH_other _ _ (by decide), updH_other _ _ (by decide)]; exact h.u5
 ·
  rw [updH_other _ _ (by decide)] at a; exact absurd a h5
theorem SRb.ex7 (h : SRb r m R L w1 listed t x) (h5 : t 104 ≠ undef) : ∃ V v, t 104 = .tuple #[V, v] ∧ SRb r m R L w1 (listed.setIfInBounds 7 true) (updH t 111 v) x := by
 have h4 : t 109 ≠ undef := fun e => h5 (h.u5 e)
 obtain ⟨u', v, T, C, lo, hi, k1, k2, k3, k4, k5, k6, k7, k8, k9, k10, k11⟩ := h.rc h4
 refine ⟨_, _, k8 h5, h.b, ?_, ?_, ?_, fun a => ?_, ?_, ?_, ?_⟩
 ·
  rw [updH_other _ _ (by decide), updH_other _ _ (by decide)]; exact h.cp
 ·
  rw [updH_other _ _ (by decide), updH_other _ _ (by decide)]; exact h.cm
 ·
  rw [updH_other _ _ (by decide)]; exact h.al
 ·
  rw [updH_other _ _ (by decide)] at a ⊢
  have e9 : (listed.setIfInBounds 7 true).getD 9 false = listed.getD 9 false := getD_set_ne false (by decide)
  rw [updH_same, updH_other _ _ (by decide), updH_other _ _ (by decide), updH_other _ _ (by decide), e9]
  exact ⟨u', v, T, C, lo, hi, k1, k2, k3, k4, k5, k6, k7, k8, k9, fun _ => rfl, k11⟩
 ·
  rw [updH_other _ _ (by decide), getD_set_ne false (by decide)]; exact h.s4
 ·
  rw [updH_other _ _ (by decide), updH_other _ _ (by decide)]; exact h.u5
 ·
  rw [updH_other _ _ (by decide), updH_other _ _ (by decide)]; exact h.u6
theorem SRb.al8 (h : SRb r m R L w1 listed t x) (l9 : listed.getD 9 false = false) {zs : Array Value} (hz : zs.size = 10) : SRb r m R L w1 (listed.setIfInBounds 8 true) (updH t 15 (.pointer (some ⟨x.heap.size, 0, none⟩))) (x.alloc (.cells zs 28)) := by
 have k := h.kept ((Below.refl x.heap.size x).alloc (Nat.le_refl _) (.cells zs 28))
 refine ⟨k.b, ?_, ?_, fun _ => ⟨x.heap.size, zs, updH_same _ _ _, h.b.size, Bx.new _ _ _, hz⟩, fun a => ?_, ?_, ?_, ?_⟩
 ·
  rw [updH_other _ _ (by decide), updH_other _ _ (by decide)]; exact k.cp
 ·
  rw [updH_other _ _ (by decide), updH_other _ _ (by decide)]; exact k.cm
 ·
  rw [updH_other _ _ (by decide)] at a ⊢
  rw [updH_same, updH_other _ _ (by decide), updH_other _ _ (by decide), updH_other _ _ (by decide), getD_set_ne false (by decide), getD_set_ne false (by decide)]
  obtain ⟨u', v, T, C, lo, hi, _, _, _, _, q5, _⟩ := h.rc a
  obtain ⟨u', v, T, C, lo, hi, k1, k2, k3, k4, k5, k6, k7, k8, k9, k10, k11⟩ := h.rc a
  have hb := (Below.refl x.heap.size x).alloc (Nat.le_refl _) (.cells zs 28)
  refine ⟨u', v, T, C, lo, hi, k1, k2.kept hb, k3, k4, k5.kept hb, k6, fun gb e => ?_, k8, k9, k10, fun e => by rw [l9] at e; cases e⟩
  injection e with e
  injection e with e
  injection e with e
  subst e
  exact .inr k5.top
 ·
  rw [updH_other _ _ (by decide), getD_set_ne false (by decide)]; exact k.s4
 ·
  rw [updH_other _ _ (by decide), updH_other _ _ (by decide)]; exact k.u5
 ·
  rw [updH_other _ _ (by decide), updH_other _ _ (by decide)]; exact k.u6
theorem SRb.st9 (h : SRb r m R L w1 listed t x) (h6 : t 110 ≠ undef) (h8 : t 15 ≠ undef) : ∃ gb old u', t 15 = .pointer (some ⟨gb, 0, none⟩) ∧ t 110 = .agg (rpC R u') ∧ Bx x gb 28 old ∧ old.size = 10 ∧ RpGot x u' R ∧
  ∀ (W : World) (d : Nat) (v : Value), Bx W gb 28 (rpC R u') → ChS (fun k => k = gb) x W → 106 ≠ d → 108 ≠ d → 109 ≠ d → 104 ≠ d → 110 ≠ d → 111 ≠ d → 15 ≠ d → SRb r m R L w1 (listed.setIfInBounds 9 true) (updH t d v) W := by
 have h5 : t 104 ≠ undef := fun e => h6 (h.u6 e)
 have h4 : t 109 ≠ undef := fun e => h5 (h.u5 e)
 obtain ⟨u', v, T, C, lo, hi, k1, k2, k3, k4, k5, k6, k7, k8, k9, k10, k11⟩ := h.rc h4
 obtain ⟨gb, old, g1, g2, g3, g4⟩ := h.al h8
 refine ⟨gb, old, u', g1, k9 h6, g3, g4, k2.now.1.got, fun W d v9 hW hc d1 d3 d4 d5 d6 d7 d8 => ?_⟩
 have hcg : Chg gb (gb + 1) x W := hc.chg (fun k e => by omega)
 have hd : gb < lo ∨ hi ≤ gb := k7 gb g1
 refine ⟨?_, fun _ a => ?_, fun _ a => ?_, fun _ => ⟨gb, _, by rw [updH_other _ _ d8]; exact g1, g2, hW, rpC_size R u'⟩, fun _ => ⟨u', v, T, C, lo, hi, by rw [updH_other _ _ d4]; exact k1, k2.off hcg (by omega), k3, k4, k5.off hcg (by omega), k6, by rw [updH_other _ _ d8]; exact k7, by rw [updH_other _ _ d5]; exact k8, by rw [updH_other _ _ d6]; exact k9, fun l => by
  rw [getD_set_ne false (by decide)] at l
  rw [updH_other _ _ d7]
  exact k10 l, fun _ => ⟨gb, by rw [updH_other _ _ d8]; exact g1, g2, hW⟩⟩, ?_, fun a => ?_, fun a => ?_⟩
 ·
  exact hc.below h.b h.b.size (fun k e => by omega)
 ·
  rw [updH_other _ _ d4] at a; exact absurd a h4
 ·
  rw [updH_other _ _ d4] at a; exact absurd a h4
 ·
  rw [updH_other _ _ d4, getD_set_ne false (by decide)]; exact h.s4
 ·
  rw [updH_other _ _ d4] at a; exact absurd a h4
 ·
  rw [updH_other _ _ d5] at a; exact absurd a h5
theorem SRb.fin (h : SRb r m R L w1 listed t x) (h4 : t 109 ≠ undef) (l7 : listed.getD 7 false = true) (l9 : listed.getD 9 false = true) : ∃ p1 d1 p2 d2 p3 d3 p4 d4 M v T C lo hi gb, t 111 = v ∧ t 15 = .pointer (some ⟨gb, 0, none⟩) ∧ Liv lo C (RpF lo C ⟨.slice p1 R.l.length d1, .slice p2 R.ok.length d2, .slice p3 R.ch.length d3, .slice p4 R.te.length d4, M⟩ R) x ∧ RpAp ⟨.slice p1 R.l.length d1, .slice p2 R.ok.length d2, .slice p3 R.ch.length d3, .slice p4 R.te.length d4, M⟩ ∧ Liv C hi (MsE C hi v T) x ∧ T.map (·.m) = L ∧ (w1.heap.size ≤ lo ∧ lo ≤ C ∧ C ≤ hi ∧ hi ≤ x.heap.size ∧ w1.heap.size ≤ gb ∧ gb + 1 ≤ x.heap.size) ∧
  Bx x gb 28 #[.int .i64 R.id, .int .i64 R.p, .int .i64 R.v, .bool R.n, .int .i64 R.la, .slice p1 R.l.length d1, .int .i64 R.c, .slice p2 R.ok.length d2, .slice p3 R.ch.length d3, .slice p4 R.te.length d4] ∧ Below w1.heap.size w1 x := by
 obtain ⟨u', v, T, C, lo, hi, k1, k2, k3, k4, k5, k6, k7, k8, k9, k10, k11⟩ := h.rc h4
 obtain ⟨gb, g1, g2, g3⟩ := k11 l9
 obtain ⟨p1, d1, p2, d2, p3, d3, p4, d4, M, rfl⟩ := k2.now.1.got.form
 exact ⟨p1, d1, p2, d2, p3, d3, p4, d4, M, v, T, C, lo, hi, gb, k10 l7, g1, k2, k3, k5, k6, ⟨k4.1, k4.2.1, k4.2.2, k5.top, g2, Bx.lt g3⟩, g3, h.b⟩
end Go.Proofs.YtdkhdjickkcaiaaGreat.Rl
