/-
  A replica whose Tells are about to go: cell 9 holds anything; and the program's beNormal from there.
  The library's MaxFunc of messages.
  The library's Equal of texts.
  The program's beginsLike.
  The program's agreed.
  The program's mostAgreed.
-/
import Derived.Test.YtdkhdjickkcaiaaGreatRVS
import Derived.Test.YtdkhdjickkcaiaaGreatRV21
import Derived.Test.YtdkhdjickkcaiaaGreatRV24
import Derived.Test.YtdkhdjickkcaiaaGreatRV22
import Derived.Test.YtdkhdjickkcaiaaGreatRV23
set_option linter.unusedVariables false
set_option linter.unusedSimpArgs false
set_option maxRecDepth 100000
set_option maxHeartbeats 64000000
namespace Go.Proofs.YtdkhdjickkcaiaaGreat.Rl
open Go.RowKit Go.Sort Go.Shelf

theorem RpOw.neX {w : World} {B b : Nat} {u : Rv} {r : Rp} {vs : Array Value} (h : RpOw w B u r) (hc : Bx w b 28 vs) : ∀ v ∈ u.rows, ∀ k, v.ownBlock = some k → k ≠ b := by
 intro v hv
 have hc : w.heap[b]? = some (.cells _ 28 (0, 0)) := hc
 simp only [Rv.rows, List.mem_cons, List.mem_map] at hv
 rcases hv with rfl | rfl | rfl | rfl | ⟨x, hx, rfl⟩
 ·
  exact OwnsE.ne_of h.l hc (by decide)
 ·
  exact OwnsE.ne_of h.ok hc (by decide)
 ·
  exact OwnsE.ne_of h.ch.has hc (by decide)
 ·
  exact OwnsE.ne_of h.te.has hc (by decide)
 ·
  exact OwnsE.ne_of (h.tl x hx) hc (by decide)
open Go.RowKit Go.Sort Go.Shelf

theorem byI_pos (x y : Mx) : 0 < byI x.m.la y.m.la x.m.l.length y.m.l.length ↔ (y.m.la < x.m.la ∨ (x.m.la = y.m.la ∧ y.m.l.length < x.m.l.length)) := by
 unfold byI cmI
 repeat' split
 all_goals omega
def frMf (s t : Nat → Value) : Act := { tmps := #[s 0, s 1, s 2, s 3, s 4, s 5, s 6, s 7, s 8, s 9, s 10, s 11, s 12, s 13, s 14, s 15, s 16, s 17, s 18, s 19, t 20, t 21, t 22, t 23, t 24, t 25, t 26, s 27, s 28, s 29, s 30, s 31, s 32], defers := [] }
def LMf : List Nat := [20, 21, 22, 23, 24, 25, 26]
def dMf (i : Nat) : Nat := LMf.getD i (i + 5000)
theorem dMf_ne {i j : Nat} (hi : i < 7) (hj : j < 7) (h : j ≠ i) : dMf j ≠ dMf i := slotsNe (L := LMf) (by decide) rfl hi hj h
def GMf (X Y : Mx) (KK g0 q0 n c g lo : Nat) (i : Nat) (x : World) (v : Value) : Prop := match i with
 | 0 => v = .func (.func 151) #[] #[]
 | 1 => v = .slice (some ⟨g0, q0, none⟩) n c
 | 2 => v = .int .i64 (KK : Int)
 | 3 => v = .pointer (some ⟨g0, q0 + KK * 7, none⟩)
 | 4 => v = .agg (mxV X)
 | 5 => v = .agg (mxV Y)
 | 6 => v = .int .i64 (byI X.m.la Y.m.la X.m.l.length Y.m.l.length)
 | _ => True
theorem GMf.keep {X Y : Mx} {KK g0 q0 n c g lo : Nat} {x y : World} (hb : Below x.heap.size x y) (j : Nat) (v : Value) (hj : j < 7) (h : GMf X Y KK g0 q0 n c g lo j x v) : GMf X Y KK g0 q0 n c g lo j y v := h
theorem implMaxF (v : Value) (T : List Mx) (w : World) (h : Sls mxE w v T) (h0 : 0 < T.length) (hl : T.length ≤ 1000) :
  Calls Tryz.prog 150 #[v, .func (.func 151) #[] #[]] w fun e w' => ∃ x ∈ T, e = .returned (.agg (mxV x)) ∧ x.m = besM (T.map (·.m)) ∧ Below w.heap.size w w' := by
 have HS : Hid (Sls mxE w v T) := h
 obtain ⟨a, c, rfl, hc1, hc2, _⟩ := h
 obtain ⟨g0, q0, rfl⟩ := mxAt HS.out h0
 obtain ⟨b4, hb4⟩ : ∃ b4, b4 = w.heap.size := ⟨_, rfl⟩
 obtain ⟨w1, hw1⟩ : ∃ w1, w1 = w.alloc (.cells #[.int .i64 0, .int .i64 0, .int .i64 0, .int .i64 0, .int .i64 0, .slice none 0 0, .int .i64 0] 30) := ⟨_, rfl⟩
 have Z1 : Hid (Bx w1 b4 30 #[.int .i64 0, .int .i64 0, .int .i64 0, .int .i64 0, .int .i64 0, .slice none 0 0, .int .i64 0]) := hH_ (by rw [hw1, hb4]; exact Bx.new _ _ _)
 have B1 : Hid (Below w.heap.size w w1) := hH_ (by rw [hw1]; exact (Below.refl _ w).alloc (Nat.le_refl _) _)
 have HB4 : Hid (b4 = w.heap.size ∧ w1.heap.size = b4 + 1) := hH_ (⟨hb4, by rw [hw1, hb4]; simp⟩)
 have h1i : ¬ (T.length : Int) < 1 := by omega
 go_enter Tryz.func150, Tryz.ntmps150
 go_upto_region 1 with fail
 rw [← hb4, ← hw1]
 clear hw1 hb4
 go_upto_region 3 with fail
 have CK := mxCells (HS.out.kept B1.out) h0
 have HX0 : Hid (T[0] ∈ T ∧ T.map (·.m) = T[0].m :: (T.map (·.m)).drop 1) := (show _ ∧ _ from ⟨List.getElem_mem h0, by
  cases T with
  | nil => simp at h0
  | cons a l => simp⟩)
 generalize T[0] = x0 at CK HX0
 unfold Mx.u at CK
 simp only [Nat.zero_mul, Nat.add_zero] at CK
 obtain ⟨y0, y1, y2, y3, y4, y5, y6⟩ := CK
 have hk0 : (0 : Int) < (T.length : Int) := by omega
 go_upto_region 4 with (refine wpList_stM rfl rfl (.tmp 5) (.tmp 13) rfl w1.heap.size (mxV x0) rfl rfl (Bx.new _ _ _) rfl rfl (by simp [mxV, Value.oneCell']) ?_; intro w2 hz2 hc2')
 clear y0 y1 y2 y3 y4 y5 y6 hk0
 obtain ⟨g, hg⟩ : ∃ g, g = w1.heap.size := ⟨_, rfl⟩
 have HG : Hid (w.heap.size ≤ b4 ∧ b4 < g) := hH_ (by have:=HB4.out;omega)
 have X2 : Hid (Bx w2 g 30 (mxV x0)) := hH_ (by rw [hg]; exact hz2)
 have BL : Below w1.heap.size w1 w2 := hc2'.below ((Below.refl _ w1).alloc (Nat.le_refl _) _) (by simp) (fun k hk => by omega)
 have Z2 : Hid (Bx w2 b4 30 #[.int .i64 0, .int .i64 0, .int .i64 0, .int .i64 0, .int .i64 0, .slice none 0 0, .int .i64 0]) := hH_ (Bx.kept Z1.out BL)
 have B2 := hH_ (B1.out.trans (BL.mono B1.out.size))
 rw [← hg]
 clear hz2 hc2' hg BL Z1 B1 HB4 h1i
 go_wp2_with fail
 go_loopw [6] (fun i wr => ∃ (k : Nat) (Y : Mx), 1 ≤ k ∧ k ≤ T.length ∧ i = .int .i64 k ∧ Hid (Y ∈ T ∧ Y.m = ((T.map (·.m)).take k).foldl betM x0.m) ∧ Hid (Bx wr g 30 (mxV Y)) ∧ Hid (Bx wr b4 30 #[.int .i64 0, .int .i64 0, .int .i64 0, .int .i64 0, .int .i64 0, .slice none 0 0, .int .i64 0]) ∧ Hid (Below w.heap.size w wr)) (fun i _ => T.length - (intOf i).toNat)
 case atStart => exact ⟨1, x0, Nat.le_refl _, h0, rfl, (show _ ∧ _ from ⟨HX0.out.1, by
  rw [HX0.out.2]
  simp [betM]⟩), X2, Z2, B2⟩
 case round =>
  clear X2 Z2 B2
  obtain ⟨k, Y, hk1, hk, rfl, hY, HX, hZ, hB⟩ := hrel
  by_cases hlt : k < T.length
  ·
   have hlti : (k : Int) < (T.length : Int) := by omega
   have CX0 := fun x (hS : Below wr.heap.size wr x) => mxCells (HS.out.kept (hB.out.trans (hS.mono hB.out.size))) hlt
   have HXK : Hid (T[k] ∈ T ∧ ∃ h : k < (T.map (·.m)).length, (T.map (·.m))[k] = T[k].m) := (show _ ∧ ∃ _, _ from ⟨List.getElem_mem hlt, by rw [List.length_map]; exact hlt, by simp⟩)
   generalize T[k] = X at CX0 HXK
   unfold Mx.u at CX0
   go_upto_region 7 with fail
   obtain ⟨n, hn⟩ : ∃ n, n = T.length := ⟨_, rfl⟩
   rw [← hn]
   have hkn : k < n := by omega
   have HN : Hid (n = T.length ∧ k < n ∧ n ≤ 1000) := hH_ (by omega)
   have S0 := dwB wr
   obtain ⟨KK, hKK⟩ : ∃ KK, KK = k := ⟨_, rfl⟩
   rw [← hKK]
   rw [← hKK] at CX0 hkn
   have CX := CX0
   have HKK : Hid (KK = k) := hKK
   clear CX0 hlti hlt hk hk1 hn hKK
   obtain ⟨lo, hlo⟩ : ∃ lo, lo = wr.heap.size := ⟨_, rfl⟩
   generalize hA : Act.mk _ _ = A
   obtain ⟨s, hs, s0_, s1_, s2_, s3_, s4_, s5_, s6_, s7_, s8_, s9_, s10_, s11_, s12_, s13_, s32_⟩ : ∃ s : Nat → Value, A = frMf s s ∧ s 0 = .slice (some ⟨g0, q0, none⟩) n c ∧ s 1 = .func (.func 151) #[] #[] ∧ s 2 = undef ∧ s 3 = undef ∧ s 4 = .pointer (some ⟨b4, 0, none⟩) ∧ s 5 = .pointer (some ⟨g, 0, none⟩) ∧ s 6 = .int .i64 (KK : Int) ∧ s 7 = .slice (some ⟨g0, q0, none⟩) n c ∧ s 8 = .int .i64 (n : Int) ∧ s 9 = .bool false ∧ s 10 = undef ∧ s 11 = .slice (some ⟨g0, q0, none⟩) n c ∧ s 12 = .pointer (some ⟨g0, q0, none⟩) ∧ s 13 = .agg #[.int .i64 x0.m.k, .int .i64 x0.m.f, .int .i64 x0.m.t, .int .i64 x0.m.v, .int .i64 x0.m.la, .slice x0.pl x0.m.l.length x0.cl, .int .i64 x0.m.c] ∧ s 32 = undef := by
    refine ⟨fun i => A.tmps.getD i undef, ?_, ?_, ?_, ?_, ?_, ?_, ?_, ?_, ?_, ?_, ?_, ?_, ?_, ?_, ?_, ?_⟩ <;> rw [← hA] <;> rfl
   rw [hs]
   clear hs hA
   refine region_heads 7 mixed (by decide) (by kernel_rfl) (by kernel_rfl) (by kernel_rfl) (by kernel_rfl) (frMf s) dMf (fun x => Below wr.heap.size wr x) (GMf X Y KK g0 q0 n c g lo) (fun i j hi hj h => dMf_ne hi hj h) ?put s rfl S0 ?step ?done
   case put =>
    intro i o hi ho t v
    iterate 7 rcases ltS hi with hi | rfl
    cases hi
    all_goals
     obtain rfl := Option.some.inj ho
     rfl
   case step =>
    intro i o hi ho t x hS hdep K hK
    iterate 7 rcases ltS hi with hi | rfl
    cases hi
    all_goals obtain rfl := Option.some.inj ho
    iterate 4
     ·
      have h2 := hK _ x hS kI_ rfl
      try simp [Region.binds, GMf, dMf, LMf] at hdep
      unfold frMf at h2 ⊢
      clear hK
      go_simp
      first | simpa [Act.put, hdep, s0_, s1_, s4_, s7_, s8_, s9_, s11_, s12_, s10_, s2_, s3_, s32_, s13_, s5_, s6_, hkn] using h2 | simpa [Act.put, s0_, s1_, s4_, s7_, s8_, s9_, s11_, s12_, s10_, s2_, s3_, s32_, s13_, s5_, s6_, hkn] using h2
    ·
     have e3 : t 23 = .pointer (some ⟨g0, q0 + KK * 7, none⟩) := hdep ⟨3, .data⟩ (by simp) rfl
     obtain ⟨z0, z1, z2, z3, z4, z5, z6⟩ := CX x hS
     have h2 := hK (.agg (mxV X)) x hS kI_ rfl
     unfold frMf mxV at h2
     unfold frMf
     clear hK
     go_simp
     simpa [Act.put, e3, z0, z1, z2, z3, z4, z5, z6, s0_, s1_, s5_, s6_, s4_, s7_, s8_, s9_, s10_, s11_, s12_, s13_, s2_, s3_, s32_] using h2
    ·
     have h2 := hK (.agg (mxV Y)) x hS kI_ rfl
     refine ldGM (by rfl) (.tmp 5) rfl g (by show (frMf s t).eval (.tmp 5) = _; unfold frMf; simp [Act.eval, s5_]) (HX.out.kept hS) rfl ?_
     exact h2
    ·
     have e0 : t 20 = .func (.func 151) #[] #[] := hdep ⟨0, .data⟩ (by simp) rfl
     have e4 : t 24 = .agg (mxV X) := hdep ⟨4, .data⟩ (by simp) rfl
     have e5 : t 25 = .agg (mxV Y) := hdep ⟨5, .data⟩ (by simp) rfl
     refine callGV2 (by rfl) 151 (.tmp 20) (.tmp 24) (.tmp 25) _ rfl (by show (frMf s t).eval (.tmp 20) = _; unfold frMf; simp [Act.eval, e0]) (.agg (mxV X)) (.agg (mxV Y)) e4 e5 (Go.Proofs.enters_of Tryz.func151 (by kernel_rfl) rfl _) (fun v y => (v = .int .i64 (byI X.m.la Y.m.la X.m.l.length Y.m.l.length)) ∧ Below x.heap.size x y) ((implByLL _ _ _ _ _ _ _ _ _ _ _ _ _ _ _ _ _ _ x).mono ?_) ?_
     ·
      rintro e0 y0 ⟨h0, h1⟩
      exact ⟨_, h0, rfl, h1⟩
     ·
      rintro v y ⟨h0, hb2⟩
      exact hK v y (hS.trans (hb2.mono hS.size)) (fun j u hj hne h => GMf.keep hb2 j u hj h) h0
   case done =>
    intro t w3 hS hG
    have e6 : t 26 = .int .i64 (byI X.m.la Y.m.la X.m.l.length Y.m.l.length) := hG 6 (by decide)
    obtain ⟨z0, z1, z2, z3, z4, z5, z6⟩ := CX w3 hS
    clear hG CX hlo S0
    show wpList Tryz.prog _ _ [_] _ w3
    unfold frMf
    simp only [e6, s0_, s1_, s4_, s5_, s6_, s7_, s8_, s9_, s10_, s11_, s12_, s13_, s2_, s3_, s32_]
    clear e6 s0_ s1_ s4_ s5_ s6_ s7_ s8_ s9_ s10_ s11_ s12_ s13_ s2_ s3_ s32_
    have HX3 : Hid (Bx w3 g 30 (mxV Y)) := hH_ (Bx.kept HX.out hS)
    have hZ3 : Hid (Bx w3 b4 30 #[.int .i64 0, .int .i64 0, .int .i64 0, .int .i64 0, .int .i64 0, .slice none 0 0, .int .i64 0]) := hH_ (Bx.kept hZ.out hS)
    have hB3 := hH_ (hB.out.trans (hS.mono hB.out.size))
    clear hS HX hZ hB
    have hbp := byI_pos X Y
    have hkk2 := HKK.out
    subst hkk2
    obtain ⟨hn1, hn3, hn4⟩ := HN.out
    subst hn1
    by_cases hp : 0 < byI X.m.la Y.m.la X.m.l.length Y.m.l.length
    ·
     have HY2 : Hid (X ∈ T ∧ X.m = ((T.map (·.m)).take (KK + 1)).foldl betM x0.m) := (show _ ∧ _ from ⟨HXK.out.1, by
      obtain ⟨_, h1, h2⟩ := HXK.out
      rw [bes_take _ _ KK h1, h2, ← hY.out.2]
      unfold betM
      rw [if_pos (hbp.1 hp)]⟩)
     clear hbp
     generalize byI X.m.la Y.m.la X.m.l.length Y.m.l.length = z at hp ⊢
     have hk1000 : KK < 1000 := by omega
     go_wp2_with (refine wpList_stM rfl rfl (.tmp 5) (.tmp 31) rfl g (mxV X) rfl rfl HX3.out rfl rfl (by simp [mxV, Value.oneCell']) ?_; intro w9 hz9 hc9; have X9 : Hid (Bx w9 g 30 (mxV X)) := hz9; have Z9 : Hid (Bx w9 b4 30 #[.int .i64 0, .int .i64 0, .int .i64 0, .int .i64 0, .int .i64 0, .slice none 0 0, .int .i64 0]) := (show w9.heap[b4]? = _ from (hc9.block b4 (Bx.lt hZ3.out) (by have:=HG.out;omega)).trans hZ3.out); have B9 : Hid (Below w.heap.size w w9) := (show Hid _ from hc9.below hB3.out hB3.out.size (fun k hk => by have:=HG.out;omega)); clear hz9 hc9)
     go_roundw
     case rel => first | exact ⟨KK + 1, X, by omega, by omega, by go_num, HY2, X9, Z9, B9⟩ | exact ⟨_, ⟨KK + 1, by omega, by omega, by go_num, X, HY2, X9⟩, rfl⟩ | exact ⟨KK + 1, by omega, by omega, by go_num, X, HY2, X9⟩ | exact ⟨_, ⟨KK + 1, by omega, by omega, rfl, X, HY2, X9⟩, by go_num⟩
     case measure => simp [intOf]; omega
    ·
     have HY2 : Hid (Y ∈ T ∧ Y.m = ((T.map (·.m)).take (KK + 1)).foldl betM x0.m) := (show _ ∧ _ from ⟨hY.out.1, by
      obtain ⟨_, h1, h2⟩ := HXK.out
      rw [bes_take _ _ KK h1, h2, ← hY.out.2]
      unfold betM
      rw [if_neg (fun h => hp (hbp.2 h))]⟩)
     clear hbp
     generalize byI X.m.la Y.m.la X.m.l.length Y.m.l.length = z at hp ⊢
     have hk1000 : KK < 1000 := by omega
     go_wp2_with fail
     go_roundw
     case rel => first | exact ⟨KK + 1, Y, by omega, by omega, by go_num, HY2, HX3, hZ3, hB3⟩ | exact ⟨_, ⟨KK + 1, by omega, by omega, by go_num, Y, HY2, HX3⟩, rfl⟩ | exact ⟨KK + 1, by omega, by omega, by go_num, Y, HY2, HX3⟩ | exact ⟨_, ⟨KK + 1, by omega, by omega, rfl, Y, HY2, HX3⟩, by go_num⟩
     case measure => simp [intOf]; omega
  ·
   have hlti : ¬ (k : Int) < (T.length : Int) := by omega
   have HYM : Hid (Y ∈ T ∧ Y.m = besM (T.map (·.m))) := (show _ ∧ _ from ⟨hY.out.1, by
    have e := hY.out.2
    rw [List.take_of_length_le (by rw [List.length_map]; omega)] at e
    rw [e]
    obtain ⟨d, hd⟩ : ∃ d, T.map (·.m) = x0.m :: d := ⟨_, HX0.out.2⟩
    rw [hd]
    rfl⟩)
   clear hY HX0
   go_wp2_with (first | (refine wpList_ldM rfl (.tmp 5) rfl g rfl HX.out rfl ?_) | (refine wpList_stM rfl rfl (.tmp 4) (.tmp 32) rfl b4 (mxV Y) rfl rfl hZ.out rfl rfl (by simp [mxV, Value.oneCell']) ?_; intro w9 hz9 hc9))
   refine bodyPost_ret (v := .agg (mxV Y)) (results_cell_row (p := 4) (ty := 30) rfl _ _ b4 30 _ (0, 0) _ rfl hz9 Tryz.underlying30 rfl (by rw [Tryz.rszMs]; rfl)) rfl ?_
   exact ⟨Y, HYM.out.1, rfl, HYM.out.2, hc9.below hB.out hB.out.size (fun k hk => by have:=HG.out;omega)⟩
open Go.RowKit Go.Sort Go.Shelf

theorem implEqX (v1 v2 : Value) (L P : List ByteArray) (w : World) (h1 : Sls txtE w v1 L) (h2 : Sls txtE w v2 P) (hl : L.length ≤ 1048576) (hp : P.length ≤ 1048576) :
  Calls Tryz.prog 154 #[v1, v2] w fun e w' => e = .returned (.bool (dB (L = P))) ∧ Below w.heap.size w w' := by
 obtain ⟨a, ca, rfl, _, _, a3⟩ := h1.txt
 obtain ⟨c, cc, rfl, _, _, b3⟩ := h2.txt
 have A3 : Hid (0 < L.length → ∃ g o, a = some ⟨g, o, Option.none⟩ ∧ g < w.heap.size ∧ ∀ j (hj : j < L.length), w.cell? ⟨g, o + j, Option.none⟩ = some (.string L[j])) := a3
 have B3 : Hid (0 < P.length → ∃ g o, c = some ⟨g, o, Option.none⟩ ∧ g < w.heap.size ∧ ∀ j (hj : j < P.length), w.cell? ⟨g, o + j, Option.none⟩ = some (.string P[j])) := b3
 clear h1 h2 a3 b3
 by_cases hlt : L.length = P.length
 ·
  have eL : ((L.length : Int) == (P.length : Int)) = true := by simp [hlt]
  have HLT : Hid (L.length = P.length) := hlt
  clear hlt
  go_enter Tryz.func154, Tryz.ntmps154
  go_wp2_with fail
  go_loopw [13] (fun i wr => ∃ k : Nat, k ≤ L.length ∧ i = .int .i64 k ∧ Hid (L.take k = P.take k) ∧ Hid (Below w.heap.size w wr)) (fun i _ => L.length - (intOf i).toNat)
  case atStart => exact ⟨0, Nat.zero_le _, rfl, (show Hid _ from rfl), (show Hid _ from Below.refl _ _)⟩
  case round =>
   obtain ⟨k, hk, rfl, hE, hb⟩ := hrel
   by_cases hkL : k < L.length
   ·
    have hk2 : k < P.length := by have:=HLT.out;omega
    obtain ⟨ga, oa, rfl, hga, hca⟩ := A3.out (by omega)
    obtain ⟨gb, ob, rfl, hgb, hcb⟩ := B3.out (by omega)
    have c1 := (hb.out.cell (p := ⟨ga, oa + k, none⟩) hga).trans (hca k hkL)
    have c2 := (hb.out.cell (p := ⟨gb, ob + k, none⟩) hgb).trans (hcb k hk2)
    have HX : Hid (L[k] ≠ P[k] → dB (L = P) = false) := hH_ (fun h => dB_no (fun e => h (by subst e; rfl)))
    have HY : Hid (L[k] = P[k] → L.take (k + 1) = P.take (k + 1)) := hH_ (fun h => by rw [List.take_succ_eq_append_getElem hk2, List.take_succ_eq_append_getElem hkL, hE.out, h])
    clear hca hcb
    generalize L[k] = x at c1 HX HY
    generalize P[k] = y at c2 HX HY
    by_cases hxy : x = y
    ·
     have HZ : Hid _ := HY.out hxy
     subst hxy
     clear HX HY
     have eT : (x.toList == x.toList) = true := by simp
     go_wp2_with fail
     go_quiet (fail)
     have B2 : Hid (Below w.heap.size w (wr.drewN nq)) := hH_ (hb.out.trans ⟨rfl, rfl, rfl, Nat.le_refl _, fun _ _ => rfl⟩)
     generalize wr.drewN nq = wn at B2 ⊢
     go_wp2_with fail
     go_roundw
     case rel => exact ⟨k + 1, by omega, by go_num, HZ, B2⟩
     case measure => simp [intOf]; omega
    ·
     have HZ : Hid _ := HX.out hxy
     have eT : (x.toList == y.toList) = false := by
      exact bytes_no hxy
     clear HX HY hxy
     go_wp2_with fail
     go_quiet (fail)
     have B2 : Hid (Below w.heap.size w (wr.drewN nq)) := hH_ (hb.out.trans ⟨rfl, rfl, rfl, Nat.le_refl _, fun _ _ => rfl⟩)
     generalize wr.drewN nq = wn at B2 ⊢
     go_wp2
     go_ret
     exact ⟨by rw [HZ.out]; rfl, B2.out⟩
   ·
    obtain rfl : k = L.length := by omega
    have HZ : Hid (dB (L = P) = true) := (show _ = _ from dB_yes (by
     have e := hE.out
     rw [List.take_length, HLT.out, List.take_length] at e
     exact e))
    go_wp2
    go_ret
    exact ⟨by rw [HZ.out]; rfl, hb.out⟩
 ·
  have HN : Hid (dB (L = P) = false) := hH_ (dB_no (fun h => hlt (by rw [h])))
  have eL : ((L.length : Int) == (P.length : Int)) = false := by simp; omega
  have hlt : ¬ (L.length : Int) = (P.length : Int) := by omega
  go_enter Tryz.func154, Tryz.ntmps154
  go_wp2
  go_ret
  exact ⟨by rw [HN.out]; rfl, Below.refl _ _⟩
open Go.RowKit Go.Sort Go.Shelf

theorem implBegL (v1 v2 : Value) (L P : List ByteArray) (w : World) (h1 : Sls txtE w v1 L) (h2 : Sls txtE w v2 P) (hl : L.length ≤ 1048576) (hp : P.length ≤ 1048576) :
  Calls Tryz.prog 136 #[v1, v2] w fun e w' => e = .returned (.bool (dB (P <+: L))) ∧ Below w.heap.size w w' := by
 have H1 : Hid (Sls txtE w v1 L) := h1
 have H2 : Hid (Sls txtE w v2 P) := h2
 obtain ⟨a, ca, rfl, k1, k2, _⟩ := h1
 obtain ⟨c, cc, rfl, _, _, _⟩ := h2
 unfold maxLen at k2
 by_cases hlt : P.length ≤ L.length
 ·
  have hlti : (P.length : Int) ≤ (L.length : Int) := by omega
  have HB : Hid (dB (L.take P.length = P) = dB (P <+: L)) := (show _ = _ from by
   by_cases h : P <+: L
   ·
    rw [dB_yes h, dB_yes (List.prefix_iff_eq_take.1 h).symm]
   ·
    rw [dB_no h, dB_no (fun e => h (List.prefix_iff_eq_take.2 e.symm))])
  have jq := implEqX _ _ _ _ w (Sls.take H1.out hlt) H2.out (by rw [List.length_take]; omega) hp
  have hpc : P.length ≤ ca := by omega
  go_enter Tryz.func136, Tryz.ntmps136
  go_wp2_with (go_at_call 154; refine jq.mono ?_; rintro e w1 ⟨rfl, hb1⟩)
  go_ret
  exact ⟨by rw [HB.out]; rfl, hb1⟩
 ·
  have hlti : ¬ (P.length : Int) ≤ (L.length : Int) := by omega
  have HN : Hid (dB (P <+: L) = false) := hH_ (dB_no (fun h => by have := h.length_le; omega))
  go_enter Tryz.func136, Tryz.ntmps136
  go_wp2
  go_ret
  exact ⟨by rw [HN.out]; rfl, Below.refl _ _⟩
open Go.RowKit Go.Sort Go.Shelf

theorem implAgr (r : Rp) (u : Rv) (b cN lc : Nat) (la : Option Addr) (w : World) (hB : RpB w b r u) (hl : u.l = .slice la r.l.length lc) (hs : Sls txtE w u.l r.l) (hc : (cN : Int) = r.c) (hcl : cN ≤ r.l.length) :
  Calls Tryz.prog 137 #[.pointer (some ⟨b, 0, none⟩)] w fun e w' => e = .returned (.slice la cN lc) ∧ Sls txtE w' (.slice la cN lc) (r.l.take cN) ∧ Below w.heap.size w w' := by
 rw [hl] at hs
 have HS : Hid (Sls txtE w (.slice la cN lc) (r.l.take cN)) := (show Sls _ _ _ _ from Sls.take hs hcl)
 have hcl2 : cN ≤ lc := by
  obtain ⟨_, c', e, k1, k2, _⟩ := hs
  injection e with _ _ e3
  subst e3
  omega
 have hcl3 : lc ≤ 9223372036854775807 := by
  obtain ⟨_, c', e, k1, k2, _⟩ := hs
  injection e with _ _ e3
  subst e3
  exact k2
 have c5 := hB.cells.2.2.2.2.2.1
 have c6 := hB.cells.2.2.2.2.2.2.1
 rw [hl] at c5
 rw [← hc] at c6
 clear hB hs hl hc
 go_enter Tryz.func137, Tryz.ntmps137
 go_upto_region 1 with fail
 go_quiet (fail)
 have BN := hH_ (dwNB w nq)
 generalize w.drewN nq = wn at BN ⊢
 go_wp2
 go_ret
 exact ⟨rfl, HS.out.kept BN.out, BN.out⟩
open Go.RowKit Go.Sort Go.Shelf

theorem implMost (v : Value) (T : List Mx) (w : World) (h : Sls mxE w v T) (hl : T.length ≤ 1000) :
  Calls Tryz.prog 152 #[v] w fun e w' => e = .returned (.int .i64 (cmtM (T.map (·.m)))) ∧ Below w.heap.size w w' := by
 have HS : Hid (Sls mxE w v T) := h
 obtain ⟨a, c, rfl, _, _, _⟩ := h
 have B0 : Hid (Below w.heap.size w w) := hH_ (Below.refl _ _)
 go_enter Tryz.func152, Tryz.ntmps152
 go_wp2_with fail
 go_loopw [3, 8] (fun m i wr => ∃ k : Nat, k ≤ T.length ∧ i = .int .i64 k ∧ m = .int .i64 (cmtM ((T.map (·.m)).take k)) ∧ Hid (Below w.heap.size w wr)) (fun _ i _ => T.length - (intOf i).toNat)
 case atStart => exact ⟨0, Nat.zero_le _, rfl, by simp [cmtM], B0⟩
 case round =>
  clear B0
  obtain ⟨k, hk, rfl, rfl, hB⟩ := hrel
  by_cases hlt : k < T.length
  ·
   have HA := HS.out.kept hB.out
   obtain ⟨g, q, rfl⟩ := mxAt HA (by omega)
   have CK := mxCells HA hlt
   have HXK : Hid (∃ h : k < (T.map (·.m)).length, (T.map (·.m))[k] = T[k].m) := (show ∃ _, _ from ⟨by rw [List.length_map]; exact hlt, by simp⟩)
   generalize T[k] = x at CK HXK
   unfold Mx.u at CK
   obtain ⟨y0, y1, y2, y3, y4, y5, y6⟩ := CK
   clear HA
   have hlti : (k : Int) < (T.length : Int) := by omega
   go_upto_region 5 with (refine wpList_stM rfl rfl (.tmp 5) (.tmp 11) rfl wr.heap.size (mxV x) rfl rfl (Bx.new _ _ _) rfl rfl (by simp [mxV, Value.oneCell']) ?_; intro w7 hz7 hc7)
   clear y0 y1 y2 y3 y4 y5 y6 hlti
   have B7 : Hid (Below w.heap.size w w7) := hH_ (hc7.below (hB.out.alloc hB.out.size _) (by have := hB.out.size; simp; omega) (fun k hk => by have := hB.out.size; omega))
   generalize wr.heap.size = g2 at hz7 ⊢
   have a6 : w7.cell? ⟨g2, 6, none⟩ = some (.int .i64 x.m.c) := hz7.cell 6
   have hmx : max (cmtM ((T.map (·.m)).take k)) x.m.c = cmtM ((T.map (·.m)).take (k + 1)) := by
    obtain ⟨h1, h2⟩ := HXK.out
    rw [cmtM_take _ k h1, h2]
   clear hz7 hc7 hB
   generalize cmtM ((T.map (·.m)).take k) = m0 at hmx ⊢
   generalize x.m.c = xc at hmx a6
   have HMX : Hid (max m0 xc = cmtM ((T.map (·.m)).take (k + 1))) := hmx
   clear hmx
   go_wp2_with fail
   go_roundw
   case rel => exact ⟨k + 1, hlt, by go_num, by rw [← HMX.out], B7⟩
   case measure => simp [intOf]; omega
  ·
   have hlti : ¬ (k : Int) < (T.length : Int) := by omega
   have hkk : (T.map (·.m)).take k = T.map (·.m) := List.take_of_length_le (by rw [List.length_map]; omega)
   rw [hkk]
   go_wp2
   go_ret
   exact ⟨rfl, hB.out⟩
end Go.Proofs.YtdkhdjickkcaiaaGreat.Rl
