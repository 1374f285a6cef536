/-
  The program's receive, given its putChange and putTell.
  The program's Receive, given its putChange and putTell.
  The program's putChange.
  The program's putTell: one of this sender is there, or none, wherever it goes.
  The program's putTell and Receive, whole.
-/
import Derived.Test.YtdkhdjickkcaiaaGreatRVS
import Derived.Test.YtdkhdjickkcaiaaGreatRV33
import Derived.Test.YtdkhdjickkcaiaaGreatRV16
import Derived.Great.BuildSlice
import Derived.Test.YtdkhdjickkcaiaaGreatRV26
import Derived.Test.YtdkhdjickkcaiaaGreatRV22
import Derived.Test.YtdkhdjickkcaiaaGreatRV23
import Derived.Test.YtdkhdjickkcaiaaGreatRV19
import Derived.Test.YtdkhdjickkcaiaaGreatRV18
import Derived.Test.YtdkhdjickkcaiaaGreatRV24
import Derived.Test.YtdkhdjickkcaiaaGreatRV20
import Derived.Test.YtdkhdjickkcaiaaGreatRV32
import Derived.Deep.MidRow
set_option linter.unusedVariables false
set_option linter.unusedSimpArgs false
set_option maxRecDepth 100000
set_option maxHeartbeats 64000000
namespace Go.Proofs.YtdkhdjickkcaiaaGreat.Rl.Fr
open Go.RowKit Go.Sort Go.Shelf Pg
def frRea (s t : Nat → Value) : Act := { tmps := #[s 0, s 1, s 2, s 3, s 4, s 5, t 6, t 7, t 8, t 9, t 10, t 11, t 12, t 13, t 14, t 15, t 16, t 17, t 18, t 19, t 20, t 21, t 22, t 23, t 24, t 25, t 26, t 27, t 28, t 29, s 30, s 31, s 32, s 33, s 34, s 35, s 36, s 37, s 38, s 39], defers := [] }
def LRea : List Nat := [6, 7, 8, 9, 10, 11, 12, 13, 14, 15, 16, 17, 18, 19, 20, 21, 22, 23, 24, 25, 26, 27, 28, 29]
def dRea (i : Nat) : Nat := LRea.getD i (i + 5000)
theorem dRea_ne {i j : Nat} (hi : i < 24) (hj : j < 24) (h : j ≠ i) : dRea j ≠ dRea i := slotsNe (L := LRea) (by decide) rfl hi hj h
def GRea (r : Rp) (X : Mx) (b g : Nat) (E : Bool) (i : Nat) (x : World) (v : Value) : Prop := match i with
 | 0 => v = .agg (mxV X)
 | 1 => v = .pointer (some ⟨b, 0, none⟩)
 | 2 => v = .pointer (some ⟨b, 0, none⟩)
 | 3 => v = .pointer (some ⟨b, 1, none⟩)
 | 4 => v = .int .i64 r.p
 | 5 => v = .bool false
 | 6 => v = .bool true
 | 7 => v = .bool true
 | 8 => v = undef
 | 9 => v = undef
 | 10 => v = undef
 | 11 => v = undef
 | 12 => v = undef
 | 13 => v = undef
 | 14 => v = undef
 | 15 => v = .bool true
 | 16 => v = .bool true
 | 17 => v = undef
 | 18 => v = undef
 | 19 => v = undef
 | 20 => v = undef
 | 21 => v = undef
 | 22 => v = undef
 | 23 => v = undef
 | _ => True
theorem GRea.keep {r : Rp} {X : Mx} {b g : Nat} {E : Bool} {x y : World} (hb : Below x.heap.size x y) (j : Nat) (v : Value) (hj : j < 24) (h : GRea r X b g E j x v) : GRea r X b g E j y v := h
def frReb (s t : Nat → Value) : Act := { tmps := #[s 0, s 1, s 2, s 3, s 4, s 5, t 6, t 7, t 8, t 9, t 10, t 11, t 12, t 13, t 14, t 15, t 16, t 17, t 18, t 19, t 20, t 21, t 22, t 23, t 24, t 25, t 26, t 27, t 28, t 29, s 30, s 31, s 32, s 33, s 34, s 35, s 36, s 37, s 38, s 39], defers := [] }
def LReb : List Nat := [6, 7, 8, 9, 10, 11, 12, 13, 14, 15, 16, 17, 18, 19, 20, 21, 22, 23, 24, 25, 26, 27, 28, 29]
def dReb (i : Nat) : Nat := LReb.getD i (i + 5000)
theorem dReb_ne {i j : Nat} (hi : i < 24) (hj : j < 24) (h : j ≠ i) : dReb j ≠ dReb i := slotsNe (L := LReb) (by decide) rfl hi hj h
def GReb (r : Rp) (X : Mx) (b g : Nat) (E : Bool) (i : Nat) (x : World) (v : Value) : Prop := match i with
 | 0 => v = .agg (mxV X)
 | 1 => v = .pointer (some ⟨b, 0, none⟩)
 | 2 => v = .pointer (some ⟨b, 0, none⟩)
 | 3 => v = .pointer (some ⟨b, 1, none⟩)
 | 4 => v = .int .i64 r.p
 | 5 => v = .bool true
 | 6 => v = .bool false
 | 7 => v = .bool false
 | 8 => v = .pointer (some ⟨g, 2, none⟩)
 | 9 => v = .int .i64 X.m.t
 | 10 => v = .pointer (some ⟨b, 0, none⟩)
 | 11 => v = .pointer (some ⟨b, 0, none⟩)
 | 12 => v = .pointer (some ⟨b, 0, none⟩)
 | 13 => v = .int .i64 r.id
 | 14 => v = .bool true
 | 15 => v = .bool true
 | 16 => v = .bool true
 | 17 => v = undef
 | 18 => v = undef
 | 19 => v = undef
 | 20 => v = undef
 | 21 => v = undef
 | 22 => v = undef
 | 23 => v = undef
 | _ => True
theorem GReb.keep {r : Rp} {X : Mx} {b g : Nat} {E : Bool} {x y : World} (hb : Below x.heap.size x y) (j : Nat) (v : Value) (hj : j < 24) (h : GReb r X b g E j x v) : GReb r X b g E j y v := h
def frRec (s t : Nat → Value) : Act := { tmps := #[s 0, s 1, s 2, s 3, s 4, s 5, t 6, t 7, t 8, t 9, t 10, t 11, t 12, t 13, t 14, t 15, t 16, t 17, t 18, t 19, t 20, t 21, t 22, t 23, t 24, t 25, t 26, t 27, t 28, t 29, s 30, s 31, s 32, s 33, s 34, s 35, s 36, s 37, s 38, s 39], defers := [] }
def LRec : List Nat := [6, 7, 8, 9, 10, 11, 12, 13, 14, 15, 16, 17, 18, 19, 20, 21, 22, 23, 24, 25, 26, 27, 28, 29]
def dRec (i : Nat) : Nat := LRec.getD i (i + 5000)
theorem dRec_ne {i j : Nat} (hi : i < 24) (hj : j < 24) (h : j ≠ i) : dRec j ≠ dRec i := slotsNe (L := LRec) (by decide) rfl hi hj h
def GRec (r : Rp) (X : Mx) (b g : Nat) (E : Bool) (i : Nat) (x : World) (v : Value) : Prop := match i with
 | 0 => v = .agg (mxV X)
 | 1 => v = .pointer (some ⟨b, 0, none⟩)
 | 2 => v = .pointer (some ⟨b, 0, none⟩)
 | 3 => v = .pointer (some ⟨b, 1, none⟩)
 | 4 => v = .int .i64 r.p
 | 5 => v = .bool true
 | 6 => v = .bool false
 | 7 => v = .bool false
 | 8 => v = .pointer (some ⟨g, 2, none⟩)
 | 9 => v = .int .i64 X.m.t
 | 10 => v = .pointer (some ⟨b, 0, none⟩)
 | 11 => v = .pointer (some ⟨b, 0, none⟩)
 | 12 => v = .pointer (some ⟨b, 0, none⟩)
 | 13 => v = .int .i64 r.id
 | 14 => v = .bool false
 | 15 => v = .bool false
 | 16 => v = .bool false
 | 17 => v = .pointer (some ⟨g, 1, none⟩)
 | 18 => v = .int .i64 X.m.f
 | 19 => v = .pointer (some ⟨b, 0, none⟩)
 | 20 => v = .pointer (some ⟨b, 0, none⟩)
 | 21 => v = .pointer (some ⟨b, 0, none⟩)
 | 22 => v = .int .i64 r.id
 | 23 => v = .bool E
 | _ => True
theorem GRec.keep {r : Rp} {X : Mx} {b g : Nat} {E : Bool} {x y : World} (hb : Below x.heap.size x y) (j : Nat) (v : Value) (hj : j < 24) (h : GRec r X b g E j x v) : GRec r X b g E j y v := h
variable {F : Frm}
def frRed (s t : Nat → Value) : Act := { tmps := #[s 0, s 1, s 2, s 3, s 4, s 5, s 6, s 7, s 8, s 9, s 10, s 11, s 12, s 13, s 14, s 15, s 16, s 17, s 18, s 19, s 20, s 21, s 22, s 23, s 24, s 25, s 26, s 27, s 28, s 29, s 30, s 31, s 32, t 33, t 34, t 35, t 36, t 37, t 38, t 39], defers := [] }
def LRed : List Nat := [33, 34, 35, 36, 37, 38, 39]
def dRed (i : Nat) : Nat := LRed.getD i (i + 5000)
theorem dRed_ne {i j : Nat} (hi : i < 7) (hj : j < 7) (h : j ≠ i) : dRed j ≠ dRed i := slotsNe (L := LRed) (by decide) rfl hi hj h
def GRed (r : Rp) (X : Mx) (b g ga kk : Nat) (fk : FuncId) (i : Nat) (x : World) (v : Value) : Prop := match i with
 | 0 => v = .pointer (some ⟨g, 0, none⟩)
 | 1 => v = .int .i64 (kk : Int)
 | 2 => v = .pointer (some ⟨ga, kk, none⟩)
 | 3 => v = .func (.func fk) #[] #[]
 | 4 => v = .pointer (some ⟨b, 0, none⟩)
 | 5 => v = .agg (mxV X)
 | 6 => True
 | _ => True
theorem GRed.keep {r : Rp} {X : Mx} {b g ga kk : Nat} {fk : FuncId} {x y : World} (hb : Below x.heap.size x y) (j : Nat) (v : Value) (hj : j < 7) (h : GRed r X b g ga kk fk j x v) : GRed r X b g ga kk fk j y v := by
 iterate 7 rcases ltS hj with hj | rfl
 cases hj
 ·
  exact h
 ·
  exact h
 ·
  exact h
 ·
  exact h
 ·
  exact h
 ·
  exact h
 ·
  trivial
theorem GRed.keepM {r : Rp} {X : Mx} {b g ga kk : Nat} {fk : FuncId} {x y : World} (hd : True) (j : Nat) (v : Value) (hj : j < 7) (hne : j ≠ 6) (h : GRed r X b g ga kk fk j x v) : GRed r X b g ga kk fk j y v := by
 iterate 7 rcases ltS hj with hj | rfl
 cases hj
 ·
  exact h
 ·
  exact h
 ·
  exact h
 ·
  exact h
 ·
  exact h
 ·
  exact h
 ·
  exact absurd rfl hne
theorem implRcvM (r : Rp) (u : Rv) (B b : Nat) (X : Mx) (w : World) (h : RpAt F w B b u r) (hr : RpOk r) (hX : ∀ W, Below B w W → Sls txtE W X.u X.m.l) (hxs : X.m.l.length ≤ 1048576 ∧ ∀ x ∈ X.m.l, x.size ≤ 1048576) (jC : ∀ (F : Frm) (a : Rp), RpOk a → a.n = false → PutsC F a B b X.m.f) (jT : ∀ (F : Frm) (a : Rp) (m : Ms), RpOk a → a.n = false → mine a → PutsT F a B b m) : Handles F 48 r (rcvF r X.m) B b X w := by
 unfold Handles
 obtain ⟨la, lc, oa, oc, ca, cc, ta, tc, T0, rfl⟩ := h.got.form
 obtain ⟨w1, hw1⟩ : ∃ w1, w1 = w.alloc (.cells #[.int .i64 X.m.k, .int .i64 X.m.f, .int .i64 X.m.t, .int .i64 X.m.v, .int .i64 X.m.la, .slice X.pl X.m.l.length X.cl, .int .i64 X.m.c] 30) := ⟨_, rfl⟩
 obtain ⟨g, hg⟩ : ∃ g, g = w.heap.size := ⟨_, rfl⟩
 have bw1 : Below w.heap.size w w1 := by rw [hw1]; exact (Below.refl _ w).alloc (Nat.le_refl _) _
 have XM : Bx w1 g 30 (mxV X) := by rw [hw1, hg]; exact Bx.new _ _ _
 have H1 : Hid (RpAt ((g, 30, mxV X) :: F) w1 B b ⟨.slice la r.l.length lc, .slice oa r.ok.length oc, .slice ca r.ch.length cc, .slice ta r.te.length tc, T0⟩ r) := (show RpAt _ _ _ _ _ _ from (h.kept bw1).beside (k := g) XM (by have := h.lt; omega) (fun v hv e => by have := h.under v hv _ e; omega))
 have B1 : Hid (Below B w w1) := hH_ (bw1.mono h.le)
 have HB : Hid (g = w.heap.size ∧ b < g) := hH_ (⟨hg, by have := h.lt; omega⟩)
 have HR : Hid (RpOk r) := hr
 have HX : Hid (∀ W, Below B w W → Sls txtE W X.u X.m.l) := hH_ (hX)
 have HXS : Hid (X.m.l.length ≤ 1048576 ∧ ∀ x ∈ X.m.l, x.size ≤ 1048576) := hH_ (hxs)
 have JC : Hid (∀ (F : Frm) (a : Rp), RpOk a → a.n = false → PutsC F a B b X.m.f) := hH_ (jC)
 have JT : Hid (∀ (F : Frm) (a : Rp) (m : Ms), RpOk a → a.n = false → mine a → PutsT F a B b m) := hH_ (jT)
 clear hX hxs jC jT
 clear h hr bw1 XM
 unfold mxV
 go_enter Tryz.func48, Tryz.ntmps48
 go_upto_region 1 with fail
 rw [← hg, ← hw1]
 clear hw1 hg
 have CC := fun x (hS : Below w1.heap.size w1 x) => (show x.cell? ⟨g, 1, none⟩ = some (.int .i64 X.m.f) ∧ x.cell? ⟨g, 2, none⟩ = some (.int .i64 X.m.t) ∧ x.cell? ⟨b, 0, none⟩ = some (.int .i64 r.id) ∧ x.cell? ⟨b, 1, none⟩ = some (.int .i64 r.p) from ⟨((H1.out.kept hS).box (k := g) (ty := 30) (vs := mxV X) (by simp)).cell 1, ((H1.out.kept hS).box (k := g) (ty := 30) (vs := mxV X) (by simp)).cell 2, (H1.out.kept hS).c.cell 0, (H1.out.kept hS).c.cell 1⟩)
 have HXM : Hid (∀ x, Below w1.heap.size w1 x → Bx x g 30 (mxV X)) := hH_ (fun x hS => (H1.out.kept hS).box (k := g) (ty := 30) (vs := mxV X) (by simp))
 have S0 := dwB w1
 have jm := fun x (hS : Below w1.heap.size w1 x) => (show Calls Tryz.prog 102 #[.agg (mxV X), .int .i64 r.p] x _ from implMok X.m X.u r.p x (HX.out x (B1.out.trans (hS.mono H1.out.le))) HXS.out.2)
 obtain ⟨E, hE⟩ : ∃ E, E = (X.m.f == r.id) := ⟨_, rfl⟩
 have HEE : Hid (E = (X.m.f == r.id)) := hE
 cases hq : msB X.m r.p with
 | false =>
  have HE : Hid (rcvF r X.m = (r, [])) := hH_ (rcv_no (.inl (fun h => by rw [msB_yes h] at hq; cases hq)))
  rw [hq] at jm
  clear hq hE
  generalize hA : Act.mk _ _ = A
  obtain ⟨s, hs, s0_, s3_⟩ : ∃ s : Nat → Value, A = frRea s s ∧ s 0 = .pointer (some ⟨b, 0, none⟩) ∧ s 3 = .pointer (some ⟨g, 0, none⟩) := by
   refine ⟨fun i => A.tmps.getD i undef, ?_, ?_, ?_⟩ <;> rw [← hA] <;> rfl
  rw [hs]
  clear hs hA
  refine region_heads 24 mixed (by decide) (by kernel_rfl) (by kernel_rfl) (by kernel_rfl) (by kernel_rfl) (frRea s) dRea (fun x => Below w1.heap.size w1 x) (GRea r X b g E) (fun i j hi hj h => dRea_ne hi hj h) ?put s rfl S0 ?step ?done
  case put =>
   intro i o hi ho t v
   iterate 24 rcases ltS hi with hi | rfl
   cases hi
   all_goals
    obtain rfl := Option.some.inj ho
    rfl
  case step =>
   intro i o hi ho t x hS hdep K hK
   iterate 24 rcases ltS hi with hi | rfl
   cases hi
   all_goals obtain rfl := Option.some.inj ho
   ·
    have h2 := hK (.agg (mxV X)) x hS kI_ rfl
    refine ldGM (by rfl) (.tmp 3) rfl g (by show (frRea s t).eval (.tmp 3) = _; unfold frRea; simp [Act.eval, s3_]) (HXM.out x hS) rfl ?_
    exact h2
   iterate 4
    ·
     have y0 := (CC x hS).2.2.2
     have h2 := hK _ x hS kI_ rfl
     try simp [Region.binds, GRea, dRea, LRea] at hdep
     unfold frRea at h2 ⊢
     clear hK
     go_simp
     first | simpa [Act.put, hdep, y0, s0_, s3_] using h2 | simpa [Act.put, y0, s0_, s3_] using h2
   ·
    have e0 : t 6 = .agg (mxV X) := hdep ⟨0, .data⟩ (by simp) rfl
    have e4 : t 10 = .int .i64 r.p := hdep ⟨4, .data⟩ (by simp) rfl
    refine callG2 (by rfl) 102 (.tmp 6) (.tmp 10) _ rfl (.agg (mxV X)) (.int .i64 r.p) e0 e4 (Go.Proofs.enters_of Tryz.func102 (by kernel_rfl) rfl _) (fun v y => (v = .bool false) ∧ Below x.heap.size x y) ((jm x hS).mono ?_) ?_
    ·
     rintro e0 y0 ⟨h0, h2⟩
     exact ⟨_, h0, rfl, h2⟩
    ·
     rintro v y ⟨h0, hb2⟩
     exact hK v y (hS.trans (hb2.mono hS.size)) (fun j u hj hne h => GRea.keep hb2 j u hj h) h0
   iterate 2
    ·
     have h2 := hK _ x hS kI_ rfl
     try simp [Region.binds, GRea, dRea, LRea] at hdep
     unfold frRea at h2 ⊢
     clear hK
     go_simp
     first | simpa [Act.put, hdep, s0_, s3_] using h2 | simpa [Act.put, s0_, s3_] using h2
   iterate 7
    ·
     refine skipG 7 false rfl _ rfl 13 rfl true (congrArg some (hdep ⟨7, .guard⟩ (by simp) rfl)) (by decide) ?_
     exact hK undef x hS kI_ rfl
   iterate 2
    ·
     have h2 := hK _ x hS kI_ rfl
     try simp [Region.binds, GRea, dRea, LRea] at hdep
     unfold frRea at h2 ⊢
     clear hK
     go_simp
     first | simpa [Act.put, hdep, s0_, s3_] using h2 | simpa [Act.put, s0_, s3_] using h2
   iterate 7
    ·
     refine skipG 16 false rfl _ rfl 22 rfl true (congrArg some (hdep ⟨16, .guard⟩ (by simp) rfl)) (by decide) ?_
     exact hK undef x hS kI_ rfl
  case done =>
   intro tt w2 hS hG
   have e15 : tt 21 = .bool true := hG 15 (by decide)
   have e16 : tt 22 = .bool true := hG 16 (by decide)
   have e23 : tt 29 = undef := hG 23 (by decide)
   have H2 := hH_ (H1.out.kept hS)
   have B2 := hH_ (B1.out.trans (hS.mono H1.out.le))
   clear CC jm HXM hG hS S0 H1 B1
   show wpList Tryz.prog _ _ [_] _ w2
   unfold frRea
   simp only [e15, e16, e23, s0_, s3_]
   clear e15 e16 e23 s0_ s3_
   have hba : Below w2.heap.size w2 (w2.alloc (.cells #[] 30)) := (Below.refl _ w2).alloc (Nat.le_refl _) _
   go_wp2
   go_ret
   rw [HE.out]
   exact ⟨⟨.slice la r.l.length lc, .slice oa r.ok.length oc, .slice ca r.ch.length cc, .slice ta r.te.length tc, T0⟩, _, [], rfl, RpMg.no ((H2.out.kept hba).less) (B2.out.trans (hba.mono H2.out.le))⟩
 | true =>
  have HMO : Hid (MsOk X.m r.p) := (show MsOk _ _ from msB_is hq)
  rw [hq] at jm
  by_cases ht : X.m.t = r.id
  case neg =>
   have bt : (X.m.t != r.id) = true := by simp [ht]
   have HE : Hid (rcvF r X.m = (r, [])) := hH_ (rcv_no (.inr (.inl ht)))
   clear hq hE ht
   generalize hA : Act.mk _ _ = A
   obtain ⟨s, hs, s0_, s3_⟩ : ∃ s : Nat → Value, A = frReb s s ∧ s 0 = .pointer (some ⟨b, 0, none⟩) ∧ s 3 = .pointer (some ⟨g, 0, none⟩) := by
    refine ⟨fun i => A.tmps.getD i undef, ?_, ?_, ?_⟩ <;> rw [← hA] <;> rfl
   rw [hs]
   clear hs hA
   refine region_heads 24 mixed (by decide) (by kernel_rfl) (by kernel_rfl) (by kernel_rfl) (by kernel_rfl) (frReb s) dReb (fun x => Below w1.heap.size w1 x) (GReb r X b g E) (fun i j hi hj h => dReb_ne hi hj h) ?put s rfl S0 ?step ?done
   case put =>
    intro i o hi ho t v
    iterate 24 rcases ltS hi with hi | rfl
    cases hi
    all_goals
     obtain rfl := Option.some.inj ho
     rfl
   case step =>
    intro i o hi ho t x hS hdep K hK
    iterate 24 rcases ltS hi with hi | rfl
    cases hi
    all_goals obtain rfl := Option.some.inj ho
    ·
     have h2 := hK (.agg (mxV X)) x hS kI_ rfl
     refine ldGM (by rfl) (.tmp 3) rfl g (by show (frReb s t).eval (.tmp 3) = _; unfold frReb; simp [Act.eval, s3_]) (HXM.out x hS) rfl ?_
     exact h2
    iterate 4
     ·
      have y0 := (CC x hS).2.2.2
      have h2 := hK _ x hS kI_ rfl
      try simp [Region.binds, GReb, dReb, LReb] at hdep
      unfold frReb at h2 ⊢
      clear hK
      go_simp
      first | simpa [Act.put, hdep, y0, s0_, s3_] using h2 | simpa [Act.put, y0, s0_, s3_] using h2
    ·
     have e0 : t 6 = .agg (mxV X) := hdep ⟨0, .data⟩ (by simp) rfl
     have e4 : t 10 = .int .i64 r.p := hdep ⟨4, .data⟩ (by simp) rfl
     refine callG2 (by rfl) 102 (.tmp 6) (.tmp 10) _ rfl (.agg (mxV X)) (.int .i64 r.p) e0 e4 (Go.Proofs.enters_of Tryz.func102 (by kernel_rfl) rfl _) (fun v y => (v = .bool true) ∧ Below x.heap.size x y) ((jm x hS).mono ?_) ?_
     ·
      rintro e0 y0 ⟨h0, h2⟩
      exact ⟨_, h0, rfl, h2⟩
     ·
      rintro v y ⟨h0, hb2⟩
      exact hK v y (hS.trans (hb2.mono hS.size)) (fun j u hj hne h => GReb.keep hb2 j u hj h) h0
    iterate 11
     ·
      have y0 := (CC x hS).2.1
      have y1 := (CC x hS).2.2.1
      have h2 := hK _ x hS kI_ rfl
      try simp [Region.binds, GReb, dReb, LReb] at hdep
      unfold frReb at h2 ⊢
      clear hK
      go_simp
      first | simpa [Act.put, hdep, y0, y1, s0_, s3_, bt] using h2 | simpa [Act.put, y0, y1, s0_, s3_, bt] using h2
    iterate 7
     ·
      refine skipG 16 false rfl _ rfl 22 rfl true (congrArg some (hdep ⟨16, .guard⟩ (by simp) rfl)) (by decide) ?_
      exact hK undef x hS kI_ rfl
   case done =>
    intro tt w2 hS hG
    have e15 : tt 21 = .bool true := hG 15 (by decide)
    have e16 : tt 22 = .bool true := hG 16 (by decide)
    have e23 : tt 29 = undef := hG 23 (by decide)
    have H2 := hH_ (H1.out.kept hS)
    have B2 := hH_ (B1.out.trans (hS.mono H1.out.le))
    clear CC jm HXM bt hG hS S0 H1 B1
    show wpList Tryz.prog _ _ [_] _ w2
    unfold frReb
    simp only [e15, e16, e23, s0_, s3_]
    clear e15 e16 e23 s0_ s3_
    have hba : Below w2.heap.size w2 (w2.alloc (.cells #[] 30)) := (Below.refl _ w2).alloc (Nat.le_refl _) _
    go_wp2
    go_ret
    rw [HE.out]
    exact ⟨⟨.slice la r.l.length lc, .slice oa r.ok.length oc, .slice ca r.ch.length cc, .slice ta r.te.length tc, T0⟩, _, [], rfl, RpMg.no ((H2.out.kept hba).less) (B2.out.trans (hba.mono H2.out.le))⟩
  have bt : (X.m.t != r.id) = false := by simp [ht]
  have HTT : Hid (X.m.t = r.id) := ht
  have bf : (X.m.f == r.id) = E := hE.symm
  clear hq hE ht
  generalize hA : Act.mk _ _ = A
  obtain ⟨s, hs, s0_, s3_⟩ : ∃ s : Nat → Value, A = frRec s s ∧ s 0 = .pointer (some ⟨b, 0, none⟩) ∧ s 3 = .pointer (some ⟨g, 0, none⟩) := by
   refine ⟨fun i => A.tmps.getD i undef, ?_, ?_, ?_⟩ <;> rw [← hA] <;> rfl
  rw [hs]
  clear hs hA
  refine region_heads 24 mixed (by decide) (by kernel_rfl) (by kernel_rfl) (by kernel_rfl) (by kernel_rfl) (frRec s) dRec (fun x => Below w1.heap.size w1 x) (GRec r X b g E) (fun i j hi hj h => dRec_ne hi hj h) ?put s rfl S0 ?step ?done
  case put =>
   intro i o hi ho t v
   iterate 24 rcases ltS hi with hi | rfl
   cases hi
   all_goals
    obtain rfl := Option.some.inj ho
    rfl
  case step =>
   intro i o hi ho t x hS hdep K hK
   iterate 24 rcases ltS hi with hi | rfl
   cases hi
   all_goals obtain rfl := Option.some.inj ho
   ·
    have h2 := hK (.agg (mxV X)) x hS kI_ rfl
    refine ldGM (by rfl) (.tmp 3) rfl g (by show (frRec s t).eval (.tmp 3) = _; unfold frRec; simp [Act.eval, s3_]) (HXM.out x hS) rfl ?_
    exact h2
   iterate 4
    ·
     have y0 := (CC x hS).2.2.2
     have h2 := hK _ x hS kI_ rfl
     try simp [Region.binds, GRec, dRec, LRec] at hdep
     unfold frRec at h2 ⊢
     clear hK
     go_simp
     first | simpa [Act.put, hdep, y0, s0_, s3_] using h2 | simpa [Act.put, y0, s0_, s3_] using h2
   ·
    have e0 : t 6 = .agg (mxV X) := hdep ⟨0, .data⟩ (by simp) rfl
    have e4 : t 10 = .int .i64 r.p := hdep ⟨4, .data⟩ (by simp) rfl
    refine callG2 (by rfl) 102 (.tmp 6) (.tmp 10) _ rfl (.agg (mxV X)) (.int .i64 r.p) e0 e4 (Go.Proofs.enters_of Tryz.func102 (by kernel_rfl) rfl _) (fun v y => (v = .bool true) ∧ Below x.heap.size x y) ((jm x hS).mono ?_) ?_
    ·
     rintro e0 y0 ⟨h0, h2⟩
     exact ⟨_, h0, rfl, h2⟩
    ·
     rintro v y ⟨h0, hb2⟩
     exact hK v y (hS.trans (hb2.mono hS.size)) (fun j u hj hne h => GRec.keep hb2 j u hj h) h0
   iterate 18
    ·
     have y0 := (CC x hS).2.1
     have y1 := (CC x hS).2.2.1
     have y2 := (CC x hS).1
     have h2 := hK _ x hS kI_ rfl
     try simp [Region.binds, GRec, dRec, LRec] at hdep
     unfold frRec at h2 ⊢
     clear hK
     go_simp
     first | simpa [Act.put, hdep, y0, y1, y2, s0_, s3_, bt, bf] using h2 | simpa [Act.put, y0, y1, y2, s0_, s3_, bt, bf] using h2
  case done =>
   intro tt w2 hS hG
   have e15 : tt 21 = .bool false := hG 15 (by decide)
   have e16 : tt 22 = .bool false := hG 16 (by decide)
   have e23 : tt 29 = .bool E := hG 23 (by decide)
   have H2 := hH_ (H1.out.kept hS)
   have B2 := hH_ (B1.out.trans (hS.mono H1.out.le))
   clear CC jm HXM bt bf hG hS S0 H1 B1
   show wpList Tryz.prog _ _ [_] _ w2
   unfold frRec
   simp only [e15, e16, e23, s0_, s3_]
   clear e15 e16 e23 s0_ s3_
   cases E with
   | true =>
    have HE : Hid (rcvF r X.m = (r, [])) := hH_ (rcv_no (.inr (.inr (eq_of_beq HEE.out.symm))))
    have hba : Below w2.heap.size w2 (w2.alloc (.cells #[] 30)) := (Below.refl _ w2).alloc (Nat.le_refl _) _
    go_wp2
    go_ret
    rw [HE.out]
    exact ⟨⟨.slice la r.l.length lc, .slice oa r.ok.length oc, .slice ca r.ch.length cc, .slice ta r.te.length tc, T0⟩, _, [], rfl, RpMg.no ((H2.out.kept hba).less) (B2.out.trans (hba.mono H2.out.le))⟩
   | false =>
    have HFN : Hid (X.m.f ≠ r.id) := (show _ ≠ _ from fun h => by have h2 := HEE.out.symm; rw [h] at h2; simp at h2)
    clear HEE
    obtain ⟨ga, hga⟩ : ∃ ga, ga = w2.heap.size := ⟨_, rfl⟩
    have hbx : Bx (w2.alloc (.cells #[.nilFunc, .nilFunc, .nilFunc, .nilFunc, .nilFunc] 118)) w2.heap.size 118 #[.nilFunc, .nilFunc, .nilFunc, .nilFunc, .nilFunc] := Bx.new _ _ _
    go_upto_region 4 with (refine wpList_store_rowTo rfl 118 (.tmp 5) (.tmp 32) rfl rfl w2.heap.size (#[.nilFunc, .func (.func 103) #[] #[], .func (.func 104) #[] #[], .func (.func 105) #[] #[], .func (.func 106) #[] #[]] : Array Value) rfl rfl _ _ hbx (by kernel_rfl) rfl (by simp [Value.oneCell']) ?_)
    have hz3 := setRow_heap _ w2.heap.size _ (#[.nilFunc, .func (.func 103) #[] #[], .func (.func 104) #[] #[], .func (.func 105) #[] #[], .func (.func 106) #[] #[]] : Array Value) _ _ hbx
    have hc3 : Below w2.heap.size w2 ((w2.alloc (.cells #[.nilFunc, .nilFunc, .nilFunc, .nilFunc, .nilFunc] 118)).setRow w2.heap.size (#[.nilFunc, .func (.func 103) #[] #[], .func (.func 104) #[] #[], .func (.func 105) #[] #[], .func (.func 106) #[] #[]] : Array Value)) := by
     have hba : Below w2.heap.size w2 (w2.alloc (.cells #[.nilFunc, .nilFunc, .nilFunc, .nilFunc, .nilFunc] 118)) := (Below.refl _ w2).alloc (Nat.le_refl _) _
     exact ⟨hba.os, hba.tape, hba.output, by have := hba.size; simp [World.setRow] at this ⊢, fun k hk => (setRow_other _ w2.heap.size k _ (by omega)).trans (hba.block k hk)⟩
    generalize (w2.alloc (.cells #[.nilFunc, .nilFunc, .nilFunc, .nilFunc, .nilFunc] 118)).setRow w2.heap.size (#[.nilFunc, .func (.func 103) #[] #[], .func (.func 104) #[] #[], .func (.func 105) #[] #[], .func (.func 106) #[] #[]] : Array Value) = w3 at hz3 hc3 ⊢
    rw [← hga] at hz3 ⊢
    go_upto_region 4 with fail
    have XT : Hid (Bx w3 ga 118 (#[.nilFunc, .func (.func 103) #[] #[], .func (.func 104) #[] #[], .func (.func 105) #[] #[], .func (.func 106) #[] #[]] : Array Value)) := hH_ (hz3)
    have H3 := hH_ (H2.out.kept hc3)
    have B3 := hH_ (B2.out.trans (hc3.mono H2.out.le))
    clear hz3 hc3 hbx hga H2 B2
    have hk := HMO.out.k
    obtain ⟨fk, kk, hkk, hk5, hft, hH⟩ : ∃ (fk : FuncId) (kk : Nat), (kk : Int) = X.m.k ∧ kk < 5 ∧ ((#[.nilFunc, .func (.func 103) #[] #[], .func (.func 104) #[] #[], .func (.func 105) #[] #[], .func (.func 106) #[] #[]] : Array Value))[kk]? = some (.func (.func fk) #[] #[]) ∧ (∀ w, (callFunc fk #[.pointer (some ⟨b, 0, none⟩), .agg (mxV X)]).run Tryz.prog w = .ok (.enter fk #[.pointer (some ⟨b, 0, none⟩), .agg (mxV X)]) w) ∧ ∀ W, Below w3.heap.size w3 W → Handles F fk r (rcvF r X.m) B b X W := by
     have hx9 : ∀ W, Below w3.heap.size w3 W → ∀ W', Below B W W' → Sls txtE W' X.u X.m.l := fun W hW W' hW' => HX.out W' (B3.out.trans ((hW.mono H3.out.le).trans hW'))
     rcases (show X.m.k = 1 ∨ X.m.k = 2 ∨ X.m.k = 3 ∨ X.m.k = 4 by omega) with h | h | h | h
     ·
      exact ⟨103, 1, by omega, by decide, rfl, Go.Proofs.enters_of Tryz.func103 (by kernel_rfl) rfl _, fun W hW => by
       rw [rcv_L ⟨HMO.out, HTT.out, HFN.out⟩ h]
       exact implTkL r _ B b X W (H3.out.kept hW).less HR.out HMO.out HFN.out (hx9 W hW) HXS.out⟩
     ·
      exact ⟨104, 2, by omega, by decide, rfl, Go.Proofs.enters_of Tryz.func104 (by kernel_rfl) rfl _, fun W hW => by
       rw [rcv_O ⟨HMO.out, HTT.out, HFN.out⟩ h]
       exact implTkO r _ B b X W (H3.out.kept hW).less HR.out HMO.out⟩
     ·
      exact ⟨105, 3, by omega, by decide, rfl, Go.Proofs.enters_of Tryz.func105 (by kernel_rfl) rfl _, fun W hW => by
       rw [rcv_C ⟨HMO.out, HTT.out, HFN.out⟩ (.inl h)]
       exact implTkC r _ B b X W (H3.out.kept hW).less HR.out HMO.out h JC.out JT.out⟩
     ·
      exact ⟨106, 4, by omega, by decide, rfl, Go.Proofs.enters_of Tryz.func106 (by kernel_rfl) rfl _, fun W hW => by
       rw [rcv_C ⟨HMO.out, HTT.out, HFN.out⟩ (.inr h)]
       exact implTkT r _ B b X W (H3.out.kept hW).less HR.out HMO.out h HTT.out JC.out JT.out (hx9 W hW) HXS.out⟩
    obtain ⟨hent, hH⟩ := hH
    have jH := fun x (hS : Below w3.heap.size w3 x) => hH x hS
    unfold Handles at jH
    have CC := fun x (hS : Below w3.heap.size w3 x) => (show x.cell? ⟨g, 0, none⟩ = some (.int .i64 (kk : Int)) ∧ x.cell? ⟨ga, kk, none⟩ = some (.func (.func fk) #[] #[]) from ⟨by rw [hkk]; exact ((H3.out.kept hS).box (k := g) (ty := 30) (vs := mxV X) (by simp)).cell 0, ((Bx.kept XT.out hS).cell kk).trans hft⟩)
    have HXM : Hid (∀ x, Below w3.heap.size w3 x → Bx x g 30 (mxV X)) := hH_ (fun x hS => (H3.out.kept hS).box (k := g) (ty := 30) (vs := mxV X) (by simp))
    have S0 := dwB w3
    have hk6 : (kk : Int) < 5 := by omega
    have hk0 : ¬ (kk : Int) < 0 := by omega
    clear hk hkk hft hH
    generalize hA : Act.mk _ _ = A
    obtain ⟨s, hs, s0_, s3_, s5_⟩ : ∃ s : Nat → Value, A = frRed s s ∧ s 0 = .pointer (some ⟨b, 0, none⟩) ∧ s 3 = .pointer (some ⟨g, 0, none⟩) ∧ s 5 = .pointer (some ⟨ga, 0, none⟩) := by
     refine ⟨fun i => A.tmps.getD i undef, ?_, ?_, ?_, ?_⟩ <;> rw [← hA] <;> rfl
    rw [hs]
    clear hs hA
    refine region_headsL 7 mixed (by decide) (by kernel_rfl) (by kernel_rfl) (by kernel_rfl) (by kernel_rfl) (frRed s) dRed (StepM 6 39 (fun x => Below w3.heap.size w3 x) (fun v y => ∃ w4, Below w3.heap.size w3 w4 ∧ ∃ u' T, RpMg F (rcvF r X.m).1 (rcvF r X.m).2 B b w4 y u' v T)) (GRed r X b g ga kk fk) (fun i j hi hj h => dRed_ne hi hj h) ?put s rfl ⟨fun _ => S0, fun h => by cases h⟩ ?step ?done
    case put =>
     intro i o hi ho t v
     iterate 7 rcases ltS hi with hi | rfl
     cases hi
     all_goals
      obtain rfl := Option.some.inj ho
      rfl
    case step =>
     intro i o hi ho listed hnl hcl hls t x hS hdep K hK
     iterate 7 rcases ltS hi with hi | rfl
     cases hi
     all_goals obtain rfl := Option.some.inj ho
     ·
      have h8 : listed.getD 6 false = false := by
       cases hq : listed.getD 6 false with
       | false => rfl
       | true =>
        have a0 := hcl 6 _ rfl hq ⟨3, .data⟩ (by simp) rfl
        have a1 := hcl 3 _ rfl a0 ⟨2, .data⟩ (by simp) rfl
        have a2 := hcl 2 _ rfl a1 ⟨1, .data⟩ (by simp) rfl
        have a3 := hcl 1 _ rfl a2 ⟨0, .data⟩ (by simp) rfl
        rw [hnl] at a3
        cases a3
      replace hS := hS.1 h8
      have hK0 := hK
      clear hK
      have hK : ∀ v y, (fun x => Below w3.heap.size w3 x) y → (∀ j u, j < 7 → j ≠ 0 → GRed r X b g ga kk fk j x u → GRed r X b g ga kk fk j y u) → GRed r X b g ga kk fk 0 y v → K ((frRed s t).put _ v) y := fun v y hy h1 h2 => hK0 v y (StepM.before h8 (by decide) hy) h1 h2
      clear hK0
      have h2 := hK (.pointer (some ⟨g, 0, none⟩)) x hS kI_ rfl
      unfold frRed at h2 ⊢
      clear hK
      go_simp
      simpa [Act.put, s0_, s3_, s5_] using h2
     ·
      have h8 : listed.getD 6 false = false := by
       cases hq : listed.getD 6 false with
       | false => rfl
       | true =>
        have a0 := hcl 6 _ rfl hq ⟨3, .data⟩ (by simp) rfl
        have a1 := hcl 3 _ rfl a0 ⟨2, .data⟩ (by simp) rfl
        have a2 := hcl 2 _ rfl a1 ⟨1, .data⟩ (by simp) rfl
        rw [hnl] at a2
        cases a2
      replace hS := hS.1 h8
      have hK0 := hK
      clear hK
      have hK : ∀ v y, (fun x => Below w3.heap.size w3 x) y → (∀ j u, j < 7 → j ≠ 1 → GRed r X b g ga kk fk j x u → GRed r X b g ga kk fk j y u) → GRed r X b g ga kk fk 1 y v → K ((frRed s t).put _ v) y := fun v y hy h1 h2 => hK0 v y (StepM.before h8 (by decide) hy) h1 h2
      clear hK0
      have e0 : t 33 = .pointer (some ⟨g, 0, none⟩) := hdep ⟨0, .data⟩ (by simp) rfl
      have y0 := (CC x hS).1
      have h2 := hK (.int .i64 (kk : Int)) x hS kI_ rfl
      unfold frRed at h2 ⊢
      clear hK
      go_simp
      simpa [Act.put, e0, y0, s0_, s3_, s5_] using h2
     ·
      have h8 : listed.getD 6 false = false := by
       cases hq : listed.getD 6 false with
       | false => rfl
       | true =>
        have a0 := hcl 6 _ rfl hq ⟨3, .data⟩ (by simp) rfl
        have a1 := hcl 3 _ rfl a0 ⟨2, .data⟩ (by simp) rfl
        rw [hnl] at a1
        cases a1
      replace hS := hS.1 h8
      have hK0 := hK
      clear hK
      have hK : ∀ v y, (fun x => Below w3.heap.size w3 x) y → (∀ j u, j < 7 → j ≠ 2 → GRed r X b g ga kk fk j x u → GRed r X b g ga kk fk j y u) → GRed r X b g ga kk fk 2 y v → K ((frRed s t).put _ v) y := fun v y hy h1 h2 => hK0 v y (StepM.before h8 (by decide) hy) h1 h2
      clear hK0
      have e1 : t 34 = .int .i64 (kk : Int) := hdep ⟨1, .data⟩ (by simp) rfl
      have h2 := hK (.pointer (some ⟨ga, kk, none⟩)) x hS kI_ rfl
      unfold frRed at h2 ⊢
      clear hK
      go_simp
      simpa [Act.put, hk5, hk0, hk6, e1, s0_, s3_, s5_] using h2
     ·
      have h8 : listed.getD 6 false = false := by
       cases hq : listed.getD 6 false with
       | false => rfl
       | true =>
        have a0 := hcl 6 _ rfl hq ⟨3, .data⟩ (by simp) rfl
        rw [hnl] at a0
        cases a0
      replace hS := hS.1 h8
      have hK0 := hK
      clear hK
      have hK : ∀ v y, (fun x => Below w3.heap.size w3 x) y → (∀ j u, j < 7 → j ≠ 3 → GRed r X b g ga kk fk j x u → GRed r X b g ga kk fk j y u) → GRed r X b g ga kk fk 3 y v → K ((frRed s t).put _ v) y := fun v y hy h1 h2 => hK0 v y (StepM.before h8 (by decide) hy) h1 h2
      clear hK0
      have e2 : t 35 = .pointer (some ⟨ga, kk, none⟩) := hdep ⟨2, .data⟩ (by simp) rfl
      have y0 := (CC x hS).2
      have h2 := hK (.func (.func fk) #[] #[]) x hS kI_ rfl
      unfold frRed at h2 ⊢
      clear hK
      go_simp
      simpa [Act.put, e2, y0, s0_, s3_, s5_] using h2
     ·
      have h8 : listed.getD 6 false = false := by
       cases hq : listed.getD 6 false with
       | false => rfl
       | true =>
        have a0 := hcl 6 _ rfl hq ⟨4, .data⟩ (by simp) rfl
        rw [hnl] at a0
        cases a0
      replace hS := hS.1 h8
      have hK0 := hK
      clear hK
      have hK : ∀ v y, (fun x => Below w3.heap.size w3 x) y → (∀ j u, j < 7 → j ≠ 4 → GRed r X b g ga kk fk j x u → GRed r X b g ga kk fk j y u) → GRed r X b g ga kk fk 4 y v → K ((frRed s t).put _ v) y := fun v y hy h1 h2 => hK0 v y (StepM.before h8 (by decide) hy) h1 h2
      clear hK0
      have h2 := hK (.pointer (some ⟨b, 0, none⟩)) x hS kI_ rfl
      unfold frRed at h2 ⊢
      clear hK
      go_simp
      simpa [Act.put, s0_, s3_, s5_] using h2
     ·
      have h8 : listed.getD 6 false = false := by
       cases hq : listed.getD 6 false with
       | false => rfl
       | true =>
        have a0 := hcl 6 _ rfl hq ⟨5, .data⟩ (by simp) rfl
        rw [hnl] at a0
        cases a0
      replace hS := hS.1 h8
      have hK0 := hK
      clear hK
      have hK : ∀ v y, (fun x => Below w3.heap.size w3 x) y → (∀ j u, j < 7 → j ≠ 5 → GRed r X b g ga kk fk j x u → GRed r X b g ga kk fk j y u) → GRed r X b g ga kk fk 5 y v → K ((frRed s t).put _ v) y := fun v y hy h1 h2 => hK0 v y (StepM.before h8 (by decide) hy) h1 h2
      clear hK0
      have h2 := hK (.agg (mxV X)) x hS kI_ rfl
      refine ldGM (by rfl) (.tmp 3) rfl g (by show (frRed s t).eval (.tmp 3) = _; unfold frRed; simp [Act.eval, s3_]) (HXM.out x hS) rfl ?_
      exact h2
     ·
      replace hS := hS.1 hnl
      have hm : 6 < listed.size := by rw [hls]; decide
      have e3 : t 36 = .func (.func fk) #[] #[] := hdep ⟨3, .data⟩ (by simp) rfl
      have e4 : t 37 = .pointer (some ⟨b, 0, none⟩) := hdep ⟨4, .data⟩ (by simp) rfl
      have e5 : t 38 = .agg (mxV X) := hdep ⟨5, .data⟩ (by simp) rfl
      refine callGV2 (by rfl) fk (.tmp 36) (.tmp 37) (.tmp 38) _ rfl (by show (frRed s t).eval (.tmp 36) = _; unfold frRed; simp [Act.eval, e3]) (.pointer (some ⟨b, 0, none⟩)) (.agg (mxV X)) e4 e5 hent (fun v y => ∃ u' T, RpMg F (rcvF r X.m).1 (rcvF r X.m).2 B b x y u' v T) ((jH x hS).mono ?_) ?_
      ·
       rintro e0 y0 ⟨u', v, T, h0, h1⟩
       exact ⟨v, h0, u', T, h1⟩
      ·
       rintro v y ⟨u', T, h1⟩
       exact hK v y (StepM.at hm ⟨x, hS, u', T, h1⟩) (fun j u hj hne h => GRed.keepM (x := x) (y := y) trivial j u hj hne h) trivial
    case done =>
     intro listed tt x hall hS hG
     obtain ⟨w4, hb4, u', T, h9⟩ := hS.2 (hall 6 (by decide))
     obtain ⟨v, hv⟩ : ∃ v, tt 39 = v := ⟨_, rfl⟩
     change RpMg F _ _ B b w4 x u' (tt 39) T at h9
     rw [hv] at h9
     have h4 := h9.m
     have H9 : Hid (RpMg F (rcvF r X.m).1 (rcvF r X.m).2 B b w x u' v T) := (show Hid _ from by
      obtain ⟨C, c1, c2, c3, c4, c5⟩ := h9.m
      exact ⟨h9.at', ⟨C, c1, c2, Nat.le_trans (Nat.le_trans B3.out.size hb4.size) c3, c4, c5⟩, (B3.out.trans (hb4.mono H3.out.le)).trans h9.bl⟩)
     clear hG hS hall S0 CC jH HXM hent h9 h4 hb4
     show wpList Tryz.prog _ _ [_] _ x
     unfold frRed
     simp only [hv, s0_, s3_, s5_]
     clear hv s0_ s3_ s5_
     go_wp2
     go_ret
     first | exact ⟨u', v, T, rfl, H9.out⟩ | exact ⟨u', v, rfl, T, H9.out⟩
open Go.RowKit Go.Sort Go.Shelf Pg
def PutC9 : Prop := ∀ (F : Frm) (a : Rp) (B b : Nat) (z : Int), RpOk a → a.n = false → PutsC F a B b z
def PutT9 : Prop := ∀ (F : Frm) (a : Rp) (B b : Nat) (m : Ms), RpOk a → a.n = false → mine a → PutsT F a B b m
theorem implRcvR (jC : PutC9) (jT : PutT9) (r : Rp) (u : Rv) (X : Mx) (w : World) (h : RpGot w u r) (hf : Fit r) (hX : Sls txtE w X.u X.m.l) (hxs : X.m.l.length ≤ 1048576 ∧ ∀ x ∈ X.m.l, x.size ≤ 1048576) : Calls Tryz.prog 8 #[rpA r u, .agg (mxV X)] w fun e w' => RcvAns r X.m w e w' := by
 obtain ⟨la, lc, oa, oc, ca, cc, ta, tc, T, rfl⟩ := h.form
 obtain ⟨b, hb⟩ : ∃ b, b = w.heap.size := ⟨_, rfl⟩
 obtain ⟨w1, hw1⟩ : ∃ w1, w1 = ((w.alloc (.cells #[.int .i64 r.id, .int .i64 r.p, .int .i64 r.v, .bool r.n, .int .i64 r.la, .slice la r.l.length lc, .int .i64 r.c, .slice oa r.ok.length oc, .slice ca r.ch.length cc, .slice ta r.te.length tc] 28)).alloc (.cells #[.int .i64 X.m.k, .int .i64 X.m.f, .int .i64 X.m.t, .int .i64 X.m.v, .int .i64 X.m.la, .slice X.pl X.m.l.length X.cl, .int .i64 X.m.c] 30)).alloc (.cells #[.int .i64 0, .int .i64 0, .int .i64 0, .bool false, .int .i64 0, .slice none 0 0, .int .i64 0, .slice none 0 0, .slice none 0 0, .slice none 0 0] 28) := ⟨_, rfl⟩
 have XB1 : Hid (Bx w1 b 28 #[.int .i64 r.id, .int .i64 r.p, .int .i64 r.v, .bool r.n, .int .i64 r.la, .slice la r.l.length lc, .int .i64 r.c, .slice oa r.ok.length oc, .slice ca r.ch.length cc, .slice ta r.te.length tc]) := hH_ (by rw [hw1, hb]; exact ((Bx.new _ _ _).alloc _).alloc _)
 have XM1 : Hid (Bx w1 (b + 1) 30 (mxV X)) := hH_ (by rw [hw1, hb]; exact (Bx.at _ _ (by simp)).alloc _)
 have ZB1 : Hid (Bx w1 (b + 2) 28 zR) := hH_ (by rw [hw1, hb]; exact Bx.at _ _ (by simp))
 have B1 : Hid (Below b w w1) := hH_ (by rw [hw1, hb]; exact (((Below.refl _ w).alloc (Nat.le_refl _) _).alloc (by simp) _).alloc (by simp; omega) _)
 have S1 : Hid (w1.heap.size = b + 3) := (show _ = _ by rw [hw1, hb]; simp)
 have HB : Hid (b = w.heap.size) := hb
 have HG : Hid (RpGot w ⟨.slice la r.l.length lc, .slice oa r.ok.length oc, .slice ca r.ch.length cc, .slice ta r.te.length tc, T⟩ r) := h
 have HX : Hid (Sls txtE w X.u X.m.l) := hX
 have HXS : Hid (X.m.l.length ≤ 1048576 ∧ ∀ x ∈ X.m.l, x.size ≤ 1048576) := hH_ (hxs)
 have jo := fun W hW => implRok r _ W (HG.out.kept hW) hf
 have jn := fun W hW (hr : RpOk r) => implNewRp r _ W (HG.out.kept hW) hf hr.few
 have JC : Hid PutC9 := jC
 have JT : Hid PutT9 := jT
 unfold rpA mxV at *
 simp only at jo jn ⊢
 clear h hf hX hxs jC jT
 go_enter Tryz.func8, Tryz.ntmps8
 go_upto_region 1 with fail
 rw [← hb, ← hw1, show b + 1 + 1 = b + 2 from rfl]
 clear hw1 hb
 go_wp2_with (refine wpList_ldR rfl (.tmp 2) rfl b rfl XB1.out rfl ?_)
 refine (jo _ (by rw [← HB.out]; exact B1.out)).mono ?_
 rintro e w2 ⟨rfl, hb2⟩
 have hz2 : b + 3 ≤ w2.heap.size := by have := hb2.size; have:=S1.out;omega
 replace hb2 : Below (b + 3) w1 w2 := hb2.mono (by have:=S1.out;omega)
 have XB2 : Hid (Bx w2 b 28 #[.int .i64 r.id, .int .i64 r.p, .int .i64 r.v, .bool r.n, .int .i64 r.la, .slice la r.l.length lc, .int .i64 r.c, .slice oa r.ok.length oc, .slice ca r.ch.length cc, .slice ta r.te.length tc]) := hH_ (Bx.low XB1.out hb2 (by omega))
 have XM2 : Hid (Bx w2 (b + 1) 30 (mxV X)) := hH_ (Bx.low XM1.out hb2 (by omega))
 have ZB2 : Hid (Bx w2 (b + 2) 28 zR) := hH_ (Bx.low ZB1.out hb2 (by omega))
 have B2 := hH_ (B1.out.trans (hb2.mono (by omega)))
 have S2 : Hid (b + 3 ≤ w2.heap.size) := hz2
 clear hb2 hz2 jo XB1 XM1 ZB1 B1 S1
 cases hr : dB (RpOk r) with
 | false =>
  have HS : Hid (rcvA r X.m = (noRp, [])) := (show _ = _ by unfold rcvA; exact if_neg (dB_not hr))
  have hba : Hid (Below w2.heap.size w2 (w2.alloc (.cells #[] 30))) := hH_ ((Below.refl _ w2).alloc (Nat.le_refl _) _)
  go_wp2_with (refine wpList_stR rfl rfl (.tmp 4) (.tmp 11) rfl (b + 2) zR rfl rfl (ZB2.out.alloc _) rfl rfl zR_one ?_; intro w9 hz9 hc9)
  have OM : MsOwn w9 w2.heap.size (.slice (some ⟨w2.heap.size, 0, none⟩) 0 0) [] [] := (MsOwn.born w2).off (fun k h1 h2 => hc9.block k h2 (by have:=S2.out;omega))
  have B9 : Below b w w9 := hc9.below (B2.out.trans (hba.out.mono (by have:=S2.out;omega))) (by have:=S2.out;have := hba.out.size; omega) (fun k hk => by omega)
  have hrl := results_row2 (P := Tryz.prog) (fn := Tryz.f8) (p := 4) (q := 5) (ty := 28) rfl
  refine bodyPost_ret (v := .tuple #[.agg zR, .slice (some ⟨w2.heap.size, 0, none⟩) 0 0]) (hrl _ _ (b + 2) 28 zR (0, 0) _ rfl _ rfl hz9 Tryz.underlying28 rfl (by rw [Tryz.rszR]; rfl)) rfl ?_
  unfold RcvAns
  rw [HS.out]
  have hq := RmAns.no (w := w) (OM.low (by have:=S2.out;have:=HB.out;omega)) (by rw [← HB.out]; exact B9)
  exact ⟨rv0, _, [], rfl, ⟨hq.h, hq.a, ⟨w9.heap.size, hq.h.under, hq.b.size, Nat.le_refl _, .inr ⟨rfl, rfl, _, _, rfl, Nat.zero_le _⟩⟩, hq.b⟩⟩
 | true =>
  have HS : Hid (rcvA r X.m = rcvF r X.m) := (show _ = _ by unfold rcvA; exact if_pos (dB_is hr))
  have HR : Hid (RpOk r) := dB_is hr
  have jn2 := jn w2 (by rw [← HB.out]; exact B2.out) HR.out
  clear jn hr
  go_upto_region 4 with (first | (refine wpList_ldR rfl (.tmp 2) rfl b rfl XB2.out rfl ?_) | (go_at_call 47; refine jn2.mono ?_; rintro e w3 ⟨rfl, u3, h3, hl3, b3⟩))
  obtain ⟨gb, hgb⟩ : ∃ gb, gb = w2.heap.size := ⟨_, rfl⟩
  have H3 : Hid (RpAt [] w3 (b + 3) gb u3 r) := (show RpAt _ _ _ _ _ _ from RpAt.bare (by rw [hgb]; exact h3.low S2.out))
  have XM3 : Hid (Bx w3 (b + 1) 30 (mxV X)) := hH_ (Bx.low XM2.out b3 (by have:=S2.out;omega))
  have ZB3 : Hid (Bx w3 (b + 2) 28 zR) := hH_ (Bx.low ZB2.out b3 (by have:=S2.out;omega))
  have B3 : Hid (Below b w w3) := hH_ (B2.out.trans (b3.mono (by have:=S2.out;omega)))
  have S3 : Hid (b + 3 ≤ w3.heap.size) := (show _ ≤ _ by have:=S2.out;have := b3.size; omega)
  rw [← hgb]
  clear h3 hl3 b3 jn2 hgb XB2 XM2 ZB2 B2
  have js := implRcvM r u3 (b + 3) gb X w3 H3.out HR.out (fun W hW => HX.out.kept (by rw [← HB.out]; exact B3.out.trans (hW.mono (by omega)))) HXS.out (fun F a h1 h2 => JC.out F a _ _ _ h1 h2) (fun F a m h1 h2 h3 => JT.out F a _ _ m h1 h2 h3)
  unfold Handles at js
  go_upto_region 5 with (first | (refine wpList_ldM rfl (.tmp 3) rfl (b + 1) rfl XM3.out rfl ?_) | (go_at_call 48; refine js.mono ?_; rintro e w4 ⟨u4, v4, T4, rfl, h4⟩))
  obtain ⟨h4, ⟨C, c1, c2, c3, c5, c4⟩, b4⟩ := h4
  have H4 : Hid (RpAt [] w4 (b + 3) gb u4 (rcvF r X.m).1) := h4
  have M4 : Hid (MsG w4 C v4 T4 (rcvF r X.m).2) := c4
  have C4 : Hid (∀ x ∈ u4.rows, ∀ k, x.ownBlock = some k → k < C) := c1
  have D4 : Hid (w3.heap.size ≤ C ∧ C ≤ w4.heap.size) := hH_ (⟨c3, c5⟩)
  have ZB4 : Hid (Bx w4 (b + 2) 28 zR) := hH_ (Bx.low ZB3.out b4 (by omega))
  have B4 := hH_ (B3.out.trans (b4.mono (by omega)))
  clear h4 b4 c1 c2 c3 c4 c5 js H3 XM3 ZB3 B3
  generalize rcvF r X.m = P at HS H4 M4 ⊢
  obtain ⟨R, L⟩ := P
  simp only at H4 M4 ⊢
  obtain ⟨va, vn, vc, rfl⟩ : ∃ va vn vc, v4 = .slice va vn vc := by
   rcases M4.out with h | ⟨_, _, p, c, e, _⟩
   ·
    obtain ⟨x, y, e, _⟩ := h.row.form; exact ⟨x, _, y, e⟩
   ·
    exact ⟨p, 0, c, e⟩
  go_wp2_with (first | (refine wpList_ldR rfl (.tmp 19) rfl gb rfl H4.out.c rfl ?_) | (refine wpList_stR rfl rfl (.tmp 4) (.tmp 20) rfl (b + 2) (rpC R u4) rfl rfl ZB4.out rfl rfl (rpC_one H4.out.got) ?_; intro w9 hz9 hc9))
  have hlt4 := H4.out.lt
  have hhb4 := H4.out.hb
  have hd4 := D4.out
  have hs3 := S3.out
  have OM : MsG w9 C (.slice va vn vc) T4 L := M4.out.off (fun k h1 h2 => hc9.block k h2 (by omega))
  have B9 : Below b w w9 := hc9.below B4.out (by omega) (fun k hk => by omega)
  have HH : RpHas w9 (b + 3) u4 R := H4.out.o.has.off (fun v hv k hk => hc9.block k (H4.out.under v hv k hk) (by have := H4.out.o.has.from v hv k hk; omega))
  have hrl := results_row2 (P := Tryz.prog) (fn := Tryz.f8) (p := 4) (q := 5) (ty := 28) rfl
  refine bodyPost_ret (v := .tuple #[.agg (rpC R u4), .slice va vn vc]) (hrl _ _ (b + 2) 28 _ (0, 0) _ rfl _ rfl hz9 Tryz.underlying28 rfl (by rw [Tryz.rszR]; rfl)) rfl ?_
  unfold RcvAns
  rw [HS.out]
  exact ⟨u4, _, T4, rfl, ⟨HH.low (by have:=HB.out;omega), H4.out.apt, ⟨C, C4.out, by have:=HB.out;omega, Nat.le_trans hd4.2 hc9.size, OM⟩, by rw [← HB.out]; exact B9⟩⟩
open Go.RowKit Go.Sort Go.Shelf Pg
theorem implPutC9 : PutC9 := by
 intro F r B b z hr hn W u' h
 obtain ⟨la, lc, oa, oc, ca, cc, ta, tc, T, rfl⟩ := h.got.form
 obtain ⟨c1, c2, _⟩ := hr.ch1 hn
 obtain ⟨k, D, hs⟩ := SrcAt.is r.ch z
 have hkl := hs.le
 have h5 := hr.ch5
 have hne : 0 < r.ch.length := List.length_pos_of_mem c1
 obtain ⟨g, rfl⟩ : ∃ g, ca = some ⟨g, 0, none⟩ := by
  obtain ⟨a, cap, e, h1, _, h3⟩ := h.o.ch.form
  injection e with e1 _ e3
  rcases h3 with ⟨_, h3⟩ | ⟨g, h3⟩
  ·
   omega
  ·
   exact ⟨g, e1.trans h3⟩
 have hcap : r.ch.length ≤ cc := by
  obtain ⟨a, cap, e, h1, _, h3⟩ := h.o.ch.form
  injection e with e1 _ e3
  omega
 have cb : W.cell? ⟨b, 8, none⟩ = some (.slice (some ⟨g, 0, none⟩) r.ch.length cc) := h.c.cells.2.2.2.2.2.2.2.2.1
 have jB := implBsN g cc r.ch z k D W (fun j hj => ownsN_at h.o.ch j hj) (by omega) hcap c2 hs
 have hgl : g < W.heap.size := h.under _ (rows_ch _) g rfl
 have b1 : Below W.heap.size W (W.alloc (.cells #[.int .i64 z] 2)) := (Below.refl _ W).alloc (Nat.le_refl _) _
 have jI := implInsNA (.slice (some ⟨g, 0, none⟩) r.ch.length cc) r.ch z B W.heap.size k (W.alloc (.cells #[.int .i64 z] 2)) (h.o.ch.kept b1) (Bx.new W 2 _) (fun e => by injection e with e; exact absurd e (Nat.ne_of_lt hgl)) (by omega) hkl (Nat.le_trans h.le b1.size)
 have H : Hid (RpAt F W B b ⟨.slice la r.l.length lc, .slice oa r.ok.length oc, .slice (some ⟨g, 0, none⟩) r.ch.length cc, .slice ta r.te.length tc, T⟩ r) := h
 have HB1 : Hid (Below W.heap.size W (W.alloc (.cells #[.int .i64 z] 2))) := b1
 have HC : Hid (r.ch.Pairwise (· < ·)) := c2
 have HS : Hid (SrcAt r.ch z k D) := hs
 clear h hs hr hn c1 c2 hkl h5 hne hcap hgl b1
 cases D with
 | true =>
  have e : Hid (Sk.put z r.ch = r.ch) := (show _ = _ from Sk.put_there HC.out (by
   obtain ⟨h1, h2⟩ := HS.out.yes rfl
   rw [← h2]
   exact List.getElem_mem h1))
  clear jI
  go_enter Tryz.func140, Tryz.ntmps140
  go_wp2_with (go_at_call 155; refine jB.mono ?_; rintro e w1 ⟨rfl, rfl⟩)
  go_end0
  rw [e.out]
  first | exact ⟨rfl, _, H.out, Below.refl _ _⟩ | exact ⟨rfl, ⟨_, H.out⟩, Below.refl _ _⟩
 | false =>
  have e : Hid (Sk.put z r.ch = r.ch.take k ++ z :: r.ch.drop k) := hH_ (Sk.put_at z r.ch k HS.out.le HS.out.lo (HS.out.no rfl))
  go_enter Tryz.func140, Tryz.ntmps140
  go_wp2_with (first
   | (go_at_call 155; refine jB.mono ?_; rintro e w1 ⟨rfl, rfl⟩)
   | (go_at_call 156; refine jI.mono ?_; rintro e w2 ⟨v, rfl, hi⟩; have HI : Hid (InsG intE 2 _ w2 B (.slice (some ⟨g, 0, none⟩) r.ch.length cc) v r.ch k z) := hi; clear hi)
   | (refine wpList_rpGrCh H.out HB1.out HI.out rfl rfl (.tmp 27) (.tmp 25) rfl rfl rfl ?_; intro W9 k1 k2; have K1 : Hid _ := k1; have K2 : Hid _ := k2; clear k1 k2))
  go_end0
  rw [e.out]
  first | exact ⟨rfl, _, K1.out, K2.out⟩ | exact ⟨rfl, ⟨_, K1.out⟩, K2.out⟩
open Go.RowKit Go.Sort Go.Shelf
variable {F : Frm}

theorem putL_eq (b : Nat) : ∀ (vs : List Value) (i : Nat) (w : World), w.setCells b i vs = putL w b vs i
 | [], _, _ => rfl
 | v :: vs, i, w => putL_eq b vs (i + 1) _
theorem RpAt.putTe {w w1 : World} {B b : Nat} {u : Rv} {r : Rp} {gt n tc : Nat} (h : RpAt F w B b u r) (hb : Below w.heap.size w w1) (hte : u.te = .slice (some ⟨gt, 0, none⟩) n tc) {x : Mx} {k : Nat} (hk : k < u.T.length)
  (hx : HasX w B x.u x.m.l) (hxa : ∀ y ∈ u.rows, ap y x.u) (hxF : ∀ y ∈ F, x.u.ownBlock ≠ some y.1) :
  RpAt F (putL w1 gt (mxC x) (k * 7)) B b { u with T := u.T.take k ++ x :: u.T.drop (k + 1) } { r with te := r.te.take k ++ x.m :: r.te.drop (k + 1) } ∧ Below B w (putL w1 gt (mxC x) (k * 7)) := by
 have h1 := h.kept hb
 have ho : OwnsM w1 B (.slice (some ⟨gt, 0, none⟩) n tc) u.T := by rw [← hte]; exact h1.o.te
 have hp := OwnsE.puts ho hk x
 rw [List.set_eq_take_append_cons_drop, if_pos hk] at hp
 have hBg : B ≤ gt := ho.from gt rfl
 have hbl := putL_below hBg (mxC x) (k * 7) (Below.refl B w1)
 have hg : w1.grownBy (putL w1 gt (mxC x) (k * 7)) u.te.ownBlock := ⟨hbl.os, hbl.tape, hbl.output, hbl.size, fun j hj hne => putL_block _ _ _ _ _ (fun e => hne (by rw [hte, e]; rfl))⟩
 obtain ⟨k1, k2, k3⟩ := h.grownTe hb (v := u.te) (x := x) (k := k) (q := k + 1) (by omega) (by rw [hte]; exact hp) hg (.inl rfl) hx hxa hxF
 have e : (putL w1 gt (mxC x) (k * 7)).setCell ⟨b, 9, none⟩ u.te = putL w1 gt (mxC x) (k * 7) := by
  rw [setCell_eq_setRow _ b 9 _ _ _ _ k3]
  exact setRow_self _ _ _ _ _ k3
 rw [e] at k1 k2
 exact ⟨k1, k2⟩
def frPtc (s t : Nat → Value) : Act := { tmps := #[s 0, s 1, s 2, s 3, s 4, s 5, s 6, s 7, s 8, s 9, s 10, s 11, s 12, s 13, s 14, s 15, s 16, t 17, t 18, t 19, t 20, t 21, t 22, t 23, s 24, s 25, s 26, s 27, s 28, s 29, s 30, s 31, s 32, s 33, s 34], defers := [] }
def LPtc : List Nat := [17, 18, 19, 20, 21, 22, 23]
def dPtc (i : Nat) : Nat := LPtc.getD i (i + 5000)
theorem dPtc_ne {i j : Nat} (hi : i < 7) (hj : j < 7) (h : j ≠ i) : dPtc j ≠ dPtc i := slotsNe (L := LPtc) (by decide) rfl hi hj h
def GPtc (b gt nT k tc : Nat) (x0 : Mx) (i : Nat) (x : World) (v : Value) : Prop := match i with
 | 0 => v = .pointer (some ⟨b, 0, none⟩)
 | 1 => v = .pointer (some ⟨b, 0, none⟩)
 | 2 => v = .pointer (some ⟨b, 9, none⟩)
 | 3 => v = .slice (some ⟨gt, 0, none⟩) nT tc
 | 4 => v = .int .i64 (k : Int)
 | 5 => v = .agg (mxV x0)
 | 6 => v = .pointer (some ⟨gt, k * 7, none⟩)
 | _ => True
theorem implPutE (r : Rp) (u : Rv) (B b k : Nat) (x0 : Mx) (w : World) (h : RpAt F w B b u r) (hx : HasX w B x0.u x0.m.l) (hxa : ∀ y ∈ u.rows, ap y x0.u) (hxF : ∀ y ∈ F, x0.u.ownBlock ≠ some y.1) (hl : r.te.length ≤ 1000) (hr : (r.te.map (·.f)).Pairwise (· < ·)) (hs : SrcAt (r.te.map (·.f)) x0.m.f k true) :
  Calls Tryz.prog 141 #[.pointer (some ⟨b, 0, none⟩), .agg (mxV x0)] w fun e w' => e = .returned (.tuple #[]) ∧ ∃ u', RpAt F w' B b u' { r with te := r.te.take k ++ x0.m :: r.te.drop (k + 1) } ∧ Below B w w' := by
 obtain ⟨la, lc, oa, oc, ca, cc, ta, tc, T, rfl⟩ := h.got.form
 have HT : Hid (T.length = r.te.length ∧ T.map (·.m) = r.te) := hH_ (⟨by rw [← h.o.t, List.length_map], h.o.t⟩)
 have HF : Hid (T.map (·.m.f) = r.te.map (·.f)) := hH_ (by rw [← HT.out.2, List.map_map]; rfl)
 have hkl : k < r.te.length := by
  obtain ⟨h1, _⟩ := hs.yes rfl
  simpa using h1
 have HK : Hid (k < r.te.length) := hkl
 have HTA : Hid (∃ gt, ta = some ⟨gt, 0, none⟩) := (show ∃ _, _ from by
  obtain ⟨a, cap, e, h1, _, h3⟩ := h.o.te.form
  injection e with e1 _ e3
  have := HT.out.1
  rcases h3 with ⟨_, h3⟩ | ⟨g, h3⟩
  ·
   omega
  ·
   exact ⟨g, e1.trans h3⟩)
 clear hkl
 obtain ⟨w1, hw1⟩ : ∃ w1, w1 = w.alloc (.cells (mxV x0) 30) := ⟨_, rfl⟩
 obtain ⟨g, hg⟩ : ∃ g, g = w.heap.size := ⟨_, rfl⟩
 have X1 : Hid (Bx w1 g 30 (mxV x0)) := hH_ (by rw [hw1, hg]; exact Bx.new _ _ _)
 have b1 : Below w.heap.size w w1 := by rw [hw1]; exact (Below.refl _ w).alloc (Nat.le_refl _) _
 have H1 : Hid (RpAt F w1 B b ⟨.slice la r.l.length lc, .slice oa r.ok.length oc, .slice ca r.ch.length cc, .slice ta r.te.length tc, T⟩ r) := hH_ (h.kept b1)
 have HX1 : Hid (HasX w1 B x0.u x0.m.l) := hH_ (hx.kept b1)
 have HXA : Hid (∀ y ∈ Rv.rows ⟨.slice la r.l.length lc, .slice oa r.ok.length oc, .slice ca r.ch.length cc, .slice ta r.te.length tc, T⟩, ap y x0.u) := hH_ (hxa)
 have HXF : Hid (∀ y ∈ F, x0.u.ownBlock ≠ some y.1) := hH_ (hxF)
 have B1 : Hid (Below B w w1) := hH_ (b1.mono h.le)
 obtain ⟨nT, hnT⟩ : ∃ nT, nT = r.te.length := ⟨_, rfl⟩
 obtain ⟨D, hD⟩ : ∃ D : Bool, D = true := ⟨_, rfl⟩
 rw [← hD] at hs
 have HD : Hid (D = true) := hD
 have HN : Hid (nT = r.te.length) := hnT
 have CB := fun x (hS : Below w1.heap.size w1 x) => (show x.cell? ⟨b, 9, none⟩ = some (.slice ta nT tc) from by rw [hnT]; exact (H1.out.kept hS).c.cells.2.2.2.2.2.2.2.2.2)
 have CX := fun x (hS : Below w1.heap.size w1 x) => (show x.cell? ⟨g, 1, none⟩ = some (.int .i64 x0.m.f) from (Bx.kept X1.out hS).cell 1)
 have jS := fun x (hS : Below w1.heap.size w1 x) => implBsA (.slice ta nT tc) T x0.m.f k D x (by rw [hnT]; exact (H1.out.kept hS).got.te.1) (by rw [HT.out.1]; exact hl) (by rw [HF.out]; exact hr) (by rw [HF.out]; exact hs)
 clear h hx hxa hxF hl hr hs b1 hnT hD
 unfold mxV at hw1 ⊢
 go_enter Tryz.func141, Tryz.ntmps141
 go_upto_region 1 with fail
 rw [← hg, ← hw1]
 clear hw1 hg
 have S0 := dwB w1
 generalize hA : Act.mk _ _ = A
 obtain ⟨s, hs, s0_, s3_⟩ : ∃ s : Nat → Value, A = frPta s s ∧ s 0 = .pointer (some ⟨b, 0, none⟩) ∧ s 3 = .pointer (some ⟨g, 0, none⟩) := by
  refine ⟨fun i => A.tmps.getD i undef, ?_, ?_, ?_⟩ <;> rw [← hA] <;> rfl
 rw [hs]
 clear hs hA
 refine region_heads 11 mixed (by decide) (by kernel_rfl) (by kernel_rfl) (by kernel_rfl) (by kernel_rfl) (frPta s) dPta (fun x => Below w1.heap.size w1 x) (GPta b g nT k tc ta x0 D) (fun i j hi hj h => dPta_ne hi hj h) ?put s rfl S0 ?step ?done
 case put =>
  intro i o hi ho t v
  iterate 11 rcases ltS hi with hi | rfl
  cases hi
  all_goals
   obtain rfl := Option.some.inj ho
   rfl
 case step =>
  intro i o hi ho t x hS hdep K hK
  iterate 11 rcases ltS hi with hi | rfl
  cases hi
  all_goals obtain rfl := Option.some.inj ho
  iterate 6
   ·
    have y0 := (CB x hS)
    have y1 := (CX x hS)
    have h2 := hK _ x hS kI_ rfl
    try simp [Region.binds, GPta, dPta, LPta] at hdep
    unfold frPta at h2 ⊢
    clear hK
    go_simp
    first | simpa [Act.put, hdep, y0, y1, s0_, s3_] using h2 | simpa [Act.put, y0, y1, s0_, s3_] using h2
  ·
   have e3 : t 10 = .slice ta nT tc := hdep ⟨3, .data⟩ (by simp) rfl
   have e5 : t 12 = .int .i64 x0.m.f := hdep ⟨5, .data⟩ (by simp) rfl
   refine callG3 (by rfl) 157 (.tmp 10) (.tmp 12) (.func 158) _ rfl (.slice ta nT tc) (.int .i64 x0.m.f) (.func (.func 158) #[] #[]) e3 e5 rfl (Go.Proofs.enters_of Tryz.func157 (by kernel_rfl) rfl _) (fun v y => v = .tuple #[.int .i64 (k : Int), .bool D] ∧ Below x.heap.size x y) ((jS x hS).mono ?_) ?_
   ·
    rintro e0 y0 ⟨h0, h1⟩
    exact ⟨_, h0, rfl, h1⟩
   ·
    rintro v y ⟨h0, hb2⟩
    exact hK v y (hS.trans (hb2.mono hS.size)) (fun j u hj hne h => GPta.keep hb2 j u hj h) h0
  iterate 4
   ·
    have h2 := hK _ x hS kI_ rfl
    try simp [Region.binds, GPta, dPta, LPta] at hdep
    unfold frPta at h2 ⊢
    clear hK
    go_simp
    first | simpa [Act.put, hdep, s0_, s3_] using h2 | simpa [Act.put, s0_, s3_] using h2
 case done =>
  intro tt w2 hS hG
  have e10 : tt 4 = .int .i64 (k : Int) := hG 10 (by decide)
  have e11 : tt 15 = .bool D := hG 9 (by decide)
  rw [HD.out] at e11
  have H2 := hH_ (H1.out.kept hS)
  have B2 := hH_ (B1.out.trans (hS.mono H1.out.le))
  have X2 : Hid (Bx w2 g 30 (mxV x0)) := hH_ (Bx.kept X1.out hS)
  have HX2 := hH_ (HX1.out.kept hS)
  clear jS CB CX hG hS S0 H1 B1 X1 HX1
  show wpList Tryz.prog _ _ [_] _ w2
  unfold frPta
  simp only [e10, e11, s0_, s3_]
  clear e10 e11 s0_ s3_
  obtain ⟨gt, hta⟩ := HTA.out
  subst hta
  clear HTA
  go_upto_region 3 with fail
  have HX := X2
  have CB := fun x (hS : Below w2.heap.size w2 x) => (show x.cell? ⟨b, 9, none⟩ = some (.slice (some ⟨gt, 0, none⟩) nT tc) from by rw [HN.out]; exact (H2.out.kept hS).c.cells.2.2.2.2.2.2.2.2.2)
  have hkn : (k : Int) < (nT : Int) := by have:=HN.out;have:=HK.out;omega
  have hkn2 : k < nT := by omega
  have S0 := dwB w2
  generalize hA : Act.mk _ _ = A
  obtain ⟨s, hs, s0_, s3_, s4_⟩ : ∃ s : Nat → Value, A = frPtc s s ∧ s 0 = .pointer (some ⟨b, 0, none⟩) ∧ s 3 = .pointer (some ⟨g, 0, none⟩) ∧ s 4 = .int .i64 (k : Int) := by
   refine ⟨fun i => A.tmps.getD i undef, ?_, ?_, ?_, ?_⟩ <;> rw [← hA] <;> rfl
  rw [hs]
  clear hs hA
  refine region_heads 7 mixed (by decide) (by kernel_rfl) (by kernel_rfl) (by kernel_rfl) (by kernel_rfl) (frPtc s) dPtc (fun x => Below w2.heap.size w2 x) (GPtc b gt nT k tc x0) (fun i j hi hj h => dPtc_ne hi hj h) ?put s rfl S0 ?step ?done
  case put =>
   intro i o hi ho t v
   iterate 7 rcases ltS hi with hi | rfl
   cases hi
   all_goals
    obtain rfl := Option.some.inj ho
    rfl
  case step =>
   intro i o hi ho t x hS hdep K hK
   iterate 7 rcases ltS hi with hi | rfl
   cases hi
   all_goals obtain rfl := Option.some.inj ho
   iterate 5
    ·
     have y0 := (CB x hS)
     have h2 := hK _ x hS kI_ rfl
     try simp [Region.binds, GPtc, dPtc, LPtc] at hdep
     unfold frPtc at h2 ⊢
     clear hK
     go_simp
     first | simpa [Act.put, hdep, y0, s0_, s3_, s4_] using h2 | simpa [Act.put, y0, s0_, s3_, s4_] using h2
   ·
    have h2 := hK (.agg (mxV x0)) x hS kI_ rfl
    refine ldGM (by rfl) (.tmp 3) rfl g (by show (frPtc s t).eval (.tmp 3) = _; unfold frPtc; simp [Act.eval, s3_]) (HX.out.kept hS) rfl ?_
    exact h2
   ·
    have e3 : t 20 = .slice (some ⟨gt, 0, none⟩) nT tc := hdep ⟨3, .data⟩ (by simp) rfl
    have e4 : t 21 = .int .i64 (k : Int) := hdep ⟨4, .data⟩ (by simp) rfl
    have h2 := hK (.pointer (some ⟨gt, k * 7, none⟩)) x hS kI_ rfl
    unfold frPtc at h2 ⊢
    clear hK
    go_simp
    simpa [Act.put, e3, e4, s0_, s3_, s4_] using h2
  case done =>
   intro tt x hS hG
   have e5 : tt 22 = .agg (mxV x0) := hG 5 (by decide)
   have e6 : tt 23 = .pointer (some ⟨gt, k * 7, none⟩) := hG 6 (by decide)
   have hkT : k < T.length := by have := HT.out.1; have:=HK.out;omega
   obtain ⟨K1, K2⟩ := H2.out.putTe hS (gt := gt) (n := r.te.length) (tc := tc) rfl hkT HX2.out HXA.out HXF.out
   have hom : OwnsM x B (.slice (some ⟨gt, 0, none⟩) T.length tc) T := by
    have := (H2.out.kept hS).o.te
    rw [← HT.out.1] at this
    exact this
   have hth : x.there gt (k * 7) (mxV x0).size := fun j hj => ⟨by
    have h7 : j < (mxE.c T[k]).length := hj
    have := OwnsE.at hom hkT (i := j) (u := (mxE.c T[k])[j]) (List.getElem?_eq_getElem h7)
    rw [show k * 7 + j = k * mxE.k + j from rfl, this]
    rfl, hom.has.free _⟩
   clear CB S0 hS hG hkn hkn2
   show wpList Tryz.prog _ _ [_] _ x
   unfold frPtc
   simp only [e5, e6, s0_, s3_, s4_]
   clear e5 e6 s0_ s3_ s4_
   refine wpList_store_mid rfl 30 (.tmp 23) (.tmp 22) rfl gt (k * 7) (mxV x0) rfl rfl hth Tryz.rszMs (all_oneCell_toArray (mxE.one x0)) ?_
   have e9 : x.setCells gt (k * 7) (mxV x0).toList = putL x gt (mxC x0) (k * 7) := putL_eq _ _ _ _
   rw [e9]
   have H9 : Hid (RpAt F (putL x gt (mxC x0) (k * 7)) B b _ { r with te := r.te.take k ++ x0.m :: r.te.drop (k + 1) }) := hH_ (K1)
   have B9 := hH_ (B2.out.trans K2)
   clear K1 K2 H2 B2 X2 HX2 HX hth hom e9
   generalize putL x gt (mxC x0) (k * 7) = w9 at H9 B9 ⊢
   go_wp2
   (try simp only [Exit.inBlock, Exit.then])
   refine bodyPost_ret (results_none rfl _ _ _) rfl ?_
   first | exact ⟨rfl, _, H9.out, B9.out⟩ | exact ⟨rfl, ⟨_, H9.out⟩, B9.out⟩
open Go.RowKit Go.Sort Go.Shelf

theorem implPutT9 : PutT9 := by
 intro F r B b m hr hn hm W u v h hv ha haF
 obtain ⟨a, c, e, h1, h2⟩ := hv.form
 subst e
 obtain ⟨_, t2⟩ := hr.te1 hn
 have h5 := hr.te5.1
 have hp : (r.te.map (·.f)).Pairwise (· < ·) := by rw [List.pairwise_map]; exact t2
 obtain ⟨k, D, hs⟩ := SrcAt.is (r.te.map (·.f)) m.f
 have hkl : k ≤ r.te.length := by simpa using hs.le
 have hlo : ∀ i (hi : i < r.te.length), i < k → r.te[i].f < m.f := fun i hi hik => by
  have := hs.lo i (by simpa using hi) hik
  simpa using this
 cases D with
 | true =>
  obtain ⟨k1, k2⟩ := hs.yes rfl
  have k1 : k < r.te.length := by simpa using k1
  have e : putM m r.te = r.te.take k ++ m :: r.te.drop (k + 1) := putM_eq r.te k k1 hlo (by simpa using k2)
  rw [e]
  exact implPutE r u B b k ⟨m, a, c⟩ W h hv ha haF (by omega) hp hs
 | false =>
  have e : putM m r.te = r.te.take k ++ m :: r.te.drop k := putM_ins r.te k hkl hlo (fun hk => by
   have := hs.no rfl (by simpa using hk)
   simpa using this)
  rw [e]
  exact implPutN r u B b k ⟨m, a, c⟩ W h hv ha haF (by omega) hp hs (fun W' te T g h1 h2 h3 h4 h5 => implInsMA te T ⟨m, a, c⟩ B g k W' h1 h2 h3 (by omega) (by omega) h5)
theorem implRcv (r : Rp) (u : Rv) (X : Mx) (w : World) (h : RpGot w u r) (hf : Fit r) (hX : Sls txtE w X.u X.m.l) (hxs : X.m.l.length ≤ 1048576 ∧ ∀ x ∈ X.m.l, x.size ≤ 1048576) : Calls Tryz.prog 8 #[rpA r u, .agg (mxV X)] w fun e w' => RcvAns r X.m w e w' :=
 implRcvR implPutC9 implPutT9 r u X w h hf hX hxs
end Go.Proofs.YtdkhdjickkcaiaaGreat.Rl.Fr
