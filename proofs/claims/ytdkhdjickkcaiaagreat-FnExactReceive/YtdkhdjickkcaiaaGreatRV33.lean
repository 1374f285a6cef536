/-
  The program's takeLog.
  The program's follow and asksFor.
  The program's follow, beside blocks that stay.
  The program's takeChange, given its putChange.
  The program's takeTell, given its putChange and putTell.
-/
import Derived.Test.YtdkhdjickkcaiaaGreatRVS
import Derived.Test.YtdkhdjickkcaiaaGreatRV32
import Derived.Test.YtdkhdjickkcaiaaGreatRV25
import Derived.Test.YtdkhdjickkcaiaaGreatRV24
import Derived.Test.YtdkhdjickkcaiaaGreatRV21
import Derived.Test.YtdkhdjickkcaiaaGreatRV26
import Derived.Test.YtdkhdjickkcaiaaGreatRV20
set_option linter.unusedVariables false
set_option linter.unusedSimpArgs false
set_option maxRecDepth 100000
set_option maxHeartbeats 64000000
namespace Go.Proofs.YtdkhdjickkcaiaaGreat.Rl.Fr
open Go.RowKit Go.Sort Go.Shelf Pg
theorem anew_no {r : Rp} (h : ¬ leads r) : anew r = { r with ok := [] } := if_neg h
theorem not_mine {r : Rp} {m : Ms} (h1 : m.f = m.v % r.p) (h2 : m.f ≠ r.id) (h3 : m.v = r.v) : ¬ leads r := fun h => h2 (by rw [h1, h3]; exact h.2)
variable {F : Frm}
def frRla (s t : Nat → Value) : Act := { tmps := #[s 0, s 1, s 2, s 3, s 4, t 5, t 6, t 7, t 8, t 9, t 10, t 11, t 12, t 13, t 14, t 15, t 16, t 17, t 18, t 19, t 20, t 21, t 22, t 23, t 24, t 25, t 26, t 27, s 28, s 29, s 30, s 31, s 32, s 33, s 34, s 35, s 36, s 37, s 38, s 39, s 40, s 41, s 42, s 43, s 44, s 45, s 46, s 47, s 48, s 49, s 50, s 51, s 52, s 53, s 54, s 55, s 56, s 57, s 58, s 59, s 60, s 61, s 62, s 63, s 64, s 65, s 66, s 67, s 68, s 69], defers := [] }
def LRla : List Nat := [5, 6, 7, 8, 9, 10, 11, 12, 13, 14, 15, 16, 17, 18, 19, 20, 21, 22, 23, 24, 25, 26, 27]
def dRla (i : Nat) : Nat := LRla.getD i (i + 5000)
theorem dRla_ne {i j : Nat} (hi : i < 23) (hj : j < 23) (h : j ≠ i) : dRla j ≠ dRla i := slotsNe (L := LRla) (by decide) rfl hi hj h
def GRla (r : Rp) (X : Mx) (b g cN lc : Nat) (la : Option Addr) (q : Int) (D : Bool) (i : Nat) (x : World) (v : Value) : Prop := match i with
 | 0 => v = .pointer (some ⟨g, 1, none⟩)
 | 1 => v = .int .i64 X.m.f
 | 2 => v = .pointer (some ⟨g, 3, none⟩)
 | 3 => v = .int .i64 X.m.v
 | 4 => v = .pointer (some ⟨b, 0, none⟩)
 | 5 => v = .pointer (some ⟨b, 0, none⟩)
 | 6 => v = .pointer (some ⟨b, 1, none⟩)
 | 7 => v = .int .i64 r.p
 | 8 => v = .int .i64 q
 | 9 => v = .bool true
 | 10 => v = .bool true
 | 11 => v = undef
 | 12 => v = undef
 | 13 => v = undef
 | 14 => v = undef
 | 15 => v = .bool true
 | 16 => v = .bool true
 | 17 => v = undef
 | 18 => v = undef
 | 19 => v = undef
 | 20 => v = undef
 | 21 => v = undef
 | 22 => v = undef
 | _ => True
theorem GRla.keep {r : Rp} {X : Mx} {b g cN lc : Nat} {la : Option Addr} {q : Int} {D : Bool} {x y : World} (hb : Below x.heap.size x y) (j : Nat) (v : Value) (hj : j < 23) (h : GRla r X b g cN lc la q D j x v) : GRla r X b g cN lc la q D j y v := h
def frRlb (s t : Nat → Value) : Act := { tmps := #[s 0, s 1, s 2, s 3, s 4, t 5, t 6, t 7, t 8, t 9, t 10, t 11, t 12, t 13, t 14, t 15, t 16, t 17, t 18, t 19, t 20, t 21, t 22, t 23, t 24, t 25, t 26, t 27, s 28, s 29, s 30, s 31, s 32, s 33, s 34, s 35, s 36, s 37, s 38, s 39, s 40, s 41, s 42, s 43, s 44, s 45, s 46, s 47, s 48, s 49, s 50, s 51, s 52, s 53, s 54, s 55, s 56, s 57, s 58, s 59, s 60, s 61, s 62, s 63, s 64, s 65, s 66, s 67, s 68, s 69], defers := [] }
def LRlb : List Nat := [5, 6, 7, 8, 9, 10, 11, 12, 13, 14, 15, 16, 17, 18, 19, 20, 21, 22, 23, 24, 25, 26, 27]
def dRlb (i : Nat) : Nat := LRlb.getD i (i + 5000)
theorem dRlb_ne {i j : Nat} (hi : i < 23) (hj : j < 23) (h : j ≠ i) : dRlb j ≠ dRlb i := slotsNe (L := LRlb) (by decide) rfl hi hj h
def GRlb (r : Rp) (X : Mx) (b g cN lc : Nat) (la : Option Addr) (q : Int) (D : Bool) (i : Nat) (x : World) (v : Value) : Prop := match i with
 | 0 => v = .pointer (some ⟨g, 1, none⟩)
 | 1 => v = .int .i64 X.m.f
 | 2 => v = .pointer (some ⟨g, 3, none⟩)
 | 3 => v = .int .i64 X.m.v
 | 4 => v = .pointer (some ⟨b, 0, none⟩)
 | 5 => v = .pointer (some ⟨b, 0, none⟩)
 | 6 => v = .pointer (some ⟨b, 1, none⟩)
 | 7 => v = .int .i64 r.p
 | 8 => v = .int .i64 q
 | 9 => v = .bool false
 | 10 => v = .bool false
 | 11 => v = .pointer (some ⟨b, 0, none⟩)
 | 12 => v = .agg (mxV X)
 | 13 => v = .bool false
 | 14 => v = .bool true
 | 15 => v = .bool true
 | 16 => v = .bool true
 | 17 => v = undef
 | 18 => v = undef
 | 19 => v = undef
 | 20 => v = undef
 | 21 => v = undef
 | 22 => v = undef
 | _ => True
theorem GRlb.keep {r : Rp} {X : Mx} {b g cN lc : Nat} {la : Option Addr} {q : Int} {D : Bool} {x y : World} (hb : Below x.heap.size x y) (j : Nat) (v : Value) (hj : j < 23) (h : GRlb r X b g cN lc la q D j x v) : GRlb r X b g cN lc la q D j y v := h
def frRlc (s t : Nat → Value) : Act := { tmps := #[s 0, s 1, s 2, s 3, s 4, t 5, t 6, t 7, t 8, t 9, t 10, t 11, t 12, t 13, t 14, t 15, t 16, t 17, t 18, t 19, t 20, t 21, t 22, t 23, t 24, t 25, t 26, t 27, s 28, s 29, s 30, s 31, s 32, s 33, s 34, s 35, s 36, s 37, s 38, s 39, s 40, s 41, s 42, s 43, s 44, s 45, s 46, s 47, s 48, s 49, s 50, s 51, s 52, s 53, s 54, s 55, s 56, s 57, s 58, s 59, s 60, s 61, s 62, s 63, s 64, s 65, s 66, s 67, s 68, s 69], defers := [] }
def LRlc : List Nat := [5, 6, 7, 8, 9, 10, 11, 12, 13, 14, 15, 16, 17, 18, 19, 20, 21, 22, 23, 24, 25, 26, 27]
def dRlc (i : Nat) : Nat := LRlc.getD i (i + 5000)
theorem dRlc_ne {i j : Nat} (hi : i < 23) (hj : j < 23) (h : j ≠ i) : dRlc j ≠ dRlc i := slotsNe (L := LRlc) (by decide) rfl hi hj h
def GRlc (r : Rp) (X : Mx) (b g cN lc : Nat) (la : Option Addr) (q : Int) (D : Bool) (i : Nat) (x : World) (v : Value) : Prop := match i with
 | 0 => v = .pointer (some ⟨g, 1, none⟩)
 | 1 => v = .int .i64 X.m.f
 | 2 => v = .pointer (some ⟨g, 3, none⟩)
 | 3 => v = .int .i64 X.m.v
 | 4 => v = .pointer (some ⟨b, 0, none⟩)
 | 5 => v = .pointer (some ⟨b, 0, none⟩)
 | 6 => v = .pointer (some ⟨b, 1, none⟩)
 | 7 => v = .int .i64 r.p
 | 8 => v = .int .i64 q
 | 9 => v = .bool false
 | 10 => v = .bool false
 | 11 => v = .pointer (some ⟨b, 0, none⟩)
 | 12 => v = .agg (mxV X)
 | 13 => v = .bool true
 | 14 => v = .bool false
 | 15 => v = .bool false
 | 16 => v = .bool false
 | 17 => v = .pointer (some ⟨g, 5, none⟩)
 | 18 => v = .slice X.pl X.m.l.length X.cl
 | 19 => v = .pointer (some ⟨b, 0, none⟩)
 | 20 => v = .slice la cN lc
 | 21 => v = .bool D
 | 22 => v = .bool !D
 | _ => True
theorem GRlc.keep {r : Rp} {X : Mx} {b g cN lc : Nat} {la : Option Addr} {q : Int} {D : Bool} {x y : World} (hb : Below x.heap.size x y) (j : Nat) (v : Value) (hj : j < 23) (h : GRlc r X b g cN lc la q D j x v) : GRlc r X b g cN lc la q D j y v := h
def frRld (s t : Nat → Value) : Act := { tmps := #[s 0, s 1, s 2, s 3, s 4, s 5, s 6, s 7, s 8, s 9, s 10, s 11, s 12, s 13, s 14, s 15, s 16, s 17, s 18, s 19, s 20, s 21, s 22, s 23, s 24, s 25, s 26, s 27, s 28, s 29, s 30, s 31, s 32, s 33, s 34, s 35, s 36, s 37, s 38, s 39, s 40, t 41, t 42, t 43, t 44, t 45, t 46, t 47, t 48, t 49, t 50, s 51, s 52, s 53, s 54, s 55, s 56, s 57, s 58, s 59, s 60, s 61, s 62, s 63, s 64, s 65, s 66, s 67, s 68, s 69], defers := [] }
def LRld : List Nat := [41, 42, 43, 44, 45, 46, 47, 48, 49, 50]
def dRld (i : Nat) : Nat := LRld.getD i (i + 5000)
theorem dRld_ne {i j : Nat} (hi : i < 10) (hj : j < 10) (h : j ≠ i) : dRld j ≠ dRld i := slotsNe (L := LRld) (by decide) rfl hi hj h
def GRld (r : Rp) (X : Mx) (b g : Nat) (i : Nat) (x : World) (v : Value) : Prop := match i with
 | 0 => v = .pointer (some ⟨b, 0, none⟩)
 | 1 => v = .pointer (some ⟨b, 0, none⟩)
 | 2 => v = .pointer (some ⟨b, 0, none⟩)
 | 3 => v = .pointer (some ⟨b, 6, none⟩)
 | 4 => v = .int .i64 r.c
 | 5 => v = .pointer (some ⟨g, 6, none⟩)
 | 6 => v = .int .i64 X.m.c
 | 7 => v = .int .i64 (max r.c X.m.c)
 | 8 => v = .pointer (some ⟨b, 0, none⟩)
 | 9 => v = .pointer (some ⟨b, 6, none⟩)
 | _ => True
def frRle (s t : Nat → Value) : Act := { tmps := #[s 0, s 1, s 2, s 3, s 4, s 5, s 6, s 7, s 8, s 9, s 10, s 11, s 12, s 13, s 14, s 15, s 16, s 17, s 18, s 19, s 20, s 21, s 22, s 23, s 24, s 25, s 26, s 27, s 28, s 29, s 30, s 31, s 32, s 33, s 34, s 35, s 36, s 37, s 38, s 39, s 40, s 41, s 42, s 43, s 44, s 45, s 46, s 47, s 48, s 49, s 50, s 51, s 52, t 53, t 54, t 55, t 56, t 57, t 58, t 59, t 60, t 61, t 62, t 63, t 64, t 65, t 66, t 67, t 68, t 69], defers := [] }
def LRle : List Nat := [53, 54, 55, 56, 57, 58, 59, 60, 61, 62, 63, 64, 65, 66, 67, 68, 69]
def dRle (i : Nat) : Nat := LRle.getD i (i + 5000)
theorem dRle_ne {i j : Nat} (hi : i < 17) (hj : j < 17) (h : j ≠ i) : dRle j ≠ dRle i := slotsNe (L := LRle) (by decide) rfl hi hj h
def GRle (R : Rp) (X : Mx) (b g lo nx cx : Nat) (lx : Option Addr) (i : Nat) (x : World) (v : Value) : Prop := match i with
 | 0 => v = .pointer (some ⟨b, 0, none⟩)
 | 1 => v = .pointer (some ⟨b, 0, none⟩)
 | 2 => v = .pointer (some ⟨b, 0, none⟩)
 | 3 => v = .int .i64 R.id
 | 4 => v = .pointer (some ⟨g, 1, none⟩)
 | 5 => v = .int .i64 X.m.f
 | 6 => v = .pointer (some ⟨b, 0, none⟩)
 | 7 => v = .pointer (some ⟨b, 0, none⟩)
 | 8 => v = .pointer (some ⟨b, 2, none⟩)
 | 9 => v = .int .i64 R.v
 | 10 => v = .pointer (some ⟨b, 0, none⟩)
 | 11 => v = .pointer (some ⟨b, 0, none⟩)
 | 12 => v = .pointer (some ⟨b, 5, none⟩)
 | 13 => v = .slice lx nx cx
 | 14 => v = .int .i64 (nx : Int)
 | 15 => v = .agg #[.int .i64 2, .int .i64 R.id, .int .i64 X.m.f, .int .i64 R.v, .int .i64 0, .slice none 0 0, .int .i64 (nx : Int)]
 | 16 => ∃ (gb : Nat), v = .slice (some ⟨gb, 0, none⟩) 1 1 ∧ (lo ≤ gb ∧ Bx x gb 30 #[.int .i64 2, .int .i64 R.id, .int .i64 X.m.f, .int .i64 R.v, .int .i64 0, .slice none 0 0, .int .i64 (nx : Int)])
 | _ => True
theorem GRle.keep {R : Rp} {X : Mx} {b g lo nx cx : Nat} {lx : Option Addr} {x y : World} (hb : Below x.heap.size x y) (j : Nat) (v : Value) (hj : j < 17) (h : GRle R X b g lo nx cx lx j x v) : GRle R X b g lo nx cx lx j y v := by
 iterate 17 rcases ltS hj with hj | rfl
 cases hj
 ·
  exact h
 ·
  exact h
 ·
  exact h
 ·
  exact h
 ·
  exact h
 ·
  exact h
 ·
  exact h
 ·
  exact h
 ·
  exact h
 ·
  exact h
 ·
  exact h
 ·
  exact h
 ·
  exact h
 ·
  exact h
 ·
  exact h
 ·
  exact h
 ·
  obtain ⟨gb, h1, h2⟩ := h; exact ⟨gb, h1, h2.1, h2.2.kept hb⟩
theorem implTkL (r : Rp) (u : Rv) (B b : Nat) (X : Mx) (w : World) (h : RpAt F w B b u r) (hr : RpOk r) (hm : MsOk X.m r.p) (hf : X.m.f ≠ r.id) (hX : ∀ W, Below B w W → Sls txtE W X.u X.m.l) (hxs : X.m.l.length ≤ 1048576 ∧ ∀ x ∈ X.m.l, x.size ≤ 1048576) : Handles F 103 r (rcvL r X.m) B b X w := by
 unfold Handles
 obtain ⟨la, lc, oa, oc, ca, cc, ta, tc, T0, rfl⟩ := h.got.form
 obtain ⟨w1, hw1⟩ : ∃ w1, w1 = w.alloc (.cells #[.int .i64 X.m.k, .int .i64 X.m.f, .int .i64 X.m.t, .int .i64 X.m.v, .int .i64 X.m.la, .slice X.pl X.m.l.length X.cl, .int .i64 X.m.c] 30) := ⟨_, rfl⟩
 obtain ⟨g, hg⟩ : ∃ g, g = w.heap.size := ⟨_, rfl⟩
 have bw1 : Below w.heap.size w w1 := by rw [hw1]; exact (Below.refl _ w).alloc (Nat.le_refl _) _
 have XM : Bx w1 g 30 (mxV X) := by rw [hw1, hg]; exact Bx.new _ _ _
 have H1 : Hid (RpAt ((g, 30, mxV X) :: F) w1 B b ⟨.slice la r.l.length lc, .slice oa r.ok.length oc, .slice ca r.ch.length cc, .slice ta r.te.length tc, T0⟩ r) := (show RpAt _ _ _ _ _ _ from (h.kept bw1).beside (k := g) XM (by have := h.lt; omega) (fun v hv e => by have := h.under v hv _ e; omega))
 have B1 : Hid (Below B w w1) := hH_ (bw1.mono h.le)
 have HB : Hid (g = w.heap.size ∧ b < g) := hH_ (⟨hg, by have := h.lt; omega⟩)
 have HR : Hid (RpOk r) := hr
 have HM : Hid (MsOk X.m r.p ∧ X.m.f ≠ r.id) := hH_ (⟨hm, hf⟩)
 have HX : Hid (∀ W, Below B w W → Sls txtE W X.u X.m.l) := hH_ (hX)
 have HXS : Hid (X.m.l.length ≤ 1048576 ∧ ∀ x ∈ X.m.l, x.size ≤ 1048576) := hH_ (hxs)
 obtain ⟨q, hq⟩ : ∃ q : Int, q = X.m.v % r.p := ⟨_, rfl⟩
 have HQ : Hid (q = X.m.v % r.p) := hq
 have jl := fun W => implLd X.m.v r.p W ⟨hm.v.1, by have := hm.v; omega⟩ hr.p
 rw [← hq] at jl
 clear hm hf hX hxs hq
 clear h hr bw1 XM
 unfold mxV
 go_enter Tryz.func103, Tryz.ntmps103
 go_upto_region 1 with fail
 rw [← hg, ← hw1]
 clear hw1 hg
 have CC := fun x (hS : Below w1.heap.size w1 x) => (show x.cell? ⟨g, 1, none⟩ = some (.int .i64 X.m.f) ∧ x.cell? ⟨g, 3, none⟩ = some (.int .i64 X.m.v) ∧ x.cell? ⟨g, 5, none⟩ = some (.slice X.pl X.m.l.length X.cl) ∧ x.cell? ⟨b, 1, none⟩ = some (.int .i64 r.p) from ⟨((H1.out.kept hS).box (k := g) (ty := 30) (vs := mxV X) (by simp)).cell 1, ((H1.out.kept hS).box (k := g) (ty := 30) (vs := mxV X) (by simp)).cell 3, ((H1.out.kept hS).box (k := g) (ty := 30) (vs := mxV X) (by simp)).cell 5, (H1.out.kept hS).c.cell 1⟩)
 have HXM : Hid (∀ x, Below w1.heap.size w1 x → Bx x g 30 (mxV X)) := hH_ (fun x hS => (H1.out.kept hS).box (k := g) (ty := 30) (vs := mxV X) (by simp))
 have S0 := dwB w1
 obtain ⟨cN, hcN⟩ : ∃ cN, cN = r.c.toNat := ⟨_, rfl⟩
 have HCN : Hid (cN = r.c.toNat) := hcN
 by_cases hfq : X.m.f = q
 case neg =>
  have bne : (X.m.f != q) = true := by simp [hfq]
  have HE : Hid (rcvL r X.m = (r, [])) := hH_ (rcvL_no (fun h => hfq (by rw [HQ.out]; exact h.1)))
  obtain ⟨D, hD⟩ : ∃ D : Bool, D = true := ⟨_, rfl⟩
  clear hfq hcN hD
  generalize hA : Act.mk _ _ = A
  obtain ⟨s, hs, s0_, s3_⟩ : ∃ s : Nat → Value, A = frRla s s ∧ s 0 = .pointer (some ⟨b, 0, none⟩) ∧ s 3 = .pointer (some ⟨g, 0, none⟩) := by
   refine ⟨fun i => A.tmps.getD i undef, ?_, ?_, ?_⟩ <;> rw [← hA] <;> rfl
  rw [hs]
  clear hs hA
  refine region_heads 23 mixed (by decide) (by kernel_rfl) (by kernel_rfl) (by kernel_rfl) (by kernel_rfl) (frRla s) dRla (fun x => Below w1.heap.size w1 x) (GRla r X b g cN lc la q D) (fun i j hi hj h => dRla_ne hi hj h) ?put s rfl S0 ?step ?done
  case put =>
   intro i o hi ho t v
   iterate 23 rcases ltS hi with hi | rfl
   cases hi
   all_goals
    obtain rfl := Option.some.inj ho
    rfl
  case step =>
   intro i o hi ho t x hS hdep K hK
   iterate 23 rcases ltS hi with hi | rfl
   cases hi
   all_goals obtain rfl := Option.some.inj ho
   iterate 8
    ·
     have y0 := (CC x hS).1
     have y1 := (CC x hS).2.1
     have y2 := (CC x hS).2.2.2
     have h2 := hK _ x hS kI_ rfl
     try simp [Region.binds, GRla, dRla, LRla] at hdep
     unfold frRla at h2 ⊢
     clear hK
     go_simp
     first | simpa [Act.put, hdep, y0, y1, y2, s0_, s3_] using h2 | simpa [Act.put, y0, y1, y2, s0_, s3_] using h2
   ·
    have e3 : t 8 = .int .i64 X.m.v := hdep ⟨3, .data⟩ (by simp) rfl
    have e7 : t 12 = .int .i64 r.p := hdep ⟨7, .data⟩ (by simp) rfl
    refine callG2 (by rfl) 134 (.tmp 8) (.tmp 12) _ rfl (.int .i64 X.m.v) (.int .i64 r.p) e3 e7 (Go.Proofs.enters_of Tryz.func134 (by kernel_rfl) rfl _) (fun v y => (v = .int .i64 q) ∧ Below x.heap.size x y) ((jl x).mono ?_) ?_
    ·
     rintro e0 y0 ⟨h0, rfl⟩
     exact ⟨_, h0, rfl, Below.refl _ _⟩
    ·
     rintro v y ⟨h0, hb2⟩
     exact hK v y (hS.trans (hb2.mono hS.size)) (fun j u hj hne h => GRla.keep hb2 j u hj h) h0
   iterate 2
    ·
     have h2 := hK _ x hS kI_ rfl
     try simp [Region.binds, GRla, dRla, LRla] at hdep
     unfold frRla at h2 ⊢
     clear hK
     go_simp
     first | simpa [Act.put, hdep, bne, s0_, s3_] using h2 | simpa [Act.put, bne, s0_, s3_] using h2
   iterate 4
    ·
     refine skipG 10 false rfl _ rfl 15 rfl true (congrArg some (hdep ⟨10, .guard⟩ (by simp) rfl)) (by decide) ?_
     exact hK undef x hS kI_ rfl
   iterate 2
    ·
     have h2 := hK _ x hS kI_ rfl
     try simp [Region.binds, GRla, dRla, LRla] at hdep
     unfold frRla at h2 ⊢
     clear hK
     go_simp
     first | simpa [Act.put, hdep, s0_, s3_] using h2 | simpa [Act.put, s0_, s3_] using h2
   iterate 6
    ·
     refine skipG 16 false rfl _ rfl 21 rfl true (congrArg some (hdep ⟨16, .guard⟩ (by simp) rfl)) (by decide) ?_
     exact hK undef x hS kI_ rfl
  case done =>
   intro tt w2 hS hG
   have e15 : tt 20 = .bool true := hG 15 (by decide)
   have e16 : tt 21 = .bool true := hG 16 (by decide)
   have e22 : tt 27 = undef := hG 22 (by decide)
   have H2 := hH_ (H1.out.kept hS)
   have B2 := hH_ (B1.out.trans (hS.mono H1.out.le))
   clear CC jl HXM hG hS S0 H1 B1
   show wpList Tryz.prog _ _ [_] _ w2
   unfold frRla
   simp only [e15, e16, e22, s0_, s3_]
   clear e15 e16 e22 s0_ s3_
   have hba : Below w2.heap.size w2 (w2.alloc (.cells #[] 30)) := (Below.refl _ w2).alloc (Nat.le_refl _) _
   go_wp2
   go_ret
   rw [HE.out]
   exact ⟨⟨.slice la r.l.length lc, .slice oa r.ok.length oc, .slice ca r.ch.length cc, .slice ta r.te.length tc, T0⟩, _, [], rfl, RpMg.no ((H2.out.kept hba).less) (B2.out.trans (hba.mono H2.out.le))⟩
 have bne : (X.m.f != q) = false := by simp [hfq]
 have HFQ : Hid (X.m.f = q) := hfq
 have jn := fun x (hS : Below w1.heap.size w1 x) => (show Calls Tryz.prog 135 #[.pointer (some ⟨b, 0, none⟩), .agg (mxV X)] x _ from implNws r _ b lc la X.m.k X.m.f X.m.t X.m.v X.m.la X.m.c X.pl X.m.l.length X.cl x (H1.out.kept hS).c rfl)
 obtain ⟨NW, hNW⟩ : ∃ NW, NW = dB (r.v < X.m.v ∨ (X.m.v = r.v ∧ (r.n = false ∨ r.l.length ≤ X.m.l.length))) := ⟨_, rfl⟩
 have HNW : Hid (NW = dB (r.v < X.m.v ∨ (X.m.v = r.v ∧ (r.n = false ∨ r.l.length ≤ X.m.l.length)))) := hNW
 rw [← hNW] at jn
 clear hfq hNW
 cases NW with
 | false =>
  have HE : Hid (rcvL r X.m = (r, [])) := (show _ = _ from rcvL_no (fun h => dB_not HNW.out.symm (by
   rcases h.2.1 with h1 | ⟨h1, h2⟩
   ·
    exact .inl h1
   ·
    refine .inr ⟨h1, ?_⟩
    rcases h2 with h2 | h2
    ·
     exact .inl h2
    ·
     exact .inr h2.2)))
  obtain ⟨D, hD⟩ : ∃ D : Bool, D = true := ⟨_, rfl⟩
  clear hcN hD
  generalize hA : Act.mk _ _ = A
  obtain ⟨s, hs, s0_, s3_⟩ : ∃ s : Nat → Value, A = frRlb s s ∧ s 0 = .pointer (some ⟨b, 0, none⟩) ∧ s 3 = .pointer (some ⟨g, 0, none⟩) := by
   refine ⟨fun i => A.tmps.getD i undef, ?_, ?_, ?_⟩ <;> rw [← hA] <;> rfl
  rw [hs]
  clear hs hA
  refine region_heads 23 mixed (by decide) (by kernel_rfl) (by kernel_rfl) (by kernel_rfl) (by kernel_rfl) (frRlb s) dRlb (fun x => Below w1.heap.size w1 x) (GRlb r X b g cN lc la q D) (fun i j hi hj h => dRlb_ne hi hj h) ?put s rfl S0 ?step ?done
  case put =>
   intro i o hi ho t v
   iterate 23 rcases ltS hi with hi | rfl
   cases hi
   all_goals
    obtain rfl := Option.some.inj ho
    rfl
  case step =>
   intro i o hi ho t x hS hdep K hK
   iterate 23 rcases ltS hi with hi | rfl
   cases hi
   all_goals obtain rfl := Option.some.inj ho
   iterate 8
    ·
     have y0 := (CC x hS).1
     have y1 := (CC x hS).2.1
     have y2 := (CC x hS).2.2.2
     have h2 := hK _ x hS kI_ rfl
     try simp [Region.binds, GRlb, dRlb, LRlb] at hdep
     unfold frRlb at h2 ⊢
     clear hK
     go_simp
     first | simpa [Act.put, hdep, y0, y1, y2, s0_, s3_] using h2 | simpa [Act.put, y0, y1, y2, s0_, s3_] using h2
   ·
    have e3 : t 8 = .int .i64 X.m.v := hdep ⟨3, .data⟩ (by simp) rfl
    have e7 : t 12 = .int .i64 r.p := hdep ⟨7, .data⟩ (by simp) rfl
    refine callG2 (by rfl) 134 (.tmp 8) (.tmp 12) _ rfl (.int .i64 X.m.v) (.int .i64 r.p) e3 e7 (Go.Proofs.enters_of Tryz.func134 (by kernel_rfl) rfl _) (fun v y => (v = .int .i64 q) ∧ Below x.heap.size x y) ((jl x).mono ?_) ?_
    ·
     rintro e0 y0 ⟨h0, rfl⟩
     exact ⟨_, h0, rfl, Below.refl _ _⟩
    ·
     rintro v y ⟨h0, hb2⟩
     exact hK v y (hS.trans (hb2.mono hS.size)) (fun j u hj hne h => GRlb.keep hb2 j u hj h) h0
   iterate 3
    ·
     have h2 := hK _ x hS kI_ rfl
     try simp [Region.binds, GRlb, dRlb, LRlb] at hdep
     unfold frRlb at h2 ⊢
     clear hK
     go_simp
     first | simpa [Act.put, hdep, bne, s0_, s3_] using h2 | simpa [Act.put, bne, s0_, s3_] using h2
   ·
    have e10 : t 15 = .bool false := hdep ⟨10, .guard⟩ (by simp) rfl
    have h2 := hK (.agg (mxV X)) x hS kI_ rfl
    refine ldGM (wantG 10 false rfl _ rfl 15 rfl (congrArg some e10)) (.tmp 3) rfl g (by show (frRlb s t).eval (.tmp 3) = _; unfold frRlb; simp [Act.eval, s3_]) (HXM.out x hS) rfl ?_
    exact h2
   ·
    have e11 : t 16 = .pointer (some ⟨b, 0, none⟩) := hdep ⟨11, .data⟩ (by simp) rfl
    have e12 : t 17 = .agg (mxV X) := hdep ⟨12, .data⟩ (by simp) rfl
    have e10 : t 15 = .bool false := hdep ⟨10, .guard⟩ (by simp) rfl
    refine callG2 (wantG 10 false rfl _ rfl 15 rfl (congrArg some e10)) 135 (.tmp 16) (.tmp 17) _ rfl (.pointer (some ⟨b, 0, none⟩)) (.agg (mxV X)) e11 e12 (Go.Proofs.enters_of Tryz.func135 (by kernel_rfl) rfl _) (fun v y => (v = .bool false) ∧ Below x.heap.size x y) ((jn x hS).mono ?_) ?_
    ·
     rintro e0 y0 ⟨h0, h2⟩
     exact ⟨_, h0, rfl, h2⟩
    ·
     rintro v y ⟨h0, hb2⟩
     exact hK v y (hS.trans (hb2.mono hS.size)) (fun j u hj hne h => GRlb.keep hb2 j u hj h) h0
   iterate 3
    ·
     have h2 := hK _ x hS kI_ rfl
     try simp [Region.binds, GRlb, dRlb, LRlb] at hdep
     unfold frRlb at h2 ⊢
     clear hK
     go_simp
     first | simpa [Act.put, hdep, s0_, s3_] using h2 | simpa [Act.put, s0_, s3_] using h2
   iterate 6
    ·
     refine skipG 16 false rfl _ rfl 21 rfl true (congrArg some (hdep ⟨16, .guard⟩ (by simp) rfl)) (by decide) ?_
     exact hK undef x hS kI_ rfl
  case done =>
   intro tt w2 hS hG
   have e15 : tt 20 = .bool true := hG 15 (by decide)
   have e16 : tt 21 = .bool true := hG 16 (by decide)
   have e22 : tt 27 = undef := hG 22 (by decide)
   have H2 := hH_ (H1.out.kept hS)
   have B2 := hH_ (B1.out.trans (hS.mono H1.out.le))
   clear CC jl jn HXM bne hG hS S0 H1 B1
   show wpList Tryz.prog _ _ [_] _ w2
   unfold frRlb
   simp only [e15, e16, e22, s0_, s3_]
   clear e15 e16 e22 s0_ s3_
   have hba : Below w2.heap.size w2 (w2.alloc (.cells #[] 30)) := (Below.refl _ w2).alloc (Nat.le_refl _) _
   go_wp2
   go_ret
   rw [HE.out]
   exact ⟨⟨.slice la r.l.length lc, .slice oa r.ok.length oc, .slice ca r.ch.length cc, .slice ta r.te.length tc, T0⟩, _, [], rfl, RpMg.no ((H2.out.kept hba).less) (B2.out.trans (hba.mono H2.out.le))⟩
 | true =>
  have hcr := HR.out.c
  have jA := fun x (hS : Below w1.heap.size w1 x) => implAgr r _ b cN lc la x (H1.out.kept hS).c rfl (H1.out.kept hS).got.l (by omega) (by omega)
  have jB := fun x (hS : Below w1.heap.size w1 x) => implBegL X.u (.slice la cN lc) X.m.l (r.l.take cN) x (HX.out x (B1.out.trans (hS.mono H1.out.le))) (Sls.take (H1.out.kept hS).got.l (by omega)) HXS.out.1 (by rw [List.length_take]; have := (logB_sm HR.out.l).1; omega)
  obtain ⟨D, hD⟩ : ∃ D, D = dB (r.l.take cN <+: X.m.l) := ⟨_, rfl⟩
  have HD : Hid (D = dB (r.l.take cN <+: X.m.l)) := hD
  rw [← hD] at jB
  unfold Mx.u at jB
  clear hcN hD hcr
  generalize hA : Act.mk _ _ = A
  obtain ⟨s, hs, s0_, s3_⟩ : ∃ s : Nat → Value, A = frRlc s s ∧ s 0 = .pointer (some ⟨b, 0, none⟩) ∧ s 3 = .pointer (some ⟨g, 0, none⟩) := by
   refine ⟨fun i => A.tmps.getD i undef, ?_, ?_, ?_⟩ <;> rw [← hA] <;> rfl
  rw [hs]
  clear hs hA
  refine region_heads 23 mixed (by decide) (by kernel_rfl) (by kernel_rfl) (by kernel_rfl) (by kernel_rfl) (frRlc s) dRlc (fun x => Below w1.heap.size w1 x) (GRlc r X b g cN lc la q D) (fun i j hi hj h => dRlc_ne hi hj h) ?put s rfl S0 ?step ?done
  case put =>
   intro i o hi ho t v
   iterate 23 rcases ltS hi with hi | rfl
   cases hi
   all_goals
    obtain rfl := Option.some.inj ho
    rfl
  case step =>
   intro i o hi ho t x hS hdep K hK
   iterate 23 rcases ltS hi with hi | rfl
   cases hi
   all_goals obtain rfl := Option.some.inj ho
   iterate 8
    ·
     have y0 := (CC x hS).1
     have y1 := (CC x hS).2.1
     have y2 := (CC x hS).2.2.2
     have h2 := hK _ x hS kI_ rfl
     try simp [Region.binds, GRlc, dRlc, LRlc] at hdep
     unfold frRlc at h2 ⊢
     clear hK
     go_simp
     first | simpa [Act.put, hdep, y0, y1, y2, s0_, s3_] using h2 | simpa [Act.put, y0, y1, y2, s0_, s3_] using h2
   ·
    have e3 : t 8 = .int .i64 X.m.v := hdep ⟨3, .data⟩ (by simp) rfl
    have e7 : t 12 = .int .i64 r.p := hdep ⟨7, .data⟩ (by simp) rfl
    refine callG2 (by rfl) 134 (.tmp 8) (.tmp 12) _ rfl (.int .i64 X.m.v) (.int .i64 r.p) e3 e7 (Go.Proofs.enters_of Tryz.func134 (by kernel_rfl) rfl _) (fun v y => (v = .int .i64 q) ∧ Below x.heap.size x y) ((jl x).mono ?_) ?_
    ·
     rintro e0 y0 ⟨h0, rfl⟩
     exact ⟨_, h0, rfl, Below.refl _ _⟩
    ·
     rintro v y ⟨h0, hb2⟩
     exact hK v y (hS.trans (hb2.mono hS.size)) (fun j u hj hne h => GRlc.keep hb2 j u hj h) h0
   iterate 3
    ·
     have h2 := hK _ x hS kI_ rfl
     try simp [Region.binds, GRlc, dRlc, LRlc] at hdep
     unfold frRlc at h2 ⊢
     clear hK
     go_simp
     first | simpa [Act.put, hdep, bne, s0_, s3_] using h2 | simpa [Act.put, bne, s0_, s3_] using h2
   ·
    have e10 : t 15 = .bool false := hdep ⟨10, .guard⟩ (by simp) rfl
    have h2 := hK (.agg (mxV X)) x hS kI_ rfl
    refine ldGM (wantG 10 false rfl _ rfl 15 rfl (congrArg some e10)) (.tmp 3) rfl g (by show (frRlc s t).eval (.tmp 3) = _; unfold frRlc; simp [Act.eval, s3_]) (HXM.out x hS) rfl ?_
    exact h2
   ·
    have e11 : t 16 = .pointer (some ⟨b, 0, none⟩) := hdep ⟨11, .data⟩ (by simp) rfl
    have e12 : t 17 = .agg (mxV X) := hdep ⟨12, .data⟩ (by simp) rfl
    have e10 : t 15 = .bool false := hdep ⟨10, .guard⟩ (by simp) rfl
    refine callG2 (wantG 10 false rfl _ rfl 15 rfl (congrArg some e10)) 135 (.tmp 16) (.tmp 17) _ rfl (.pointer (some ⟨b, 0, none⟩)) (.agg (mxV X)) e11 e12 (Go.Proofs.enters_of Tryz.func135 (by kernel_rfl) rfl _) (fun v y => (v = .bool true) ∧ Below x.heap.size x y) ((jn x hS).mono ?_) ?_
    ·
     rintro e0 y0 ⟨h0, h2⟩
     exact ⟨_, h0, rfl, h2⟩
    ·
     rintro v y ⟨h0, hb2⟩
     exact hK v y (hS.trans (hb2.mono hS.size)) (fun j u hj hne h => GRlc.keep hb2 j u hj h) h0
   iterate 6
    ·
     have y0 := (CC x hS).2.2.1
     have h2 := hK _ x hS kI_ rfl
     try simp [Region.binds, GRlc, dRlc, LRlc] at hdep
     unfold frRlc at h2 ⊢
     clear hK
     go_simp
     first | simpa [Act.put, hdep, y0, s0_, s3_] using h2 | simpa [Act.put, y0, s0_, s3_] using h2
   ·
    have e19 : t 24 = .pointer (some ⟨b, 0, none⟩) := hdep ⟨19, .data⟩ (by simp) rfl
    have e16 : t 21 = .bool false := hdep ⟨16, .guard⟩ (by simp) rfl
    refine callG1 (wantG 16 false rfl _ rfl 21 rfl (congrArg some e16)) 137 (.tmp 24) _ rfl (.pointer (some ⟨b, 0, none⟩)) e19 (Go.Proofs.enters_of Tryz.func137 (by kernel_rfl) rfl _) (fun v y => (v = .slice la cN lc) ∧ Below x.heap.size x y) ((jA x hS).mono ?_) ?_
    ·
     rintro e0 y0 ⟨h0, _, h2⟩
     exact ⟨_, h0, rfl, h2⟩
    ·
     rintro v y ⟨h0, hb2⟩
     exact hK v y (hS.trans (hb2.mono hS.size)) (fun j u hj hne h => GRlc.keep hb2 j u hj h) h0
   ·
    have e18 : t 23 = .slice X.pl X.m.l.length X.cl := hdep ⟨18, .data⟩ (by simp) rfl
    have e20 : t 25 = .slice la cN lc := hdep ⟨20, .data⟩ (by simp) rfl
    have e16 : t 21 = .bool false := hdep ⟨16, .guard⟩ (by simp) rfl
    refine callG2 (wantG 16 false rfl _ rfl 21 rfl (congrArg some e16)) 136 (.tmp 23) (.tmp 25) _ rfl (.slice X.pl X.m.l.length X.cl) (.slice la cN lc) e18 e20 (Go.Proofs.enters_of Tryz.func136 (by kernel_rfl) rfl _) (fun v y => (v = .bool D) ∧ Below x.heap.size x y) ((jB x hS).mono ?_) ?_
    ·
     rintro e0 y0 ⟨h0, h2⟩
     exact ⟨_, h0, rfl, h2⟩
    ·
     rintro v y ⟨h0, hb2⟩
     exact hK v y (hS.trans (hb2.mono hS.size)) (fun j u hj hne h => GRlc.keep hb2 j u hj h) h0
   ·
    have e21 : t 26 = .bool D := hdep ⟨21, .data⟩ (by simp) rfl
    have e16 : t 21 = .bool false := hdep ⟨16, .guard⟩ (by simp) rfl
    have h2 := hK (.bool !D) x hS kI_ rfl
    unfold frRlc at h2 ⊢
    clear hK
    go_simp
    simpa [Act.put, e21, e16, s0_, s3_] using h2
  case done =>
   intro tt w2 hS hG
   have e15 : tt 20 = .bool false := hG 15 (by decide)
   have e16 : tt 21 = .bool false := hG 16 (by decide)
   have e22 : tt 27 = .bool !D := hG 22 (by decide)
   have H2 := hH_ (H1.out.kept hS)
   have B2 := hH_ (B1.out.trans (hS.mono H1.out.le))
   clear CC jl jn jA jB HXM bne hG hS S0 H1 B1
   show wpList Tryz.prog _ _ [_] _ w2
   unfold frRlc
   simp only [e15, e16, e22, s0_, s3_]
   clear e15 e16 e22 s0_ s3_
   cases D with
   | false =>
    have HE : Hid (rcvL r X.m = (r, [])) := hH_ (rcvL_no (fun h => dB_not HD.out.symm (by rw [HCN.out]; exact h.2.2)))
    simp only [Bool.not_false]
    have hba : Below w2.heap.size w2 (w2.alloc (.cells #[] 30)) := (Below.refl _ w2).alloc (Nat.le_refl _) _
    go_wp2
    go_ret
    rw [HE.out]
    exact ⟨⟨.slice la r.l.length lc, .slice oa r.ok.length oc, .slice ca r.ch.length cc, .slice ta r.te.length tc, T0⟩, _, [], rfl, RpMg.no ((H2.out.kept hba).less) (B2.out.trans (hba.mono H2.out.le))⟩
   | true =>
    have HE : Hid (rcvL r X.m = ({ r with l := X.m.l, v := X.m.v, n := true, la := X.m.v, c := max r.c X.m.c, ok := [], ch := [], te := [] }, [⟨2, r.id, X.m.f, X.m.v, 0, [], (X.m.l.length : Int)⟩])) := (show _ = _ from rcvL_yes ⟨by rw [← HQ.out]; exact HFQ.out, (by
     rcases dB_is HNW.out.symm with h1 | ⟨h1, h2⟩
     ·
      exact .inl h1
     ·
      refine .inr ⟨h1, ?_⟩
      rcases h2 with h2 | h2
      ·
       exact .inl h2
      ·
       exact .inr ⟨not_mine (by rw [← HQ.out]; exact HFQ.out) HM.out.2 h1, h2⟩), by rw [← HCN.out]; exact dB_is HD.out.symm⟩)
    simp only [Bool.not_true]
    clear HNW HD HCN
    have x3 : w2.cell? ⟨g, 3, none⟩ = some (.int .i64 X.m.v) := (H2.out.box (k := g) (ty := 30) (vs := mxV X) (by simp)).cell 3
    go_upto_region 4 with (refine wpList_rpV H2.out (Below.refl _ _) rfl rfl _ _ rfl X.m.v rfl rfl ?_; intro w3 h3 b3)
    have H3 : Hid (RpAt ((g, 30, mxV X) :: F) w3 B b _ { r with v := X.m.v }) := h3
    have B3 := hH_ (B2.out.trans b3)
    clear h3 b3 x3 H2 B2
    have a5 : w3.cell? ⟨g, 5, none⟩ = some (.slice X.pl X.m.l.length X.cl) := (H3.out.box (k := g) (ty := 30) (vs := mxV X) (by simp)).cell 5
    have jt := implNlg X.u X.m.l w3 (HX.out w3 B3.out) HXS.out.1 HXS.out.2
    unfold Mx.u at jt
    go_upto_region 5 with (first | (go_at_call 100; refine jt.mono ?_; rintro e w4 ⟨v6, rfl, h6, b6⟩; obtain ⟨p6, q6, rfl, _⟩ := h6.form) | (refine wpList_rpL H3.out b6 rfl rfl _ _ rfl h6.has rfl rfl ?_; intro w5 h5 b5))
    have H5 : Hid (RpAt ((g, 30, mxV X) :: F) w5 B b _ { r with v := X.m.v, l := X.m.l }) := h5
    have B5 := hH_ (B3.out.trans b5)
    clear h5 b5 h6 b6 jt a5 H3 B3
    have CC := fun x (hS : Below w5.heap.size w5 x) => (show x.cell? ⟨b, 6, none⟩ = some (.int .i64 r.c) ∧ x.cell? ⟨g, 6, none⟩ = some (.int .i64 X.m.c) from ⟨(H5.out.kept hS).c.cell 6, ((H5.out.kept hS).box (k := g) (ty := 30) (vs := mxV X) (by simp)).cell 6⟩)
    have S0 := dwB w5
    generalize hA : Act.mk _ _ = A
    obtain ⟨s, hs, s0_, s3_⟩ : ∃ s : Nat → Value, A = frRld s s ∧ s 0 = .pointer (some ⟨b, 0, none⟩) ∧ s 3 = .pointer (some ⟨g, 0, none⟩) := by
     refine ⟨fun i => A.tmps.getD i undef, ?_, ?_, ?_⟩ <;> rw [← hA] <;> rfl
    rw [hs]
    clear hs hA
    refine region_heads 10 mixed (by decide) (by kernel_rfl) (by kernel_rfl) (by kernel_rfl) (by kernel_rfl) (frRld s) dRld (fun x => Below w5.heap.size w5 x) (GRld r X b g) (fun i j hi hj h => dRld_ne hi hj h) ?put s rfl S0 ?step ?done
    case put =>
     intro i o hi ho t v
     iterate 10 rcases ltS hi with hi | rfl
     cases hi
     all_goals
      obtain rfl := Option.some.inj ho
      rfl
    case step =>
     intro i o hi ho t x hS hdep K hK
     iterate 10 rcases ltS hi with hi | rfl
     cases hi
     all_goals obtain rfl := Option.some.inj ho
     iterate 10
      ·
       have y0 := (CC x hS).1
       have y1 := (CC x hS).2
       have h2 := hK _ x hS kI_ rfl
       try simp [Region.binds, GRld, dRld, LRld] at hdep
       unfold frRld at h2 ⊢
       clear hK
       go_simp
       first | simpa [Act.put, hdep, y0, y1, s0_, s3_] using h2 | simpa [Act.put, y0, y1, s0_, s3_] using h2
    case done =>
     intro tt w6 hS hG
     have e7 : tt 48 = .int .i64 (max r.c X.m.c) := hG 7 (by decide)
     have e9 : tt 50 = .pointer (some ⟨b, 6, none⟩) := hG 9 (by decide)
     have H6 := hH_ (H5.out.kept hS)
     have B6 := hH_ (B5.out.trans (hS.mono H5.out.le))
     clear CC hG hS S0 H5 B5
     show wpList Tryz.prog _ _ [_] _ w6
     unfold frRld
     simp only [e7, e9, s0_, s3_]
     clear e7 e9 s0_ s3_
     refine wpList_rpC H6.out (Below.refl _ _) rfl rfl (.tmp 50) (.tmp 48) rfl (max r.c X.m.c) rfl rfl ?_
     intro w7 h7 b7
     have H7 : Hid (RpAt ((g, 30, mxV X) :: F) w7 B b _ { r with v := X.m.v, l := X.m.l, c := max r.c X.m.c }) := h7
     have B7 := hH_ (B6.out.trans b7)
     have jb := implBeN _ _ B b w7 h7 HR.out.p HR.out.id ⟨HM.out.1.v.1, by have := HM.out.1.v; show X.m.v ≤ _; omega⟩ (show 0 ≤ max r.c X.m.c by have := HR.out.c; omega) HXS.out.1
     clear h7 b7 H6 B6
     go_upto_region 7 with (go_at_call 123; refine jb.mono ?_; rintro e w8 ⟨rfl, ux, h8, b8⟩)
     obtain ⟨R, hR⟩ : ∃ R : Rp, R = { r with l := X.m.l, v := X.m.v, n := true, la := X.m.v, c := max r.c X.m.c, ok := [], ch := [], te := [] } := ⟨_, rfl⟩
     have hbe : beN { r with v := X.m.v, l := X.m.l, c := max r.c X.m.c } = R := by
      rw [hR]
      unfold beN
      exact anew_no (fun h => HM.out.2 (HFQ.out.trans (HQ.out.trans h.2)))
     rw [hbe] at h8
     have H8 : Hid (RpAt ((g, 30, mxV X) :: F) w8 B b ux R) := h8
     have B8 := hH_ (B7.out.trans b8)
     have Z8 : Hid (w.heap.size ≤ w8.heap.size) := hH_ (B8.out.size)
     obtain ⟨nx, hnx⟩ : ∃ nx, nx = R.l.length := ⟨_, rfl⟩
     have HE2 : Hid (rcvL r X.m = (R, [⟨2, R.id, X.m.f, R.v, 0, [], (nx : Int)⟩])) := hH_ (by rw [HE.out, hnx, hR])
     clear h8 b8 jb hbe H7 B7 HE hR
     obtain ⟨lx, cx, elx⟩ := H8.out.lslice
     have CC := fun x (hS : Below w8.heap.size w8 x) => (show x.cell? ⟨b, 0, none⟩ = some (.int .i64 R.id) ∧ x.cell? ⟨b, 2, none⟩ = some (.int .i64 R.v) ∧ x.cell? ⟨b, 5, none⟩ = some (.slice lx nx cx) ∧ x.cell? ⟨g, 1, none⟩ = some (.int .i64 X.m.f) from ⟨(H8.out.kept hS).c.cell 0, (H8.out.kept hS).c.cell 2, by rw [hnx, ← elx]; exact (H8.out.kept hS).c.cell 5, ((H8.out.kept hS).box (k := g) (ty := 30) (vs := mxV X) (by simp)).cell 1⟩)
     have S0 := dwB w8
     obtain ⟨lo, hlo⟩ : ∃ lo, lo = w8.heap.size := ⟨_, rfl⟩
     clear elx hnx
     generalize hA : Act.mk _ _ = A
     obtain ⟨s, hs, s0_, s3_⟩ : ∃ s : Nat → Value, A = frRle s s ∧ s 0 = .pointer (some ⟨b, 0, none⟩) ∧ s 3 = .pointer (some ⟨g, 0, none⟩) := by
      refine ⟨fun i => A.tmps.getD i undef, ?_, ?_, ?_⟩ <;> rw [← hA] <;> rfl
     rw [hs]
     clear hs hA
     refine region_heads 17 mixed (by decide) (by kernel_rfl) (by kernel_rfl) (by kernel_rfl) (by kernel_rfl) (frRle s) dRle (fun x => Below w8.heap.size w8 x) (GRle R X b g lo nx cx lx) (fun i j hi hj h => dRle_ne hi hj h) ?put s rfl S0 ?step ?done
     case put =>
      intro i o hi ho t v
      iterate 17 rcases ltS hi with hi | rfl
      cases hi
      all_goals
       obtain rfl := Option.some.inj ho
       rfl
     case step =>
      intro i o hi ho t x hS hdep K hK
      iterate 17 rcases ltS hi with hi | rfl
      cases hi
      all_goals obtain rfl := Option.some.inj ho
      iterate 16
       ·
        have y0 := (CC x hS).1
        have y1 := (CC x hS).2.2.2
        have y2 := (CC x hS).2.1
        have y3 := (CC x hS).2.2.1
        have h2 := hK _ x hS kI_ rfl
        try simp [Region.binds, GRle, dRle, LRle] at hdep
        unfold frRle at h2 ⊢
        clear hK
        go_simp
        first | simpa [Act.put, hdep, y0, y1, y2, y3, s0_, s3_] using h2 | simpa [Act.put, y0, y1, y2, y3, s0_, s3_] using h2
      ·
       have e15 : t 68 = .agg #[.int .i64 2, .int .i64 R.id, .int .i64 X.m.f, .int .i64 R.v, .int .i64 0, .slice none 0 0, .int .i64 (nx : Int)] := hdep ⟨15, .data⟩ (by simp) rfl
       have hba := (Below.refl x.heap.size x).alloc (Nat.le_refl _) (.cells #[.int .i64 2, .int .i64 R.id, .int .i64 X.m.f, .int .i64 R.v, .int .i64 0, .slice none 0 0, .int .i64 (nx : Int)] 30)
       have h2 := hK (.slice (some ⟨x.heap.size, 0, none⟩) 1 1) (x.alloc (.cells #[.int .i64 2, .int .i64 R.id, .int .i64 X.m.f, .int .i64 R.v, .int .i64 0, .slice none 0 0, .int .i64 (nx : Int)] 30)) (hS.trans (hba.mono hS.size)) (fun j u hj hne h => GRle.keep hba j u hj h) ⟨x.heap.size, rfl, by rw [hlo]; exact hS.size, Bx.new _ _ _⟩
       unfold frRle at h2 ⊢
       clear hK
       go_simp
       simpa [Act.put, e15, s0_, s3_] using h2
     case done =>
      intro tt w9 hS hG
      obtain ⟨gb, e16, k1, k2⟩ : ∃ gb, tt 69 = .slice (some ⟨gb, 0, none⟩) 1 1 ∧ (lo ≤ gb ∧ Bx w9 gb 30 #[.int .i64 2, .int .i64 R.id, .int .i64 X.m.f, .int .i64 R.v, .int .i64 0, .slice none 0 0, .int .i64 (nx : Int)]) := hG 16 (by decide)
      rw [hlo] at k1
      have OM : Hid (MsOwn w9 w8.heap.size (.slice (some ⟨gb, 0, none⟩) 1 1) [⟨⟨2, R.id, X.m.f, R.v, 0, [], (nx : Int)⟩, none, 0⟩] [⟨2, R.id, X.m.f, R.v, 0, [], (nx : Int)⟩]) := hH_ (msOwn_one k2 k1 rfl)
      have H9 := hH_ (H8.out.kept hS)
      have B9 := hH_ (B8.out.trans (hS.mono H8.out.le))
      have S9 : Hid (w8.heap.size ≤ w9.heap.size) := hS.size
      clear CC hG hS S0 hlo k1 k2
      show wpList Tryz.prog _ _ [_] _ w9
      unfold frRle
      simp only [e16, s0_, s3_]
      clear e16 s0_ s3_
      go_wp2
      go_ret
      rw [HE2.out]
      exact ⟨ux, _, _, rfl, ⟨H9.out.less, ⟨w8.heap.size, H8.out.under, H8.out.lt, Z8.out, S9.out, .inl OM.out⟩, B9.out⟩⟩
end Go.Proofs.YtdkhdjickkcaiaaGreat.Rl.Fr
namespace Go.Proofs.YtdkhdjickkcaiaaGreat.Rl
open Go.RowKit Go.Sort Go.Shelf

open Classical in
noncomputable def folF (r : Rp) (v : Int) : Rp := if r.v < v then askF r v else r
theorem implAsF (r : Rp) (u : Rv) (b : Nat) (z : Int) (w : World) (h : RpB w b r u) :
  Calls Tryz.prog 139 #[.pointer (some ⟨b, 0, none⟩), .int .i64 z] w fun e w' => e = .returned (.bool (dB (r.v = z ∧ r.n = false))) ∧ Below w.heap.size w w' := by
 obtain ⟨D, hD⟩ : ∃ D, D = dB (r.v = z ∧ r.n = false) := ⟨_, rfl⟩
 rw [← hD]
 have c2 := h.cells.2.2.1
 have c3 := h.cells.2.2.2.1
 clear h
 by_cases hv : r.v = z
 ·
  cases hn : r.n with
  | true =>
   have HD : Hid (D = false) := hH_ (hD.trans (dB_no (fun h => by have := h.2; rw [hn] at this; cases this)))
   have hb : (r.v == z) = true := by simp [hv]
   rw [hn] at c3
   clear hn hv hD
   go_enter Tryz.func139, Tryz.ntmps139
   go_wp2
   go_ret
   exact ⟨by rw [HD.out]; rfl, Below.refl _ _⟩
  | false =>
   have HD : Hid (D = true) := hH_ (hD.trans (dB_yes ⟨hv, hn⟩))
   have hb : (r.v == z) = true := by simp [hv]
   rw [hn] at c3
   clear hn hv hD
   go_enter Tryz.func139, Tryz.ntmps139
   go_wp2
   go_ret
   exact ⟨by rw [HD.out]; rfl, Below.refl _ _⟩
 ·
  have HD : Hid (D = false) := hH_ (hD.trans (dB_no (fun h => hv h.1)))
  have hb : (r.v == z) = false := by simp [hv]
  clear hD
  go_enter Tryz.func139, Tryz.ntmps139
  go_wp2
  go_ret
  exact ⟨by rw [HD.out]; rfl, Below.refl _ _⟩
end Go.Proofs.YtdkhdjickkcaiaaGreat.Rl
namespace Go.Proofs.YtdkhdjickkcaiaaGreat.Rl.Fr
open Go.RowKit Go.Sort Go.Shelf
variable {F : Frm}

theorem implFol (r : Rp) (u : Rv) (B b : Nat) (mk mf mt mv ma mc : Int) (p : Option Addr) (n c : Nat) (w : World) (h : RpAt F w B b u r) :
  Calls Tryz.prog 138 #[.pointer (some ⟨b, 0, none⟩), .agg #[.int .i64 mk, .int .i64 mf, .int .i64 mt, .int .i64 mv, .int .i64 ma, .slice p n c, .int .i64 mc]] w fun e w' => e = .returned (.bool (dB (r.v < mv))) ∧ ∃ u', RpAt F w' B b u' (folF r mv) ∧ Below B w w' := by
 have H0 : Hid (RpAt F w B b u r) := h
 obtain ⟨g, hg⟩ : ∃ g, g = w.heap.size := ⟨_, rfl⟩
 have HG : Hid (g = w.heap.size) := hg
 obtain ⟨w1, hw1⟩ : ∃ w1, w1 = w.alloc (.cells #[.int .i64 mk, .int .i64 mf, .int .i64 mt, .int .i64 mv, .int .i64 ma, .slice p n c, .int .i64 mc] 30) := ⟨_, rfl⟩
 have X1 : Hid (Bx w1 g 30 #[.int .i64 mk, .int .i64 mf, .int .i64 mt, .int .i64 mv, .int .i64 ma, .slice p n c, .int .i64 mc]) := hH_ (by rw [hw1, hg]; exact Bx.new _ _ _)
 have B1 : Hid (Below w.heap.size w w1) := hH_ (by rw [hw1]; exact (Below.refl _ w).alloc (Nat.le_refl _) _)
 have H1 : Hid (RpAt F w1 B b u r) := hH_ (h.kept B1.out)
 have c3 : w1.cell? ⟨g, 3, none⟩ = some (.int .i64 mv) := X1.out.cell 3
 have c2 := (RpB.cells H1.out.c).2.2.1
 clear h
 go_enter Tryz.func138, Tryz.ntmps138
 go_upto_region 1 with fail
 rw [← hg, ← hw1]
 clear hw1 hg
 by_cases hlt : r.v < mv
 ·
  have HD : Hid (dB (r.v < mv) = true ∧ folF r mv = askF r mv) := hH_ (⟨dB_yes hlt, by unfold folF; exact if_pos hlt⟩)
  have hle : ¬ mv ≤ r.v := by omega
  clear hlt
  go_quiet (fail)
  have BN := hH_ (dwNB w1 nq)
  generalize w1.drewN nq = wn at BN ⊢
  have HN := hH_ (H1.out.kept BN.out)
  have d3 : wn.cell? ⟨g, 3, none⟩ = some (.int .i64 mv) := (Bx.kept X1.out BN.out).cell 3
  have DN : Hid (Below B w wn) := hH_ ((B1.out.mono H0.out.le).trans (BN.out.mono H1.out.le))
  clear c3 c2
  go_wp2_with (go_at_call 121; refine (implAsk r u B b mv _ HN.out).mono ?_; rintro e w3 ⟨rfl, u3, h3, b3⟩)
  have hret : Ending.returned (.bool true) = Ending.returned (.bool (dB (r.v < mv))) := by rw [HD.out.1]
  go_ret
  rw [HD.out.2]
  exact ⟨by rw [HD.out.1]; rfl, _, h3, DN.out.trans b3⟩
 ·
  have HD : Hid (dB (r.v < mv) = false ∧ folF r mv = r) := hH_ (⟨dB_no hlt, by unfold folF; exact if_neg hlt⟩)
  have hle : mv ≤ r.v := by omega
  clear hlt
  go_quiet (fail)
  have BN := hH_ (dwNB w1 nq)
  generalize w1.drewN nq = wn at BN ⊢
  have HN := hH_ (H1.out.kept BN.out)
  have DN : Hid (Below B w wn) := hH_ ((B1.out.mono H0.out.le).trans (BN.out.mono H1.out.le))
  clear c3 c2
  go_wp2
  go_ret
  rw [HD.out.2]
  exact ⟨by rw [HD.out.1]; rfl, _, HN.out, DN.out⟩
open Go.RowKit Go.Sort Go.Shelf Pg
def PutsC (F : Frm) (r : Rp) (B b : Nat) (z : Int) : Prop := ∀ (W : World) (u' : Rv), RpAt F W B b u' r →
  Calls Tryz.prog 140 #[.pointer (some ⟨b, 0, none⟩), .int .i64 z] W fun e W' => e = .returned (.tuple #[]) ∧ ∃ u'', RpAt F W' B b u'' { r with ch := Sk.put z r.ch } ∧ Below B W W'
theorem folF_is {r : Rp} {v : Int} : folF r v = if r.v < v then askF r v else r := by
 unfold folF
 exact ite_one _ _ _ _
theorem told_same (r : Rp) : (told r).v = r.v ∧ (told r).p = r.p ∧ (told r).id = r.id := by
 unfold told
 split
 ·
  exact ⟨rfl, rfl, rfl⟩
 ·
  simp only
  split
  ·
   exact ⟨rfl, rfl, rfl⟩
  ·
   split
   ·
    exact ⟨rfl, rfl, rfl⟩
   ·
    exact ⟨rfl, rfl, rfl⟩
variable {F : Frm}
theorem RpMg.of {R : Rp} {L : List Ms} {B b : Nat} {w wc w' : World} {u' : Rv} {v : Value} {T : List Mx} {x : Nat × TypeId × Array Value} (h : RpAt (x :: F) wc B b u' R) (h' : RpAt (x :: F) w' B b u' R) (hz : w.heap.size ≤ wc.heap.size) (hz2 : wc.heap.size ≤ w'.heap.size) (hm : MsOwn w' wc.heap.size v T L) (hb : Below B w w') : RpMg F R L B b w w' u' v T :=
 ⟨h'.less, ⟨wc.heap.size, h.under, h.lt, hz, hz2, .inl hm⟩, hb⟩
theorem implTkC (r : Rp) (u : Rv) (B b : Nat) (X : Mx) (w : World) (h : RpAt F w B b u r) (hr : RpOk r) (hm : MsOk X.m r.p) (hk : X.m.k = 3) (jC : ∀ (F : Frm) (a : Rp), RpOk a → a.n = false → PutsC F a B b X.m.f) (jT : ∀ (F : Frm) (a : Rp) (m : Ms), RpOk a → a.n = false → mine a → PutsT F a B b m) : Handles F 105 r (rcvC r X.m) B b X w := by
 unfold Handles
 obtain ⟨la, lc, oa, oc, ca, cc, ta, tc, T0, rfl⟩ := h.got.form
 obtain ⟨w1, hw1⟩ : ∃ w1, w1 = w.alloc (.cells #[.int .i64 X.m.k, .int .i64 X.m.f, .int .i64 X.m.t, .int .i64 X.m.v, .int .i64 X.m.la, .slice X.pl X.m.l.length X.cl, .int .i64 X.m.c] 30) := ⟨_, rfl⟩
 obtain ⟨g, hg⟩ : ∃ g, g = w.heap.size := ⟨_, rfl⟩
 have bw1 : Below w.heap.size w w1 := by rw [hw1]; exact (Below.refl _ w).alloc (Nat.le_refl _) _
 have XM : Bx w1 g 30 (mxV X) := by rw [hw1, hg]; exact Bx.new _ _ _
 have H1 : Hid (RpAt ((g, 30, mxV X) :: F) w1 B b ⟨.slice la r.l.length lc, .slice oa r.ok.length oc, .slice ca r.ch.length cc, .slice ta r.te.length tc, T0⟩ r) := (show RpAt _ _ _ _ _ _ from (h.kept bw1).beside (k := g) XM (by have := h.lt; omega) (fun v hv e => by have := h.under v hv _ e; omega))
 have B1 : Hid (Below B w w1) := hH_ (bw1.mono h.le)
 have HB : Hid (g = w.heap.size ∧ b < g) := hH_ (⟨hg, by have := h.lt; omega⟩)
 have HR : Hid (RpOk r) := hr
 have HM : Hid (MsOk X.m r.p ∧ X.m.k = 3) := hH_ (⟨hm, hk⟩)
 have JC : Hid (∀ (F : Frm) (a : Rp), RpOk a → a.n = false → PutsC F a B b X.m.f) := hH_ (jC)
 have JT : Hid (∀ (F : Frm) (a : Rp) (m : Ms), RpOk a → a.n = false → mine a → PutsT F a B b m) := hH_ (jT)
 clear hm hk jC jT
 clear h hr bw1 XM
 unfold mxV
 go_enter Tryz.func105, Tryz.ntmps105
 go_upto_region 1 with fail
 rw [← hg, ← hw1]
 clear hw1 hg
 have jf := (show Calls Tryz.prog 138 #[.pointer (some ⟨b, 0, none⟩), .agg (mxV X)] w1 _ from implFol (F := ((g, 30, mxV X) :: F)) r _ B b X.m.k X.m.f X.m.t X.m.v X.m.la X.m.c X.pl X.m.l.length X.cl w1 H1.out)
 obtain ⟨AS, hAS⟩ : ∃ AS, AS = dB (r.v < X.m.v) := ⟨_, rfl⟩
 have HAS : Hid (AS = dB (r.v < X.m.v)) := hAS
 obtain ⟨a, ha⟩ : ∃ a, a = folF r X.m.v := ⟨_, rfl⟩
 have HAA : Hid (a = if r.v < X.m.v then askF r X.m.v else r) := hH_ (by rw [ha]; exact folF_is)
 rw [← hAS, ← ha] at jf
 clear hAS ha
 go_upto_region 2 with (first | (refine wpList_ldM rfl (.tmp 3) rfl g rfl (H1.out.box (k := g) (ty := 30) (vs := mxV X) (by simp)) rfl ?_) | (go_at_call 138; refine jf.mono ?_; rintro e w3 ⟨rfl, ua, h3, b3⟩))
 have H3 : Hid (RpAt ((g, 30, mxV X) :: F) w3 B b ua a) := h3
 have B3 := hH_ (B1.out.trans b3)
 clear h3 b3 jf H1 B1
 obtain ⟨D, hD⟩ : ∃ D, D = dB (a.v = X.m.v ∧ a.n = false) := ⟨_, rfl⟩
 have HD : Hid (D = dB (a.v = X.m.v ∧ a.n = false)) := hD
 have jd := fun W hW => implAsF a ua b X.m.v W hW
 rw [← hD] at jd
 clear hD
 have x3 : w3.cell? ⟨g, 3, none⟩ = some (.int .i64 X.m.v) := (H3.out.box (k := g) (ty := 30) (vs := mxV X) (by simp)).cell 3
 cases D with
 | false =>
  have hno : ¬ r.v < X.m.v ∧ (X.m.v ≠ r.v ∨ r.n = true) := by
   have h1 := dB_not HD.out.symm
   rw [HAA.out] at h1
   by_cases h2 : r.v < X.m.v
   ·
    rw [if_pos h2] at h1
    exact absurd ⟨rfl, rfl⟩ h1
   ·
    rw [if_neg h2] at h1
    refine ⟨h2, ?_⟩
    by_cases h3 : X.m.v = r.v
    ·
     right
     cases hn : r.n with
     | true => rfl
     | false => exact absurd ⟨h3.symm, hn⟩ h1
    ·
     exact .inl h3
  have HE : Hid (rcvC r X.m = (a, [])) := hH_ (by rw [rcvC_1 (fun h => by have := HM.out.2; omega) hno.1 hno.2, HAA.out, if_neg hno.1])
  clear hno
  go_wp2_with fail
  refine (jd _ H3.out.c).mono ?_
  rintro e w4 ⟨rfl, hb4⟩
  have H4 := hH_ (H3.out.kept hb4)
  have B4 := hH_ (B3.out.trans (hb4.mono H3.out.le))
  clear hb4 x3 jd H3 B3
  have hba : Below w4.heap.size w4 (w4.alloc (.cells #[] 30)) := (Below.refl _ w4).alloc (Nat.le_refl _) _
  go_wp2
  go_ret
  rw [HE.out]
  exact ⟨ua, _, [], rfl, RpMg.no ((H4.out.kept hba).less) (B4.out.trans (hba.mono H4.out.le))⟩
 | true =>
  have ha9 : RpOk a ∧ a.n = false ∧ a.v = X.m.v ∧ a.p = r.p ∧ a.id = r.id := by
   have h1 := dB_is HD.out.symm
   refine ⟨?_, h1.2, h1.1, ?_, ?_⟩
   ·
    rw [HAA.out]
    split
    ·
     rename_i h2
     exact (ask_kp HR.out h2 HM.out.1.v.2).ok
    ·
     exact HR.out
   ·
    rw [HAA.out]
    split <;> rfl
   ·
    rw [HAA.out]
    split <;> rfl
  have HA : Hid (RpOk a ∧ a.n = false ∧ a.v = X.m.v ∧ a.p = r.p ∧ a.id = r.id) := hH_ (ha9)
  clear ha9 HD
  go_wp2_with fail
  refine (jd _ H3.out.c).mono ?_
  rintro e w4 ⟨rfl, hb4⟩
  have H4 := hH_ (H3.out.kept hb4)
  have B4 := hH_ (B3.out.trans (hb4.mono H3.out.le))
  clear hb4 x3 jd H3 B3
  obtain ⟨ca6, cc6, hc6⟩ : ∃ p c, ua.ch = .slice p a.ch.length c := by obtain ⟨p, c, e, _⟩ := H4.out.o.ch.form; exact ⟨p, c, e⟩
  have y8 : w4.cell? ⟨b, 8, none⟩ = some (.slice ca6 a.ch.length cc6) := by rw [← hc6]; exact H4.out.c.cell 8
  have j1 := fun W hW => implMaj a.ch.length a ua b W hW (by have := HA.out.1.ch5; omega)
  obtain ⟨BM, hBM⟩ : ∃ BM, BM = dB (maj a.ch.length a.p) := ⟨_, rfl⟩
  have HBM : Hid (BM = dB (maj a.ch.length a.p)) := hBM
  rw [← hBM] at j1
  clear hBM hc6
  go_upto_region 5 with (go_at_call 128; refine (j1 _ H4.out.c).mono ?_; rintro e wm ⟨rfl, rfl⟩)
  have x1 : w4.cell? ⟨g, 1, none⟩ = some (.int .i64 X.m.f) := (H4.out.box (k := g) (ty := 30) (vs := mxV X) (by simp)).cell 1
  have jc := JC.out _ a HA.out.1 HA.out.2.1 w4 ua H4.out
  clear y8 j1
  go_upto_region 6 with (go_at_call 140; refine jc.mono ?_; rintro e w5 ⟨rfl, uc, h5, b5⟩)
  obtain ⟨c1, hc1⟩ : ∃ c1 : Rp, c1 = { a with ch := Sk.put X.m.f a.ch } := ⟨_, rfl⟩
  rw [← hc1] at h5
  have HC1 : Hid (c1 = { a with ch := Sk.put X.m.f a.ch }) := hc1
  have HK1 : Hid (RpOk c1 ∧ c1.n = false ∧ c1.v = X.m.v ∧ c1.p = r.p ∧ c1.id = r.id) := (show _ ∧ _ ∧ _ ∧ _ ∧ _ from by
   rw [hc1]
   exact ⟨(ch_kp HA.out.1 HA.out.2.1 (by rw [HA.out.2.2.2.1]; exact HM.out.1.f)).ok, HA.out.2⟩)
  have H5 : Hid (RpAt ((g, 30, mxV X) :: F) w5 B b uc c1) := h5
  have B5 := hH_ (B4.out.trans b5)
  clear h5 b5 hc1 x1 jc H4 B4
  have HT : Hid (rcvC r X.m = @ite _ (r.v < X.m.v ∨ (maj c1.ch.length c1.p ∧ ¬ maj a.ch.length a.p)) (Classical.propDecidable _) (told c1, sprL (told c1)) (c1, [])) := (show _ = _ from by
   rw [rcvC_C HAA.out (by rintro (h | h); exact h HA.out.2.2.1.symm; rw [HA.out.2.1] at h; cases h) HM.out.2 HA.out.2.2.2.1, HC1.out]
   exact ite_one _ _ _ _)
  obtain ⟨ca7, cc7, hc7⟩ : ∃ p c, uc.ch = .slice p c1.ch.length c := by obtain ⟨p, c, e, _⟩ := H5.out.o.ch.form; exact ⟨p, c, e⟩
  have y8 : w5.cell? ⟨b, 8, none⟩ = some (.slice ca7 c1.ch.length cc7) := by rw [← hc7]; exact H5.out.c.cell 8
  have j1 := fun W hW => implMaj c1.ch.length c1 uc b W hW (by have := HK1.out.1.ch5; omega)
  obtain ⟨NM, hNM⟩ : ∃ NM, NM = dB (maj c1.ch.length c1.p) := ⟨_, rfl⟩
  have HNM : Hid (NM = dB (maj c1.ch.length c1.p)) := hNM
  rw [← hNM] at j1
  clear hNM hc7
  have js := implSet c1 uc B b w5 H5.out HK1.out.1 (fun h1 h2 => JT.out _ c1 _ HK1.out.1 h1 h2)
  cases BM with
  | true =>
   cases AS with
   | true =>
    have HE : Hid (rcvC r X.m = (told c1, sprL (told c1))) := hH_ (by rw [HT.out]; exact if_pos (.inl (dB_is HAS.out.symm)))
    clear HT
    go_upto_region 9 with fail
    clear y8 j1
    go_upto_region 10 with (go_at_call 122; refine js.mono ?_; rintro e w6 ⟨rfl, ux, h6, b6⟩)
    obtain ⟨R, hR⟩ : ∃ R, R = told c1 := ⟨_, rfl⟩
    rw [← hR] at h6 HE
    have HKR : Hid (RpOk R) := (show RpOk _ from by rw [hR]; exact (told_kp HK1.out.1).ok)
    have H6 : Hid (RpAt ((g, 30, mxV X) :: F) w6 B b ux R) := h6
    have B6 := hH_ (B5.out.trans b6)
    clear h6 b6 hR js H5 B5
    have Z9 : Hid (w.heap.size ≤ w6.heap.size) := hH_ (B6.out.size)
    have jp := implSpr R ux b w6 H6.out.c ⟨HKR.out.v.1, by have := HKR.out.v; omega⟩ HKR.out.p H6.out.got.l H6.out.got.ch (by have := (logB_sm HKR.out.l).1; omega) (by have := HKR.out.ch5; omega) (fun y hy => by have := (logB_sm HKR.out.l).2 y hy; omega)
    go_wp2_with fail
    refine jp.mono ?_
    rintro e w20 ⟨v, T, rfl, h20, b20⟩
    have H20 := hH_ (H6.out.kept b20)
    have B20 := hH_ (B6.out.trans (b20.mono H6.out.le))
    have M20 : Hid (MsOwn w20 w6.heap.size v T (sprL R)) := hH_ (h20)
    have S20 : Hid (w6.heap.size ≤ w20.heap.size) := b20.size
    obtain ⟨va, vc, rfl, _⟩ := h20.row.form
    clear h20 b20 jp
    go_wp2
    go_ret
    rw [HE.out]
    exact ⟨ux, _, T, rfl, RpMg.of H6.out H20.out Z9.out S20.out M20.out B20.out⟩
   | false =>
    have HE : Hid (rcvC r X.m = (c1, [])) := hH_ (by rw [HT.out]; exact if_neg (by rintro (h | h); exact dB_not HAS.out.symm h; exact h.2 (dB_is HBM.out.symm)))
    clear HT js
    go_upto_region 8 with fail
    clear y8 j1
    have hba : Below w5.heap.size w5 (w5.alloc (.cells #[] 30)) := (Below.refl _ w5).alloc (Nat.le_refl _) _
    go_wp2
    go_ret
    rw [HE.out]
    exact ⟨uc, _, [], rfl, RpMg.no ((H5.out.kept hba).less) (B5.out.trans (hba.mono H5.out.le))⟩
  | false =>
   cases AS with
   | true =>
    have HE : Hid (rcvC r X.m = (told c1, sprL (told c1))) := hH_ (by rw [HT.out]; exact if_pos (.inl (dB_is HAS.out.symm)))
    clear HT
    go_upto_region 9 with (go_at_call 128; refine (j1 _ H5.out.c).mono ?_; rintro e wm ⟨rfl, rfl⟩)
    clear y8 j1
    go_upto_region 10 with (go_at_call 122; refine js.mono ?_; rintro e w6 ⟨rfl, ux, h6, b6⟩)
    obtain ⟨R, hR⟩ : ∃ R, R = told c1 := ⟨_, rfl⟩
    rw [← hR] at h6 HE
    have HKR : Hid (RpOk R) := (show RpOk _ from by rw [hR]; exact (told_kp HK1.out.1).ok)
    have H6 : Hid (RpAt ((g, 30, mxV X) :: F) w6 B b ux R) := h6
    have B6 := hH_ (B5.out.trans b6)
    clear h6 b6 hR js H5 B5
    have Z9 : Hid (w.heap.size ≤ w6.heap.size) := hH_ (B6.out.size)
    have jp := implSpr R ux b w6 H6.out.c ⟨HKR.out.v.1, by have := HKR.out.v; omega⟩ HKR.out.p H6.out.got.l H6.out.got.ch (by have := (logB_sm HKR.out.l).1; omega) (by have := HKR.out.ch5; omega) (fun y hy => by have := (logB_sm HKR.out.l).2 y hy; omega)
    go_wp2_with fail
    refine jp.mono ?_
    rintro e w20 ⟨v, T, rfl, h20, b20⟩
    have H20 := hH_ (H6.out.kept b20)
    have B20 := hH_ (B6.out.trans (b20.mono H6.out.le))
    have M20 : Hid (MsOwn w20 w6.heap.size v T (sprL R)) := hH_ (h20)
    have S20 : Hid (w6.heap.size ≤ w20.heap.size) := b20.size
    obtain ⟨va, vc, rfl, _⟩ := h20.row.form
    clear h20 b20 jp
    go_wp2
    go_ret
    rw [HE.out]
    exact ⟨ux, _, T, rfl, RpMg.of H6.out H20.out Z9.out S20.out M20.out B20.out⟩
   | false =>
    cases NM with
    | true =>
     have HE : Hid (rcvC r X.m = (told c1, sprL (told c1))) := hH_ (by rw [HT.out]; exact if_pos (.inr ⟨dB_is HNM.out.symm, dB_not HBM.out.symm⟩))
     clear HT
     go_upto_region 9 with (go_at_call 128; refine (j1 _ H5.out.c).mono ?_; rintro e wm ⟨rfl, rfl⟩)
     clear y8 j1
     go_upto_region 10 with (go_at_call 122; refine js.mono ?_; rintro e w6 ⟨rfl, ux, h6, b6⟩)
     obtain ⟨R, hR⟩ : ∃ R, R = told c1 := ⟨_, rfl⟩
     rw [← hR] at h6 HE
     have HKR : Hid (RpOk R) := (show RpOk _ from by rw [hR]; exact (told_kp HK1.out.1).ok)
     have H6 : Hid (RpAt ((g, 30, mxV X) :: F) w6 B b ux R) := h6
     have B6 := hH_ (B5.out.trans b6)
     clear h6 b6 hR js H5 B5
     have Z9 : Hid (w.heap.size ≤ w6.heap.size) := hH_ (B6.out.size)
     have jp := implSpr R ux b w6 H6.out.c ⟨HKR.out.v.1, by have := HKR.out.v; omega⟩ HKR.out.p H6.out.got.l H6.out.got.ch (by have := (logB_sm HKR.out.l).1; omega) (by have := HKR.out.ch5; omega) (fun y hy => by have := (logB_sm HKR.out.l).2 y hy; omega)
     go_wp2_with fail
     refine jp.mono ?_
     rintro e w20 ⟨v, T, rfl, h20, b20⟩
     have H20 := hH_ (H6.out.kept b20)
     have B20 := hH_ (B6.out.trans (b20.mono H6.out.le))
     have M20 : Hid (MsOwn w20 w6.heap.size v T (sprL R)) := hH_ (h20)
     have S20 : Hid (w6.heap.size ≤ w20.heap.size) := b20.size
     obtain ⟨va, vc, rfl, _⟩ := h20.row.form
     clear h20 b20 jp
     go_wp2
     go_ret
     rw [HE.out]
     exact ⟨ux, _, T, rfl, RpMg.of H6.out H20.out Z9.out S20.out M20.out B20.out⟩
    | false =>
     have HE : Hid (rcvC r X.m = (c1, [])) := hH_ (by rw [HT.out]; exact if_neg (by rintro (h | h); exact dB_not HAS.out.symm h; exact dB_not HNM.out.symm h.1))
     clear HT js
     go_upto_region 8 with (go_at_call 128; refine (j1 _ H5.out.c).mono ?_; rintro e wm ⟨rfl, rfl⟩)
     clear y8 j1
     have hba : Below w5.heap.size w5 (w5.alloc (.cells #[] 30)) := (Below.refl _ w5).alloc (Nat.le_refl _) _
     go_wp2
     go_ret
     rw [HE.out]
     exact ⟨uc, _, [], rfl, RpMg.no ((H5.out.kept hba).less) (B5.out.trans (hba.mono H5.out.le))⟩
open Go.RowKit Go.Sort Go.Shelf Pg
theorem ap5 {w w5 : World} {B b : Nat} {u : Rv} {r : Rp} {v : Value} {l : List ByteArray} (h : Rl.RpAt w B b u r) (hv : HasX w5 w.heap.size v l) : ∀ x ∈ u.rows, ap x v := fun x hx k h1 h2 => by
 have h3 := h.under x hx k h1
 have h4 := hv.from k h2
 omega
variable {F : Frm}
theorem frF5 {w w5 : World} {B b : Nat} {u : Rv} {r : Rp} {v : Value} {l : List ByteArray} (h : RpAt F w B b u r) (hv : HasX w5 w.heap.size v l) : ∀ y ∈ F, v.ownBlock ≠ some y.1 := fun y hy e => by
 have h4 := hv.from _ e
 have h5 := Bx.lt (h.fr.k y hy).1
 omega
def frRta (s t : Nat → Value) : Act := { tmps := #[s 0, s 1, s 2, s 3, s 4, s 5, t 6, t 7, t 8, t 9, t 10, t 11, t 12, t 13, t 14, s 15, s 16, s 17, s 18, s 19, s 20, s 21, s 22, s 23, s 24, s 25, s 26, s 27, s 28, s 29, s 30, s 31, s 32, s 33, s 34, s 35, s 36, s 37, s 38, s 39, s 40, s 41, s 42, s 43, s 44, s 45], defers := [] }
def LRta : List Nat := [6, 7, 8, 9, 10, 11, 12, 13, 14]
def dRta (i : Nat) : Nat := LRta.getD i (i + 5000)
theorem dRta_ne {i j : Nat} (hi : i < 9) (hj : j < 9) (h : j ≠ i) : dRta j ≠ dRta i := slotsNe (L := LRta) (by decide) rfl hi hj h
def GRta (r : Rp) (X : Mx) (b g : Nat) (q : Int) (i : Nat) (x : World) (v : Value) : Prop := match i with
 | 0 => v = .pointer (some ⟨g, 2, none⟩)
 | 1 => v = .int .i64 X.m.t
 | 2 => v = .pointer (some ⟨g, 3, none⟩)
 | 3 => v = .int .i64 X.m.v
 | 4 => v = .pointer (some ⟨b, 0, none⟩)
 | 5 => v = .pointer (some ⟨b, 0, none⟩)
 | 6 => v = .pointer (some ⟨b, 1, none⟩)
 | 7 => v = .int .i64 r.p
 | 8 => v = .int .i64 q
 | _ => True
theorem GRta.keep {r : Rp} {X : Mx} {b g : Nat} {q : Int} {x y : World} (hb : Below x.heap.size x y) (j : Nat) (v : Value) (hj : j < 9) (h : GRta r X b g q j x v) : GRta r X b g q j y v := h
theorem implTkT (r : Rp) (u : Rv) (B b : Nat) (X : Mx) (w : World) (h : RpAt F w B b u r) (hr : RpOk r) (hm : MsOk X.m r.p) (hk : X.m.k = 4) (ht : X.m.t = r.id) (jC : ∀ (F : Frm) (a : Rp), RpOk a → a.n = false → PutsC F a B b X.m.f) (jT : ∀ (F : Frm) (a : Rp) (m : Ms), RpOk a → a.n = false → mine a → PutsT F a B b m) (hX : ∀ W, Below B w W → Sls txtE W X.u X.m.l) (hxs : X.m.l.length ≤ 1048576 ∧ ∀ x ∈ X.m.l, x.size ≤ 1048576) : Handles F 106 r (rcvC r X.m) B b X w := by
 unfold Handles
 obtain ⟨la, lc, oa, oc, ca, cc, ta, tc, T0, rfl⟩ := h.got.form
 obtain ⟨w1, hw1⟩ : ∃ w1, w1 = w.alloc (.cells #[.int .i64 X.m.k, .int .i64 X.m.f, .int .i64 X.m.t, .int .i64 X.m.v, .int .i64 X.m.la, .slice X.pl X.m.l.length X.cl, .int .i64 X.m.c] 30) := ⟨_, rfl⟩
 obtain ⟨g, hg⟩ : ∃ g, g = w.heap.size := ⟨_, rfl⟩
 have bw1 : Below w.heap.size w w1 := by rw [hw1]; exact (Below.refl _ w).alloc (Nat.le_refl _) _
 have XM : Bx w1 g 30 (mxV X) := by rw [hw1, hg]; exact Bx.new _ _ _
 have H1 : Hid (RpAt ((g, 30, mxV X) :: F) w1 B b ⟨.slice la r.l.length lc, .slice oa r.ok.length oc, .slice ca r.ch.length cc, .slice ta r.te.length tc, T0⟩ r) := (show RpAt _ _ _ _ _ _ from (h.kept bw1).beside (k := g) XM (by have := h.lt; omega) (fun v hv e => by have := h.under v hv _ e; omega))
 have B1 : Hid (Below B w w1) := hH_ (bw1.mono h.le)
 have HB : Hid (g = w.heap.size ∧ b < g) := hH_ (⟨hg, by have := h.lt; omega⟩)
 have HR : Hid (RpOk r) := hr
 have HM : Hid (MsOk X.m r.p ∧ X.m.k = 4 ∧ X.m.t = r.id) := hH_ (⟨hm, hk, ht⟩)
 have JC : Hid (∀ (F : Frm) (a : Rp), RpOk a → a.n = false → PutsC F a B b X.m.f) := hH_ (jC)
 have JT : Hid (∀ (F : Frm) (a : Rp) (m : Ms), RpOk a → a.n = false → mine a → PutsT F a B b m) := hH_ (jT)
 have HX : Hid (∀ W, Below B w W → Sls txtE W X.u X.m.l) := hH_ (hX)
 have HXS : Hid (X.m.l.length ≤ 1048576 ∧ ∀ x ∈ X.m.l, x.size ≤ 1048576) := hH_ (hxs)
 obtain ⟨q, hq⟩ : ∃ q : Int, q = X.m.v % r.p := ⟨_, rfl⟩
 have HQ : Hid (q = X.m.v % r.p) := hq
 have jl := fun W => implLd X.m.v r.p W ⟨hm.v.1, by have := hm.v; omega⟩ hr.p
 rw [← hq] at jl
 clear hm hk ht jC jT hX hxs hq
 clear h hr bw1 XM
 unfold mxV
 go_enter Tryz.func106, Tryz.ntmps106
 go_upto_region 1 with fail
 rw [← hg, ← hw1]
 clear hw1 hg
 have CC := fun x (hS : Below w1.heap.size w1 x) => (show x.cell? ⟨g, 2, none⟩ = some (.int .i64 X.m.t) ∧ x.cell? ⟨g, 3, none⟩ = some (.int .i64 X.m.v) ∧ x.cell? ⟨b, 1, none⟩ = some (.int .i64 r.p) from ⟨((H1.out.kept hS).box (k := g) (ty := 30) (vs := mxV X) (by simp)).cell 2, ((H1.out.kept hS).box (k := g) (ty := 30) (vs := mxV X) (by simp)).cell 3, (H1.out.kept hS).c.cell 1⟩)
 have S0 := dwB w1
 generalize hA : Act.mk _ _ = A
 obtain ⟨s, hs, s0_, s3_⟩ : ∃ s : Nat → Value, A = frRta s s ∧ s 0 = .pointer (some ⟨b, 0, none⟩) ∧ s 3 = .pointer (some ⟨g, 0, none⟩) := by
  refine ⟨fun i => A.tmps.getD i undef, ?_, ?_, ?_⟩ <;> rw [← hA] <;> rfl
 rw [hs]
 clear hs hA
 refine region_heads 9 mixed (by decide) (by kernel_rfl) (by kernel_rfl) (by kernel_rfl) (by kernel_rfl) (frRta s) dRta (fun x => Below w1.heap.size w1 x) (GRta r X b g q) (fun i j hi hj h => dRta_ne hi hj h) ?put s rfl S0 ?step ?done
 case put =>
  intro i o hi ho t v
  iterate 9 rcases ltS hi with hi | rfl
  cases hi
  all_goals
   obtain rfl := Option.some.inj ho
   rfl
 case step =>
  intro i o hi ho t x hS hdep K hK
  iterate 9 rcases ltS hi with hi | rfl
  cases hi
  all_goals obtain rfl := Option.some.inj ho
  iterate 8
   ·
    have y0 := (CC x hS).1
    have y1 := (CC x hS).2.1
    have y2 := (CC x hS).2.2
    have h2 := hK _ x hS kI_ rfl
    try simp [Region.binds, GRta, dRta, LRta] at hdep
    unfold frRta at h2 ⊢
    clear hK
    go_simp
    first | simpa [Act.put, hdep, y0, y1, y2, s0_, s3_] using h2 | simpa [Act.put, y0, y1, y2, s0_, s3_] using h2
  ·
   have e3 : t 9 = .int .i64 X.m.v := hdep ⟨3, .data⟩ (by simp) rfl
   have e7 : t 13 = .int .i64 r.p := hdep ⟨7, .data⟩ (by simp) rfl
   refine callG2 (by rfl) 134 (.tmp 9) (.tmp 13) _ rfl (.int .i64 X.m.v) (.int .i64 r.p) e3 e7 (Go.Proofs.enters_of Tryz.func134 (by kernel_rfl) rfl _) (fun v y => (v = .int .i64 q) ∧ Below x.heap.size x y) ((jl x).mono ?_) ?_
   ·
    rintro e0 y0 ⟨h0, rfl⟩
    exact ⟨_, h0, rfl, Below.refl _ _⟩
   ·
    rintro v y ⟨h0, hb2⟩
    exact hK v y (hS.trans (hb2.mono hS.size)) (fun j u hj hne h => GRta.keep hb2 j u hj h) h0
 case done =>
  intro tt w2 hS hG
  have e1 : tt 7 = .int .i64 X.m.t := hG 1 (by decide)
  have e8 : tt 14 = .int .i64 q := hG 8 (by decide)
  have H2 := hH_ (H1.out.kept hS)
  have B2 := hH_ (B1.out.trans (hS.mono H1.out.le))
  clear CC jl hG hS S0 H1 B1
  show wpList Tryz.prog _ _ [_] _ w2
  unfold frRta
  simp only [e1, e8, s0_, s3_]
  clear e1 e8 s0_ s3_
  by_cases hqt : X.m.t = q
  case neg =>
   have bne : (X.m.t != q) = true := by simp [hqt]
   have HE : Hid (rcvC r X.m = (r, [])) := hH_ (rcvC_0 ⟨HM.out.2.1, fun h => hqt (by rw [HM.out.2.2, HQ.out, h])⟩)
   clear hqt
   have hba : Below w2.heap.size w2 (w2.alloc (.cells #[] 30)) := (Below.refl _ w2).alloc (Nat.le_refl _) _
   go_wp2
   go_ret
   rw [HE.out]
   exact ⟨⟨.slice la r.l.length lc, .slice oa r.ok.length oc, .slice ca r.ch.length cc, .slice ta r.te.length tc, T0⟩, _, [], rfl, RpMg.no ((H2.out.kept hba).less) (B2.out.trans (hba.mono H2.out.le))⟩
  have bne : (X.m.t != q) = false := by simp [hqt]
  have HMI : Hid (X.m.v % r.p = r.id) := hH_ (by rw [← HQ.out, ← hqt]; exact HM.out.2.2)
  clear hqt
  go_upto_region 3 with fail
  clear bne
  have jf := (show Calls Tryz.prog 138 #[.pointer (some ⟨b, 0, none⟩), .agg (mxV X)] w2 _ from implFol (F := ((g, 30, mxV X) :: F)) r _ B b X.m.k X.m.f X.m.t X.m.v X.m.la X.m.c X.pl X.m.l.length X.cl w2 H2.out)
  obtain ⟨AS, hAS⟩ : ∃ AS, AS = dB (r.v < X.m.v) := ⟨_, rfl⟩
  have HAS : Hid (AS = dB (r.v < X.m.v)) := hAS
  obtain ⟨a, ha⟩ : ∃ a, a = folF r X.m.v := ⟨_, rfl⟩
  have HAA : Hid (a = if r.v < X.m.v then askF r X.m.v else r) := hH_ (by rw [ha]; exact folF_is)
  rw [← hAS, ← ha] at jf
  clear hAS ha
  go_upto_region 4 with (first | (refine wpList_ldM rfl (.tmp 3) rfl g rfl (H2.out.box (k := g) (ty := 30) (vs := mxV X) (by simp)) rfl ?_) | (go_at_call 138; refine jf.mono ?_; rintro e w3 ⟨rfl, ua, h3, b3⟩))
  have H3 : Hid (RpAt ((g, 30, mxV X) :: F) w3 B b ua a) := h3
  have B3 := hH_ (B2.out.trans b3)
  clear h3 b3 jf H2 B2
  obtain ⟨D, hD⟩ : ∃ D, D = dB (a.v = X.m.v ∧ a.n = false) := ⟨_, rfl⟩
  have HD : Hid (D = dB (a.v = X.m.v ∧ a.n = false)) := hD
  have jd := fun W hW => implAsF a ua b X.m.v W hW
  rw [← hD] at jd
  clear hD
  have x3 : w3.cell? ⟨g, 3, none⟩ = some (.int .i64 X.m.v) := (H3.out.box (k := g) (ty := 30) (vs := mxV X) (by simp)).cell 3
  cases D with
  | false =>
   have hno : ¬ r.v < X.m.v ∧ (X.m.v ≠ r.v ∨ r.n = true) := by
    have h1 := dB_not HD.out.symm
    rw [HAA.out] at h1
    by_cases h2 : r.v < X.m.v
    ·
     rw [if_pos h2] at h1
     exact absurd ⟨rfl, rfl⟩ h1
    ·
     rw [if_neg h2] at h1
     refine ⟨h2, ?_⟩
     by_cases h3 : X.m.v = r.v
     ·
      right
      cases hn : r.n with
      | true => rfl
      | false => exact absurd ⟨h3.symm, hn⟩ h1
     ·
      exact .inl h3
   have HE : Hid (rcvC r X.m = (a, [])) := hH_ (by rw [rcvC_1 (fun h => h.2 HMI.out) hno.1 hno.2, HAA.out, if_neg hno.1])
   clear hno
   go_wp2_with fail
   refine (jd _ H3.out.c).mono ?_
   rintro e w4 ⟨rfl, hb4⟩
   have H4 := hH_ (H3.out.kept hb4)
   have B4 := hH_ (B3.out.trans (hb4.mono H3.out.le))
   clear hb4 x3 jd H3 B3
   have hba : Below w4.heap.size w4 (w4.alloc (.cells #[] 30)) := (Below.refl _ w4).alloc (Nat.le_refl _) _
   go_wp2
   go_ret
   rw [HE.out]
   exact ⟨ua, _, [], rfl, RpMg.no ((H4.out.kept hba).less) (B4.out.trans (hba.mono H4.out.le))⟩
  | true =>
   have ha9 : RpOk a ∧ a.n = false ∧ a.v = X.m.v ∧ a.p = r.p ∧ a.id = r.id := by
    have h1 := dB_is HD.out.symm
    refine ⟨?_, h1.2, h1.1, ?_, ?_⟩
    ·
     rw [HAA.out]
     split
     ·
      rename_i h2
      exact (ask_kp HR.out h2 HM.out.1.v.2).ok
     ·
      exact HR.out
    ·
     rw [HAA.out]
     split <;> rfl
    ·
     rw [HAA.out]
     split <;> rfl
   have HA : Hid (RpOk a ∧ a.n = false ∧ a.v = X.m.v ∧ a.p = r.p ∧ a.id = r.id) := hH_ (ha9)
   clear ha9 HD
   go_wp2_with fail
   refine (jd _ H3.out.c).mono ?_
   rintro e w4 ⟨rfl, hb4⟩
   have H4 := hH_ (H3.out.kept hb4)
   have B4 := hH_ (B3.out.trans (hb4.mono H3.out.le))
   clear hb4 x3 jd H3 B3
   have jn := implNms X.m X.u w4 (HX.out w4 B4.out) HXS.out.1 HXS.out.2
   unfold msA Mx.u at jn
   have HMA : Hid (mine a) := (show mine _ from by unfold mine; rw [HA.out.2.2.1, HA.out.2.2.2.1, HA.out.2.2.2.2]; exact HMI.out)
   have jt := JT.out ((g, 30, mxV X) :: F) a X.m HA.out.1 HA.out.2.1 HMA.out
   unfold PutsT msA at jt
   go_upto_region 7 with (first | (refine wpList_ldM rfl (.tmp 3) rfl g rfl (H4.out.box (k := g) (ty := 30) (vs := mxV X) (by simp)) rfl ?_) | (go_at_call 99; refine jn.mono ?_; rintro e w5 ⟨v5, rfl, o5, b5⟩; have hap5 := ap5 H4.out.plain o5.has; have hF5 := frF5 H4.out o5.has) | (go_at_call 141; refine (jt w5 ua v5 (H4.out.kept b5) (o5.has.low H4.out.le) hap5 hF5).mono ?_; rintro e w6 ⟨rfl, ut, h6, b6⟩))
   obtain ⟨d1, hd1⟩ : ∃ d1 : Rp, d1 = { a with te := putM X.m a.te } := ⟨_, rfl⟩
   rw [← hd1] at h6
   have HD1 : Hid (d1 = { a with te := putM X.m a.te }) := hd1
   have HK0 : Hid (RpOk d1 ∧ d1.n = false ∧ d1.v = X.m.v ∧ d1.p = r.p ∧ d1.id = r.id) := (show _ ∧ _ ∧ _ ∧ _ ∧ _ from by
    rw [hd1]
    refine ⟨(te_kp HA.out.1 HA.out.2.1 HMA.out ⟨HM.out.2.1, by rw [HM.out.2.2, HA.out.2.2.2.2], HA.out.2.2.1.symm, by rw [HA.out.2.2.2.1]; exact HM.out.1⟩).ok, HA.out.2⟩)
   have H6 : Hid (RpAt ((g, 30, mxV X) :: F) w6 B b ut d1) := h6
   have B6 : Hid (Below B w w6) := hH_ ((B4.out.trans (b5.mono H4.out.le)).trans b6)
   clear h6 b6 hd1 jn jt o5 b5 hap5 hF5 H4 B4
   have x1 : w6.cell? ⟨g, 1, none⟩ = some (.int .i64 X.m.f) := (H6.out.box (k := g) (ty := 30) (vs := mxV X) (by simp)).cell 1
   have jc := JC.out _ d1 HK0.out.1 HK0.out.2.1 w6 ut H6.out
   go_upto_region 8 with (go_at_call 140; refine jc.mono ?_; rintro e w7 ⟨rfl, uc, h7, b7⟩)
   obtain ⟨c1, hc1⟩ : ∃ c1 : Rp, c1 = { d1 with ch := Sk.put X.m.f d1.ch } := ⟨_, rfl⟩
   rw [← hc1] at h7
   have HC1 : Hid (c1 = { a with ch := Sk.put X.m.f a.ch, te := putM X.m a.te }) := hH_ (by rw [hc1, HD1.out])
   have HK1 : Hid (RpOk c1 ∧ c1.n = false ∧ c1.v = X.m.v ∧ c1.p = r.p ∧ c1.id = r.id) := (show _ ∧ _ ∧ _ ∧ _ ∧ _ from by
    rw [hc1]
    exact ⟨(ch_kp HK0.out.1 HK0.out.2.1 (by rw [HK0.out.2.2.2.1]; exact HM.out.1.f)).ok, HK0.out.2⟩)
   have H7 : Hid (RpAt ((g, 30, mxV X) :: F) w7 B b uc c1) := h7
   have B7 := hH_ (B6.out.trans b7)
   clear h7 b7 hc1 x1 jc H6 B6
   have js := implSet c1 uc B b w7 H7.out HK1.out.1 (fun h1 h2 => JT.out _ c1 _ HK1.out.1 h1 h2)
   go_upto_region 9 with (go_at_call 122; refine js.mono ?_; rintro e w8 ⟨rfl, ux, h8, b8⟩)
   obtain ⟨R, hR⟩ : ∃ R, R = told c1 := ⟨_, rfl⟩
   rw [← hR] at h8
   have HRR : Hid (R = told c1) := hR
   have HKR : Hid (RpOk R) := (show RpOk _ from by rw [hR]; exact (told_kp HK1.out.1).ok)
   have H8 : Hid (RpAt ((g, 30, mxV X) :: F) w8 B b ux R) := h8
   have B8 := hH_ (B7.out.trans b8)
   have HMR : Hid (mine R) := (show mine _ from by
    unfold mine
    rw [hR, (told_same c1).1, (told_same c1).2.1, (told_same c1).2.2, HK1.out.2.2.1, HK1.out.2.2.2.1, HK1.out.2.2.2.2]
    exact HMI.out)
   have HT : Hid (rcvC r X.m = @ite _ (r.v < X.m.v ∨ R.n = true) (Classical.propDecidable _) (R, sprL R) (R, [])) := (show _ = _ from by
    rw [rcvC_T (fun h => h.2 HMI.out) HAA.out (by rintro (h | h); exact h HA.out.2.2.1.symm; rw [HA.out.2.1] at h; cases h) HM.out.2.1, HRR.out, HC1.out]
    exact ite_one _ _ _ _)
   clear h8 b8 hR js H7 B7
   cases AS with
   | true =>
    have HE : Hid (rcvC r X.m = (R, sprL R)) := hH_ (by rw [HT.out]; exact if_pos (.inl (dB_is HAS.out.symm)))
    clear HT
    go_upto_region 11 with fail
    have Z9 : Hid (w.heap.size ≤ w8.heap.size) := hH_ (B8.out.size)
    have jp := implSpr R ux b w8 H8.out.c ⟨HKR.out.v.1, by have := HKR.out.v; omega⟩ HKR.out.p H8.out.got.l H8.out.got.ch (by have := (logB_sm HKR.out.l).1; omega) (by have := HKR.out.ch5; omega) (fun y hy => by have := (logB_sm HKR.out.l).2 y hy; omega)
    go_wp2_with fail
    refine jp.mono ?_
    rintro e w20 ⟨v, T, rfl, h20, b20⟩
    have H20 := hH_ (H8.out.kept b20)
    have B20 := hH_ (B8.out.trans (b20.mono H8.out.le))
    have M20 : Hid (MsOwn w20 w8.heap.size v T (sprL R)) := hH_ (h20)
    have S20 : Hid (w8.heap.size ≤ w20.heap.size) := b20.size
    obtain ⟨va, vc, rfl, _⟩ := h20.row.form
    clear h20 b20 jp
    go_wp2
    go_ret
    rw [HE.out]
    exact ⟨ux, _, T, rfl, RpMg.of H8.out H20.out Z9.out S20.out M20.out B20.out⟩
   | false =>
    have jl := implLeads R ux b w8 H8.out.c ⟨HKR.out.v.1, by have := HKR.out.v; omega⟩ HKR.out.p
    obtain ⟨LD, hLD⟩ : ∃ LD, LD = dB (leads R) := ⟨_, rfl⟩
    have HLD : Hid (LD = dB (leads R)) := hLD
    rw [← hLD] at jl
    clear hLD
    go_wp2_with fail
    refine jl.mono ?_
    rintro e w9 ⟨rfl, hb9⟩
    have H9 := hH_ (H8.out.kept hb9)
    have B9 := hH_ (B8.out.trans (hb9.mono H8.out.le))
    clear hb9 jl H8 B8
    cases LD with
    | true =>
     have HE : Hid (rcvC r X.m = (R, sprL R)) := hH_ (by rw [HT.out]; exact if_pos (.inr (dB_is HLD.out.symm).1))
     clear HT
     go_upto_region 11 with fail
     have Z9 : Hid (w.heap.size ≤ w9.heap.size) := hH_ (B9.out.size)
     have jp := implSpr R ux b w9 H9.out.c ⟨HKR.out.v.1, by have := HKR.out.v; omega⟩ HKR.out.p H9.out.got.l H9.out.got.ch (by have := (logB_sm HKR.out.l).1; omega) (by have := HKR.out.ch5; omega) (fun y hy => by have := (logB_sm HKR.out.l).2 y hy; omega)
     go_wp2_with fail
     refine jp.mono ?_
     rintro e w20 ⟨v, T, rfl, h20, b20⟩
     have H20 := hH_ (H9.out.kept b20)
     have B20 := hH_ (B9.out.trans (b20.mono H9.out.le))
     have M20 : Hid (MsOwn w20 w9.heap.size v T (sprL R)) := hH_ (h20)
     have S20 : Hid (w9.heap.size ≤ w20.heap.size) := b20.size
     obtain ⟨va, vc, rfl, _⟩ := h20.row.form
     clear h20 b20 jp
     go_wp2
     go_ret
     rw [HE.out]
     exact ⟨ux, _, T, rfl, RpMg.of H9.out H20.out Z9.out S20.out M20.out B20.out⟩
    | false =>
     have HE : Hid (rcvC r X.m = (R, [])) := hH_ (by rw [HT.out]; exact if_neg (by rintro (h | h); exact dB_not HAS.out.symm h; exact dB_not HLD.out.symm ⟨h, HMR.out⟩))
     clear HT
     go_upto_region 10 with fail
     have hba : Below w9.heap.size w9 (w9.alloc (.cells #[] 30)) := (Below.refl _ w9).alloc (Nat.le_refl _) _
     go_wp2
     go_ret
     rw [HE.out]
     exact ⟨ux, _, [], rfl, RpMg.no ((H9.out.kept hba).less) (B9.out.trans (hba.mono H9.out.le))⟩
end Go.Proofs.YtdkhdjickkcaiaaGreat.Rl.Fr
