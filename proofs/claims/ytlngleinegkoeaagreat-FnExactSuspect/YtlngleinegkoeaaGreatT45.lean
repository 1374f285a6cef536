/-
  A replica whose Tells are about to go: cell 9 holds anything; and the program's beNormal from there.
  The library's MaxFunc of messages.
  The library's Equal of texts.
-/
import Derived.Test.YtlngleinegkoeaaGreatT35
import Derived.Test.YtlngleinegkoeaaGreatT44
import Derived.Test.YtlngleinegkoeaaGreatT38
import Derived.Test.YtlngleinegkoeaaGreatT41
namespace Go.Proofs.YtlngleinegkoeaaGreat.Rl
open Go.RowKit Go.Sort Go.Shelf
set_option linter.unusedVariables false
set_option linter.unusedSimpArgs false

structure RpX (w : World) (B b : Nat) (v9 : Value) (u : Rv) (r : Rp) : Prop where
  c : Bx w b 28 ((rpC r u).setIfInBounds 9 v9)
  o : RpOw w B u r
  apt : RpAp u
  hb : B ≤ b
theorem RpX.lt {w : World} {B b : Nat} {v9 : Value} {u : Rv} {r : Rp} (h : RpX w B b v9 u r) : b < w.heap.size := Bx.lt h.c
theorem RpX.le {w : World} {B b : Nat} {v9 : Value} {u : Rv} {r : Rp} (h : RpX w B b v9 u r) : B ≤ w.heap.size := by have := h.lt; have := h.hb; omega
theorem RpX.kept {w w' : World} {B b : Nat} {v9 : Value} {u : Rv} {r : Rp} (h : RpX w B b v9 u r) (hb : Below w.heap.size w w') : RpX w' B b v9 u r := ⟨Bx.kept h.c hb, h.o.kept hb, h.apt, h.hb⟩
theorem RpX.under {w : World} {B b : Nat} {v9 : Value} {u : Rv} {r : Rp} (h : RpX w B b v9 u r) : ∀ v ∈ u.rows, ∀ k, v.ownBlock = some k → k < w.heap.size := h.o.has.under
theorem RpOw.neX {w : World} {B b : Nat} {u : Rv} {r : Rp} {vs : Array Value} (h : RpOw w B u r) (hc : Bx w b 28 vs) : ∀ v ∈ u.rows, ∀ k, v.ownBlock = some k → k ≠ b := by
  intro v hv
  have hc : w.heap[b]? = some (.cells _ 28 (0, 0)) := hc
  simp only [Rv.rows, List.mem_cons, List.mem_map] at hv
  rcases hv with rfl | rfl | rfl | rfl | ⟨x, hx, rfl⟩
  · exact OwnsE.ne_of h.l hc (by decide)
  · exact OwnsE.ne_of h.ok hc (by decide)
  · exact OwnsE.ne_of h.ch.has hc (by decide)
  · exact OwnsE.ne_of h.te.has hc (by decide)
  · exact OwnsE.ne_of (h.tl x hx) hc (by decide)
theorem RpX.put {w : World} {B b : Nat} {v9 : Value} {u u' : Rv} {r r' : Rp} (h : RpX w B b v9 u r) (i : Nat) (v : Value) (hc : ((rpC r u).setIfInBounds 9 v9).setIfInBounds i v = (rpC r' u').setIfInBounds 9 v9) (ho : RpOw w B u' r') (hap : RpAp u') : RpX (w.setCell ⟨b, i, none⟩ v) B b v9 u' r' where
  c := by
    have := Bx.put h.c i v
    rw [hc] at this
    exact this
  o := ho.off fun x hx k hk => Below.heap_setCell _ _ _ _ (ho.neX h.c x hx k hk)
  apt := hap
  hb := h.hb
/-- Out of a replica whose Log becomes the log of one of its Tells. -/
theorem RpAt.toX {w : World} {B b : Nat} {u : Rv} {r : Rp} (h : RpAt w B b u r) {x : Mx} (hx : x ∈ u.T) : RpX (w.setCell ⟨b, 5, none⟩ x.u) B b u.te { u with l := x.u, te := .slice none 0 0, T := [] } { r with l := x.m.l, te := [] } := by
  obtain ⟨a1, a2, a3, a4, a5⟩ := RpAp.iff.1 h.apt
  have ho : RpOw w B { u with l := x.u, te := .slice none 0 0, T := [] } { r with l := x.m.l, te := [] } := ⟨h.o.tl x hx, h.o.ok, h.o.ch, rfl, OwnsE.none _ _, fun y hy => nomatch hy⟩
  refine ⟨?_, ho.off fun y hy k hk => Below.heap_setCell _ _ _ _ (ho.neX h.c y hy k hk), RpAp.iff.2 ⟨fun y hy => ?_, fun y hy => ?_, fun y hy => ?_, fun y hy => (nomatch hy), List.Pairwise.nil⟩, h.hb⟩
  · have := Bx.put h.c 5 x.u
    exact this
  · simp only [List.map_nil, List.mem_cons, List.not_mem_nil, or_false] at hy
    have hm : x.u ∈ u.T.map Mx.u := List.mem_map_of_mem hx
    rcases hy with rfl | rfl | rfl
    · exact fun k h1 h2 => a2 x.u (by simp only [List.mem_cons]; exact .inr (.inr hm)) k h2 h1
    · exact fun k h1 h2 => a3 x.u (by simp only [List.mem_cons]; exact .inr hm) k h2 h1
    · exact fun k h1 h2 => by cases h2
  · simp only [List.map_nil, List.mem_cons, List.not_mem_nil, or_false] at hy
    rcases hy with rfl | rfl
    · exact a2 _ (by simp)
    · exact fun k h1 h2 => by cases h2
  · simp only [List.map_nil, List.mem_cons, List.not_mem_nil, or_false] at hy
    subst hy
    exact fun k h1 h2 => by cases h2
theorem wpList_rxN {ops : Array Oper} {rest : List Oper} {o : Oper} {a : Act} {Q : Exit → Act → World → Prop} {w w1 : World} {B b : Nat} {v9 : Value} {u : Rv} {r : Rp} (h : RpX w B b v9 u r) (hb : Below w.heap.size w w1) (hgd : o.guard = none) (hd : o.dst = none) (x y : Operand) (ho : o.op = .store 4 x y) (z : Bool)
    (hx : a.eval x = .pointer (some ⟨b, 3, none⟩)) (hy : a.eval y = .bool z) (hh : ∀ W, RpX W B b v9 u { r with n := z } → Below B w W → wpList Tryz.prog ops Q rest a W) : wpList Tryz.prog ops Q (o :: rest) a w1 :=
  wpList_put1 hgd hd 4 x y ho b 3 _ hx hy Tryz.rsz4 rfl (h.kept hb).c (show 3 < ((rpC r u).setIfInBounds 9 v9).size by rw [Array.size_setIfInBounds, rpC_size]; decide) (hh _ ((h.kept hb).put 3 _ rfl ⟨(h.kept hb).o.l, (h.kept hb).o.ok, (h.kept hb).o.ch, (h.kept hb).o.t, (h.kept hb).o.te, (h.kept hb).o.tl⟩ h.apt) ((hb.mono h.le).setCell (p := ⟨b, 3, none⟩) h.hb _))
theorem wpList_rxLa {ops : Array Oper} {rest : List Oper} {o : Oper} {a : Act} {Q : Exit → Act → World → Prop} {w w1 : World} {B b : Nat} {v9 : Value} {u : Rv} {r : Rp} (h : RpX w B b v9 u r) (hb : Below w.heap.size w w1) (hgd : o.guard = none) (hd : o.dst = none) (x y : Operand) (ho : o.op = .store 2 x y) (z : Int)
    (hx : a.eval x = .pointer (some ⟨b, 4, none⟩)) (hy : a.eval y = .int .i64 z) (hh : ∀ W, RpX W B b v9 u { r with la := z } → Below B w W → wpList Tryz.prog ops Q rest a W) : wpList Tryz.prog ops Q (o :: rest) a w1 :=
  wpList_put1 hgd hd 2 x y ho b 4 _ hx hy Tryz.rsz2 rfl (h.kept hb).c (show 4 < ((rpC r u).setIfInBounds 9 v9).size by rw [Array.size_setIfInBounds, rpC_size]; decide) (hh _ ((h.kept hb).put 4 _ rfl ⟨(h.kept hb).o.l, (h.kept hb).o.ok, (h.kept hb).o.ch, (h.kept hb).o.t, (h.kept hb).o.te, (h.kept hb).o.tl⟩ h.apt) ((hb.mono h.le).setCell (p := ⟨b, 4, none⟩) h.hb _))
theorem RpX.newCh {w w1 : World} {B b : Nat} {v9 : Value} {u : Rv} {r : Rp} (h : RpX w B b v9 u r) (hb : Below w.heap.size w w1) {v : Value} {l : List Int} (hv : OwnsN w1 w.heap.size v l) : RpX (w1.setCell ⟨b, 8, none⟩ v) B b v9 { u with ch := v } { r with ch := l } := by
  have h1 := h.kept hb
  have hn := apN h.under hv.from
  obtain ⟨a1, a2, a3, a4, a5⟩ := RpAp.iff.1 h.apt
  refine h1.put 8 _ rfl ⟨h1.o.l, h1.o.ok, hv.low h.le, h1.o.t, h1.o.te, h1.o.tl⟩ (RpAp.iff.2 ⟨fun x hx => ?_, fun x hx => ?_, fun x hx => (hn x ?_).2, a4, a5⟩)
  · simp only [List.mem_cons] at hx
    rcases hx with rfl | rfl | hx
    · exact a1 _ (by simp)
    · exact (hn _ (rows_l u)).1
    · exact a1 x (by simp only [List.mem_cons]; exact .inr (.inr hx))
  · simp only [List.mem_cons] at hx
    rcases hx with rfl | hx
    · exact (hn _ (rows_ok u)).1
    · exact a2 x (by simp only [List.mem_cons]; exact .inr hx)
  · simp only [List.mem_cons] at hx
    rcases hx with rfl | hx
    · exact rows_te u
    · exact rows_T hx
theorem wpList_rxCh {ops : Array Oper} {rest : List Oper} {o : Oper} {a : Act} {Q : Exit → Act → World → Prop} {w w1 : World} {B b : Nat} {v9 : Value} {u : Rv} {r : Rp} (h : RpX w B b v9 u r) (hb : Below w.heap.size w w1) (hgd : o.guard = none) (hd : o.dst = none) (x y : Operand) (ho : o.op = .store 25 x y) {v : Value} {l : List Int} (hv : OwnsN w1 w.heap.size v l)
    (hx : a.eval x = .pointer (some ⟨b, 8, none⟩)) (hy : a.eval y = v) (hh : ∀ W, RpX W B b v9 { u with ch := v } { r with ch := l } → Below B w W → wpList Tryz.prog ops Q rest a W) : wpList Tryz.prog ops Q (o :: rest) a w1 :=
  wpList_put1 hgd hd 25 x y ho b 8 _ hx hy Tryz.rszI (by obtain ⟨_, _, e, _⟩ := hv.form; rw [e]; rfl) (h.kept hb).c (show 8 < ((rpC r u).setIfInBounds 9 v9).size by rw [Array.size_setIfInBounds, rpC_size]; decide) (hh _ (h.newCh hb hv) ((hb.mono h.le).setCell (p := ⟨b, 8, none⟩) h.hb _))
/-- The Tells put anew: a whole replica again. -/
theorem RpX.toAt {w w1 : World} {B b : Nat} {v9 : Value} {u : Rv} {r : Rp} (h : RpX w B b v9 u r) (hb : Below w.heap.size w w1) {v : Value} (hT : u.T = []) (hr : r.te = []) (hv : OwnsM w1 w.heap.size v []) : RpAt (w1.setCell ⟨b, 9, none⟩ v) B b { u with te := v, T := [] } { r with te := [] } := by
  have h1 := h.kept hb
  have hn := apN h.under hv.from
  obtain ⟨a1, a2, a3, a4, a5⟩ := RpAp.iff.1 h.apt
  have ho : RpOw w1 B { u with te := v, T := [] } { r with te := [] } := ⟨h1.o.l, h1.o.ok, h1.o.ch, rfl, hv.low h.le, fun y hy => nomatch hy⟩
  refine ⟨?_, ho.off fun y hy k hk => Below.heap_setCell _ _ _ _ (ho.neX h1.c y hy k hk), RpAp.iff.2 ⟨fun y hy => ?_, fun y hy => ?_, fun y hy => ?_, fun y hy => (nomatch hy), List.Pairwise.nil⟩, h.hb⟩
  · have := Bx.put h1.c 9 v
    exact this
  · simp only [List.map_nil, List.mem_cons, List.not_mem_nil, or_false] at hy
    rcases hy with rfl | rfl | rfl
    · exact a1 _ (by simp)
    · exact a1 _ (by simp)
    · exact (hn _ (rows_l u)).1
  · simp only [List.map_nil, List.mem_cons, List.not_mem_nil, or_false] at hy
    rcases hy with rfl | rfl
    · exact a2 _ (by simp)
    · exact (hn _ (rows_ok u)).1
  · simp only [List.map_nil, List.mem_cons, List.not_mem_nil, or_false] at hy
    subst hy
    exact (hn _ (rows_ch u)).1
theorem wpList_rxTe0 {ops : Array Oper} {rest : List Oper} {o : Oper} {a : Act} {Q : Exit → Act → World → Prop} {w w1 : World} {B b : Nat} {v9 : Value} {u : Rv} {r : Rp} (h : RpX w B b v9 u r) (hb : Below w.heap.size w w1) (hT : u.T = []) (hr : r.te = []) (hgd : o.guard = none) (hd : o.dst = none) (x y : Operand) (ho : o.op = .store 26 x y) {v : Value} (hv : OwnsM w1 w.heap.size v [])
    (hx : a.eval x = .pointer (some ⟨b, 9, none⟩)) (hy : a.eval y = v) (hh : ∀ W, RpAt W B b { u with te := v, T := [] } { r with te := [] } → Below B w W → wpList Tryz.prog ops Q rest a W) : wpList Tryz.prog ops Q (o :: rest) a w1 :=
  wpList_put1 hgd hd 26 x y ho b 9 _ hx hy Tryz.rszM (by obtain ⟨_, _, e, _⟩ := hv.form; rw [e]; rfl) (h.kept hb).c (show 9 < ((rpC r u).setIfInBounds 9 v9).size by rw [Array.size_setIfInBounds, rpC_size]; decide) (hh _ (h.toAt hb hT hr hv) ((hb.mono h.le).setCell (p := ⟨b, 9, none⟩) h.hb _))
set_option maxRecDepth 100000 in
set_option maxHeartbeats 8000000 in
theorem implBeNX (r : Rp) (u : Rv) (B b : Nat) (v9 : Value) (w : World) (h : RpX w B b v9 u r) (hT : u.T = []) (hr : r.te = []) (hp : pOk r.p) (hid : 0 ≤ r.id ∧ r.id < r.p) (hv : 0 ≤ r.v ∧ r.v ≤ 20000) (hc : 0 ≤ r.c) (hlen : r.l.length ≤ 1048576) :
    Calls Tryz.prog 176 #[.pointer (some ⟨b, 0, none⟩)] w fun e w' => e = .returned (.tuple #[]) ∧ ∃ u', RpAt w' B b u' (beN r) ∧ Below B w w' := by
  have H0 : Hid (RpX w B b v9 u r) := h
  have HT : Hid (u.T = [] ∧ r.te = []) := (show _ ∧ _ from ⟨hT, hr⟩)
  have D0 : Hid (Below B w w) := (show Hid _ from Below.refl _ _)
  have jA := fun u W hW => implAnewAt { r with n := true, la := r.v, ch := [], te := [] } u B b W hW hp hid hv hc hlen
  clear h hp hid hv hc hlen hT hr
  go_enter Tryz.func176, Tryz.ntmps176
  go_upto_region 1 with (refine wpList_rxN H0.out (Below.refl _ _) rfl rfl _ _ rfl true rfl rfl ?_; intro w1 h1 b1)
  have H1 : Hid (RpX w1 B b v9 u { r with n := true }) := h1
  have D1 : Hid (Below B w w1) := (show Hid _ from D0.out.trans b1)
  clear h1 b1 H0 D0
  have q2 : w1.cell? ⟨b, 2, none⟩ = some (.int .i64 r.v) := H1.out.c.cell 2
  go_upto_region 2 with (refine wpList_rxLa H1.out (Below.refl _ _) rfl rfl _ _ rfl r.v rfl rfl ?_; intro w2 h2 b2)
  have H2 : Hid (RpX w2 B b v9 u { r with n := true, la := r.v }) := h2
  have D2 : Hid (Below B w w2) := (show Hid _ from D1.out.trans b2)
  clear h2 b2 H1 D1 q2
  go_upto_region 3 with (refine wpList_rxCh H2.out ((Below.refl _ w2).alloc (Nat.le_refl _) _) rfl rfl _ _ rfl (OwnsE.born w2) rfl rfl ?_; intro w3 h3 b3)
  have H3 : Hid (RpX w3 B b v9 _ { r with n := true, la := r.v, ch := [] }) := (show Hid _ from h3)
  have D3 : Hid (Below B w w3) := (show Hid _ from D2.out.trans b3)
  clear h3 b3 H2 D2
  go_upto_region 4 with (refine wpList_rxTe0 H3.out ((Below.refl _ w3).alloc (Nat.le_refl _) _) HT.out.1 HT.out.2 rfl rfl _ _ rfl (OwnsE.born w3) rfl rfl ?_; intro w4 h4 b4)
  have H4 : Hid (RpAt w4 B b _ { r with n := true, la := r.v, ch := [], te := [] }) := (show Hid _ from h4)
  have D4 : Hid (Below B w w4) := (show Hid _ from D3.out.trans b4)
  clear h4 b4 H3 D3
  go_wp2_with fail
  refine (jA _ _ H4.out).mono ?_
  rintro e w5 ⟨rfl, u5, h5, b5⟩
  have H5 : Hid (RpAt w5 B b u5 (beN r)) := (show Hid _ from h5)
  have D5 : Hid (Below B w w5) := (show Hid _ from D4.out.trans b5)
  clear h5 b5 H4 D4 jA
  go_wp2
  go_end0
  first | exact ⟨rfl, _, H5.out, D5.out⟩ | exact ⟨rfl, ⟨_, H5.out⟩, D5.out⟩
end Go.Proofs.YtlngleinegkoeaaGreat.Rl
namespace Go.Proofs.YtlngleinegkoeaaGreat.Rl
open Go.RowKit Go.Sort Go.Shelf
set_option linter.unusedVariables false
set_option linter.unusedSimpArgs false

theorem byI_pos (x y : Mx) : 0 < byI x.m.la y.m.la x.m.l.length y.m.l.length ↔ (y.m.la < x.m.la ∨ (x.m.la = y.m.la ∧ y.m.l.length < x.m.l.length)) := by
  unfold byI cmI
  repeat' split
  all_goals omega
def frMf (s t : Nat → Value) : Act := { tmps := #[s 0, s 1, s 2, s 3, s 4, s 5, s 6, s 7, s 8, s 9, s 10, s 11, s 12, s 13, s 14, s 15, s 16, s 17, s 18, s 19, t 20, t 21, t 22, t 23, t 24, t 25, t 26, s 27, s 28, s 29, s 30, s 31, s 32], defers := [] }
def LMf : List Nat := [20, 21, 22, 23, 24, 25, 26]
def dMf (i : Nat) : Nat := LMf.getD i (i + 5000)
theorem dMf_ne {i j : Nat} (hi : i < 7) (hj : j < 7) (h : j ≠ i) : dMf j ≠ dMf i := slotsNe (L := LMf) (by decide) rfl hi hj h
def GMf (X Y : Mx) (KK g0 q0 n c g lo : Nat) (i : Nat) (x : World) (v : Value) : Prop := match i with
  | 0 => v = .func (.func 212) #[] #[]
  | 1 => v = .slice (some ⟨g0, q0, none⟩) n c
  | 2 => v = .int .i64 (KK : Int)
  | 3 => v = .pointer (some ⟨g0, q0 + KK * 7, none⟩)
  | 4 => v = .agg (mxV X)
  | 5 => v = .agg (mxV Y)
  | 6 => v = .int .i64 (byI X.m.la Y.m.la X.m.l.length Y.m.l.length)
  | _ => True
theorem GMf.keep {X Y : Mx} {KK g0 q0 n c g lo : Nat} {x y : World} (hb : Below x.heap.size x y) (j : Nat) (v : Value) (hj : j < 7) (h : GMf X Y KK g0 q0 n c g lo j x v) : GMf X Y KK g0 q0 n c g lo j y v := by
  rcases (show j = 0 ∨ j = 1 ∨ j = 2 ∨ j = 3 ∨ j = 4 ∨ j = 5 ∨ j = 6 by omega) with rfl | rfl | rfl | rfl | rfl | rfl | rfl
  · exact h
  · exact h
  · exact h
  · exact h
  · exact h
  · exact h
  · exact h
set_option maxRecDepth 100000 in
set_option maxHeartbeats 8000000 in
theorem implMaxF (v : Value) (T : List Mx) (w : World) (h : Sls mxE w v T) (h0 : 0 < T.length) (hl : T.length ≤ 1000) :
    Calls Tryz.prog 211 #[v, .func (.func 212) #[] #[]] w fun e w' => ∃ x ∈ T, e = .returned (.agg (mxV x)) ∧ x.m = besM (T.map (·.m)) ∧ Below w.heap.size w w' := by
  have HS : Hid (Sls mxE w v T) := h
  obtain ⟨a, c, rfl, hc1, hc2, _⟩ := h
  obtain ⟨g0, q0, rfl⟩ := mxAt HS.out h0
  obtain ⟨b4, hb4⟩ : ∃ b4, b4 = w.heap.size := ⟨_, rfl⟩
  obtain ⟨w1, hw1⟩ : ∃ w1, w1 = w.alloc (.cells #[.int .i64 0, .int .i64 0, .int .i64 0, .int .i64 0, .int .i64 0, .slice none 0 0, .int .i64 0] 30) := ⟨_, rfl⟩
  have Z1 : Hid (Bx w1 b4 30 #[.int .i64 0, .int .i64 0, .int .i64 0, .int .i64 0, .int .i64 0, .slice none 0 0, .int .i64 0]) := (show Hid _ from by rw [hw1, hb4]; exact Bx.new _ _ _)
  have B1 : Hid (Below w.heap.size w w1) := (show Hid _ from by rw [hw1]; exact (Below.refl _ w).alloc (Nat.le_refl _) _)
  have HB4 : Hid (b4 = w.heap.size ∧ w1.heap.size = b4 + 1) := (show _ ∧ _ from ⟨hb4, by rw [hw1, hb4]; simp⟩)
  have h1i : ¬ (T.length : Int) < 1 := by omega
  go_enter Tryz.func211, Tryz.ntmps211
  go_upto_region 1 with fail
  rw [← hb4, ← hw1]
  clear hw1 hb4
  go_upto_region 3 with fail
  have CK := mxCells (HS.out.kept B1.out) h0
  have HX0 : Hid (T[0] ∈ T ∧ T.map (·.m) = T[0].m :: (T.map (·.m)).drop 1) := (show _ ∧ _ from ⟨List.getElem_mem h0, by
    cases T with
    | nil => simp at h0
    | cons a l => simp⟩)
  generalize T[0] = x0 at CK HX0
  unfold Mx.u at CK
  simp only [Nat.zero_mul, Nat.add_zero] at CK
  obtain ⟨y0, y1, y2, y3, y4, y5, y6⟩ := CK
  have hk0 : (0 : Int) < (T.length : Int) := by omega
  go_upto_region 4 with (refine wpList_stM rfl rfl (.tmp 5) (.tmp 13) rfl w1.heap.size (mxV x0) rfl rfl (Bx.new _ _ _) rfl rfl (by simp [mxV, Value.oneCell']) ?_; intro w2 hz2 hc2')
  clear y0 y1 y2 y3 y4 y5 y6 hk0
  obtain ⟨g, hg⟩ : ∃ g, g = w1.heap.size := ⟨_, rfl⟩
  have HG : Hid (w.heap.size ≤ b4 ∧ b4 < g) := (show _ ∧ _ from by have := HB4.out; omega)
  have X2 : Hid (Bx w2 g 30 (mxV x0)) := (show Hid _ from by rw [hg]; exact hz2)
  have BL : Below w1.heap.size w1 w2 := hc2'.below ((Below.refl _ w1).alloc (Nat.le_refl _) _) (by simp) (fun k hk => by omega)
  have Z2 : Hid (Bx w2 b4 30 #[.int .i64 0, .int .i64 0, .int .i64 0, .int .i64 0, .int .i64 0, .slice none 0 0, .int .i64 0]) := (show Hid _ from Bx.kept Z1.out BL)
  have B2 : Hid (Below w.heap.size w w2) := (show Hid _ from B1.out.trans (BL.mono B1.out.size))
  rw [← hg]
  clear hz2 hc2' hg BL Z1 B1 HB4 h1i
  go_wp2_with fail
  go_loopw [6] (fun i wr => ∃ (k : Nat) (Y : Mx), 1 ≤ k ∧ k ≤ T.length ∧ i = .int .i64 k ∧ Hid (Y ∈ T ∧ Y.m = ((T.map (·.m)).take k).foldl betM x0.m) ∧ Hid (Bx wr g 30 (mxV Y)) ∧ Hid (Bx wr b4 30 #[.int .i64 0, .int .i64 0, .int .i64 0, .int .i64 0, .int .i64 0, .slice none 0 0, .int .i64 0]) ∧ Hid (Below w.heap.size w wr)) (fun i _ => T.length - (intOf i).toNat)
  case atStart => exact ⟨1, x0, Nat.le_refl _, h0, rfl, (show _ ∧ _ from ⟨HX0.out.1, by
    rw [HX0.out.2]
    simp [betM]⟩), X2, Z2, B2⟩
  case round =>
    clear X2 Z2 B2
    obtain ⟨k, Y, hk1, hk, rfl, hY, HX, hZ, hB⟩ := hrel
    by_cases hlt : k < T.length
    · have hlti : (k : Int) < (T.length : Int) := by omega
      have CX0 := fun x (hS : Below wr.heap.size wr x) => mxCells (HS.out.kept (hB.out.trans (hS.mono hB.out.size))) hlt
      have HXK : Hid (T[k] ∈ T ∧ ∃ h : k < (T.map (·.m)).length, (T.map (·.m))[k] = T[k].m) := (show _ ∧ ∃ _, _ from ⟨List.getElem_mem hlt, by rw [List.length_map]; exact hlt, by simp⟩)
      generalize T[k] = X at CX0 HXK
      unfold Mx.u at CX0
      go_upto_region 7 with fail
      obtain ⟨n, hn⟩ : ∃ n, n = T.length := ⟨_, rfl⟩
      rw [← hn]
      have hkn : k < n := by omega
      have HN : Hid (n = T.length ∧ k < n ∧ n ≤ 1000) := (show _ ∧ _ ∧ _ from by omega)
      have S0 : Below wr.heap.size wr wr.drew := ⟨rfl, rfl, rfl, Nat.le_refl _, fun _ _ => rfl⟩
      obtain ⟨KK, hKK⟩ : ∃ KK, KK = k := ⟨_, rfl⟩
      rw [← hKK]
      rw [← hKK] at CX0 hkn
      have CX := CX0
      have HKK : Hid (KK = k) := hKK
      clear CX0 hlti hlt hk hk1 hn hKK
      obtain ⟨lo, hlo⟩ : ∃ lo, lo = wr.heap.size := ⟨_, rfl⟩
      generalize hA : Act.mk _ _ = A
      obtain ⟨s, hs, s0_, s1_, s2_, s3_, s4_, s5_, s6_, s7_, s8_, s9_, s10_, s11_, s12_, s13_, s32_⟩ : ∃ s : Nat → Value, A = frMf s s ∧ s 0 = .slice (some ⟨g0, q0, none⟩) n c ∧ s 1 = .func (.func 212) #[] #[] ∧ s 2 = undef ∧ s 3 = undef ∧ s 4 = .pointer (some ⟨b4, 0, none⟩) ∧ s 5 = .pointer (some ⟨g, 0, none⟩) ∧ s 6 = .int .i64 (KK : Int) ∧ s 7 = .slice (some ⟨g0, q0, none⟩) n c ∧ s 8 = .int .i64 (n : Int) ∧ s 9 = .bool false ∧ s 10 = undef ∧ s 11 = .slice (some ⟨g0, q0, none⟩) n c ∧ s 12 = .pointer (some ⟨g0, q0, none⟩) ∧ s 13 = .agg #[.int .i64 x0.m.k, .int .i64 x0.m.f, .int .i64 x0.m.t, .int .i64 x0.m.v, .int .i64 x0.m.la, .slice x0.pl x0.m.l.length x0.cl, .int .i64 x0.m.c] ∧ s 32 = undef := by
        refine ⟨fun i => A.tmps.getD i undef, ?_, ?_, ?_, ?_, ?_, ?_, ?_, ?_, ?_, ?_, ?_, ?_, ?_, ?_, ?_, ?_⟩ <;> rw [← hA] <;> rfl
      rw [hs]
      clear hs hA
      refine region_heads 7 mixed (by decide) (by kernel_rfl) (by kernel_rfl) (by kernel_rfl) (by kernel_rfl) (frMf s) dMf (fun x => Below wr.heap.size wr x) (GMf X Y KK g0 q0 n c g lo) (fun i j hi hj h => dMf_ne hi hj h) ?put s rfl S0 ?step ?done
      case put =>
        intro i o hi ho t v
        rcases (show i = 0 ∨ i = 1 ∨ i = 2 ∨ i = 3 ∨ i = 4 ∨ i = 5 ∨ i = 6 by omega) with rfl | rfl | rfl | rfl | rfl | rfl | rfl
        all_goals
          obtain rfl := Option.some.inj ho
          rfl
      case step =>
        intro i o hi ho t x hS hdep K hK
        rcases (show i = 0 ∨ i = 1 ∨ i = 2 ∨ i = 3 ∨ i = 4 ∨ i = 5 ∨ i = 6 by omega) with rfl | rfl | rfl | rfl | rfl | rfl | rfl
        all_goals obtain rfl := Option.some.inj ho
        · have h2 := hK (.func (.func 212) #[] #[]) x hS (fun j u hj hne h => h) rfl
          unfold frMf at h2 ⊢
          clear hK
          go_simp
          simpa [Act.put, s0_, s1_, s4_, s7_, s8_, s9_, s11_, s12_, s10_, s2_, s3_, s32_, s13_, s5_, s6_] using h2
        · have h2 := hK (.slice (some ⟨g0, q0, none⟩) n c) x hS (fun j u hj hne h => h) rfl
          unfold frMf at h2 ⊢
          clear hK
          go_simp
          simpa [Act.put, s0_, s1_, s4_, s7_, s8_, s9_, s11_, s12_, s10_, s2_, s3_, s32_, s13_, s5_, s6_] using h2
        · have h2 := hK (.int .i64 (KK : Int)) x hS (fun j u hj hne h => h) rfl
          unfold frMf at h2 ⊢
          clear hK
          go_simp
          simpa [Act.put, s0_, s1_, s4_, s7_, s8_, s9_, s11_, s12_, s10_, s2_, s3_, s32_, s13_, s5_, s6_] using h2
        · have e1 : t 21 = .slice (some ⟨g0, q0, none⟩) n c := hdep { on := 1, ground := Ground.data } (by simp) rfl
          have e2 : t 22 = .int .i64 (KK : Int) := hdep { on := 2, ground := Ground.data } (by simp) rfl
          have h2 := hK (.pointer (some ⟨g0, q0 + KK * 7, none⟩)) x hS (fun j u hj hne h => h) rfl
          unfold frMf at h2 ⊢
          clear hK
          go_simp
          simpa [Act.put, e1, e2, hkn, s0_, s1_, s5_, s6_, s4_, s7_, s8_, s9_, s10_, s11_, s12_, s13_, s2_, s3_, s32_] using h2
        · have e3 : t 23 = .pointer (some ⟨g0, q0 + KK * 7, none⟩) := hdep { on := 3, ground := Ground.data } (by simp) rfl
          obtain ⟨z0, z1, z2, z3, z4, z5, z6⟩ := CX x hS
          have h2 := hK (.agg (mxV X)) x hS (fun j u hj hne h => h) rfl
          unfold frMf mxV at h2
          unfold frMf
          clear hK
          go_simp
          simpa [Act.put, e3, z0, z1, z2, z3, z4, z5, z6, s0_, s1_, s5_, s6_, s4_, s7_, s8_, s9_, s10_, s11_, s12_, s13_, s2_, s3_, s32_] using h2
        · have h2 := hK (.agg (mxV Y)) x hS (fun j u hj hne h => h) rfl
          refine ldGM (by rfl) (.tmp 5) rfl g (by show (frMf s t).eval (.tmp 5) = _; unfold frMf; simp [Act.eval, s5_]) (HX.out.kept hS) rfl ?_
          exact h2
        · have e0 : t 20 = .func (.func 212) #[] #[] := hdep { on := 0, ground := Ground.data } (by simp) rfl
          have e4 : t 24 = .agg (mxV X) := hdep { on := 4, ground := Ground.data } (by simp) rfl
          have e5 : t 25 = .agg (mxV Y) := hdep { on := 5, ground := Ground.data } (by simp) rfl
          refine callGV2 (by rfl) 212 (.tmp 20) (.tmp 24) (.tmp 25) _ rfl (by show (frMf s t).eval (.tmp 20) = _; unfold frMf; simp [Act.eval, e0]) (.agg (mxV X)) (.agg (mxV Y)) e4 e5 (Go.Proofs.enters_of Tryz.func212 (by kernel_rfl) rfl _) (fun v y => (v = .int .i64 (byI X.m.la Y.m.la X.m.l.length Y.m.l.length)) ∧ Below x.heap.size x y) ((implByLL _ _ _ _ _ _ _ _ _ _ _ _ _ _ _ _ _ _ x).mono ?_) ?_
          · rintro e0 y0 ⟨h0, h1⟩
            exact ⟨_, h0, rfl, h1⟩
          · rintro v y ⟨h0, hb2⟩
            exact hK v y (hS.trans (hb2.mono hS.size)) (fun j u hj hne h => GMf.keep hb2 j u hj h) h0
      case done =>
        intro t w3 hS hG
        have e6 : t 26 = .int .i64 (byI X.m.la Y.m.la X.m.l.length Y.m.l.length) := hG 6 (by decide)
        obtain ⟨z0, z1, z2, z3, z4, z5, z6⟩ := CX w3 hS
        clear hG CX hlo S0
        show wpList Tryz.prog _ _ [_] _ w3
        unfold frMf
        simp only [e6, s0_, s1_, s4_, s5_, s6_, s7_, s8_, s9_, s10_, s11_, s12_, s13_, s2_, s3_, s32_]
        clear e6 s0_ s1_ s4_ s5_ s6_ s7_ s8_ s9_ s10_ s11_ s12_ s13_ s2_ s3_ s32_
        have HX3 : Hid (Bx w3 g 30 (mxV Y)) := (show Hid _ from Bx.kept HX.out hS)
        have hZ3 : Hid (Bx w3 b4 30 #[.int .i64 0, .int .i64 0, .int .i64 0, .int .i64 0, .int .i64 0, .slice none 0 0, .int .i64 0]) := (show Hid _ from Bx.kept hZ.out hS)
        have hB3 : Hid (Below w.heap.size w w3) := (show Hid _ from hB.out.trans (hS.mono hB.out.size))
        clear hS HX hZ hB
        have hbp := byI_pos X Y
        have hkk2 := HKK.out
        subst hkk2
        obtain ⟨hn1, hn3, hn4⟩ := HN.out
        subst hn1
        by_cases hp : 0 < byI X.m.la Y.m.la X.m.l.length Y.m.l.length
        · have HY2 : Hid (X ∈ T ∧ X.m = ((T.map (·.m)).take (KK + 1)).foldl betM x0.m) := (show _ ∧ _ from ⟨HXK.out.1, by
            obtain ⟨_, h1, h2⟩ := HXK.out
            rw [bes_take _ _ KK h1, h2, ← hY.out.2]
            unfold betM
            rw [if_pos (hbp.1 hp)]⟩)
          clear hbp
          generalize byI X.m.la Y.m.la X.m.l.length Y.m.l.length = z at hp ⊢
          have hk1000 : KK < 1000 := by omega
          go_wp2_with (refine wpList_stM rfl rfl (.tmp 5) (.tmp 31) rfl g (mxV X) rfl rfl HX3.out rfl rfl (by simp [mxV, Value.oneCell']) ?_; intro w9 hz9 hc9; have X9 : Hid (Bx w9 g 30 (mxV X)) := hz9; have Z9 : Hid (Bx w9 b4 30 #[.int .i64 0, .int .i64 0, .int .i64 0, .int .i64 0, .int .i64 0, .slice none 0 0, .int .i64 0]) := (show w9.heap[b4]? = _ from (hc9.block b4 (Bx.lt hZ3.out) (by have := HG.out; omega)).trans hZ3.out); have B9 : Hid (Below w.heap.size w w9) := (show Hid _ from hc9.below hB3.out hB3.out.size (fun k hk => by have := HG.out; omega)); clear hz9 hc9)
          go_roundw
          case rel => first | exact ⟨KK + 1, X, by omega, by omega, by go_num, HY2, X9, Z9, B9⟩ | exact ⟨_, ⟨KK + 1, by omega, by omega, by go_num, X, HY2, X9⟩, rfl⟩ | exact ⟨KK + 1, by omega, by omega, by go_num, X, HY2, X9⟩ | exact ⟨_, ⟨KK + 1, by omega, by omega, rfl, X, HY2, X9⟩, by go_num⟩
          case measure => simp [intOf]; omega
        · have HY2 : Hid (Y ∈ T ∧ Y.m = ((T.map (·.m)).take (KK + 1)).foldl betM x0.m) := (show _ ∧ _ from ⟨hY.out.1, by
            obtain ⟨_, h1, h2⟩ := HXK.out
            rw [bes_take _ _ KK h1, h2, ← hY.out.2]
            unfold betM
            rw [if_neg (fun h => hp (hbp.2 h))]⟩)
          clear hbp
          generalize byI X.m.la Y.m.la X.m.l.length Y.m.l.length = z at hp ⊢
          have hk1000 : KK < 1000 := by omega
          go_wp2_with fail
          go_roundw
          case rel => first | exact ⟨KK + 1, Y, by omega, by omega, by go_num, HY2, HX3, hZ3, hB3⟩ | exact ⟨_, ⟨KK + 1, by omega, by omega, by go_num, Y, HY2, HX3⟩, rfl⟩ | exact ⟨KK + 1, by omega, by omega, by go_num, Y, HY2, HX3⟩ | exact ⟨_, ⟨KK + 1, by omega, by omega, rfl, Y, HY2, HX3⟩, by go_num⟩
          case measure => simp [intOf]; omega
    · have hlti : ¬ (k : Int) < (T.length : Int) := by omega
      have HYM : Hid (Y ∈ T ∧ Y.m = besM (T.map (·.m))) := (show _ ∧ _ from ⟨hY.out.1, by
        have e := hY.out.2
        rw [List.take_of_length_le (by rw [List.length_map]; omega)] at e
        rw [e]
        obtain ⟨d, hd⟩ : ∃ d, T.map (·.m) = x0.m :: d := ⟨_, HX0.out.2⟩
        rw [hd]
        rfl⟩)
      clear hY HX0
      go_wp2_with (first | (refine wpList_ldM rfl (.tmp 5) rfl g rfl HX.out rfl ?_) | (refine wpList_stM rfl rfl (.tmp 4) (.tmp 32) rfl b4 (mxV Y) rfl rfl hZ.out rfl rfl (by simp [mxV, Value.oneCell']) ?_; intro w9 hz9 hc9))
      refine bodyPost_ret (v := .agg (mxV Y)) (results_cell_row (p := 4) (ty := 30) rfl _ _ b4 30 _ (0, 0) _ rfl hz9 Tryz.underlying30 rfl (by rw [Tryz.rszMs]; rfl)) rfl ?_
      exact ⟨Y, HYM.out.1, rfl, HYM.out.2, hc9.below hB.out hB.out.size (fun k hk => by have := HG.out; omega)⟩
end Go.Proofs.YtlngleinegkoeaaGreat.Rl
namespace Go.Proofs.YtlngleinegkoeaaGreat.Rl
open Go.RowKit Go.Sort Go.Shelf
set_option linter.unusedVariables false
set_option linter.unusedSimpArgs false

set_option maxRecDepth 100000 in
set_option maxHeartbeats 4000000 in
theorem implEqX (v1 v2 : Value) (L P : List ByteArray) (w : World) (h1 : Sls txtE w v1 L) (h2 : Sls txtE w v2 P) (hl : L.length ≤ 1048576) (hp : P.length ≤ 1048576) :
    Calls Tryz.prog 195 #[v1, v2] w fun e w' => e = .returned (.bool (dB (L = P))) ∧ Below w.heap.size w w' := by
  obtain ⟨a, ca, rfl, _, _, a3⟩ := h1.txt
  obtain ⟨c, cc, rfl, _, _, b3⟩ := h2.txt
  have A3 : Hid (0 < L.length → ∃ g o, a = some ⟨g, o, Option.none⟩ ∧ g < w.heap.size ∧ ∀ j (hj : j < L.length), w.cell? ⟨g, o + j, Option.none⟩ = some (.string L[j])) := a3
  have B3 : Hid (0 < P.length → ∃ g o, c = some ⟨g, o, Option.none⟩ ∧ g < w.heap.size ∧ ∀ j (hj : j < P.length), w.cell? ⟨g, o + j, Option.none⟩ = some (.string P[j])) := b3
  clear h1 h2 a3 b3
  by_cases hlt : L.length = P.length
  · have eL : ((L.length : Int) == (P.length : Int)) = true := by simp [hlt]
    have HLT : Hid (L.length = P.length) := hlt
    clear hlt
    go_enter Tryz.func195, Tryz.ntmps195
    go_wp2_with fail
    go_loopw [13] (fun i wr => ∃ k : Nat, k ≤ L.length ∧ i = .int .i64 k ∧ Hid (L.take k = P.take k) ∧ Hid (Below w.heap.size w wr)) (fun i _ => L.length - (intOf i).toNat)
    case atStart => exact ⟨0, Nat.zero_le _, rfl, (show Hid _ from rfl), (show Hid _ from Below.refl _ _)⟩
    case round =>
      obtain ⟨k, hk, rfl, hE, hb⟩ := hrel
      by_cases hkL : k < L.length
      · have hk2 : k < P.length := by have := HLT.out; omega
        obtain ⟨ga, oa, rfl, hga, hca⟩ := A3.out (by omega)
        obtain ⟨gb, ob, rfl, hgb, hcb⟩ := B3.out (by omega)
        have c1 := (hb.out.cell (p := ⟨ga, oa + k, none⟩) hga).trans (hca k hkL)
        have c2 := (hb.out.cell (p := ⟨gb, ob + k, none⟩) hgb).trans (hcb k hk2)
        have HX : Hid (L[k] ≠ P[k] → dB (L = P) = false) := (show _ → _ from fun h => dB_no (fun e => h (by subst e; rfl)))
        have HY : Hid (L[k] = P[k] → L.take (k + 1) = P.take (k + 1)) := (show _ → _ from fun h => by rw [List.take_succ_eq_append_getElem hk2, List.take_succ_eq_append_getElem hkL, hE.out, h])
        clear hca hcb
        generalize L[k] = x at c1 HX HY
        generalize P[k] = y at c2 HX HY
        by_cases hxy : x = y
        · have HZ : Hid _ := HY.out hxy
          subst hxy
          clear HX HY
          have eT : (x.toList == x.toList) = true := by simp
          go_wp2_with fail
          go_quiet (fail)
          have B2 : Hid (Below w.heap.size w (wr.drewN nq)) := (show Hid _ from hb.out.trans ⟨rfl, rfl, rfl, Nat.le_refl _, fun _ _ => rfl⟩)
          generalize wr.drewN nq = wn at B2 ⊢
          go_wp2_with fail
          go_roundw
          case rel => exact ⟨k + 1, by omega, by go_num, HZ, B2⟩
          case measure => simp [intOf]; omega
        · have HZ : Hid _ := HX.out hxy
          have eT : (x.toList == y.toList) = false := by
            exact bytes_no hxy
          clear HX HY hxy
          go_wp2_with fail
          go_quiet (fail)
          have B2 : Hid (Below w.heap.size w (wr.drewN nq)) := (show Hid _ from hb.out.trans ⟨rfl, rfl, rfl, Nat.le_refl _, fun _ _ => rfl⟩)
          generalize wr.drewN nq = wn at B2 ⊢
          go_wp2
          go_ret
          exact ⟨by rw [HZ.out]; rfl, B2.out⟩
      · obtain rfl : k = L.length := by omega
        have HZ : Hid (dB (L = P) = true) := (show _ = _ from dB_yes (by
          have e := hE.out
          rw [List.take_length, HLT.out, List.take_length] at e
          exact e))
        go_wp2
        go_ret
        exact ⟨by rw [HZ.out]; rfl, hb.out⟩
  · have HN : Hid (dB (L = P) = false) := (show _ = _ from dB_no (fun h => hlt (by rw [h])))
    have eL : ((L.length : Int) == (P.length : Int)) = false := by simp; omega
    have hlt : ¬ (L.length : Int) = (P.length : Int) := by omega
    go_enter Tryz.func195, Tryz.ntmps195
    go_wp2
    go_ret
    exact ⟨by rw [HN.out]; rfl, Below.refl _ _⟩
end Go.Proofs.YtlngleinegkoeaaGreat.Rl
