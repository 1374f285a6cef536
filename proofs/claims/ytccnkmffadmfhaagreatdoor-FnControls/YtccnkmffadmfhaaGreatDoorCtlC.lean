/-
  The specification's ControlOk and Tighter by their contracts; the laws' own helpers on control.
-/
import Derived.Test.YtccnkmffadmfhaaGreatDoorCtlP
import Derived.Test.YtccnkmffadmfhaaGreatDoorBlkE
import Derived.Test.YtccnkmffadmfhaaGreatDoorQTl
namespace Go.Proofs.YtccnkmffadmfhaaGreatDoor
open Go.RowKit Go.Sort
set_option linter.unusedVariables false

def ctE : Enc Ct where
  k := 7
  pos := by decide
  c := fun x => [.int .i64 x.a, .int .i64 x.s, .int .i64 x.t, .bool x.ns, .bool x.nc, .bool x.pr, .bool x.mu]
  len := fun _ => rfl
  one := fun x u hu => by simp at hu; rcases hu with rfl | rfl | rfl | rfl | rfl | rfl | rfl <;> rfl
abbrev CtB := BlkE ctE
def ctA (x : Ct) : Array Value := #[.int .i64 x.a, .int .i64 x.s, .int .i64 x.t, .bool x.ns, .bool x.nc, .bool x.pr, .bool x.mu]
theorem CtB.born (w : World) (x : Ct) (t : TypeId) : CtB (w.alloc (.cells #[.int .i64 x.a, .int .i64 x.s, .int .i64 x.t, .bool x.ns, .bool x.nc, .bool x.pr, .bool x.mu] t)) w.heap.size x := BlkE.new w x _ t rfl
theorem CtB.all {w : World} {b : Nat} {x : Ct} (h : CtB w b x) : w.cell? ⟨b, 0, Option.none⟩ = some (.int .i64 x.a) ∧ w.cell? ⟨b, 1, Option.none⟩ = some (.int .i64 x.s) ∧ w.cell? ⟨b, 2, Option.none⟩ = some (.int .i64 x.t) ∧ w.cell? ⟨b, 3, Option.none⟩ = some (.bool x.ns) ∧ w.cell? ⟨b, 4, Option.none⟩ = some (.bool x.nc) ∧ w.cell? ⟨b, 5, Option.none⟩ = some (.bool x.pr) ∧ w.cell? ⟨b, 6, Option.none⟩ = some (.bool x.mu) :=
  ⟨h.c 0 _ rfl, h.c 1 _ rfl, h.c 2 _ rfl, h.c 3 _ rfl, h.c 4 _ rfl, h.c 5 _ rfl, h.c 6 _ rfl⟩
theorem past9 {w w1 w2 : World} (h : Below w.heap.size w w1) (hb : Below w1.heap.size w1 w2) : Below w.heap.size w w2 := h.trans (hb.mono h.size)
theorem specIn9 (x lo hi : Int) (w : World) : Calls Tryz.prog 59 #[.int .i64 x, .int .i64 lo, .int .i64 hi] w fun e w' => e = .returned (.bool (decide (lo ≤ x) && decide (x ≤ hi))) ∧ w = w' := by
  by_cases h : lo ≤ x
  · rw [decide_eq_true h]
    by_cases h2 : x ≤ hi
    · rw [decide_eq_true h2]
      go_enter Tryz.func59, Tryz.ntmps59
      go_wp2
      go_ret
      exact ⟨rfl, rfl⟩
    · rw [decide_eq_false h2]
      go_enter Tryz.func59, Tryz.ntmps59
      go_wp2
      go_ret
      exact ⟨rfl, rfl⟩
  · rw [decide_eq_false h]
    go_enter Tryz.func59, Tryz.ntmps59
    go_wp2
    go_ret
    exact ⟨rfl, rfl⟩
theorem specSec (n : Int) (w : World) : Calls Tryz.prog 36 #[.int .i64 n] w fun e w' => e = .returned (.bool (secB n)) ∧ w = w' := by
  have h := fun W => specIn9 n (-1) 1000000000 W
  change ∀ W, Calls _ _ _ _ fun e w' => e = .returned (.bool (secB n)) ∧ W = w' at h
  generalize secB n = b at h ⊢
  go_enter Tryz.func36, Tryz.ntmps36
  go_wp2_with (go_at_call 59; refine (h _).mono ?_; rintro e w1 ⟨rfl, rfl⟩)
  go_ret
  exact ⟨rfl, rfl⟩
set_option maxHeartbeats 1000000 in
theorem specCok (x : Ct) (w : World) : Calls Tryz.prog 15 #[ctV x] w fun e w' => e = .returned (.bool (ctB x)) ∧ Below w.heap.size w w' := by
  have B0 : Hid (Below w.heap.size w (w.alloc (.cells #[.int .i64 x.a, .int .i64 x.s, .int .i64 x.t, .bool x.ns, .bool x.nc, .bool x.pr, .bool x.mu] 25))) := (Below.refl _ w).alloc (Nat.le_refl _) _
  have h1 := fun W => specSec x.a W
  have h2 := fun W => specSec x.s W
  have h3 := fun W => specSec x.t W
  have HS : Hid (ctB x = (secB x.a && (secB x.s && secB x.t))) := rfl
  generalize ctB x = S at HS ⊢
  generalize secB x.a = b1 at HS h1
  generalize secB x.s = b2 at HS h2
  generalize secB x.t = b3 at HS h3
  unfold ctV
  cases b1 with
  | false =>
    have H : Hid (false = S) := HS.out.symm
    go_enter Tryz.func15, Tryz.ntmps15
    go_wp2_with fail
    refine (h1 _).mono ?_
    rintro e w1 ⟨rfl, rfl⟩
    go_wp2
    go_ret
    exact ⟨ret_bool H.out, B0.out⟩
  | true =>
    cases b2 with
    | false =>
      have H : Hid (false = S) := HS.out.symm
      go_enter Tryz.func15, Tryz.ntmps15
      go_wp2_with fail
      refine (h1 _).mono ?_
      rintro e w1 ⟨rfl, rfl⟩
      go_wp2_with fail
      refine (h2 _).mono ?_
      rintro e w1 ⟨rfl, rfl⟩
      go_wp2
      go_ret
      exact ⟨ret_bool H.out, B0.out⟩
    | true =>
      have H : Hid (b3 = S) := HS.out.symm
      go_enter Tryz.func15, Tryz.ntmps15
      go_wp2_with fail
      refine (h1 _).mono ?_
      rintro e w1 ⟨rfl, rfl⟩
      go_wp2_with fail
      refine (h2 _).mono ?_
      rintro e w1 ⟨rfl, rfl⟩
      go_wp2_with fail
      refine (h3 _).mono ?_
      rintro e w1 ⟨rfl, rfl⟩
      go_wp2
      go_ret
      exact ⟨ret_bool H.out, B0.out⟩
theorem specMin9 (a b : Int) (w : World) : Calls Tryz.prog 58 #[.int .i64 a, .int .i64 b] w fun e w' => e = .returned (.int .i64 (minI a b)) ∧ w = w' := by
  unfold minI
  by_cases h : a < b
  · rw [if_pos h]
    go_enter Tryz.func58, Tryz.ntmps58
    go_wp2
    go_ret
    exact ⟨rfl, rfl⟩
  · rw [if_neg h]
    go_enter Tryz.func58, Tryz.ntmps58
    go_wp2
    go_ret
    exact ⟨rfl, rfl⟩
theorem ret_i9 {a b : Int} (h : a = b) : Ending.returned (.int .i64 a) = .returned (.int .i64 b) := by rw [h]
theorem specLess (a b : Int) (w : World) : Calls Tryz.prog 34 #[.int .i64 a, .int .i64 b] w fun e w' => e = .returned (.int .i64 (lessI a b)) ∧ w = w' := by
  have hm := fun W => specMin9 a b W
  have H1 : Hid (lessI a b = if a < 0 then b else if b < 0 then a else minI a b) := rfl
  generalize lessI a b = L at H1 ⊢
  generalize minI a b = M at H1 hm
  by_cases h : a < 0
  · have H : Hid (b = L) := (by rw [H1.out, if_pos h] : b = L)
    go_enter Tryz.func34, Tryz.ntmps34
    go_wp2
    go_ret
    exact ⟨ret_i9 H.out, rfl⟩
  · by_cases h2 : b < 0
    · have H : Hid (a = L) := (by rw [H1.out, if_neg h, if_pos h2] : a = L)
      go_enter Tryz.func34, Tryz.ntmps34
      go_wp2
      go_ret
      exact ⟨ret_i9 H.out, rfl⟩
    · have H : Hid (M = L) := (by rw [H1.out, if_neg h, if_neg h2] : M = L)
      go_enter Tryz.func34, Tryz.ntmps34
      go_wp2_with (go_at_call 58; refine (hm _).mono ?_; rintro e w1 ⟨rfl, rfl⟩)
      go_ret
      exact ⟨ret_i9 H.out, rfl⟩
theorem ctE_c (x : Ct) : ctE.c x = [.int .i64 x.a, .int .i64 x.s, .int .i64 x.t, .bool x.ns, .bool x.nc, .bool x.pr, .bool x.mu] := rfl
theorem ret_ct {a b : Ct} (h : a = b) : Ending.returned (ctV a) = .returned (ctV b) := by rw [h]
set_option maxHeartbeats 4000000 in
theorem specTgt (x y : Ct) (w : World) : Calls Tryz.prog 13 #[ctV x, ctV y] w fun e w' => e = .returned (ctV (tgtC x y)) ∧ Below w.heap.size w w' := by
  have hk := fun W => specCok x W
  have hl := fun W => specCok y W
  have t1 := @tgtC_yes x y
  have t2 := @tgtC_no x y
  generalize tgtC x y = T at t1 t2 ⊢
  have HT : Hid (ctB x = true → ctB y = true → T = tgt x y) := t1
  have HN : Hid (¬ (ctB x = true ∧ ctB y = true) → T = ctZ) := t2
  generalize ctB x = b1 at hk HT HN
  generalize ctB y = b2 at hl HT HN
  clear t1 t2
  have X0 : Hid (CtB (((w.alloc (.cells #[.int .i64 x.a, .int .i64 x.s, .int .i64 x.t, .bool x.ns, .bool x.nc, .bool x.pr, .bool x.mu] 25)).alloc (.cells #[.int .i64 y.a, .int .i64 y.s, .int .i64 y.t, .bool y.ns, .bool y.nc, .bool y.pr, .bool y.mu] 25)).alloc (.cells #[.int .i64 0, .int .i64 0, .int .i64 0, .bool false, .bool false, .bool false, .bool false] 25)) w.heap.size x) := ((CtB.born w x 25).alloc _).alloc _
  have Y0 : Hid (CtB (((w.alloc (.cells #[.int .i64 x.a, .int .i64 x.s, .int .i64 x.t, .bool x.ns, .bool x.nc, .bool x.pr, .bool x.mu] 25)).alloc (.cells #[.int .i64 y.a, .int .i64 y.s, .int .i64 y.t, .bool y.ns, .bool y.nc, .bool y.pr, .bool y.mu] 25)).alloc (.cells #[.int .i64 0, .int .i64 0, .int .i64 0, .bool false, .bool false, .bool false, .bool false] 25)) (w.heap.size + 1) y) := by
    have := (CtB.born (w.alloc (.cells #[.int .i64 x.a, .int .i64 x.s, .int .i64 x.t, .bool x.ns, .bool x.nc, .bool x.pr, .bool x.mu] 25)) y 25).alloc (.cells #[.int .i64 0, .int .i64 0, .int .i64 0, .bool false, .bool false, .bool false, .bool false] 25)
    simp only [World.size_alloc] at this
    exact this
  have Z0 : Hid (CtB (((w.alloc (.cells #[.int .i64 x.a, .int .i64 x.s, .int .i64 x.t, .bool x.ns, .bool x.nc, .bool x.pr, .bool x.mu] 25)).alloc (.cells #[.int .i64 y.a, .int .i64 y.s, .int .i64 y.t, .bool y.ns, .bool y.nc, .bool y.pr, .bool y.mu] 25)).alloc (.cells #[.int .i64 0, .int .i64 0, .int .i64 0, .bool false, .bool false, .bool false, .bool false] 25)) (w.heap.size + 1 + 1) ctZ) := by
    have := CtB.born ((w.alloc (.cells #[.int .i64 x.a, .int .i64 x.s, .int .i64 x.t, .bool x.ns, .bool x.nc, .bool x.pr, .bool x.mu] 25)).alloc (.cells #[.int .i64 y.a, .int .i64 y.s, .int .i64 y.t, .bool y.ns, .bool y.nc, .bool y.pr, .bool y.mu] 25)) ctZ 25
    simp only [World.size_alloc] at this
    exact this
  have B0 : Hid (Below w.heap.size w (((w.alloc (.cells #[.int .i64 x.a, .int .i64 x.s, .int .i64 x.t, .bool x.ns, .bool x.nc, .bool x.pr, .bool x.mu] 25)).alloc (.cells #[.int .i64 y.a, .int .i64 y.s, .int .i64 y.t, .bool y.ns, .bool y.nc, .bool y.pr, .bool y.mu] 25)).alloc (.cells #[.int .i64 0, .int .i64 0, .int .i64 0, .bool false, .bool false, .bool false, .bool false] 25))) := (((Below.refl _ w).alloc (Nat.le_refl _) _).alloc (by simp) _).alloc (by simp; omega) _
  unfold ctV at hk hl ⊢
  go_enter Tryz.func13, Tryz.ntmps13
  go_wp2_with fail
  refine (hk _).mono ?_
  rintro e w1 ⟨rfl, hb1⟩
  have X1 : Hid (CtB w1 w.heap.size x) := X0.out.kept hb1
  have Y1 : Hid (CtB w1 (w.heap.size + 1) y) := Y0.out.kept hb1
  have Z1 : Hid (CtB w1 (w.heap.size + 1 + 1) ctZ) := Z0.out.kept hb1
  have B1 : Hid (Below w.heap.size w w1) := past9 B0.out hb1
  clear hb1 X0 Y0 Z0 B0 hk
  cases b1 with
  | false =>
    have HR : Hid (T = ctZ) := HN.out (fun h => by cases h.1)
    clear HT HN hl
    obtain ⟨z0, z1, z2, z3, z4, z5, z6⟩ := Z1.out.all
    have zf := Z1.out.fz
    have P1 := Z1.out.puts ctZ
    have HP : Hid _ := CtB.all P1
    have BP : Hid _ := putL_below (B := w.heap.size) (b := w.heap.size + 1 + 1) (by omega) (ctE.c ctZ) 0 B1.out
    unfold ctZ at z0 z1 z2 z3 z4 z5 z6
    simp only at z0 z1 z2 z3 z4 z5 z6
    clear P1 X1 Y1 Z1
    go_wp2
    obtain ⟨p0, p1, p2, p3, p4, p5, p6⟩ := HP.out
    rw [ctE_c] at p0 p1 p2 p3 p4 p5 p6
    have bp := BP.out
    rw [ctE_c] at bp
    unfold ctZ at p0 p1 p2 p3 p4 p5 p6 bp
    simp only [putL, Nat.zero_add, Nat.reduceAdd] at p0 p1 p2 p3 p4 p5 p6 bp
    refine bodyPost_ret (v := ctV ctZ) (by unfold ctV ctZ; simp [results, Tryz.results13, go_sem, p0, p1, p2, p3, p4, p5, p6]) rfl ⟨by rw [HR.out]; rfl, bp⟩
  | true =>
    obtain ⟨y0, y1, y2, y3, y4, y5, y6⟩ := Y1.out.all
    go_wp2_with fail
    refine (hl _).mono ?_
    rintro e w2 ⟨rfl, hb2⟩
    have X2 : Hid (CtB w2 w.heap.size x) := X1.out.kept hb2
    have Y2 : Hid (CtB w2 (w.heap.size + 1) y) := Y1.out.kept hb2
    have Z2 : Hid (CtB w2 (w.heap.size + 1 + 1) ctZ) := Z1.out.kept hb2
    have B2 : Hid (Below w.heap.size w w2) := past9 B1.out hb2
    clear hb2 X1 Y1 Z1 B1 hl y0 y1 y2 y3 y4 y5 y6
    cases b2 with
    | false =>
      have HR : Hid (T = ctZ) := HN.out (fun h => by cases h.2)
      clear HT HN
      obtain ⟨z0, z1, z2, z3, z4, z5, z6⟩ := Z2.out.all
      have zf := Z2.out.fz
      have P1 := Z2.out.puts ctZ
      have HP : Hid _ := CtB.all P1
      have BP : Hid _ := putL_below (B := w.heap.size) (b := w.heap.size + 1 + 1) (by omega) (ctE.c ctZ) 0 B2.out
      unfold ctZ at z0 z1 z2 z3 z4 z5 z6
      simp only at z0 z1 z2 z3 z4 z5 z6
      clear P1 X2 Y2 Z2
      go_wp2
      obtain ⟨p0, p1, p2, p3, p4, p5, p6⟩ := HP.out
      rw [ctE_c] at p0 p1 p2 p3 p4 p5 p6
      have bp := BP.out
      rw [ctE_c] at bp
      unfold ctZ at p0 p1 p2 p3 p4 p5 p6 bp
      simp only [putL, Nat.zero_add, Nat.reduceAdd] at p0 p1 p2 p3 p4 p5 p6 bp
      refine bodyPost_ret (v := ctV ctZ) (by unfold ctV ctZ; simp [results, Tryz.results13, go_sem, p0, p1, p2, p3, p4, p5, p6]) rfl ⟨by rw [HR.out]; rfl, bp⟩
    | true =>
      have HR : Hid (T = tgt x y) := by have := HT.out; simp only [forall_const] at this; exact this
      clear HT HN
      obtain ⟨x0, x1, x2, x3, x4, x5, x6⟩ := X2.out.all
      obtain ⟨y0, y1, y2, y3, y4, y5, y6⟩ := Y2.out.all
      have HQ : Hid (tgt x y = ⟨lessI x.a y.a, lessI x.s y.s, lessI x.t y.t, x.ns || y.ns, x.nc || y.nc, x.pr || y.pr, x.mu || y.mu⟩) := rfl
      have i1 := fun W => specLess x.a y.a W
      have i2 := fun W => specLess x.s y.s W
      have i3 := fun W => specLess x.t y.t W
      generalize tgt x y = q at HR HQ
      generalize lessI x.a y.a = l1 at i1 HQ
      generalize lessI x.s y.s = l2 at i2 HQ
      generalize lessI x.t y.t = l3 at i3 HQ
      obtain ⟨xa, xs, xt, xns, xnc, xpr, xmu⟩ := x
      obtain ⟨ya, ys, yt, yns, ync, ypr, ymu⟩ := y
      simp only at x0 x1 x2 x3 x4 x5 x6 y0 y1 y2 y3 y4 y5 y6 i1 i2 i3 HQ
      go_wp2
      have k0 := cell_regrown x0
      have k1 := cell_regrown x1
      have k2 := cell_regrown x2
      have k3 := cell_regrown x3
      have k4 := cell_regrown x4
      have k5 := cell_regrown x5
      have k6 := cell_regrown x6
      have m0 := cell_regrown y0
      have m1 := cell_regrown y1
      have m2 := cell_regrown y2
      have m3 := cell_regrown y3
      have m4 := cell_regrown y4
      have m5 := cell_regrown y5
      have m6 := cell_regrown y6
      have j1 : ∀ d os, Calls Tryz.prog 34 #[.int .i64 xa, .int .i64 ya] (grow (redrawn w2 d) os) fun e w'' => e = .returned (.int .i64 l1) ∧ ∃ p : Regrown, w'' = grow (redrawn w2 p.d) p.os := fun d os => (i1 _).mono fun _ _ h => ⟨h.1, ⟨d, os⟩, h.2.symm⟩
      have j2 : ∀ d os, Calls Tryz.prog 34 #[.int .i64 xs, .int .i64 ys] (grow (redrawn w2 d) os) fun e w'' => e = .returned (.int .i64 l2) ∧ ∃ p : Regrown, w'' = grow (redrawn w2 p.d) p.os := fun d os => (i2 _).mono fun _ _ h => ⟨h.1, ⟨d, os⟩, h.2.symm⟩
      have j3 : ∀ d os, Calls Tryz.prog 34 #[.int .i64 xt, .int .i64 yt] (grow (redrawn w2 d) os) fun e w'' => e = .returned (.int .i64 l3) ∧ ∃ p : Regrown, w'' = grow (redrawn w2 p.d) p.os := fun d os => (i3 _).mono fun _ _ h => ⟨h.1, ⟨d, os⟩, h.2.symm⟩
      clear i1 i2 i3 x0 x1 x2 x3 x4 x5 x6 y0 y1 y2 y3 y4 y5 y6 X2 Y2
      cases xns <;> cases xnc <;> cases xpr <;> cases xmu
      all_goals
        refine region_below_end 40 (by kernel_rfl) (by kernel_rfl) ?_
        simp only [List.take_succ_cons, List.take_zero, List.drop_succ_cons, List.drop_zero]
        repeat (go_big_quiet_step (first | (with_reducible exact j1 _ _) | (with_reducible exact j2 _ _) | (with_reducible exact j3 _ _)))
        refine wpQuiet_nil ?_
        intro _ hw'
        obtain ⟨⟨dq, osq⟩, hw''⟩ := hw'
        subst hw''
        have Z4 : Hid (CtB (grow (redrawn w2 dq) osq) (w.heap.size + 1 + 1) ctZ) := Z2.out.kept (below_regrown w2 dq osq)
        have B4 : Hid (Below w.heap.size w (grow (redrawn w2 dq) osq)) := past9 B2.out (below_regrown w2 dq osq)
        generalize grow (redrawn w2 dq) osq = w4 at Z4 B4 ⊢
        obtain ⟨z0, z1, z2, z3, z4, z5, z6⟩ := Z4.out.all
        have zf := Z4.out.fz
        have HP : Hid (CtB (putL w4 (w.heap.size + 1 + 1) (ctE.c q) 0) (w.heap.size + 1 + 1) q) := Z4.out.puts q
        have BP : Hid (Below w.heap.size w (putL w4 (w.heap.size + 1 + 1) (ctE.c q) 0)) := putL_below (by omega) (ctE.c q) 0 B4.out
        unfold ctZ at z0 z1 z2 z3 z4 z5 z6
        simp only at z0 z1 z2 z3 z4 z5 z6
        clear k0 k1 k2 k3 k4 k5 k6 m0 m1 m2 m3 m4 m5 m6 j1 j2 j3 Z4
        go_wp2
        obtain ⟨p0, p1, p2, p3, p4, p5, p6⟩ := CtB.all HP.out
        have bp := BP.out
        rw [ctE_c] at p0 p1 p2 p3 p4 p5 p6 bp
        rw [HQ.out] at p0 p1 p2 p3 p4 p5 p6 bp
        simp only [putL, Nat.zero_add, Nat.reduceAdd, Bool.false_or, Bool.true_or] at p0 p1 p2 p3 p4 p5 p6 bp
        refine bodyPost_ret (v := ctV q) (by rw [HQ.out]; unfold ctV; simp [results, Tryz.results13, go_sem, p0, p1, p2, p3, p4, p5, p6]) rfl ⟨by rw [HR.out]; rfl, bp⟩
end Go.Proofs.YtccnkmffadmfhaaGreatDoor
