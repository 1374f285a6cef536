/-
  The walk of the exact law of Tighter, given what the program's own answers.
-/
import Derived.Test.YtccnkmffadmfhaaCtlD
import Derived.Test.YtccnkmffadmfhaaQMk
namespace Go.Proofs.Ytccnkmffadmfhaa
open Go.ChangeShapes Go.WideShapes Go.ChangeAt Go.RowKit Go.Joins Go.Deep Go.Sort
set_option linter.unusedVariables false
set_option linter.unusedSimpArgs false

theorem regr_below {w w' : World} (h : Regr w w') : Below w.heap.size w w' := by
  obtain ⟨p, rfl⟩ := h
  exact below_regrown w p.d p.os
set_option maxHeartbeats 2000000 in
theorem walkTgt (hi : ∀ (x y : Ct) (w : World), Calls Try.prog 9 #[ctV x, ctV y] w fun e w' => e = .returned (ctV (tgtC x y)) ∧ Below w.heap.size w w')
    (x y : Ct) (w : World) : Calls Try.prog 4 #[ctV x, ctV y] w fun e w' => e = .returned (.bool true) ∧ Below w.heap.size w w' := by
  have htx := fun W => lawToC x W
  have hty := fun W => lawToC y W
  have hsp := fun W => specTgt x y W
  have him := fun W => hi x y W
  have heq := fun W => lawEqC (tgtC x y) W
  have X0 : Hid (CtB ((w.alloc (.cells #[.int .i64 x.a, .int .i64 x.s, .int .i64 x.t, .bool x.ns, .bool x.nc, .bool x.pr, .bool x.mu] 23)).alloc (.cells #[.int .i64 y.a, .int .i64 y.s, .int .i64 y.t, .bool y.ns, .bool y.nc, .bool y.pr, .bool y.mu] 23)) w.heap.size x) := (CtB.born w x 23).alloc _
  have Y0 : Hid (CtB ((w.alloc (.cells #[.int .i64 x.a, .int .i64 x.s, .int .i64 x.t, .bool x.ns, .bool x.nc, .bool x.pr, .bool x.mu] 23)).alloc (.cells #[.int .i64 y.a, .int .i64 y.s, .int .i64 y.t, .bool y.ns, .bool y.nc, .bool y.pr, .bool y.mu] 23)) (w.heap.size + 1) y) := by
    have := CtB.born (w.alloc (.cells #[.int .i64 x.a, .int .i64 x.s, .int .i64 x.t, .bool x.ns, .bool x.nc, .bool x.pr, .bool x.mu] 23)) y 23
    simp only [World.size_alloc] at this
    exact this
  have B0 : Hid (Below w.heap.size w ((w.alloc (.cells #[.int .i64 x.a, .int .i64 x.s, .int .i64 x.t, .bool x.ns, .bool x.nc, .bool x.pr, .bool x.mu] 23)).alloc (.cells #[.int .i64 y.a, .int .i64 y.s, .int .i64 y.t, .bool y.ns, .bool y.nc, .bool y.pr, .bool y.mu] 23))) := ((Below.refl _ w).alloc (by simp <;> omega) _).alloc (by simp <;> omega) _
  generalize tgtC x y = r at hsp him heq
  clear hi
  unfold ctV at htx hty hsp him heq ⊢
  go_enter Try.func4, Try.ntmps4
  go_wp2
  refine region_makes (fun W => CtB W w.heap.size x ∧ CtB W (w.heap.size + 1) y ∧ Below w.heap.size w W) 5 (by kernel_rfl) (by kernel_rfl) (by kernel_rfl) _ rfl rfl ⟨X0.out, Y0.out, B0.out⟩ ⟨?A1, ?q1, ?m1⟩
  case q1 =>
    intro W hG
    obtain ⟨gx, gy, _⟩ := hG
    have k0 := cell_regrown (gx.all).1
    have k1 := cell_regrown (gx.all).2.1
    have k2 := cell_regrown (gx.all).2.2.1
    have k3 := cell_regrown (gx.all).2.2.2.1
    have k4 := cell_regrown (gx.all).2.2.2.2.1
    have k5 := cell_regrown (gx.all).2.2.2.2.2.1
    have k6 := cell_regrown (gx.all).2.2.2.2.2.2
    have m0 := cell_regrown (gy.all).1
    have m1 := cell_regrown (gy.all).2.1
    have m2 := cell_regrown (gy.all).2.2.1
    have m3 := cell_regrown (gy.all).2.2.2.1
    have m4 := cell_regrown (gy.all).2.2.2.2.1
    have m5 := cell_regrown (gy.all).2.2.2.2.2.1
    have m6 := cell_regrown (gy.all).2.2.2.2.2.2
    have j1 : ∀ d os, Calls Try.prog 6 #[.agg #[.int .i64 x.a, .int .i64 x.s, .int .i64 x.t, .bool x.ns, .bool x.nc, .bool x.pr, .bool x.mu]] (grow (redrawn W d) os) fun e w'' => e = .returned (.agg #[.int .i64 x.a, .int .i64 x.s, .int .i64 x.t, .bool x.ns, .bool x.nc, .bool x.pr, .bool x.mu]) ∧ ∃ p : Regrown, w'' = grow (redrawn W p.d) p.os := fun d os => Calls.regrown_of (htx _)
    have j2 : ∀ d os, Calls Try.prog 6 #[.agg #[.int .i64 y.a, .int .i64 y.s, .int .i64 y.t, .bool y.ns, .bool y.nc, .bool y.pr, .bool y.mu]] (grow (redrawn W d) os) fun e w'' => e = .returned (.agg #[.int .i64 y.a, .int .i64 y.s, .int .i64 y.t, .bool y.ns, .bool y.nc, .bool y.pr, .bool y.mu]) ∧ ∃ p : Regrown, w'' = grow (redrawn W p.d) p.os := fun d os => Calls.regrown_of (hty _)
    have j3 : ∀ d os, Calls Try.prog 8 #[.agg #[.int .i64 x.a, .int .i64 x.s, .int .i64 x.t, .bool x.ns, .bool x.nc, .bool x.pr, .bool x.mu], .agg #[.int .i64 y.a, .int .i64 y.s, .int .i64 y.t, .bool y.ns, .bool y.nc, .bool y.pr, .bool y.mu]] (grow (redrawn W d) os) fun e w'' => e = .returned (.agg #[.int .i64 r.a, .int .i64 r.s, .int .i64 r.t, .bool r.ns, .bool r.nc, .bool r.pr, .bool r.mu]) ∧ ∃ p : Regrown, w'' = grow (redrawn W p.d) p.os := fun d os => Calls.regrown_of (hsp _)
    simp only [List.take_succ_cons, List.take_zero]
    repeat (go_big_quiet_step (first | (with_reducible exact j1 _ _) | (with_reducible exact j2 _ _) | (with_reducible exact j3 _ _)))
    refine wpQuiet_nil ?_
    exact rfl
  intro u hu
  have hbu := regr_below hu
  have XA := X0.out.kept hbu
  have YA := Y0.out.kept hbu
  have BA := past9 B0.out hbu
  clear hu hbu X0 Y0 B0
  refine ⟨.pointer (some ⟨u.heap.size, 0, Option.none⟩), u.alloc (.cells #[.int .i64 0, .int .i64 0, .int .i64 0, .bool false, .bool false, .bool false, .bool false] 25), by go_simp, ⟨XA.alloc _, YA.alloc _, BA.alloc BA.size _⟩, fun u3 hu3 => ?_⟩
  have hb3 := regr_below hu3
  have ZA : CtB u3 u.heap.size ctZ := (CtB.born u ctZ 25).kept hb3
  have XB := (XA.alloc (.cells #[.int .i64 0, .int .i64 0, .int .i64 0, .bool false, .bool false, .bool false, .bool false] 25)).kept hb3
  have YB := (YA.alloc (.cells #[.int .i64 0, .int .i64 0, .int .i64 0, .bool false, .bool false, .bool false, .bool false] 25)).kept hb3
  have BB := past9 (BA.alloc BA.size (.cells #[.int .i64 0, .int .i64 0, .int .i64 0, .bool false, .bool false, .bool false, .bool false] 25)) hb3
  have hux : w.heap.size < u.heap.size := XA.hi
  have huy : w.heap.size + 1 < u.heap.size := YA.hi
  have HR' : CtB (putL u3 u.heap.size (ctE.c r) 0) u.heap.size r := ZA.puts r
  rw [ctE_c] at HR'
  simp only [putL, Nat.zero_add, Nat.reduceAdd] at HR'
  have HR : Hid _ := HR'
  clear HR'
  have HX' : CtB (putL u3 u.heap.size (ctE.c r) 0) w.heap.size x := XB.same (putL_block u.heap.size (ctE.c r) 0 u3 _ (by omega)) (Nat.le_of_eq (putL_size u.heap.size (ctE.c r) 0 u3).symm)
  rw [ctE_c] at HX'
  simp only [putL, Nat.zero_add, Nat.reduceAdd] at HX'
  have HX : Hid _ := HX'
  clear HX'
  have HY' : CtB (putL u3 u.heap.size (ctE.c r) 0) (w.heap.size + 1) y := YB.same (putL_block u.heap.size (ctE.c r) 0 u3 _ (by omega)) (Nat.le_of_eq (putL_size u.heap.size (ctE.c r) 0 u3).symm)
  rw [ctE_c] at HY'
  simp only [putL, Nat.zero_add, Nat.reduceAdd] at HY'
  have HY : Hid _ := HY'
  clear HY'
  have HB' : Below w.heap.size w (putL u3 u.heap.size (ctE.c r) 0) := putL_below (by omega) (ctE.c r) 0 BB
  rw [ctE_c] at HB'
  simp only [putL, Nat.zero_add, Nat.reduceAdd] at HB'
  have HB : Hid _ := HB'
  clear HB'
  obtain ⟨z0, z1, z2, z3, z4, z5, z6⟩ := ZA.all
  have zf := ZA.fz
  unfold ctZ at z0 z1 z2 z3 z4 z5 z6
  simp only at z0 z1 z2 z3 z4 z5 z6
  clear hu3 hb3 XA YA BA XB YB BB ZA hux huy
  simp only [List.drop_succ_cons, List.drop_zero]
  go_wp2
  clear z0 z1 z2 z3 z4 z5 z6 zf
  generalize (((((((u3.setCell ⟨u.heap.size, 0, Option.none⟩ (.int .i64 r.a)).setCell ⟨u.heap.size, 1, Option.none⟩ (.int .i64 r.s)).setCell ⟨u.heap.size, 2, Option.none⟩ (.int .i64 r.t)).setCell ⟨u.heap.size, 3, Option.none⟩ (.bool r.ns)).setCell ⟨u.heap.size, 4, Option.none⟩ (.bool r.nc)).setCell ⟨u.heap.size, 5, Option.none⟩ (.bool r.pr)).setCell ⟨u.heap.size, 6, Option.none⟩ (.bool r.mu)) = w1 at HR HX HY HB ⊢
  refine region_makes (fun W => CtB W w.heap.size x ∧ CtB W (w.heap.size + 1) y ∧ CtB W u.heap.size r ∧ Below w.heap.size w W) 5 (by kernel_rfl) (by kernel_rfl) (by kernel_rfl) _ rfl rfl ⟨HX.out, HY.out, HR.out, HB.out⟩ ⟨?A2, ?q2, ?m2⟩
  case q2 =>
    intro W hG
    obtain ⟨gx, gy, _⟩ := hG
    have k0 := cell_regrown (gx.all).1
    have k1 := cell_regrown (gx.all).2.1
    have k2 := cell_regrown (gx.all).2.2.1
    have k3 := cell_regrown (gx.all).2.2.2.1
    have k4 := cell_regrown (gx.all).2.2.2.2.1
    have k5 := cell_regrown (gx.all).2.2.2.2.2.1
    have k6 := cell_regrown (gx.all).2.2.2.2.2.2
    have m0 := cell_regrown (gy.all).1
    have m1 := cell_regrown (gy.all).2.1
    have m2 := cell_regrown (gy.all).2.2.1
    have m3 := cell_regrown (gy.all).2.2.2.1
    have m4 := cell_regrown (gy.all).2.2.2.2.1
    have m5 := cell_regrown (gy.all).2.2.2.2.2.1
    have m6 := cell_regrown (gy.all).2.2.2.2.2.2
    have j1 : ∀ d os, Calls Try.prog 6 #[.agg #[.int .i64 x.a, .int .i64 x.s, .int .i64 x.t, .bool x.ns, .bool x.nc, .bool x.pr, .bool x.mu]] (grow (redrawn W d) os) fun e w'' => e = .returned (.agg #[.int .i64 x.a, .int .i64 x.s, .int .i64 x.t, .bool x.ns, .bool x.nc, .bool x.pr, .bool x.mu]) ∧ ∃ p : Regrown, w'' = grow (redrawn W p.d) p.os := fun d os => Calls.regrown_of (htx _)
    have j2 : ∀ d os, Calls Try.prog 6 #[.agg #[.int .i64 y.a, .int .i64 y.s, .int .i64 y.t, .bool y.ns, .bool y.nc, .bool y.pr, .bool y.mu]] (grow (redrawn W d) os) fun e w'' => e = .returned (.agg #[.int .i64 y.a, .int .i64 y.s, .int .i64 y.t, .bool y.ns, .bool y.nc, .bool y.pr, .bool y.mu]) ∧ ∃ p : Regrown, w'' = grow (redrawn W p.d) p.os := fun d os => Calls.regrown_of (hty _)
    have j3 : ∀ d os, Calls Try.prog 9 #[.agg #[.int .i64 x.a, .int .i64 x.s, .int .i64 x.t, .bool x.ns, .bool x.nc, .bool x.pr, .bool x.mu], .agg #[.int .i64 y.a, .int .i64 y.s, .int .i64 y.t, .bool y.ns, .bool y.nc, .bool y.pr, .bool y.mu]] (grow (redrawn W d) os) fun e w'' => e = .returned (.agg #[.int .i64 r.a, .int .i64 r.s, .int .i64 r.t, .bool r.ns, .bool r.nc, .bool r.pr, .bool r.mu]) ∧ ∃ p : Regrown, w'' = grow (redrawn W p.d) p.os := fun d os => Calls.regrown_of (him _)
    simp only [List.take_succ_cons, List.take_zero]
    repeat (go_big_quiet_step (first | (with_reducible exact j1 _ _) | (with_reducible exact j2 _ _) | (with_reducible exact j3 _ _)))
    refine wpQuiet_nil ?_
    exact rfl
  intro v hu
  have hbv := regr_below hu
  have RA := HR.out.kept hbv
  have BA := past9 HB.out hbv
  have XA := HX.out.kept hbv
  have YA := HY.out.kept hbv
  have huv : u.heap.size < v.heap.size := RA.hi
  clear hu hbv HX HY HB HR
  refine ⟨.pointer (some ⟨v.heap.size, 0, Option.none⟩), v.alloc (.cells #[.int .i64 0, .int .i64 0, .int .i64 0, .bool false, .bool false, .bool false, .bool false] 25), by go_simp, ⟨XA.alloc _, YA.alloc _, RA.alloc _, BA.alloc BA.size _⟩, fun v3 hv3 => ?_⟩
  have hb3 := regr_below hv3
  have ZA : CtB v3 v.heap.size ctZ := (CtB.born v ctZ 25).kept hb3
  have RB := (RA.alloc (.cells #[.int .i64 0, .int .i64 0, .int .i64 0, .bool false, .bool false, .bool false, .bool false] 25)).kept hb3
  have BB := past9 (BA.alloc BA.size (.cells #[.int .i64 0, .int .i64 0, .int .i64 0, .bool false, .bool false, .bool false, .bool false] 25)) hb3
  have HS' : CtB (putL v3 v.heap.size (ctE.c r) 0) v.heap.size r := ZA.puts r
  rw [ctE_c] at HS'
  simp only [putL, Nat.zero_add, Nat.reduceAdd] at HS'
  have HS : Hid _ := HS'
  clear HS'
  have HR' : CtB (putL v3 v.heap.size (ctE.c r) 0) u.heap.size r := RB.same (putL_block v.heap.size (ctE.c r) 0 v3 _ (by omega)) (Nat.le_of_eq (putL_size v.heap.size (ctE.c r) 0 v3).symm)
  rw [ctE_c] at HR'
  simp only [putL, Nat.zero_add, Nat.reduceAdd] at HR'
  have HR : Hid _ := HR'
  clear HR'
  have HB' : Below w.heap.size w (putL v3 v.heap.size (ctE.c r) 0) := putL_below (by have := XA.hi; omega) (ctE.c r) 0 BB
  rw [ctE_c] at HB'
  simp only [putL, Nat.zero_add, Nat.reduceAdd] at HB'
  have HB : Hid _ := HB'
  clear HB'
  obtain ⟨z0, z1, z2, z3, z4, z5, z6⟩ := ZA.all
  have zf := ZA.fz
  unfold ctZ at z0 z1 z2 z3 z4 z5 z6
  simp only at z0 z1 z2 z3 z4 z5 z6
  clear hv3 hb3 RA BA XA YA RB BB ZA huv
  simp only [List.drop_succ_cons, List.drop_zero]
  obtain ⟨p0, p1, p2, p3, p4, p5, p6⟩ := CtB.all HS.out
  obtain ⟨q0, q1, q2, q3, q4, q5, q6⟩ := CtB.all HR.out
  go_wp2_with fail
  refine (heq _).mono ?_
  rintro e w7 ⟨rfl, hb7⟩
  have B7 : Hid (Below w.heap.size w w7) := past9 HB.out hb7
  clear hb7 HB HS HR p0 p1 p2 p3 p4 p5 p6 q0 q1 q2 q3 q4 q5 q6 z0 z1 z2 z3 z4 z5 z6 zf
  go_wp2
  go_ret
  exact ⟨rfl, B7.out⟩
end Go.Proofs.Ytccnkmffadmfhaa
