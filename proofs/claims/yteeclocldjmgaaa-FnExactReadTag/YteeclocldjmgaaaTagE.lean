/-
  The walks of the exact laws of tags, given what the program's own function answers.
-/
import Derived.Test.YteeclocldjmgaaaTagD
import Derived.Lib.QuietBelow
namespace Go.Proofs.Yteeclocldjmgaaa
open Go.RowKit Go.Sort
set_option linter.unusedVariables false

set_option maxHeartbeats 1000000 in
theorem walkTagOk (X : World → Prop) (hX : ∀ w w', X w → Below w.heap.size w w' → X w')
    (hi : ∀ (x : Tg) (w : World), X w → x.t.size ≤ 1048576 → Calls Try.prog 11 #[tgV x] w fun e w' => e = .returned (.bool (tagB x.t)) ∧ Below w.heap.size w w')
    (x : Tg) (w : World) (hs : x.t.size ≤ maxLen) (hx : X w) :
    Calls Try.prog 3 #[tgV x] w fun e w' => e = .returned (.bool true) ∧ Below w.heap.size w w' := by
  have hsz := fun W => lawSzT x 1048576 W hs (by decide) (by decide)
  have hto := fun W => lawToT x W
  have T0_x : Hid (TgB (w.alloc (.cells #[.bool x.w, .string x.t] 23)) w.heap.size x) := by
    exact (TgB.new w x 23)
  have B0 : Hid (Below w.heap.size w (w.alloc (.cells #[.bool x.w, .string x.t] 23))) := (Below.refl _ w).alloc (by simp <;> omega) _
  have X0 : Hid (X (w.alloc (.cells #[.bool x.w, .string x.t] 23))) := hX w _ hx B0.out
  by_cases hfit : (x.t.size : Int) ≤ 1048576
  · have hsp := fun W => specTag x W hs
    have him := fun W hX => hi x W hX (by omega)
    have h0 : ¬ szT x 1048576 < 0 := by rw [szT_yes hfit]; omega
    generalize szT x 1048576 = z at hsz h0
    generalize tagB x.t = r at hsp him
    have dr : (r != r) = false := by simp
    clear hi hfit
    unfold tgV at hsz hto hsp him ⊢
    go_enter Try.func3, Try.ntmps3
    go_wp2_with fail
    refine (hsz _).mono ?_
    rintro e w1 ⟨rfl, hb⟩
    have T1_x : Hid (TgB w1 w.heap.size x) := T0_x.out.kept hb
    have B1 : Hid (Below w.heap.size w w1) := past7 B0.out hb
    have X1 : Hid (X w1) := hX _ _ X0.out hb
    clear hb T0_x B0 X0 
    have c0x := T1_x.out.c0
    have c1x := T1_x.out.c1
    go_wp2_with fail
    refine (hto _).mono ?_
    rintro e w2 ⟨rfl, hb⟩
    have T2_x : Hid (TgB w2 w.heap.size x) := T1_x.out.kept hb
    have B2 : Hid (Below w.heap.size w w2) := past7 B1.out hb
    have X2 : Hid (X w2) := hX _ _ X1.out hb
    clear hb T1_x B1 X1 c0x c1x
    go_wp2_with fail
    refine (hsp _).mono ?_
    rintro e w3 ⟨rfl, hb⟩
    have T3_x : Hid (TgB w3 w.heap.size x) := T2_x.out.kept hb
    have B3 : Hid (Below w.heap.size w w3) := past7 B2.out hb
    have X3 : Hid (X w3) := hX _ _ X2.out hb
    clear hb T2_x B2 X2 
    have c0x := T3_x.out.c0
    have c1x := T3_x.out.c1
    go_wp2_with fail
    refine (hto _).mono ?_
    rintro e w4 ⟨rfl, hb⟩
    have T4_x : Hid (TgB w4 w.heap.size x) := T3_x.out.kept hb
    have B4 : Hid (Below w.heap.size w w4) := past7 B3.out hb
    have X4 : Hid (X w4) := hX _ _ X3.out hb
    clear hb T3_x B3 X3 c0x c1x
    go_wp2_with fail
    refine (him _ X4.out).mono ?_
    rintro e w5 ⟨rfl, hb⟩
    have T5_x : Hid (TgB w5 w.heap.size x) := T4_x.out.kept hb
    have B5 : Hid (Below w.heap.size w w5) := past7 B4.out hb
    have X5 : Hid (X w5) := hX _ _ X4.out hb
    clear hb T4_x B4 X4 
    go_wp2
    go_ret
    exact ⟨rfl, B5.out⟩
  · have h0 : szT x 1048576 < 0 := by rw [szT_no hfit]; decide
    generalize szT x 1048576 = z at hsz h0
    clear hi hfit
    unfold tgV at hsz ⊢
    go_enter Try.func3, Try.ntmps3
    go_wp2_with fail
    refine (hsz _).mono ?_
    rintro e w1 ⟨rfl, hb⟩
    have T1_x : Hid (TgB w1 w.heap.size x) := T0_x.out.kept hb
    have B1 : Hid (Below w.heap.size w w1) := past7 B0.out hb
    have X1 : Hid (X w1) := hX _ _ X0.out hb
    clear hb T0_x B0 X0 
    go_wp2
    go_ret
    exact ⟨rfl, B1.out⟩
set_option maxHeartbeats 1000000 in
theorem walkShTag (X : World → Prop) (hX : ∀ w w', X w → Below w.heap.size w w' → X w')
    (hi : ∀ (x : Tg) (w : World), X w → x.t.size ≤ 1048576 → Calls Try.prog 13 #[tgV x] w fun e w' => e = .returned (.string (shT x)) ∧ Below w.heap.size w w')
    (x : Tg) (w : World) (hs : x.t.size ≤ maxLen) (hx : X w) :
    Calls Try.prog 4 #[tgV x] w fun e w' => e = .returned (.bool true) ∧ Below w.heap.size w w' := by
  have hsz := fun W => lawSzT x 1048576 W hs (by decide) (by decide)
  have hto := fun W => lawToT x W
  have T0_x : Hid (TgB (w.alloc (.cells #[.bool x.w, .string x.t] 23)) w.heap.size x) := by
    exact (TgB.new w x 23)
  have B0 : Hid (Below w.heap.size w (w.alloc (.cells #[.bool x.w, .string x.t] 23))) := (Below.refl _ w).alloc (by simp <;> omega) _
  have X0 : Hid (X (w.alloc (.cells #[.bool x.w, .string x.t] 23))) := hX w _ hx B0.out
  by_cases hfit : (x.t.size : Int) ≤ 1048576
  · have hsp := fun W => specSh x W hs
    have him := fun W hX => hi x W hX (by omega)
    have h0 : ¬ szT x 1048576 < 0 := by rw [szT_yes hfit]; omega
    generalize szT x 1048576 = z at hsz h0
    generalize shT x = r at hsp him
    have dr := tsame (rfl : r = r)
    clear hi hfit
    unfold tgV at hsz hto hsp him ⊢
    go_enter Try.func4, Try.ntmps4
    go_wp2_with fail
    refine (hsz _).mono ?_
    rintro e w1 ⟨rfl, hb⟩
    have T1_x : Hid (TgB w1 w.heap.size x) := T0_x.out.kept hb
    have B1 : Hid (Below w.heap.size w w1) := past7 B0.out hb
    have X1 : Hid (X w1) := hX _ _ X0.out hb
    clear hb T0_x B0 X0 
    have c0x := T1_x.out.c0
    have c1x := T1_x.out.c1
    go_wp2_with fail
    refine (hto _).mono ?_
    rintro e w2 ⟨rfl, hb⟩
    have T2_x : Hid (TgB w2 w.heap.size x) := T1_x.out.kept hb
    have B2 : Hid (Below w.heap.size w w2) := past7 B1.out hb
    have X2 : Hid (X w2) := hX _ _ X1.out hb
    clear hb T1_x B1 X1 c0x c1x
    go_wp2_with fail
    refine (hsp _).mono ?_
    rintro e w3 ⟨rfl, hb⟩
    have T3_x : Hid (TgB w3 w.heap.size x) := T2_x.out.kept hb
    have B3 : Hid (Below w.heap.size w w3) := past7 B2.out hb
    have X3 : Hid (X w3) := hX _ _ X2.out hb
    clear hb T2_x B2 X2 
    have c0x := T3_x.out.c0
    have c1x := T3_x.out.c1
    go_wp2_with fail
    refine (hto _).mono ?_
    rintro e w4 ⟨rfl, hb⟩
    have T4_x : Hid (TgB w4 w.heap.size x) := T3_x.out.kept hb
    have B4 : Hid (Below w.heap.size w w4) := past7 B3.out hb
    have X4 : Hid (X w4) := hX _ _ X3.out hb
    clear hb T3_x B3 X3 c0x c1x
    go_wp2_with fail
    refine (him _ X4.out).mono ?_
    rintro e w5 ⟨rfl, hb⟩
    have T5_x : Hid (TgB w5 w.heap.size x) := T4_x.out.kept hb
    have B5 : Hid (Below w.heap.size w w5) := past7 B4.out hb
    have X5 : Hid (X w5) := hX _ _ X4.out hb
    clear hb T4_x B4 X4 
    go_wp2
    go_ret
    exact ⟨rfl, B5.out⟩
  · have h0 : szT x 1048576 < 0 := by rw [szT_no hfit]; decide
    generalize szT x 1048576 = z at hsz h0
    clear hi hfit
    unfold tgV at hsz ⊢
    go_enter Try.func4, Try.ntmps4
    go_wp2_with fail
    refine (hsz _).mono ?_
    rintro e w1 ⟨rfl, hb⟩
    have T1_x : Hid (TgB w1 w.heap.size x) := T0_x.out.kept hb
    have B1 : Hid (Below w.heap.size w w1) := past7 B0.out hb
    have X1 : Hid (X w1) := hX _ _ X0.out hb
    clear hb T0_x B0 X0 
    go_wp2
    go_ret
    exact ⟨rfl, B1.out⟩
set_option maxHeartbeats 1000000 in
theorem walkRdTag (X : World → Prop) (hX : ∀ w w', X w → Below w.heap.size w w' → X w')
    (hi : ∀ (s : ByteArray) (w : World), X w → s.size ≤ 1048576 → Calls Try.prog 15 #[.string s] w fun e w' => e = .returned (rdV (rdT s)) ∧ Below w.heap.size w w')
    (s : ByteArray) (w : World) (hs : s.size ≤ maxLen) (hx : X w) :
    Calls Try.prog 5 #[.string s] w fun e w' => e = .returned (.bool true) ∧ Below w.heap.size w w' := by
  have hm := hs
  unfold maxLen at hs
  by_cases hbig : 1048576 < s.size
  · go_enter Try.func5, Try.ntmps5
    go_wp2
    go_ret
    exact ⟨rfl, Below.refl _ _⟩
  · have hsp := fun W => specRd s W hm
    have him := fun W h => hi s W h (by omega)
    have heq := fun W => lawEqT ((rdT s).getD noT) W
    unfold rdV at hsp him
    generalize (rdT s).getD noT = x at hsp him heq
    generalize (rdT s).isSome = b at hsp him
    have db : (b != b) = false := by simp
    obtain ⟨xw, xt⟩ := x
    unfold tgV at hsp him heq
    simp only at hsp him heq
    clear hi
    go_enter Try.func5, Try.ntmps5
    go_wp2_with fail
    refine (hsp _).mono ?_
    rintro e w1 ⟨rfl, hb1⟩
    have B1 : Hid (Below w.heap.size w (w1.alloc (.cells #[.bool xw, .string xt] 26))) := hb1.alloc hb1.size _
    have T1 : Hid (TgB (w1.alloc (.cells #[.bool xw, .string xt] 26)) w1.heap.size ⟨xw, xt⟩) := TgB.new w1 ⟨xw, xt⟩ 26
    have X1 : Hid (X (w1.alloc (.cells #[.bool xw, .string xt] 26))) := hX _ _ hx B1.out
    clear hb1
    go_wp2_with fail
    refine (him _ X1.out).mono ?_
    rintro e w2 ⟨rfl, hb2⟩
    have B2 : Hid (Below w.heap.size w w2) := past7 B1.out hb2
    have B3 : Hid (Below w.heap.size w (w2.alloc (.cells #[.bool xw, .string xt] 26))) := B2.out.alloc B2.out.size _
    have T2 : Hid (TgB (w2.alloc (.cells #[.bool xw, .string xt] 26)) w1.heap.size ⟨xw, xt⟩) := (T1.out.kept hb2).alloc _
    have T3 : Hid (TgB (w2.alloc (.cells #[.bool xw, .string xt] 26)) w2.heap.size ⟨xw, xt⟩) := TgB.new w2 ⟨xw, xt⟩ 26
    have lt : w1.heap.size < w2.heap.size := by have := hb2.size; simp at this; omega
    have c0 := T2.out.c0
    have c1 := T2.out.c1
    have b0 := T3.out.c0
    have b1 := T3.out.c1
    clear hb2 B1 T1 X1
    go_wp2_with fail
    refine (heq _).mono ?_
    rintro e w3 ⟨rfl, hb3⟩
    have B4 : Hid (Below w.heap.size w w3) := past7 B3.out hb3
    clear hb3 c0 c1 b0 b1
    go_wp2
    go_ret
    exact ⟨rfl, B4.out⟩
set_option maxHeartbeats 2000000 in
theorem walkStrong (X : World → Prop) (hX : ∀ w w', X w → Below w.heap.size w w' → X w')
    (hi : ∀ (x y : Tg) (w : World), X w → x.t.size ≤ 1048576 → y.t.size ≤ 1048576 → Calls Try.prog 18 #[tgV x, tgV y] w fun e w' => e = .returned (.bool (strB x y)) ∧ Below w.heap.size w w')
    (x y : Tg) (w : World) (hs : x.t.size ≤ maxLen) (hy : y.t.size ≤ maxLen) (hx : X w) :
    Calls Try.prog 6 #[tgV x, tgV y] w fun e w' => e = .returned (.bool true) ∧ Below w.heap.size w w' := by
  have hsz := fun W => lawSzT x 1048576 W hs (by decide) (by decide)
  have htx := fun W => lawToT x W
  have hty := fun W => lawToT y W
  have T0_x : Hid (TgB ((w.alloc (.cells #[.bool x.w, .string x.t] 23)).alloc (.cells #[.bool y.w, .string y.t] 23)) w.heap.size x) := by
    exact ((TgB.new w x 23).alloc _)
  have T0_y : Hid (TgB ((w.alloc (.cells #[.bool x.w, .string x.t] 23)).alloc (.cells #[.bool y.w, .string y.t] 23)) (w.heap.size + 1) y) := by
    have := (TgB.new (w.alloc (.cells #[.bool x.w, .string x.t] 23)) y 23)
    simp only [World.size_alloc] at this
    exact this
  have B0 : Hid (Below w.heap.size w ((w.alloc (.cells #[.bool x.w, .string x.t] 23)).alloc (.cells #[.bool y.w, .string y.t] 23))) := ((Below.refl _ w).alloc (by simp <;> omega) _).alloc (by simp <;> omega) _
  have X0 : Hid (X ((w.alloc (.cells #[.bool x.w, .string x.t] 23)).alloc (.cells #[.bool y.w, .string y.t] 23))) := hX w _ hx B0.out
  by_cases hfit : (x.t.size : Int) ≤ 1048576
  · have h0 : ¬ szT x 1048576 < 0 := by rw [szT_yes hfit]; omega
    have hsz2 := fun W => lawSzT y (szT x 1048576) W hy (by rw [szT_yes hfit]; omega) (by rw [szT_yes hfit]; omega)
    by_cases hfit2 : (y.t.size : Int) ≤ szT x 1048576
    · have h2 : ¬ szT y (szT x 1048576) < 0 := by rw [szT_yes hfit2]; omega
      have hy2 : y.t.size ≤ 1048576 := by rw [szT_yes hfit] at hfit2; omega
      have hsp := fun W => specStr x y W hs hy
      have him := fun W hX => hi x y W hX (by omega) hy2
      generalize szT y (szT x 1048576) = z2 at hsz2 h2
      generalize szT x 1048576 = z at hsz hsz2 h0
      generalize strB x y = r at hsp him
      have dr : (r != r) = false := by simp
      clear hi hfit hfit2
      unfold tgV at hsz hsz2 htx hty hsp him ⊢
      go_enter Try.func6, Try.ntmps6
      go_wp2_with fail
      refine (hsz _).mono ?_
      rintro e w1 ⟨rfl, hb⟩
      have T1_x : Hid (TgB w1 w.heap.size x) := T0_x.out.kept hb
      have T1_y : Hid (TgB w1 (w.heap.size + 1) y) := T0_y.out.kept hb
      have B1 : Hid (Below w.heap.size w w1) := past7 B0.out hb
      have X1 : Hid (X w1) := hX _ _ X0.out hb
      clear hb T0_x T0_y B0 X0 
      have c0y := T1_y.out.c0
      have c1y := T1_y.out.c1
      go_wp2_with fail
      refine (hsz2 _).mono ?_
      rintro e w2 ⟨rfl, hb⟩
      have T2_x : Hid (TgB w2 w.heap.size x) := T1_x.out.kept hb
      have T2_y : Hid (TgB w2 (w.heap.size + 1) y) := T1_y.out.kept hb
      have B2 : Hid (Below w.heap.size w w2) := past7 B1.out hb
      have X2 : Hid (X w2) := hX _ _ X1.out hb
      clear hb T1_x T1_y B1 X1 c0y c1y
      go_wp2
      have k0x := cell_regrown T2_x.out.c0
      have k1x := cell_regrown T2_x.out.c1
      have k0y := cell_regrown T2_y.out.c0
      have k1y := cell_regrown T2_y.out.c1
      have cX : ∀ d os, Calls Try.prog 10 #[.agg #[.bool x.w, .string x.t]] (grow (redrawn w2 d) os) fun e' w'' => e' = .returned (.agg #[.bool x.w, .string x.t]) ∧ ∃ p : Regrown, w'' = grow (redrawn w2 p.d) p.os := fun d os => Calls.regrown_of (htx _)
      have cY : ∀ d os, Calls Try.prog 10 #[.agg #[.bool y.w, .string y.t]] (grow (redrawn w2 d) os) fun e' w'' => e' = .returned (.agg #[.bool y.w, .string y.t]) ∧ ∃ p : Regrown, w'' = grow (redrawn w2 p.d) p.os := fun d os => Calls.regrown_of (hty _)
      have cS : ∀ d os, Calls Try.prog 17 #[.agg #[.bool x.w, .string x.t], .agg #[.bool y.w, .string y.t]] (grow (redrawn w2 d) os) fun e' w'' => e' = .returned (.bool r) ∧ ∃ p : Regrown, w'' = grow (redrawn w2 p.d) p.os := fun d os => Calls.regrown_of (hsp (grow (redrawn w2 d) os))
      refine wp_region_quiet_below (by kernel_rfl) (by kernel_rfl) ?_
      repeat (quiet_step (first | (with_reducible exact cX _ _) | (with_reducible exact cY _ _) | (with_reducible exact cS _ _)))
      refine wpQuiet_nil ?_
      intro _ hw'
      obtain ⟨⟨dq, osq⟩, hw''⟩ := hw'
      subst hw''
      have hb := below_regrown w2 dq osq
      generalize grow (redrawn w2 dq) osq = w3 at hb ⊢
      have T3_x : Hid (TgB w3 w.heap.size x) := T2_x.out.kept hb
      have T3_y : Hid (TgB w3 (w.heap.size + 1) y) := T2_y.out.kept hb
      have B3 : Hid (Below w.heap.size w w3) := past7 B2.out hb
      have X3 : Hid (X w3) := hX _ _ X2.out hb
      clear hb T2_x T2_y B2 X2 k0x k1x k0y k1y cX cY cS
      go_wp2
      have k0x := cell_regrown T3_x.out.c0
      have k1x := cell_regrown T3_x.out.c1
      have k0y := cell_regrown T3_y.out.c0
      have k1y := cell_regrown T3_y.out.c1
      have cX : ∀ d os, Calls Try.prog 10 #[.agg #[.bool x.w, .string x.t]] (grow (redrawn w3 d) os) fun e' w'' => e' = .returned (.agg #[.bool x.w, .string x.t]) ∧ ∃ p : Regrown, w'' = grow (redrawn w3 p.d) p.os := fun d os => Calls.regrown_of (htx _)
      have cY : ∀ d os, Calls Try.prog 10 #[.agg #[.bool y.w, .string y.t]] (grow (redrawn w3 d) os) fun e' w'' => e' = .returned (.agg #[.bool y.w, .string y.t]) ∧ ∃ p : Regrown, w'' = grow (redrawn w3 p.d) p.os := fun d os => Calls.regrown_of (hty _)
      have cS : ∀ d os, Calls Try.prog 18 #[.agg #[.bool x.w, .string x.t], .agg #[.bool y.w, .string y.t]] (grow (redrawn w3 d) os) fun e' w'' => e' = .returned (.bool r) ∧ ∃ p : Regrown, w'' = grow (redrawn w3 p.d) p.os := fun d os => Calls.regrown_of (him _ (hX _ _ X3.out (below_regrown w3 d os)))
      refine wp_region_quiet_below (by kernel_rfl) (by kernel_rfl) ?_
      repeat (quiet_step (first | (with_reducible exact cX _ _) | (with_reducible exact cY _ _) | (with_reducible exact cS _ _)))
      refine wpQuiet_nil ?_
      intro _ hw'
      obtain ⟨⟨dq, osq⟩, hw''⟩ := hw'
      subst hw''
      have hb := below_regrown w3 dq osq
      generalize grow (redrawn w3 dq) osq = w4 at hb ⊢
      have T4_x : Hid (TgB w4 w.heap.size x) := T3_x.out.kept hb
      have T4_y : Hid (TgB w4 (w.heap.size + 1) y) := T3_y.out.kept hb
      have B4 : Hid (Below w.heap.size w w4) := past7 B3.out hb
      have X4 : Hid (X w4) := hX _ _ X3.out hb
      clear hb T3_x T3_y B3 X3 k0x k1x k0y k1y cX cY cS
      go_wp2
      go_ret
      exact ⟨rfl, B4.out⟩
    · have h2 : szT y (szT x 1048576) < 0 := by rw [szT_no hfit2]; decide
      generalize szT y (szT x 1048576) = z2 at hsz2 h2
      generalize szT x 1048576 = z at hsz hsz2 h0
      clear hi hfit hfit2
      unfold tgV at hsz hsz2 ⊢
      go_enter Try.func6, Try.ntmps6
      go_wp2_with fail
      refine (hsz _).mono ?_
      rintro e w1 ⟨rfl, hb⟩
      have T1_x : Hid (TgB w1 w.heap.size x) := T0_x.out.kept hb
      have T1_y : Hid (TgB w1 (w.heap.size + 1) y) := T0_y.out.kept hb
      have B1 : Hid (Below w.heap.size w w1) := past7 B0.out hb
      have X1 : Hid (X w1) := hX _ _ X0.out hb
      clear hb T0_x T0_y B0 X0 
      have c0y := T1_y.out.c0
      have c1y := T1_y.out.c1
      go_wp2_with fail
      refine (hsz2 _).mono ?_
      rintro e w2 ⟨rfl, hb⟩
      have T2_x : Hid (TgB w2 w.heap.size x) := T1_x.out.kept hb
      have T2_y : Hid (TgB w2 (w.heap.size + 1) y) := T1_y.out.kept hb
      have B2 : Hid (Below w.heap.size w w2) := past7 B1.out hb
      have X2 : Hid (X w2) := hX _ _ X1.out hb
      clear hb T1_x T1_y B1 X1 c0y c1y
      go_wp2
      go_ret
      exact ⟨rfl, B2.out⟩
  · have h0 : szT x 1048576 < 0 := by rw [szT_no hfit]; decide
    generalize szT x 1048576 = z at hsz h0
    clear hi hfit
    unfold tgV at hsz ⊢
    go_enter Try.func6, Try.ntmps6
    go_wp2_with fail
    refine (hsz _).mono ?_
    rintro e w1 ⟨rfl, hb⟩
    have T1_x : Hid (TgB w1 w.heap.size x) := T0_x.out.kept hb
    have T1_y : Hid (TgB w1 (w.heap.size + 1) y) := T0_y.out.kept hb
    have B1 : Hid (Below w.heap.size w w1) := past7 B0.out hb
    have X1 : Hid (X w1) := hX _ _ X0.out hb
    clear hb T0_x T0_y B0 X0 
    go_wp2
    go_ret
    exact ⟨rfl, B1.out⟩
set_option maxHeartbeats 2000000 in
theorem walkAlike (X : World → Prop) (hX : ∀ w w', X w → Below w.heap.size w w' → X w')
    (hi : ∀ (x y : Tg) (w : World), X w → x.t.size ≤ 1048576 → y.t.size ≤ 1048576 → Calls Try.prog 20 #[tgV x, tgV y] w fun e w' => e = .returned (.bool (likB x y)) ∧ Below w.heap.size w w')
    (x y : Tg) (w : World) (hs : x.t.size ≤ maxLen) (hy : y.t.size ≤ maxLen) (hx : X w) :
    Calls Try.prog 7 #[tgV x, tgV y] w fun e w' => e = .returned (.bool true) ∧ Below w.heap.size w w' := by
  have hsz := fun W => lawSzT x 1048576 W hs (by decide) (by decide)
  have htx := fun W => lawToT x W
  have hty := fun W => lawToT y W
  have T0_x : Hid (TgB ((w.alloc (.cells #[.bool x.w, .string x.t] 23)).alloc (.cells #[.bool y.w, .string y.t] 23)) w.heap.size x) := by
    exact ((TgB.new w x 23).alloc _)
  have T0_y : Hid (TgB ((w.alloc (.cells #[.bool x.w, .string x.t] 23)).alloc (.cells #[.bool y.w, .string y.t] 23)) (w.heap.size + 1) y) := by
    have := (TgB.new (w.alloc (.cells #[.bool x.w, .string x.t] 23)) y 23)
    simp only [World.size_alloc] at this
    exact this
  have B0 : Hid (Below w.heap.size w ((w.alloc (.cells #[.bool x.w, .string x.t] 23)).alloc (.cells #[.bool y.w, .string y.t] 23))) := ((Below.refl _ w).alloc (by simp <;> omega) _).alloc (by simp <;> omega) _
  have X0 : Hid (X ((w.alloc (.cells #[.bool x.w, .string x.t] 23)).alloc (.cells #[.bool y.w, .string y.t] 23))) := hX w _ hx B0.out
  by_cases hfit : (x.t.size : Int) ≤ 1048576
  · have h0 : ¬ szT x 1048576 < 0 := by rw [szT_yes hfit]; omega
    have hsz2 := fun W => lawSzT y (szT x 1048576) W hy (by rw [szT_yes hfit]; omega) (by rw [szT_yes hfit]; omega)
    by_cases hfit2 : (y.t.size : Int) ≤ szT x 1048576
    · have h2 : ¬ szT y (szT x 1048576) < 0 := by rw [szT_yes hfit2]; omega
      have hy2 : y.t.size ≤ 1048576 := by rw [szT_yes hfit] at hfit2; omega
      have hsp := fun W => specLik x y W hs hy
      have him := fun W hX => hi x y W hX (by omega) hy2
      generalize szT y (szT x 1048576) = z2 at hsz2 h2
      generalize szT x 1048576 = z at hsz hsz2 h0
      generalize likB x y = r at hsp him
      have dr : (r != r) = false := by simp
      clear hi hfit hfit2
      unfold tgV at hsz hsz2 htx hty hsp him ⊢
      go_enter Try.func7, Try.ntmps7
      go_wp2_with fail
      refine (hsz _).mono ?_
      rintro e w1 ⟨rfl, hb⟩
      have T1_x : Hid (TgB w1 w.heap.size x) := T0_x.out.kept hb
      have T1_y : Hid (TgB w1 (w.heap.size + 1) y) := T0_y.out.kept hb
      have B1 : Hid (Below w.heap.size w w1) := past7 B0.out hb
      have X1 : Hid (X w1) := hX _ _ X0.out hb
      clear hb T0_x T0_y B0 X0 
      have c0y := T1_y.out.c0
      have c1y := T1_y.out.c1
      go_wp2_with fail
      refine (hsz2 _).mono ?_
      rintro e w2 ⟨rfl, hb⟩
      have T2_x : Hid (TgB w2 w.heap.size x) := T1_x.out.kept hb
      have T2_y : Hid (TgB w2 (w.heap.size + 1) y) := T1_y.out.kept hb
      have B2 : Hid (Below w.heap.size w w2) := past7 B1.out hb
      have X2 : Hid (X w2) := hX _ _ X1.out hb
      clear hb T1_x T1_y B1 X1 c0y c1y
      go_wp2
      have k0x := cell_regrown T2_x.out.c0
      have k1x := cell_regrown T2_x.out.c1
      have k0y := cell_regrown T2_y.out.c0
      have k1y := cell_regrown T2_y.out.c1
      have cX : ∀ d os, Calls Try.prog 10 #[.agg #[.bool x.w, .string x.t]] (grow (redrawn w2 d) os) fun e' w'' => e' = .returned (.agg #[.bool x.w, .string x.t]) ∧ ∃ p : Regrown, w'' = grow (redrawn w2 p.d) p.os := fun d os => Calls.regrown_of (htx _)
      have cY : ∀ d os, Calls Try.prog 10 #[.agg #[.bool y.w, .string y.t]] (grow (redrawn w2 d) os) fun e' w'' => e' = .returned (.agg #[.bool y.w, .string y.t]) ∧ ∃ p : Regrown, w'' = grow (redrawn w2 p.d) p.os := fun d os => Calls.regrown_of (hty _)
      have cS : ∀ d os, Calls Try.prog 19 #[.agg #[.bool x.w, .string x.t], .agg #[.bool y.w, .string y.t]] (grow (redrawn w2 d) os) fun e' w'' => e' = .returned (.bool r) ∧ ∃ p : Regrown, w'' = grow (redrawn w2 p.d) p.os := fun d os => Calls.regrown_of (hsp (grow (redrawn w2 d) os))
      refine wp_region_quiet_below (by kernel_rfl) (by kernel_rfl) ?_
      repeat (quiet_step (first | (with_reducible exact cX _ _) | (with_reducible exact cY _ _) | (with_reducible exact cS _ _)))
      refine wpQuiet_nil ?_
      intro _ hw'
      obtain ⟨⟨dq, osq⟩, hw''⟩ := hw'
      subst hw''
      have hb := below_regrown w2 dq osq
      generalize grow (redrawn w2 dq) osq = w3 at hb ⊢
      have T3_x : Hid (TgB w3 w.heap.size x) := T2_x.out.kept hb
      have T3_y : Hid (TgB w3 (w.heap.size + 1) y) := T2_y.out.kept hb
      have B3 : Hid (Below w.heap.size w w3) := past7 B2.out hb
      have X3 : Hid (X w3) := hX _ _ X2.out hb
      clear hb T2_x T2_y B2 X2 k0x k1x k0y k1y cX cY cS
      go_wp2
      have k0x := cell_regrown T3_x.out.c0
      have k1x := cell_regrown T3_x.out.c1
      have k0y := cell_regrown T3_y.out.c0
      have k1y := cell_regrown T3_y.out.c1
      have cX : ∀ d os, Calls Try.prog 10 #[.agg #[.bool x.w, .string x.t]] (grow (redrawn w3 d) os) fun e' w'' => e' = .returned (.agg #[.bool x.w, .string x.t]) ∧ ∃ p : Regrown, w'' = grow (redrawn w3 p.d) p.os := fun d os => Calls.regrown_of (htx _)
      have cY : ∀ d os, Calls Try.prog 10 #[.agg #[.bool y.w, .string y.t]] (grow (redrawn w3 d) os) fun e' w'' => e' = .returned (.agg #[.bool y.w, .string y.t]) ∧ ∃ p : Regrown, w'' = grow (redrawn w3 p.d) p.os := fun d os => Calls.regrown_of (hty _)
      have cS : ∀ d os, Calls Try.prog 20 #[.agg #[.bool x.w, .string x.t], .agg #[.bool y.w, .string y.t]] (grow (redrawn w3 d) os) fun e' w'' => e' = .returned (.bool r) ∧ ∃ p : Regrown, w'' = grow (redrawn w3 p.d) p.os := fun d os => Calls.regrown_of (him _ (hX _ _ X3.out (below_regrown w3 d os)))
      refine wp_region_quiet_below (by kernel_rfl) (by kernel_rfl) ?_
      repeat (quiet_step (first | (with_reducible exact cX _ _) | (with_reducible exact cY _ _) | (with_reducible exact cS _ _)))
      refine wpQuiet_nil ?_
      intro _ hw'
      obtain ⟨⟨dq, osq⟩, hw''⟩ := hw'
      subst hw''
      have hb := below_regrown w3 dq osq
      generalize grow (redrawn w3 dq) osq = w4 at hb ⊢
      have T4_x : Hid (TgB w4 w.heap.size x) := T3_x.out.kept hb
      have T4_y : Hid (TgB w4 (w.heap.size + 1) y) := T3_y.out.kept hb
      have B4 : Hid (Below w.heap.size w w4) := past7 B3.out hb
      have X4 : Hid (X w4) := hX _ _ X3.out hb
      clear hb T3_x T3_y B3 X3 k0x k1x k0y k1y cX cY cS
      go_wp2
      go_ret
      exact ⟨rfl, B4.out⟩
    · have h2 : szT y (szT x 1048576) < 0 := by rw [szT_no hfit2]; decide
      generalize szT y (szT x 1048576) = z2 at hsz2 h2
      generalize szT x 1048576 = z at hsz hsz2 h0
      clear hi hfit hfit2
      unfold tgV at hsz hsz2 ⊢
      go_enter Try.func7, Try.ntmps7
      go_wp2_with fail
      refine (hsz _).mono ?_
      rintro e w1 ⟨rfl, hb⟩
      have T1_x : Hid (TgB w1 w.heap.size x) := T0_x.out.kept hb
      have T1_y : Hid (TgB w1 (w.heap.size + 1) y) := T0_y.out.kept hb
      have B1 : Hid (Below w.heap.size w w1) := past7 B0.out hb
      have X1 : Hid (X w1) := hX _ _ X0.out hb
      clear hb T0_x T0_y B0 X0 
      have c0y := T1_y.out.c0
      have c1y := T1_y.out.c1
      go_wp2_with fail
      refine (hsz2 _).mono ?_
      rintro e w2 ⟨rfl, hb⟩
      have T2_x : Hid (TgB w2 w.heap.size x) := T1_x.out.kept hb
      have T2_y : Hid (TgB w2 (w.heap.size + 1) y) := T1_y.out.kept hb
      have B2 : Hid (Below w.heap.size w w2) := past7 B1.out hb
      have X2 : Hid (X w2) := hX _ _ X1.out hb
      clear hb T1_x T1_y B1 X1 c0y c1y
      go_wp2
      go_ret
      exact ⟨rfl, B2.out⟩
  · have h0 : szT x 1048576 < 0 := by rw [szT_no hfit]; decide
    generalize szT x 1048576 = z at hsz h0
    clear hi hfit
    unfold tgV at hsz ⊢
    go_enter Try.func7, Try.ntmps7
    go_wp2_with fail
    refine (hsz _).mono ?_
    rintro e w1 ⟨rfl, hb⟩
    have T1_x : Hid (TgB w1 w.heap.size x) := T0_x.out.kept hb
    have T1_y : Hid (TgB w1 (w.heap.size + 1) y) := T0_y.out.kept hb
    have B1 : Hid (Below w.heap.size w w1) := past7 B0.out hb
    have X1 : Hid (X w1) := hX _ _ X0.out hb
    clear hb T0_x T0_y B0 X0 
    go_wp2
    go_ret
    exact ⟨rfl, B1.out⟩
end Go.Proofs.Yteeclocldjmgaaa
