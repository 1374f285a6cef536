/-
  The walks of the exact laws of what matches, given what the program's own function answers.
-/
import Derived.Test.YteeclocldjmgaaaDoorTagD
import Derived.Test.YteeclocldjmgaaaDoorTagC
namespace Go.Proofs.YteeclocldjmgaaaDoor
open Go.RowKit Go.Sort
set_option linter.unusedVariables false

set_option maxHeartbeats 2000000 in
theorem walkNon (X : World → Prop) (hX : ∀ w w', X w → Below w.heap.size w w' → X w')
    (hi : ∀ (s : ByteArray) (x : Tg) (b : Bool) (w : World), X w → s.size ≤ 1048576 → x.t.size ≤ 1048576 → Calls Tryd.prog 16 #[.string s, tgV x, .bool b] w fun e w' => e = .returned (.bool (nonM s x b)) ∧ Below w.heap.size w w')
    (s : ByteArray) (x : Tg) (b : Bool) (w : World) (hs : s.size ≤ maxLen) (hy : x.t.size ≤ maxLen) (hx : X w) :
    Calls Tryd.prog 4 #[.string s, tgV x, .bool b] w fun e w' => e = .returned (.bool true) ∧ Below w.heap.size w w' := by
  have hsz := fun W => lawSzT x 1048576 W hy (by decide) (by decide)
  have hto := fun W => lawToT x W
  have T0_x : Hid (TgB (w.alloc (.cells #[.bool x.w, .string x.t] 38)) w.heap.size x) := by
    exact (TgB.new w x 38)
  have B0 : Hid (Below w.heap.size w (w.alloc (.cells #[.bool x.w, .string x.t] 38))) := (Below.refl _ w).alloc (by simp <;> omega) _
  have X0 : Hid (X (w.alloc (.cells #[.bool x.w, .string x.t] 38))) := hX w _ hx B0.out
  by_cases hbig : 1048576 < s.size
  · have hm := hs
    unfold maxLen at hm
    unfold tgV
    go_enter Tryd.func4, Tryd.ntmps4
    go_wp2
    go_ret
    exact ⟨rfl, B0.out⟩
  · have hm := hs
    unfold maxLen at hm
    by_cases hfit : (x.t.size : Int) ≤ 1048576
    · have hsp := fun W => specNon s x b W hs hy
      have him := fun W hX => hi s x b W hX (by omega) (by omega)
      have h0 : ¬ szT x 1048576 < 0 := by rw [szT_yes hfit]; omega
      generalize szT x 1048576 = z at hsz h0
      generalize nonM s x b = r at hsp him
      have dr : (r != r) = false := by simp
      clear hi hfit
      unfold tgV at hsz hto hsp him ⊢
      go_enter Tryd.func4, Tryd.ntmps4
      go_wp2_with fail
      refine (hsz _).mono ?_
      rintro e w1 ⟨rfl, hb⟩
      have T1_x : Hid (TgB w1 w.heap.size x) := T0_x.out.kept hb
      have B1 : Hid (Below w.heap.size w w1) := past7 B0.out hb
      have X1 : Hid (X w1) := hX _ _ X0.out hb
      clear hb T0_x B0 X0 
      have c0x := T1_x.out.c0
      have c1x := T1_x.out.c1
      go_wp2_with fail
      refine (hto _).mono ?_
      rintro e w2 ⟨rfl, hb⟩
      have T2_x : Hid (TgB w2 w.heap.size x) := T1_x.out.kept hb
      have B2 : Hid (Below w.heap.size w w2) := past7 B1.out hb
      have X2 : Hid (X w2) := hX _ _ X1.out hb
      clear hb T1_x B1 X1 c0x c1x
      go_wp2_with fail
      refine (hsp _).mono ?_
      rintro e w3 ⟨rfl, hb⟩
      have T3_x : Hid (TgB w3 w.heap.size x) := T2_x.out.kept hb
      have B3 : Hid (Below w.heap.size w w3) := past7 B2.out hb
      have X3 : Hid (X w3) := hX _ _ X2.out hb
      clear hb T2_x B2 X2 
      have c0x := T3_x.out.c0
      have c1x := T3_x.out.c1
      go_wp2_with fail
      refine (hto _).mono ?_
      rintro e w4 ⟨rfl, hb⟩
      have T4_x : Hid (TgB w4 w.heap.size x) := T3_x.out.kept hb
      have B4 : Hid (Below w.heap.size w w4) := past7 B3.out hb
      have X4 : Hid (X w4) := hX _ _ X3.out hb
      clear hb T3_x B3 X3 c0x c1x
      go_wp2_with fail
      refine (him _ X4.out).mono ?_
      rintro e w5 ⟨rfl, hb⟩
      have T5_x : Hid (TgB w5 w.heap.size x) := T4_x.out.kept hb
      have B5 : Hid (Below w.heap.size w w5) := past7 B4.out hb
      have X5 : Hid (X w5) := hX _ _ X4.out hb
      clear hb T4_x B4 X4 
      go_wp2
      go_ret
      exact ⟨rfl, B5.out⟩
    · have h0 : szT x 1048576 < 0 := by rw [szT_no hfit]; decide
      generalize szT x 1048576 = z at hsz h0
      clear hi hfit
      unfold tgV at hsz ⊢
      go_enter Tryd.func4, Tryd.ntmps4
      go_wp2_with fail
      refine (hsz _).mono ?_
      rintro e w1 ⟨rfl, hb⟩
      have T1_x : Hid (TgB w1 w.heap.size x) := T0_x.out.kept hb
      have B1 : Hid (Below w.heap.size w w1) := past7 B0.out hb
      have X1 : Hid (X w1) := hX _ _ X0.out hb
      clear hb T0_x B0 X0 
      go_wp2
      go_ret
      exact ⟨rfl, B1.out⟩
set_option maxHeartbeats 2000000 in
theorem walkAny (X : World → Prop) (hX : ∀ w w', X w → Below w.heap.size w w' → X w')
    (hi : ∀ (s : ByteArray) (x : Tg) (b : Bool) (w : World), X w → s.size ≤ 1048576 → x.t.size ≤ 1048576 → Calls Tryd.prog 17 #[.string s, tgV x, .bool b] w fun e w' => e = .returned (.bool (anyM s x b)) ∧ Below w.heap.size w w')
    (s : ByteArray) (x : Tg) (b : Bool) (w : World) (hs : s.size ≤ maxLen) (hy : x.t.size ≤ maxLen) (hx : X w) :
    Calls Tryd.prog 5 #[.string s, tgV x, .bool b] w fun e w' => e = .returned (.bool true) ∧ Below w.heap.size w w' := by
  have hsz := fun W => lawSzT x 1048576 W hy (by decide) (by decide)
  have hto := fun W => lawToT x W
  have T0_x : Hid (TgB (w.alloc (.cells #[.bool x.w, .string x.t] 38)) w.heap.size x) := by
    exact (TgB.new w x 38)
  have B0 : Hid (Below w.heap.size w (w.alloc (.cells #[.bool x.w, .string x.t] 38))) := (Below.refl _ w).alloc (by simp <;> omega) _
  have X0 : Hid (X (w.alloc (.cells #[.bool x.w, .string x.t] 38))) := hX w _ hx B0.out
  by_cases hbig : 1048576 < s.size
  · have hm := hs
    unfold maxLen at hm
    unfold tgV
    go_enter Tryd.func5, Tryd.ntmps5
    go_wp2
    go_ret
    exact ⟨rfl, B0.out⟩
  · have hm := hs
    unfold maxLen at hm
    by_cases hfit : (x.t.size : Int) ≤ 1048576
    · have hsp := fun W => specAny s x b W hs hy
      have him := fun W hX => hi s x b W hX (by omega) (by omega)
      have h0 : ¬ szT x 1048576 < 0 := by rw [szT_yes hfit]; omega
      generalize szT x 1048576 = z at hsz h0
      generalize anyM s x b = r at hsp him
      have dr : (r != r) = false := by simp
      clear hi hfit
      unfold tgV at hsz hto hsp him ⊢
      go_enter Tryd.func5, Tryd.ntmps5
      go_wp2_with fail
      refine (hsz _).mono ?_
      rintro e w1 ⟨rfl, hb⟩
      have T1_x : Hid (TgB w1 w.heap.size x) := T0_x.out.kept hb
      have B1 : Hid (Below w.heap.size w w1) := past7 B0.out hb
      have X1 : Hid (X w1) := hX _ _ X0.out hb
      clear hb T0_x B0 X0 
      have c0x := T1_x.out.c0
      have c1x := T1_x.out.c1
      go_wp2_with fail
      refine (hto _).mono ?_
      rintro e w2 ⟨rfl, hb⟩
      have T2_x : Hid (TgB w2 w.heap.size x) := T1_x.out.kept hb
      have B2 : Hid (Below w.heap.size w w2) := past7 B1.out hb
      have X2 : Hid (X w2) := hX _ _ X1.out hb
      clear hb T1_x B1 X1 c0x c1x
      go_wp2_with fail
      refine (hsp _).mono ?_
      rintro e w3 ⟨rfl, hb⟩
      have T3_x : Hid (TgB w3 w.heap.size x) := T2_x.out.kept hb
      have B3 : Hid (Below w.heap.size w w3) := past7 B2.out hb
      have X3 : Hid (X w3) := hX _ _ X2.out hb
      clear hb T2_x B2 X2 
      have c0x := T3_x.out.c0
      have c1x := T3_x.out.c1
      go_wp2_with fail
      refine (hto _).mono ?_
      rintro e w4 ⟨rfl, hb⟩
      have T4_x : Hid (TgB w4 w.heap.size x) := T3_x.out.kept hb
      have B4 : Hid (Below w.heap.size w w4) := past7 B3.out hb
      have X4 : Hid (X w4) := hX _ _ X3.out hb
      clear hb T3_x B3 X3 c0x c1x
      go_wp2_with fail
      refine (him _ X4.out).mono ?_
      rintro e w5 ⟨rfl, hb⟩
      have T5_x : Hid (TgB w5 w.heap.size x) := T4_x.out.kept hb
      have B5 : Hid (Below w.heap.size w w5) := past7 B4.out hb
      have X5 : Hid (X w5) := hX _ _ X4.out hb
      clear hb T4_x B4 X4 
      go_wp2
      go_ret
      exact ⟨rfl, B5.out⟩
    · have h0 : szT x 1048576 < 0 := by rw [szT_no hfit]; decide
      generalize szT x 1048576 = z at hsz h0
      clear hi hfit
      unfold tgV at hsz ⊢
      go_enter Tryd.func5, Tryd.ntmps5
      go_wp2_with fail
      refine (hsz _).mono ?_
      rintro e w1 ⟨rfl, hb⟩
      have T1_x : Hid (TgB w1 w.heap.size x) := T0_x.out.kept hb
      have B1 : Hid (Below w.heap.size w w1) := past7 B0.out hb
      have X1 : Hid (X w1) := hX _ _ X0.out hb
      clear hb T0_x B0 X0 
      go_wp2
      go_ret
      exact ⟨rfl, B1.out⟩
end Go.Proofs.YteeclocldjmgaaaDoor
