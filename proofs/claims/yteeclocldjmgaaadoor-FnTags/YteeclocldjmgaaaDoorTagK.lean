/-
  The program's Strong and Alike by their contracts.
-/
import Derived.Test.YteeclocldjmgaaaDoorTagJ
namespace Go.Proofs.YteeclocldjmgaaaDoor
open Go.RowKit
set_option linter.unusedVariables false

set_option maxHeartbeats 1000000 in
theorem implStr (x y : Tg) (w : World) (hx : x.t.size ≤ maxLen) (hy : y.t.size ≤ maxLen) :
    Calls Tryd.prog 18 #[tgV x, tgV y] w fun e w' => e = .returned (.bool (strB x y)) ∧ Below w.heap.size w w' := by
  have hk := fun W => implTag x W hx
  have hl := fun W => implTag y W hy
  have hd := txt_eq x.t y.t
  have HS : Hid (strB x y = (tagB x.t && (tagB y.t && (!x.w && (!y.w && decide (x.t = y.t)))))) := rfl
  generalize strB x y = S at HS ⊢
  have T0 : Hid (TgB _ w.heap.size x) := (TgB.new w x 25).alloc (.cells #[.bool y.w, .string y.t] 25)
  have T1 : Hid (TgB ((w.alloc (.cells #[.bool x.w, .string x.t] 25)).alloc (.cells #[.bool y.w, .string y.t] 25)) (w.heap.size + 1) y) := by
    have := TgB.new (w.alloc (.cells #[.bool x.w, .string x.t] 25)) y 25
    simp only [World.size_alloc] at this
    exact this
  have B0 : Hid (Below w.heap.size w ((w.alloc (.cells #[.bool x.w, .string x.t] 25)).alloc (.cells #[.bool y.w, .string y.t] 25))) := ((Below.refl _ w).alloc (Nat.le_refl _) _).alloc (by simp) _
  unfold tgV at hk hl ⊢
  obtain ⟨xw, xt⟩ := x
  obtain ⟨yw, yt⟩ := y
  simp only at *
  generalize tagB xt = ok at hk HS
  generalize tagB yt = ol at hl HS
  generalize decide (xt = yt) = q at hd HS
  go_enter Tryd.func18, Tryd.ntmps18
  go_wp2_with fail
  refine (hk _).mono ?_
  rintro e w1 ⟨rfl, hb1⟩
  have T2 : Hid (TgB w1 w.heap.size ⟨xw, xt⟩) := T0.out.kept hb1
  have T3 : Hid (TgB w1 (w.heap.size + 1) ⟨yw, yt⟩) := T1.out.kept hb1
  have B1 : Hid (Below w.heap.size w w1) := past7 B0.out hb1
  clear T0 T1 B0 hb1 hk
  cases ok with
  | false =>
    have H : Hid (false = S) := HS.out.symm
    go_wp2
    go_ret
    exact ⟨ret_bool H.out, B1.out⟩
  | true =>
    have c0 := T3.out.c0
    have c1 := T3.out.c1
    go_wp2_with fail
    refine (hl _).mono ?_
    rintro e w2 ⟨rfl, hb2⟩
    have T4 : Hid (TgB w2 w.heap.size ⟨xw, xt⟩) := T2.out.kept hb2
    have T5 : Hid (TgB w2 (w.heap.size + 1) ⟨yw, yt⟩) := T3.out.kept hb2
    have B2 : Hid (Below w.heap.size w w2) := past7 B1.out hb2
    clear T2 T3 B1 hb2 hl c0 c1
    have c0 := T4.out.c0
    have c1 := T4.out.c1
    have b0 := T5.out.c0
    have b1 := T5.out.c1
    cases ol <;> cases xw <;> cases yw <;> cases q <;> (
      have H : Hid (_ = S) := HS.out.symm
      clear HS
      go_wp2
      go_ret
      exact ⟨ret_bool H.out, B2.out⟩)
set_option maxHeartbeats 1000000 in
theorem implLik (x y : Tg) (w : World) (hx : x.t.size ≤ maxLen) (hy : y.t.size ≤ maxLen) :
    Calls Tryd.prog 20 #[tgV x, tgV y] w fun e w' => e = .returned (.bool (likB x y)) ∧ Below w.heap.size w w' := by
  have hk := fun W => implTag ⟨y.w, x.t⟩ W hx
  have hl := fun W => implTag y W hy
  have hd := txt_eq x.t y.t
  have HS : Hid (likB x y = (tagB x.t && (tagB y.t && decide (x.t = y.t)))) := rfl
  generalize likB x y = S at HS ⊢
  unfold tgV at hk hl ⊢
  obtain ⟨xw, xt⟩ := x
  obtain ⟨yw, yt⟩ := y
  simp only at *
  generalize tagB xt = ok at hk HS
  generalize tagB yt = ol at hl HS
  generalize decide (xt = yt) = q at hd HS
  go_enter Tryd.func20, Tryd.ntmps20
  go_wp2_with fail
  refine (hk _).mono ?_
  rintro e w1 ⟨rfl, hb1⟩
  have T2 : Hid (TgB w1 w.heap.size ⟨yw, xt⟩) := ((TgB.new w ⟨yw, xt⟩ 25).alloc (.cells #[.bool yw, .string yt] 25)).kept hb1
  have T3 : Hid (TgB w1 (w.heap.size + 1) ⟨yw, yt⟩) := by
    have := TgB.new (w.alloc (.cells #[.bool yw, .string xt] 25)) ⟨yw, yt⟩ 25
    simp only [World.size_alloc] at this
    exact this.kept hb1
  have B1 : Hid (Below w.heap.size w w1) := past7 (((Below.refl _ w).alloc (Nat.le_refl _) _).alloc (by simp) _) hb1
  clear hb1 hk
  cases ok with
  | false =>
    have H : Hid (false = S) := HS.out.symm
    go_wp2
    go_ret
    exact ⟨ret_bool H.out, B1.out⟩
  | true =>
    have c0 := T3.out.c0
    have c1 := T3.out.c1
    go_wp2_with fail
    refine (hl _).mono ?_
    rintro e w2 ⟨rfl, hb2⟩
    have T4 : Hid (TgB w2 w.heap.size ⟨yw, xt⟩) := T2.out.kept hb2
    have T5 : Hid (TgB w2 (w.heap.size + 1) ⟨yw, yt⟩) := T3.out.kept hb2
    have B2 : Hid (Below w.heap.size w w2) := past7 B1.out hb2
    clear T2 T3 B1 hb2 hl c0 c1
    have c0 := T4.out.c0
    have c1 := T4.out.c1
    have b0 := T5.out.c0
    have b1 := T5.out.c1
    cases ol <;> cases yw <;> cases q <;> (
      have H : Hid (_ = S) := HS.out.symm
      clear HS
      go_wp2
      go_ret
      exact ⟨ret_bool H.out, B2.out⟩)
end Go.Proofs.YteeclocldjmgaaaDoor
