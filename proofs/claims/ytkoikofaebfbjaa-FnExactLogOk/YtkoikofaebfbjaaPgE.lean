/-
  The walks of the exact laws of purges and logs, given what the program's own functions answer.
-/
import Derived.Test.YtkoikofaebfbjaaPgD
namespace Go.Proofs.Ytkoikofaebfbjaa
open Go.RowKit Pg
set_option linter.unusedVariables false
set_option linter.unusedSimpArgs false

set_option maxHeartbeats 2000000 in
theorem walkPgo (hi : ∀ (k : Int) (s : ByteArray) (w : World), s.size ≤ 1048576 → Calls Try.prog 10 #[pgV k s] w fun e w' => e = .returned (.bool (pgOk k s)) ∧ Below w.heap.size w w')
    (k : Int) (s : ByteArray) (w : World) (hs : s.size ≤ maxLen) :
    Calls Try.prog 3 #[pgV k s] w fun e w' => e = .returned (.bool true) ∧ Below w.heap.size w w' := by
  have hz := fun W => szPg k s 1048576 (by decide) (by decide) W hs
  have hfit := pg_fit (s := s)
  have hto := fun W => toPg k s W
  have hsp := fun W => specPgo k s W hs
  have him := fun (h : s.size ≤ 1048576) W => hi k s W h
  generalize (if (1048576 : Int) - (s.size : Int) < 0 then (-1 : Int) else 1048576 - (s.size : Int)) = V at hz hfit
  generalize pgOk k s = T at hsp him
  have dT : (T != T) = false := by simp
  have B0 : Hid (Below w.heap.size w (w.alloc (.cells #[.int .i64 k, .string s] 23))) := (Below.refl _ w).alloc (Nat.le_refl _) _
  have X0 : Hid (Bx (w.alloc (.cells #[.int .i64 k, .string s] 23)) w.heap.size 23 #[.int .i64 k, .string s]) := (show Hid _ from Bx.new w _ _)
  unfold pgV at *
  clear hi
  go_enter Try.func3, Try.ntmps3
  generalize hwA : w.alloc (.cells #[.int .i64 k, .string s] 23) = wA at B0 X0
  have x0 := X0.out.cell 0
  have x1 := X0.out.cell 1
  go_wp2_with fail
  refine (hz _).mono ?_
  rintro e w1 ⟨rfl, hb⟩
  have B1 : Hid (Below w.heap.size w w1) := (show Hid _ from pastG B0.out hb)
  have X1 : Hid (Bx w1 w.heap.size 23 #[.int .i64 k, .string s]) := (show Hid _ from X0.out.kept hb)
  clear hb B0 X0 x0 x1 hwA hz
  by_cases hV : V < 0
  · go_wp2
    go_ret
    exact ⟨rfl, B1.out⟩
  · have hf := hfit (by omega)
    have him := him hf
    have x0 := X1.out.cell 0
    have x1 := X1.out.cell 1
    go_wp2_with fail
    refine (hto _).mono ?_
    rintro e w2 ⟨rfl, hb⟩
    have B2 : Hid (Below w.heap.size w w2) := (show Hid _ from pastG B1.out hb)
    have X2 : Hid (Bx w2 w.heap.size 23 #[.int .i64 k, .string s]) := (show Hid _ from X1.out.kept hb)
    clear hb B1 X1 x0 x1
    go_wp2_with fail
    refine (hsp _).mono ?_
    rintro e w3 ⟨rfl, hb⟩
    have B3 : Hid (Below w.heap.size w w3) := (show Hid _ from pastG B2.out hb)
    have X3 : Hid (Bx w3 w.heap.size 23 #[.int .i64 k, .string s]) := (show Hid _ from X2.out.kept hb)
    clear hb B2 X2
    have x0 := X3.out.cell 0
    have x1 := X3.out.cell 1
    go_wp2_with fail
    refine (hto _).mono ?_
    rintro e w4 ⟨rfl, hb⟩
    have B4 : Hid (Below w.heap.size w w4) := (show Hid _ from pastG B3.out hb)
    clear hb B3 X3 x0 x1
    go_wp2_with fail
    refine (him _).mono ?_
    rintro e w5 ⟨rfl, hb⟩
    have B5 : Hid (Below w.heap.size w w5) := (show Hid _ from pastG B4.out hb)
    clear hb B4
    go_wp2
    go_ret
    exact ⟨rfl, B5.out⟩
set_option maxHeartbeats 2000000 in
theorem walkShp (hi : ∀ (k : Int) (s : ByteArray) (w : World), s.size ≤ 1048576 → Calls Try.prog 12 #[pgV k s] w fun e w' => e = .returned (.string (shwP k s)) ∧ Below w.heap.size w w')
    (k : Int) (s : ByteArray) (w : World) (hs : s.size ≤ maxLen) :
    Calls Try.prog 4 #[pgV k s] w fun e w' => e = .returned (.bool true) ∧ Below w.heap.size w w' := by
  have hz := fun W => szPg k s 1048576 (by decide) (by decide) W hs
  have hfit := pg_fit (s := s)
  have hto := fun W => toPg k s W
  have hsp := fun (h : s.size ≤ 1048576) W => specShp k s W (by omega)
  have him := fun (h : s.size ≤ 1048576) W => hi k s W h
  generalize (if (1048576 : Int) - (s.size : Int) < 0 then (-1 : Int) else 1048576 - (s.size : Int)) = V at hz hfit
  generalize shwP k s = T at hsp him
  have dT : (T.toList != T.toList) = false := by simp
  have B0 : Hid (Below w.heap.size w (w.alloc (.cells #[.int .i64 k, .string s] 23))) := (Below.refl _ w).alloc (Nat.le_refl _) _
  have X0 : Hid (Bx (w.alloc (.cells #[.int .i64 k, .string s] 23)) w.heap.size 23 #[.int .i64 k, .string s]) := (show Hid _ from Bx.new w _ _)
  unfold pgV at *
  clear hi
  go_enter Try.func4, Try.ntmps4
  generalize hwA : w.alloc (.cells #[.int .i64 k, .string s] 23) = wA at B0 X0
  have x0 := X0.out.cell 0
  have x1 := X0.out.cell 1
  go_wp2_with fail
  refine (hz _).mono ?_
  rintro e w1 ⟨rfl, hb⟩
  have B1 : Hid (Below w.heap.size w w1) := (show Hid _ from pastG B0.out hb)
  have X1 : Hid (Bx w1 w.heap.size 23 #[.int .i64 k, .string s]) := (show Hid _ from X0.out.kept hb)
  clear hb B0 X0 x0 x1 hwA hz
  by_cases hV : V < 0
  · go_wp2
    go_ret
    exact ⟨rfl, B1.out⟩
  · have hf := hfit (by omega)
    have him := him hf
    have hsp := hsp hf
    have x0 := X1.out.cell 0
    have x1 := X1.out.cell 1
    go_wp2_with fail
    refine (hto _).mono ?_
    rintro e w2 ⟨rfl, hb⟩
    have B2 : Hid (Below w.heap.size w w2) := (show Hid _ from pastG B1.out hb)
    have X2 : Hid (Bx w2 w.heap.size 23 #[.int .i64 k, .string s]) := (show Hid _ from X1.out.kept hb)
    clear hb B1 X1 x0 x1
    go_wp2_with fail
    refine (hsp _).mono ?_
    rintro e w3 ⟨rfl, hb⟩
    have B3 : Hid (Below w.heap.size w w3) := (show Hid _ from pastG B2.out hb)
    have X3 : Hid (Bx w3 w.heap.size 23 #[.int .i64 k, .string s]) := (show Hid _ from X2.out.kept hb)
    clear hb B2 X2
    have x0 := X3.out.cell 0
    have x1 := X3.out.cell 1
    go_wp2_with fail
    refine (hto _).mono ?_
    rintro e w4 ⟨rfl, hb⟩
    have B4 : Hid (Below w.heap.size w w4) := (show Hid _ from pastG B3.out hb)
    clear hb B3 X3 x0 x1
    go_wp2_with fail
    refine (him _).mono ?_
    rintro e w5 ⟨rfl, hb⟩
    have B5 : Hid (Below w.heap.size w w5) := (show Hid _ from pastG B4.out hb)
    clear hb B4
    go_wp2
    go_ret
    exact ⟨rfl, B5.out⟩
set_option maxHeartbeats 2000000 in
theorem walkRdp (hi : ∀ (s : ByteArray) (w : World), s.size ≤ 1048576 → Calls Try.prog 14 #[.string s] w fun e w' => e = .returned (.tuple #[pgV (rdV s).1 (rdV s).2, .bool (rdB s)]) ∧ Below w.heap.size w w')
    (s : ByteArray) (w : World) (hs : s.size ≤ maxLen) :
    Calls Try.prog 5 #[.string s] w fun e w' => e = .returned (.bool true) ∧ Below w.heap.size w w' := by
  unfold maxLen at hs
  by_cases hb : 1048576 < s.size
  · have hbi : 1048576 < (s.size : Int) := by omega
    go_enter Try.func5, Try.ntmps5
    go_wp2
    go_ret
    exact ⟨rfl, Below.refl _ _⟩
  · have hbi : ¬ 1048576 < (s.size : Int) := by omega
    have hsp := fun W => specRdp s W (by omega)
    have him := fun W => hi s W (by omega)
    have heq := fun W => eqPg (rdV s).1 (rdV s).2 W
    generalize rdV s = V at hsp him heq
    obtain ⟨V1, V2⟩ := V
    generalize rdB s = T at hsp him
    have dT : (T != T) = false := by simp
    unfold pgV at *
    simp only at hsp him heq
    clear hi
    go_enter Try.func5, Try.ntmps5
    go_wp2_with fail
    refine (hsp _).mono ?_
    rintro e w1 ⟨rfl, hb1⟩
    have B1 : Hid (Below w.heap.size w (w1.alloc (.cells #[.int .i64 V1, .string V2] 26))) := (show Hid _ from hb1.alloc hb1.size _)
    have X1 : Hid (Bx (w1.alloc (.cells #[.int .i64 V1, .string V2] 26)) w1.heap.size 26 #[.int .i64 V1, .string V2]) := (show Hid _ from Bx.new _ _ _)
    clear hb1
    go_wp2_with fail
    generalize w1.heap.size = m1 at *
    generalize w1.alloc (.cells #[.int .i64 V1, .string V2] 26) = w2 at B1 X1 ⊢
    refine (him _).mono ?_
    rintro e w3 ⟨rfl, hb3⟩
    have B3 : Hid (Below w.heap.size w (w3.alloc (.cells #[.int .i64 V1, .string V2] 26))) := (show Hid _ from (pastG B1.out hb3).alloc (by have := B1.out.size; have := hb3.size; omega) _)
    have X3 := (X1.out.kept hb3).alloc (.cells #[.int .i64 V1, .string V2] 26)
    have Y3 := Bx.new w3 26 #[.int .i64 V1, .string V2]
    have x0 := X3.cell 0
    have x1 := X3.cell 1
    have y0 := Y3.cell 0
    have y1 := Y3.cell 1
    generalize hw4 : w3.alloc (.cells #[.int .i64 V1, .string V2] 26) = w4 at B3 X3 Y3 x0 x1 y0 y1
    clear hb3 B1 X1 X3 Y3
    go_wp2_with fail
    refine (heq _).mono ?_
    rintro e w5 ⟨rfl, hb5⟩
    have B5 : Hid (Below w.heap.size w w5) := (show Hid _ from pastG B3.out hb5)
    clear hb5 B3 x0 x1 y0 y1 hw4
    go_wp2
    go_ret
    exact ⟨rfl, B5.out⟩
end Go.Proofs.Ytkoikofaebfbjaa
