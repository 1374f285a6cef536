/-
  The walk of the exact law of ShowControl, given what the program's own answers (X: what the program's function asks of the world, kept by what only adds).
-/
import Derived.Test.YtccnkmffadmfhaaDoorCtlG
namespace Go.Proofs.YtccnkmffadmfhaaDoor
open Go.ChangeShapes Go.WideShapes Go.ChangeAt Go.RowKit Go.Joins Go.Deep Go.Sort
set_option linter.unusedVariables false
set_option linter.unusedSimpArgs false

set_option maxHeartbeats 1000000 in
theorem walkShC (X : World → Prop) (hX : ∀ w w', X w → Below w.heap.size w w' → X w')
    (hi : ∀ (x : Ct) (w : World), X w → Calls Tryd.prog 10 #[ctV x] w fun e w' => e = .returned (.string (shC x)) ∧ Below w.heap.size w w')
    (x : Ct) (w : World) (hx : X w) : Calls Tryd.prog 4 #[ctV x] w fun e w' => e = .returned (.bool true) ∧ Below w.heap.size w w' := by
  have hto := fun W => lawToC x W
  have hsp := fun W => specShC x W
  have him := fun W => hi x W
  have X0 : Hid (CtB (w.alloc (.cells #[.int .i64 x.a, .int .i64 x.s, .int .i64 x.t, .bool x.ns, .bool x.nc, .bool x.pr, .bool x.mu] 27)) w.heap.size x) := CtB.born w x 27
  have B0 : Hid (Below w.heap.size w (w.alloc (.cells #[.int .i64 x.a, .int .i64 x.s, .int .i64 x.t, .bool x.ns, .bool x.nc, .bool x.pr, .bool x.mu] 27))) := (Below.refl _ w).alloc (by simp <;> omega) _
  have HX : Hid (∀ w', Below w.heap.size w w' → X w') := fun w' h => hX w w' hx h
  generalize shC x = r at hsp him
  have dr : (r.toList != r.toList) = false := by simp
  clear hi hX hx
  unfold ctV at hto hsp him ⊢
  go_enter Tryd.func4, Tryd.ntmps4
  go_wp2_with fail
  refine (hto _).mono ?_
  rintro e w1 ⟨rfl, hb1⟩
  have X1 : Hid (CtB w1 w.heap.size x) := X0.out.kept hb1
  have B1 : Hid (Below w.heap.size w w1) := past9 B0.out hb1
  clear hb1 X0 B0
  go_wp2_with fail
  refine (hsp _).mono ?_
  rintro e w2 ⟨rfl, hb2⟩
  have X2 : Hid (CtB w2 w.heap.size x) := X1.out.kept hb2
  have B2 : Hid (Below w.heap.size w w2) := past9 B1.out hb2
  clear hb2 X1 B1
  obtain ⟨x0, x1, x2, x3, x4, x5, x6⟩ := X2.out.all
  go_wp2_with fail
  refine (hto _).mono ?_
  rintro e w3 ⟨rfl, hb3⟩
  have B3 : Hid (Below w.heap.size w w3) := past9 B2.out hb3
  clear hb3 B2 X2 x0 x1 x2 x3 x4 x5 x6
  go_wp2_with fail
  refine (him _ (HX.out _ B3.out)).mono ?_
  rintro e w4 ⟨rfl, hb4⟩
  have B4 : Hid (Below w.heap.size w w4) := past9 B3.out hb4
  clear hb4 B3
  go_wp2
  go_ret
  exact ⟨rfl, B4.out⟩
end Go.Proofs.YtccnkmffadmfhaaDoor
