/-
  The walk of the exact law of ReadControl, given what the program's own answers (X: what the program's function asks of the world).
-/
import Derived.Test.YtccnkmffadmfhaaDoorCtlD
import Derived.Test.YtccnkmffadmfhaaDoorCtlJ
import Derived.Test.YtccnkmffadmfhaaDoorItmZ
namespace Go.Proofs.YtccnkmffadmfhaaDoor
open Go.ChangeShapes Go.WideShapes Go.ChangeAt Go.RowKit Go.Joins Go.Deep Go.Sort
set_option linter.unusedVariables false
set_option linter.unusedSimpArgs false

set_option maxHeartbeats 1000000 in
theorem walkRdC (X : World → Prop) (hX : ∀ w w', X w → Below w.heap.size w w' → X w')
    (hi : ∀ (s : ByteArray) (w : World), s.size ≤ 1048576 → X w → Calls Tryd.prog 6 #[.string s] w fun e w' => e = .returned (ctV (rdCt s)) ∧ Below w.heap.size w w')
    (s : ByteArray) (w : World) (hs : s.size ≤ maxLen) (hx : X w) : Calls Tryd.prog 3 #[.string s] w fun e w' => e = .returned (.bool true) ∧ Below w.heap.size w w' := by
  have hs' := hs
  unfold maxLen at hs'
  by_cases hb : s.size ≤ 1048576
  · have hsp := fun W => specRdC s W hs (items_size s)
    have him := fun W => hi s W hb
    have heq := fun W => lawEqC (rdCt s) W
    have HX : Hid (∀ w', Below w.heap.size w w' → X w') := fun w' h => hX w w' hx h
    have d0 : decide ((1048576 : Int) < (s.size : Int)) = false := decide_eq_false (by omega)
    generalize rdCt s = r at hsp him heq
    clear hi hX hx
    unfold ctV at hsp him heq
    go_enter Tryd.func3, Tryd.ntmps3
    go_wp2_with fail
    refine (hsp _).mono ?_
    rintro e w1 ⟨rfl, hb1⟩
    have B1 : Hid (Below w.heap.size w w1) := hb1
    have R1 : Hid (CtB (w1.alloc (.cells #[.int .i64 r.a, .int .i64 r.s, .int .i64 r.t, .bool r.ns, .bool r.nc, .bool r.pr, .bool r.mu] 23)) w1.heap.size r) := CtB.born w1 r 23
    have C1 : Hid (Below w.heap.size w (w1.alloc (.cells #[.int .i64 r.a, .int .i64 r.s, .int .i64 r.t, .bool r.ns, .bool r.nc, .bool r.pr, .bool r.mu] 23))) := B1.out.alloc B1.out.size _
    clear hb1
    go_wp2_with fail
    refine (him _ (HX.out _ C1.out)).mono ?_
    rintro e w2 ⟨rfl, hb2⟩
    have R2 : Hid (CtB w2 w1.heap.size r) := R1.out.kept hb2
    have B2 : Hid (Below w.heap.size w w2) := past9 C1.out hb2
    have C2 : Hid (Below w.heap.size w (w2.alloc (.cells #[.int .i64 r.a, .int .i64 r.s, .int .i64 r.t, .bool r.ns, .bool r.nc, .bool r.pr, .bool r.mu] 23))) := B2.out.alloc B2.out.size _
    have hlt : w1.heap.size < w2.heap.size := R2.out.hi
    clear hb2 R1 C1 B1
    obtain ⟨e0, e1, e2, e3, e4, e5, e6⟩ := R2.out.all
    go_wp2_with fail
    refine (heq _).mono ?_
    rintro e w3 ⟨rfl, hb3⟩
    have B3 : Hid (Below w.heap.size w w3) := past9 C2.out hb3
    clear hb3 C2 B2 R2 e0 e1 e2 e3 e4 e5 e6
    go_wp2
    go_ret
    exact ⟨rfl, B3.out⟩
  · have d0 : decide ((1048576 : Int) < (s.size : Int)) = true := decide_eq_true (by omega)
    go_enter Tryd.func3, Tryd.ntmps3
    go_wp2
    go_ret
    exact ⟨rfl, Below.refl _ _⟩
end Go.Proofs.YtccnkmffadmfhaaDoor
