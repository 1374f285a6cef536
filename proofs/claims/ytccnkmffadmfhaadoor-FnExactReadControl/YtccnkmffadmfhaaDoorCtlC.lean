/-
  The specification's ControlOk and Tighter by their contracts; the laws' own helpers on control.
-/
import Derived.Test.YtccnkmffadmfhaaDoorCtlP
import Derived.Test.YtccnkmffadmfhaaDoorBlkE
import Derived.Test.YtccnkmffadmfhaaDoorQTl
namespace Go.Proofs.YtccnkmffadmfhaaDoor
open Go.RowKit Go.Sort
set_option linter.unusedVariables false

def ctE : Enc Ct where
  k := 7
  pos := by decide
  c := fun x => [.int .i64 x.a, .int .i64 x.s, .int .i64 x.t, .bool x.ns, .bool x.nc, .bool x.pr, .bool x.mu]
  len := fun _ => rfl
  one := fun x u hu => by simp at hu; rcases hu with rfl | rfl | rfl | rfl | rfl | rfl | rfl <;> rfl
abbrev CtB := BlkE ctE
def ctA (x : Ct) : Array Value := #[.int .i64 x.a, .int .i64 x.s, .int .i64 x.t, .bool x.ns, .bool x.nc, .bool x.pr, .bool x.mu]
theorem CtB.born (w : World) (x : Ct) (t : TypeId) : CtB (w.alloc (.cells #[.int .i64 x.a, .int .i64 x.s, .int .i64 x.t, .bool x.ns, .bool x.nc, .bool x.pr, .bool x.mu] t)) w.heap.size x := BlkE.new w x _ t rfl
theorem CtB.all {w : World} {b : Nat} {x : Ct} (h : CtB w b x) : w.cell? ⟨b, 0, Option.none⟩ = some (.int .i64 x.a) ∧ w.cell? ⟨b, 1, Option.none⟩ = some (.int .i64 x.s) ∧ w.cell? ⟨b, 2, Option.none⟩ = some (.int .i64 x.t) ∧ w.cell? ⟨b, 3, Option.none⟩ = some (.bool x.ns) ∧ w.cell? ⟨b, 4, Option.none⟩ = some (.bool x.nc) ∧ w.cell? ⟨b, 5, Option.none⟩ = some (.bool x.pr) ∧ w.cell? ⟨b, 6, Option.none⟩ = some (.bool x.mu) :=
  ⟨h.c 0 _ rfl, h.c 1 _ rfl, h.c 2 _ rfl, h.c 3 _ rfl, h.c 4 _ rfl, h.c 5 _ rfl, h.c 6 _ rfl⟩
theorem past9 {w w1 w2 : World} (h : Below w.heap.size w w1) (hb : Below w1.heap.size w1 w2) : Below w.heap.size w w2 := h.trans (hb.mono h.size)
theorem specIn9 (x lo hi : Int) (w : World) : Calls Tryd.prog 49 #[.int .i64 x, .int .i64 lo, .int .i64 hi] w fun e w' => e = .returned (.bool (decide (lo ≤ x) && decide (x ≤ hi))) ∧ w = w' := by
  by_cases h : lo ≤ x
  · rw [decide_eq_true h]
    by_cases h2 : x ≤ hi
    · rw [decide_eq_true h2]
      go_enter Tryd.func49, Tryd.ntmps49
      go_wp2
      go_ret
      exact ⟨rfl, rfl⟩
    · rw [decide_eq_false h2]
      go_enter Tryd.func49, Tryd.ntmps49
      go_wp2
      go_ret
      exact ⟨rfl, rfl⟩
  · rw [decide_eq_false h]
    go_enter Tryd.func49, Tryd.ntmps49
    go_wp2
    go_ret
    exact ⟨rfl, rfl⟩
theorem specSec (n : Int) (w : World) : Calls Tryd.prog 39 #[.int .i64 n] w fun e w' => e = .returned (.bool (secB n)) ∧ w = w' := by
  have h := fun W => specIn9 n (-1) 1000000000 W
  change ∀ W, Calls _ _ _ _ fun e w' => e = .returned (.bool (secB n)) ∧ W = w' at h
  generalize secB n = b at h ⊢
  go_enter Tryd.func39, Tryd.ntmps39
  go_wp2_with (go_at_call 49; refine (h _).mono ?_; rintro e w1 ⟨rfl, rfl⟩)
  go_ret
  exact ⟨rfl, rfl⟩
set_option maxHeartbeats 1000000 in
theorem specCok (x : Ct) (w : World) : Calls Tryd.prog 18 #[ctV x] w fun e w' => e = .returned (.bool (ctB x)) ∧ Below w.heap.size w w' := by
  have B0 : Hid (Below w.heap.size w (w.alloc (.cells #[.int .i64 x.a, .int .i64 x.s, .int .i64 x.t, .bool x.ns, .bool x.nc, .bool x.pr, .bool x.mu] 23))) := (Below.refl _ w).alloc (Nat.le_refl _) _
  have h1 := fun W => specSec x.a W
  have h2 := fun W => specSec x.s W
  have h3 := fun W => specSec x.t W
  have HS : Hid (ctB x = (secB x.a && (secB x.s && secB x.t))) := rfl
  generalize ctB x = S at HS ⊢
  generalize secB x.a = b1 at HS h1
  generalize secB x.s = b2 at HS h2
  generalize secB x.t = b3 at HS h3
  unfold ctV
  cases b1 with
  | false =>
    have H : Hid (false = S) := HS.out.symm
    go_enter Tryd.func18, Tryd.ntmps18
    go_wp2_with fail
    refine (h1 _).mono ?_
    rintro e w1 ⟨rfl, rfl⟩
    go_wp2
    go_ret
    exact ⟨ret_bool H.out, B0.out⟩
  | true =>
    cases b2 with
    | false =>
      have H : Hid (false = S) := HS.out.symm
      go_enter Tryd.func18, Tryd.ntmps18
      go_wp2_with fail
      refine (h1 _).mono ?_
      rintro e w1 ⟨rfl, rfl⟩
      go_wp2_with fail
      refine (h2 _).mono ?_
      rintro e w1 ⟨rfl, rfl⟩
      go_wp2
      go_ret
      exact ⟨ret_bool H.out, B0.out⟩
    | true =>
      have H : Hid (b3 = S) := HS.out.symm
      go_enter Tryd.func18, Tryd.ntmps18
      go_wp2_with fail
      refine (h1 _).mono ?_
      rintro e w1 ⟨rfl, rfl⟩
      go_wp2_with fail
      refine (h2 _).mono ?_
      rintro e w1 ⟨rfl, rfl⟩
      go_wp2_with fail
      refine (h3 _).mono ?_
      rintro e w1 ⟨rfl, rfl⟩
      go_wp2
      go_ret
      exact ⟨ret_bool H.out, B0.out⟩
theorem specMin9 (a b : Int) (w : World) : Calls Tryd.prog 27 #[.int .i64 a, .int .i64 b] w fun e w' => e = .returned (.int .i64 (minI a b)) ∧ w = w' := by
  unfold minI
  by_cases h : a < b
  · rw [if_pos h]
    go_enter Tryd.func27, Tryd.ntmps27
    go_wp2
    go_ret
    exact ⟨rfl, rfl⟩
  · rw [if_neg h]
    go_enter Tryd.func27, Tryd.ntmps27
    go_wp2
    go_ret
    exact ⟨rfl, rfl⟩
theorem ret_i9 {a b : Int} (h : a = b) : Ending.returned (.int .i64 a) = .returned (.int .i64 b) := by rw [h]
theorem ctE_c (x : Ct) : ctE.c x = [.int .i64 x.a, .int .i64 x.s, .int .i64 x.t, .bool x.ns, .bool x.nc, .bool x.pr, .bool x.mu] := rfl
theorem ret_ct {a b : Ct} (h : a = b) : Ending.returned (ctV a) = .returned (ctV b) := by rw [h]
end Go.Proofs.YtccnkmffadmfhaaDoor
