/-
  The program's ControlOk by its contract.
-/
import Derived.Test.YtccnkmffadmfhaaDoorCtlC
namespace Go.Proofs.YtccnkmffadmfhaaDoor
open Go.RowKit Go.Sort
set_option linter.unusedVariables false

theorem implSec (n : Int) (w : World) : Calls Tryd.prog 40 #[.int .i64 n] w fun e w' => e = .returned (.bool (secB n)) ∧ w = w' := by
  have HS : Hid (secB n = (decide (-1 ≤ n) && decide (n ≤ 1000000000))) := rfl
  generalize secB n = S at HS ⊢
  by_cases h : -1 ≤ n
  · have H : Hid (decide (n ≤ 1000000000) = S) := by show _ = _; rw [HS.out, decide_eq_true h, Bool.true_and]
    go_enter Tryd.func40, Tryd.ntmps40
    go_wp2
    go_ret
    exact ⟨ret_bool H.out, rfl⟩
  · have H : Hid (false = S) := by show _ = _; rw [HS.out, decide_eq_false h, Bool.false_and]
    go_enter Tryd.func40, Tryd.ntmps40
    go_wp2
    go_ret
    exact ⟨ret_bool H.out, rfl⟩
set_option maxHeartbeats 1000000 in
theorem implCok (x : Ct) (w : World) : Calls Tryd.prog 20 #[ctV x] w fun e w' => e = .returned (.bool (ctB x)) ∧ Below w.heap.size w w' := by
  have B0 : Hid (Below w.heap.size w (w.alloc (.cells #[.int .i64 x.a, .int .i64 x.s, .int .i64 x.t, .bool x.ns, .bool x.nc, .bool x.pr, .bool x.mu] 23))) := (Below.refl _ w).alloc (Nat.le_refl _) _
  have h1 := fun W => implSec x.a W
  have h2 := fun W => implSec x.s W
  have h3 := fun W => implSec x.t W
  have HS : Hid (ctB x = (secB x.a && (secB x.s && secB x.t))) := rfl
  generalize ctB x = S at HS ⊢
  generalize secB x.a = b1 at HS h1
  generalize secB x.s = b2 at HS h2
  generalize secB x.t = b3 at HS h3
  unfold ctV
  cases b1 with
  | false =>
    have H : Hid (false = S) := HS.out.symm
    go_enter Tryd.func20, Tryd.ntmps20
    go_wp2_with fail
    refine (h1 _).mono ?_
    rintro e w1 ⟨rfl, rfl⟩
    go_wp2
    go_ret
    exact ⟨ret_bool H.out, B0.out⟩
  | true =>
    cases b2 with
    | false =>
      have H : Hid (false = S) := HS.out.symm
      go_enter Tryd.func20, Tryd.ntmps20
      go_wp2_with fail
      refine (h1 _).mono ?_
      rintro e w1 ⟨rfl, rfl⟩
      go_wp2_with fail
      refine (h2 _).mono ?_
      rintro e w1 ⟨rfl, rfl⟩
      go_wp2
      go_ret
      exact ⟨ret_bool H.out, B0.out⟩
    | true =>
      have H : Hid (b3 = S) := HS.out.symm
      go_enter Tryd.func20, Tryd.ntmps20
      go_wp2_with fail
      refine (h1 _).mono ?_
      rintro e w1 ⟨rfl, rfl⟩
      go_wp2_with fail
      refine (h2 _).mono ?_
      rintro e w1 ⟨rfl, rfl⟩
      go_wp2_with fail
      refine (h3 _).mono ?_
      rintro e w1 ⟨rfl, rfl⟩
      go_wp2
      go_ret
      exact ⟨ret_bool H.out, B0.out⟩
end Go.Proofs.YtccnkmffadmfhaaDoor
