/-
  The program's purges by their contracts: what is read.
  What is a right message, and so many servers: the program's, by contract.
  A right replica, part by part, as plain data.
-/
import Derived.Test.YtdkhdjickkcaiaaRN06
import Derived.Test.YtdkhdjickkcaiaaRows
import Derived.Test.YtdkhdjickkcaiaaRN01
import Derived.WalkKit
import Derived.WalkSpells
import Derived.Test.YtdkhdjickkcaiaaRN07
import Derived.Laws.RangeAny
import Derived.Below
import Derived.Test.YtdkhdjickkcaiaaRN09
import Derived.Deep.RegionWith
import Derived.Lib.CutLaws
import Derived.Deep.DeepCutAuto
import Derived.Test.YtdkhdjickkcaiaaShelfS
import Derived.Test.YtdkhdjickkcaiaaRN14
import Derived.Test.YtdkhdjickkcaiaaRN03
import Derived.Laws.OwnMore
namespace Go.Proofs.Ytdkhdjickkcaiaa
open Go.RowKit
set_option linter.unusedVariables false
set_option linter.unusedSimpArgs false

/-- Of the answer's box. -/
structure Rx (w W : World) : Prop where
  low : Below w.heap.size w W
  rx : Bx W w.heap.size 99 #[.int .i64 0, .string ⟨#[]⟩]
end Go.Proofs.Ytdkhdjickkcaiaa
namespace Go.Proofs.Ytdkhdjickkcaiaa.Rl
open Go.RowKit Go.Sort
set_option linter.unusedVariables false
set_option linter.unusedSimpArgs false

theorem implPrs (p : Int) (w : World) : Calls Try.prog 27 #[.int .i64 p] w fun e w' => e = .returned (.bool (decide (pOk p))) ∧ w = w' := by
  by_cases h1 : p = 1
  · subst h1
    have hd : Hid (decide (pOk 1) = true) := (show _ = _ from decide_eq_true (.inl rfl))
    go_enter Try.func27, Try.ntmps27
    go_wp2
    go_ret
    exact ⟨congrArg (fun b => Ending.returned (.bool b)) hd.out.symm, rfl⟩
  by_cases h3 : p = 3
  · subst h3
    have hd : Hid (decide (pOk 3) = true) := (show _ = _ from decide_eq_true (.inr (.inl rfl)))
    go_enter Try.func27, Try.ntmps27
    go_wp2
    go_ret
    exact ⟨congrArg (fun b => Ending.returned (.bool b)) hd.out.symm, rfl⟩
  have e1 : (p == 1) = false := by simpa using h1
  have e3 : (p == 3) = false := by simpa using h3
  by_cases h5 : p = 5
  · subst h5
    have hd : Hid (decide (pOk 5) = true) := (show _ = _ from decide_eq_true (.inr (.inr rfl)))
    go_enter Try.func27, Try.ntmps27
    go_wp2
    go_ret
    exact ⟨congrArg (fun b => Ending.returned (.bool b)) hd.out.symm, rfl⟩
  have e5 : (p == 5) = false := by simpa using h5
  have hd : Hid (decide (pOk p) = false) := (show _ = _ from decide_eq_false (fun h => by rcases h with h | h | h <;> contradiction))
  go_enter Try.func27, Try.ntmps27
  go_wp2
  go_ret
  exact ⟨congrArg (fun b => Ending.returned (.bool b)) hd.out.symm, rfl⟩
def ipB (s p : Int) : Bool := decide (0 ≤ s ∧ s < p)
theorem implIp (s p : Int) (w : World) : Calls Try.prog 29 #[.int .i64 s, .int .i64 p] w fun e w' => e = .returned (.bool (ipB s p)) ∧ w = w' := by
  unfold ipB
  by_cases h1 : 0 ≤ s
  · by_cases h2 : s < p
    · rw [decide_eq_true (p := 0 ≤ s ∧ s < p) ⟨h1, h2⟩]
      go_enter Try.func29, Try.ntmps29
      go_wp2
      go_ret
      exact ⟨rfl, rfl⟩
    · rw [decide_eq_false (p := 0 ≤ s ∧ s < p) (fun h => h2 h.2)]
      go_enter Try.func29, Try.ntmps29
      go_wp2
      go_ret
      exact ⟨rfl, rfl⟩
  · rw [decide_eq_false (p := 0 ≤ s ∧ s < p) (fun h => h1 h.1)]
    go_enter Try.func29, Try.ntmps29
    go_wp2
    go_ret
    exact ⟨rfl, rfl⟩
theorem modE {v p : Int} (hv : 0 ≤ v) : Int.tmod v p = v % p := Int.tmod_eq_emod_of_nonneg hv
theorem implLd (v p : Int) (w : World) (hv : 0 ≤ v ∧ v ≤ 20000) (hp : pOk p) : Calls Try.prog 90 #[.int .i64 v, .int .i64 p] w fun e w' => e = .returned (.int .i64 (v % p)) ∧ w = w' := by
  have hp0 : (p == 0) = false := by rcases hp with rfl | rfl | rfl <;> rfl
  have hpz : ¬ p = 0 := by rcases hp with rfl | rfl | rfl <;> decide
  have hb : 0 ≤ v % p ∧ v % p < 20001 := by rcases hp with rfl | rfl | rfl <;> omega
  have em : Int.tmod v p = v % p := modE hv.1
  have ew : wrap64 (v % p) = v % p := by unfold wrap64; omega
  have HR : Hid (Int.tmod v p = v % p) := em
  go_enter Try.func90, Try.ntmps90
  go_wp2
  go_ret
  first | exact ⟨rfl, rfl⟩ | exact ⟨by simp [em, ew], rfl⟩ | (trace_state; sorry)
end Go.Proofs.Ytdkhdjickkcaiaa.Rl
namespace Go.Proofs.Ytdkhdjickkcaiaa.Rl

set_option linter.unusedVariables false
set_option linter.unusedSimpArgs false

open Classical in
/-- Whether it holds, as a Bool. -/
noncomputable def dB (P : Prop) : Bool := decide P
open Classical in
theorem dB_yes {P : Prop} (h : P) : dB P = true := by unfold dB; exact decide_eq_true h
open Classical in
theorem dB_no {P : Prop} (h : ¬ P) : dB P = false := by unfold dB; exact decide_eq_false h
open Classical in
theorem dB_is {P : Prop} (h : dB P = true) : P := by
  unfold dB at h
  exact of_decide_eq_true h
open Classical in
theorem dB_not {P : Prop} (h : dB P = false) : ¬ P := by
  unfold dB at h
  exact of_decide_eq_false h
end Go.Proofs.Ytdkhdjickkcaiaa.Rl
