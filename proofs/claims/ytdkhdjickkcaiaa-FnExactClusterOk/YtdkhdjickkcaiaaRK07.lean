/-
  Rows of any elements: appended, and where the new row lies.
  The specification's Recent and Misses.
-/
import Derived.Test.YtdkhdjickkcaiaaRK04
import Derived.Maps.AppendAt
import Derived.Test.YtdkhdjickkcaiaaRK06
namespace Go.Proofs.Ytdkhdjickkcaiaa
open Go.RowKit
set_option linter.unusedVariables false

/-- Texts, numbers, flags. -/
def txtE : Enc ByteArray where
  k := 1
  pos := by decide
  c := fun x => [.string x]
  len := fun _ => rfl
  one := fun x u hu => by simp at hu; subst hu; rfl
end Go.Proofs.Ytdkhdjickkcaiaa
namespace Go.Proofs.Ytdkhdjickkcaiaa
open Go.RowKit Go.Sort Rom
set_option linter.unusedVariables false
set_option linter.unusedSimpArgs false

def inM (n lo hi : Int) : Bool := decide (lo ≤ n ∧ n ≤ hi)
theorem inRm (n lo hi : Int) (w : World) : Calls Try.prog 24 #[.int .i64 n, .int .i64 lo, .int .i64 hi] w fun e w' => e = .returned (.bool (inM n lo hi)) ∧ w = w' := by
  unfold inM
  by_cases h1 : lo ≤ n
  · by_cases h2 : n ≤ hi
    · have e : decide (lo ≤ n ∧ n ≤ hi) = true := decide_eq_true ⟨h1, h2⟩
      rw [e]
      go_enter Try.func24, Try.ntmps24
      go_wp2
      go_ret
      exact ⟨rfl, rfl⟩
    · have e : decide (lo ≤ n ∧ n ≤ hi) = false := decide_eq_false fun h => h2 h.2
      rw [e]
      go_enter Try.func24, Try.ntmps24
      go_wp2
      go_ret
      exact ⟨rfl, rfl⟩
  · have e : decide (lo ≤ n ∧ n ≤ hi) = false := decide_eq_false fun h => h1 h.1
    rw [e]
    go_enter Try.func24, Try.ntmps24
    go_wp2
    go_ret
    exact ⟨rfl, rfl⟩
end Go.Proofs.Ytdkhdjickkcaiaa
