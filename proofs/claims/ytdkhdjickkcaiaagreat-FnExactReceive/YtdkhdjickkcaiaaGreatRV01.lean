/-
  Plain facts of owners: hashes, weights, ranks, who owns a key, what moves when one goes.
-/
import Derived.Test.YtdkhdjickkcaiaaGreatRVS
import Derived.Lib.SmallJoins
import Derived.Lib.ItoaNum
set_option linter.unusedVariables false
set_option linter.unusedSimpArgs false
set_option maxRecDepth 100000
set_option maxHeartbeats 64000000
namespace Go.Proofs.YtdkhdjickkcaiaaGreat.Ow

theorem risen {l : List Int} (h : ∀ (i : Nat) (hi : i < l.length), 0 < i → l[i - 1] < l[i]) : l.Pairwise (· < ·) := by
 rw [List.pairwise_iff_getElem]
 intro i j hi hj hij
 induction j with
 | zero => omega
 | succ j ih =>
  have h1 := h (j + 1) hj (by omega)
  simp only [Nat.add_sub_cancel] at h1
  by_cases e : i = j
  ·
   subst e; exact h1
  ·
   exact Int.lt_trans (ih (by omega) (by omega)) h1
end Go.Proofs.YtdkhdjickkcaiaaGreat.Ow
