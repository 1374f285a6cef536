/-
  Plain facts of room: what the best way of dropping misses (Belady), what is recent of less room and of more (Mattson).
-/
import Derived.Test.YtdkhdjickkcaiaaGreatRVS
import Derived.Lib.SmallJoins
set_option linter.unusedVariables false
set_option linter.unusedSimpArgs false
set_option maxRecDepth 100000
set_option maxHeartbeats 64000000
namespace Go.Proofs.YtdkhdjickkcaiaaGreat.Rom
theorem idx_ne {x a : Int} (ts : List Int) (h : x ≠ a) : (x :: ts).idxOf a = ts.idxOf a + 1 := by
 rw [List.idxOf_cons]
 have : (x == a) = false := by simpa using h
 rw [this]
 rfl
/-! ### The least over a row -/
/-! ### The least misses of any way of dropping -/
/-! ### The one that is used the longest ago goes -/
/-! ### Mattson -/
end Go.Proofs.YtdkhdjickkcaiaaGreat.Rom
