/-
  Plain facts on bytes and runes for chapter 1: which numbers are letters of a token, which are visible.
-/
import Derived.Test.YtdkhdjickkcaiaaGreatRVS
import Derived.Laws.RangeAny
set_option linter.unusedVariables false
set_option linter.unusedSimpArgs false
set_option maxRecDepth 100000
set_option maxHeartbeats 64000000
namespace Go.Proofs.YtdkhdjickkcaiaaGreat

theorem ret_bool {a b : Bool} (h : a = b) : Ending.returned (.bool a) = .returned (.bool b) := by rw [h]
end Go.Proofs.YtdkhdjickkcaiaaGreat
