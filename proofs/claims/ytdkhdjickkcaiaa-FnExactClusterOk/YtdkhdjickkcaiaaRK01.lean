/-
  Plain facts on bytes and runes for chapter 1: which numbers are letters of a token, which are visible.
-/
import Derived.Laws.RangeAny
namespace Go.Proofs.Ytdkhdjickkcaiaa

theorem ret_bool {a b : Bool} (h : a = b) : Ending.returned (.bool a) = .returned (.bool b) := by rw [h]
end Go.Proofs.Ytdkhdjickkcaiaa
