/-
  Plain facts of sketches: numbers in a rising list, marks, what is marked, both.
-/
import Derived.Lib.SmallJoins
import Derived.Lib.ItoaNum
namespace Go.Proofs.Ytdkhdjickkcaiaa.Sk

set_option linter.unusedVariables false

/-- A number into a list that rises. -/
def put (n : Int) : List Int → List Int
  | [] => [n]
  | x :: t => if x < n then x :: put n t else if x = n then x :: t else n :: x :: t
end Go.Proofs.Ytdkhdjickkcaiaa.Sk
