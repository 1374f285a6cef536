/-
  Plain facts on digits: the value of a digit, the number that a list of digits is, and how great it is.
-/
import Derived.Test.YtdkhdjickkcaiaaGreatRVS
import Derived.Test.YtdkhdjickkcaiaaGreatRV04
set_option linter.unusedVariables false
set_option linter.unusedSimpArgs false
set_option maxRecDepth 100000
set_option maxHeartbeats 64000000
namespace Go.Proofs.YtdkhdjickkcaiaaGreat
open Go.RowKit

def digV (r : Int) : Int := if 48 ≤ r ∧ r ≤ 57 then r - 48 else if 97 ≤ r ∧ r ≤ 102 then r - 97 + 10 else if 65 ≤ r ∧ r ≤ 70 then r - 65 + 10 else -1
def digN (b : Int) (r : Int) : Bool := decide (0 ≤ digV r ∧ digV r < b)
def numL (b : Int) (l : List UInt8) : Int := l.foldl (fun n c => n * b + digV (c.toNat : Int)) 0
def numOk (b : Int) (m : Nat) (s : ByteArray) : Bool := decide (1 ≤ s.size ∧ s.size ≤ m) && allB (digN b) s.data.toList
def numV (b : Int) (m : Nat) (s : ByteArray) : Int := if numOk b m s = true then numL b s.data.toList else 0
end Go.Proofs.YtdkhdjickkcaiaaGreat
