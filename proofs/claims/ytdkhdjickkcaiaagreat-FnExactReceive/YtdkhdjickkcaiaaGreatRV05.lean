/-
  Plain facts on a row of bytes that is turned byte by byte, on the bytes of a rune, and on capitals.
-/
import Derived.Test.YtdkhdjickkcaiaaGreatRVS
import Derived.Test.YtdkhdjickkcaiaaGreatRV04
import Derived.Laws.IdiomStrings
import Derived.Laws.NewBlocks
set_option linter.unusedVariables false
set_option linter.unusedSimpArgs false
set_option maxRecDepth 100000
set_option maxHeartbeats 64000000
namespace Go.Proofs.YtdkhdjickkcaiaaGreat
open Go.RowKit

def cur (f : UInt8 → UInt8) (l : List UInt8) (k : Nat) : List UInt8 := (l.take k).map f ++ l.drop k
end Go.Proofs.YtdkhdjickkcaiaaGreat
