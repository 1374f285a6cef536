/-
  Plain facts on a row of bytes that is turned byte by byte, on the bytes of a rune, and on capitals.
-/
import Derived.Laws.RangeAny
import Derived.Below
import Derived.Laws.IdiomStrings
import Derived.Laws.NewBlocks
namespace Go.Proofs.Ytdkhdjickkcaiaa
open Go.RowKit

/-- The first k bytes are turned, the others not yet. -/
def cur (f : UInt8 → UInt8) (l : List UInt8) (k : Nat) : List UInt8 := (l.take k).map f ++ l.drop k
end Go.Proofs.Ytdkhdjickkcaiaa
