/-
  Plain facts on chunks: a state that eats bytes, what all bytes of a text come to, and what a body is written as.
-/
import Derived.Laws.RangeAny
import Derived.Below
namespace Go.Proofs.YtdbeoloonoodkaaDoor
open Go.RowKit

def sumP (l : List ByteArray) : Nat := (l.map (·.size)).sum
theorem sumP_cons (p : ByteArray) (l : List ByteArray) : sumP (p :: l) = p.size + sumP l := by simp [sumP]
theorem sumP_snoc (p : ByteArray) (l : List ByteArray) : sumP (l ++ [p]) = sumP l + p.size := by simp [sumP]
end Go.Proofs.YtdbeoloonoodkaaDoor
