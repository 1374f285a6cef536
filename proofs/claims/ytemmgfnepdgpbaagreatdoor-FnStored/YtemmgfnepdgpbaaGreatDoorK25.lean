/-
  Plain facts of owners: hashes, weights, ranks, who owns a key, what moves when one goes.
-/
import Derived.Lib.SmallJoins
import Derived.Lib.ItoaNum
namespace Go.Proofs.YtemmgfnepdgpbaaGreatDoor.Ow
set_option linter.unusedVariables false

def hshN (h : Nat) (b : UInt8) : Nat := (h * 16777619 + b.toNat + 1) % 2147483647
def hshL (l : List UInt8) : Nat := l.foldl hshN 9
end Go.Proofs.YtemmgfnepdgpbaaGreatDoor.Ow
