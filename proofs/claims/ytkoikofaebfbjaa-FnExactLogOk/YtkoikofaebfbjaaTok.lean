/-
  The contracts of the functions that tell a token.
-/
import Derived.Test.YtkoikofaebfbjaaRows
import Derived.Test.YtkoikofaebfbjaaPlain
import Derived.WalkKit
import Derived.WalkSpells
namespace Go.Proofs.Ytkoikofaebfbjaa
open Go.RowKit

end Go.Proofs.Ytkoikofaebfbjaa
