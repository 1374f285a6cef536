/-
  The specification's logs; the laws' own helpers on purges.
-/
import Derived.Test.YtkoikofaebfbjaaPgL
import Derived.Test.YtkoikofaebfbjaaPgD0
import Derived.Test.YtkoikofaebfbjaaTxs
namespace Go.Proofs.Ytkoikofaebfbjaa
open Go.RowKit Pg
set_option linter.unusedVariables false
set_option linter.unusedSimpArgs false

end Go.Proofs.Ytkoikofaebfbjaa
