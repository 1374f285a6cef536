/-
  The contracts of TokenOk, the specification's and the program's: both answer whether the text is a token.
-/
import Derived.Test.YtkoikofaebfbjaaTok1
import Derived.Test.YtkoikofaebfbjaaPlain2
import Derived.Laws.RangeAny
namespace Go.Proofs.Ytkoikofaebfbjaa
open Go.RowKit

end Go.Proofs.Ytkoikofaebfbjaa
