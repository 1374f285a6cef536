/-
  Some bytes appended to a row that a call owns, as one step of a region that draws.
  Fields in memory: slices of fields that are read, and slices of fields that a call owns.
  The contracts of Trimmed, the specification's and the program's: both answer the text without the blanks at its ends.
  Plain facts on items: the parts of a text between commas at which none is open, each trimmed, none empty; and slices of texts that a call owns.
  The contract of the specification's test of one letter of a token.
-/
import Derived.Test.YtdkhdjickkcaiaaGreatRVS
import Derived.Test.YtdkhdjickkcaiaaGreatRows
import Derived.Test.YtdkhdjickkcaiaaGreatRV05
import Derived.WalkKit
import Derived.WalkSpells
import Derived.Lib.OthersKept
import Derived.Deep.RegionLaw
import Derived.Deep.QuietTactic
import Derived.BigQuiet
import Derived.Lib.SlTrimSet
import Derived.Laws.Strings
import Derived.Test.YtdkhdjickkcaiaaGreatRV04
import Derived.Test.YtdkhdjickkcaiaaGreatRV03
import Derived.Lib.SlBytesConst
set_option linter.unusedVariables false
set_option linter.unusedSimpArgs false
set_option maxRecDepth 100000
set_option maxHeartbeats 64000000
namespace Go.Proofs.YtdkhdjickkcaiaaGreat
open Go.RowKit

theorem addr_add (g o j : Nat) : (⟨g, o, none⟩ : Addr).add j = ⟨g, o + j, none⟩ := by
 unfold Addr.add
 by_cases e : j = 0
 ·
  subst e; simp
 ·
  simp [e]
open Go.RowKit

abbrev Fl := ByteArray × ByteArray
/-! ### Slices of fields that a call owns -/
open Go.RowKit

def blank (c : UInt8) : Bool := [32, 9].contains c
def ltr (l : List UInt8) : List UInt8 := l.dropWhile blank
def rtr (l : List UInt8) : List UInt8 := (l.reverse.dropWhile blank).reverse
def trimB (s : ByteArray) : ByteArray := ⟨(rtr (ltr s.data.toList)).toArray⟩
open Go.RowKit

def one (x : ByteArray) : List ByteArray := if 0 < (trimB x).size then [trimB x] else []
/-! ### Slices of texts that a call owns -/
open Go.RowKit

def marks : List Int := [33, 35, 36, 37, 38, 39, 42, 43, 45, 46, 94, 95, 124, 126, 96]

end Go.Proofs.YtdkhdjickkcaiaaGreat
