/-
  Fields in memory: slices of fields that are read, and slices of fields that a call owns.
  The contracts of Trimmed, the specification's and the program's: both answer the text without the blanks at its ends.
  Plain facts on items: the parts of a text between commas at which none is open, each trimmed, none empty; and slices of texts that a call owns.
-/
import Derived.Test.YtdkhdjickkcaiaaRN02
import Derived.WalkKit
import Derived.WalkSpells
import Derived.Deep.QuietTactic
import Derived.BigQuiet
import Derived.Test.YtdkhdjickkcaiaaRows
import Derived.Lib.SlTrimSet
import Derived.Laws.Strings
import Derived.Laws.RangeAny
import Derived.Below
namespace Go.Proofs.Ytdkhdjickkcaiaa
open Go.RowKit

/-- A field: its name and its value. -/
abbrev Fl := ByteArray × ByteArray
/-! ### Slices of fields that a call owns -/
/-! ### How large -/
end Go.Proofs.Ytdkhdjickkcaiaa
namespace Go.Proofs.Ytdkhdjickkcaiaa
open Go.RowKit

/-- A blank or a tab. -/
def blank (c : UInt8) : Bool := [32, 9].contains c
def ltr (l : List UInt8) : List UInt8 := l.dropWhile blank
def rtr (l : List UInt8) : List UInt8 := (l.reverse.dropWhile blank).reverse
/-- The text without blanks at its ends. -/
def trimB (s : ByteArray) : ByteArray := ⟨(rtr (ltr s.data.toList)).toArray⟩
end Go.Proofs.Ytdkhdjickkcaiaa
namespace Go.Proofs.Ytdkhdjickkcaiaa
open Go.RowKit

/-- The trimmed part, where it is not empty. -/
def one (x : ByteArray) : List ByteArray := if 0 < (trimB x).size then [trimB x] else []
/-! ### Slices of texts that a call owns -/
end Go.Proofs.Ytdkhdjickkcaiaa
