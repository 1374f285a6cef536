/-
  Plain facts on messages: which are right, where one ends, what it is shown as, what is read.
  Objects as plain data: what is a right one.
  Purges as plain data: what is right, what is shown and read, what one hits, what a log bars.
-/
import Derived.Test.YtdahfhkeeemdiaaK04
import Derived.Test.YtdahfhkeeemdiaaK05
import Derived.Test.YtdahfhkeeemdiaaRows
import Derived.Test.YtdahfhkeeemdiaaK03
import Derived.WalkKit
import Derived.WalkSpells
import Derived.Test.YtdahfhkeeemdiaaK02
import Derived.Laws.RangeAny
namespace Go.Proofs.Ytdahfhkeeemdiaa
open Go.RowKit

/-! ### Decimal digits -/
/-! ### What is right -/
/-- A request. -/
structure Rq where
  m : ByteArray
  t : ByteArray
  l : List Fl
  b : ByteArray
/-- A response. -/
structure Rs where
  s : Int
  l : List Fl
  b : ByteArray
/-! ### Where it ends -/
/-! ### What it is shown as -/
/-! ### What is read -/
end Go.Proofs.Ytdahfhkeeemdiaa
namespace Go.Proofs.Ytdahfhkeeemdiaa
open Go.RowKit
set_option linter.unusedVariables false

structure Ob where
  k : ByteArray
  l : List Fl
  r : Rs
  asked : Int
  got : Int
  ep : Int
def keyN (n : Int) : Bool := decide (33 ≤ n ∧ n ≤ 126)
end Go.Proofs.Ytdahfhkeeemdiaa
namespace Go.Proofs.Ytdahfhkeeemdiaa.Pg
open Go.RowKit
set_option linter.unusedVariables false

def kyW : ByteArray := ⟨#[107, 101, 121, 32]⟩
def tgW : ByteArray := ⟨#[116, 97, 103, 32]⟩
def bgW : ByteArray := ⟨#[98, 101, 103, 105, 110, 32]⟩
def alW : ByteArray := ⟨#[97, 108, 108]⟩
def txOk (s : ByteArray) : Bool := decide (1 ≤ s.size ∧ s.size ≤ 200) && allB keyN s.data.toList
def pgOk (k : Int) (s : ByteArray) : Bool := if k = 4 then decide (s.size = 0) else decide (1 ≤ k ∧ k ≤ 3) && txOk s
def wrd (k : Int) : ByteArray := if k = 1 then kyW else if k = 2 then tgW else bgW
def shoP (k : Int) (s : ByteArray) : ByteArray := if k = 4 then alW else wrd k ++ s
def shwP (k : Int) (s : ByteArray) : ByteArray := if pgOk k s = true then shoP k s else ⟨#[]⟩
/-- The text begins with the word, and more stands behind it. -/
def preB (p s : ByteArray) : Bool := decide (p.size < s.size) && decide (s.extract 0 p.size = p)
def rdP (s : ByteArray) : Int × ByteArray :=
  if preB bgW s = true then (3, s.extract 6 s.size) else if preB tgW s = true then (2, s.extract 4 s.size) else if preB kyW s = true then (1, s.extract 4 s.size) else (4, ⟨#[]⟩)
def rdB (s : ByteArray) : Bool := decide (shwP (rdP s).1 (rdP s).2 = s)
def logB (L : List ByteArray) : Bool := decide (L.length ≤ 60) && L.all rdB
end Go.Proofs.Ytdahfhkeeemdiaa.Pg
