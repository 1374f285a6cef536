/-
  The contract of the specification's test of one letter of a token.
  Replicas as plain data: what is right, what is counted, asked for, told, received; and what stays true of it.
  The contracts of the law's own helpers on fields: how large, turned into the program's, compared.
-/
import Derived.Test.YtdkhdjickkcaiaaRows
import Derived.Laws.RangeAny
import Derived.WalkKit
import Derived.WalkSpells
import Derived.Lib.SlBytesConst
import Derived.Test.YtdkhdjickkcaiaaRN05
import Derived.Test.YtdkhdjickkcaiaaRN06
import Derived.Test.YtdkhdjickkcaiaaRN01
import Derived.Below
import Derived.Test.YtdkhdjickkcaiaaRN02
import Derived.Laws.OwnMore
namespace Go.Proofs.Ytdkhdjickkcaiaa
open Go.RowKit

/-- The marks that a token may have beside letters and digits. -/
def marks : List Int := [33, 35, 36, 37, 38, 39, 42, 43, 45, 46, 94, 95, 124, 126, 96]

end Go.Proofs.Ytdkhdjickkcaiaa
namespace Go.Proofs.Ytdkhdjickkcaiaa.Rl

set_option linter.unusedVariables false
set_option linter.unusedSimpArgs false

structure Ms where
  k : Int
  f : Int
  t : Int
  v : Int
  la : Int
  l : List ByteArray
  c : Int
structure Rp where
  id : Int
  p : Int
  v : Int
  n : Bool
  la : Int
  l : List ByteArray
  c : Int
  ok : List Int
  ch : List Int
  te : List Ms
def noRp : Rp := ⟨0, 0, 0, false, 0, [], 0, [], [], []⟩

/-! ### What is right -/
def maj (n : Nat) (p : Int) : Prop := p < 2 * (n : Int)
def mine (r : Rp) : Prop := r.v % r.p = r.id
def leads (r : Rp) : Prop := r.n = true ∧ mine r
/-! ### What is counted -/
def cntF (ok : List Int) (n : Int) : Nat := (ok.filter fun x => decide (n ≤ x)).length
open Classical in
/-- The greatest number up to n that a majority has reached, if it is more than c. -/
noncomputable def cmF (ok : List Int) (p c : Int) : Nat → Int
  | 0 => c
  | n + 1 => if c < ((n + 1 : Nat) : Int) ∧ maj (cntF ok ((n + 1 : Nat) : Int)) p then ((n + 1 : Nat) : Int) else cmF ok p c n
noncomputable def cntd (r : Rp) : Rp := { r with ok := r.ok.set r.id.toNat (r.l.length : Int), c := cmF (r.ok.set r.id.toNat (r.l.length : Int)) r.p r.c r.l.length }
/-! ### What is sent -/
end Go.Proofs.Ytdkhdjickkcaiaa.Rl
namespace Go.Proofs.Ytdkhdjickkcaiaa
open Go.RowKit Go.Sort

/-- Turned so far: the first k, and behind them empty ones. -/
def turned (l : List Fl) (k : Nat) : List Fl := l.take k ++ List.replicate (l.length - k) (⟨#[]⟩, ⟨#[]⟩)
end Go.Proofs.Ytdkhdjickkcaiaa
