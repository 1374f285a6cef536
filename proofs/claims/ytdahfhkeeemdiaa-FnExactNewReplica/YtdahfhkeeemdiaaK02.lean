/-
  Plain facts on lists of bytes: all bytes of a list are letters of a token; the first k + 1 bytes are the first k and the next.
-/
import Derived.Laws.RangeAny
import Derived.Below
namespace Go.Proofs.Ytdahfhkeeemdiaa
open Go.RowKit

theorem take_snoc (s : ByteArray) (k : Nat) (h : k < s.size) : s.data.toList.take (k + 1) = s.data.toList.take k ++ [s[k]] := by
  rw [List.take_succ_eq_append_getElem (by simpa using h)]; rfl
/-- Every byte of the list is so. -/
def allB (p : Int → Bool) (l : List UInt8) : Bool := l.all fun c => p (c.toNat : Int)
end Go.Proofs.Ytdahfhkeeemdiaa
