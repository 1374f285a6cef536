/-
  The specification's Ranked and Owner.
-/
import Derived.Test.YtdoolnaekmffbaaOwB
import Derived.Test.YtdoolnaekmffbaaRomD
namespace Go.Proofs.Ytdoolnaekmffbaa
open Go.RowKit Go.Sort Ow
theorem wgV_in (key : ByteArray) (s : Int) : -1 ≤ wgV key s ∧ wgV key s < 2147483647 := by
  unfold wgV
  split
  · have := hshL_lt (Lib.decDigits s.toNat ++ 58 :: key.data.toList)
    unfold wgN
    omega
  · omega
theorem belDrew {B : Nat} {w w' : World} (h : Below B w w') : Below B w w'.drew := ⟨h.os, h.tape, h.output, h.size, h.block⟩
end Go.Proofs.Ytdoolnaekmffbaa
