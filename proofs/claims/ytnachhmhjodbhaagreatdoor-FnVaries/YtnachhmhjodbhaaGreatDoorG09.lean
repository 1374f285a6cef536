/-
  Plain facts on parts of a text between a byte, on paths without dots, and on what the library's Split and Join answer.
-/
import Derived.Test.YtnachhmhjodbhaaGreatDoorG08
import Derived.Lib.SplitLaws
import Derived.Lib.Join
namespace Go.Proofs.YtnachhmhjodbhaaGreatDoor
open Go.RowKit

/-- The parts: what was read of the one at hand, and what is still to be read. -/
def splF (d : UInt8) (cur : List UInt8) : List UInt8 → List (List UInt8)
  | [] => [cur]
  | c :: r => if c = d then cur :: splF d [] r else splF d (cur ++ [c]) r
def splL (d : UInt8) (l : List UInt8) : List (List UInt8) := splF d [] l
theorem splF_nil (d : UInt8) (cur : List UInt8) : splF d cur [] = [cur] := rfl
theorem splF_yes (d : UInt8) (cur r : List UInt8) : splF d cur (d :: r) = cur :: splF d [] r := by rw [splF, if_pos rfl]
/-- The bytes as a text. -/
def txt (l : List UInt8) : ByteArray := ⟨l.toArray⟩
theorem txt_data (l : List UInt8) : (txt l).data.toList = l := by simp [txt]
/-! ### Paths without dots -/
end Go.Proofs.YtnachhmhjodbhaaGreatDoor
