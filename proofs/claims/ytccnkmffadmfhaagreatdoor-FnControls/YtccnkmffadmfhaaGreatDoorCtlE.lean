/-
  The walk of the exact law of Tighter, given what the program's own answers.
-/
import Derived.Test.YtccnkmffadmfhaaGreatDoorCtlD
import Derived.Test.YtccnkmffadmfhaaGreatDoorQMk
namespace Go.Proofs.YtccnkmffadmfhaaGreatDoor
open Go.ChangeShapes Go.WideShapes Go.ChangeAt Go.RowKit Go.Joins Go.Deep Go.Sort
set_option linter.unusedVariables false
set_option linter.unusedSimpArgs false

theorem regr_below {w w' : World} (h : Regr w w') : Below w.heap.size w w' := by
  obtain ⟨p, rfl⟩ := h
  exact below_regrown w p.d p.os
end Go.Proofs.YtccnkmffadmfhaaGreatDoor
