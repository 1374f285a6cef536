/-
  The walk of the exact law of ReadControl, given what the program's own answers (X: what the program's function asks of the world).
-/
import Derived.Test.YtccnkmffadmfhaaGreatDoorCtlD
import Derived.Test.YtccnkmffadmfhaaGreatDoorCtlJ
import Derived.Test.YtccnkmffadmfhaaGreatDoorItmZ
namespace Go.Proofs.YtccnkmffadmfhaaGreatDoor
open Go.ChangeShapes Go.WideShapes Go.ChangeAt Go.RowKit Go.Joins Go.Deep Go.Sort
end Go.Proofs.YtccnkmffadmfhaaGreatDoor
