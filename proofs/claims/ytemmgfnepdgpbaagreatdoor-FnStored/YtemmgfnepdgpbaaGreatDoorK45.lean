/-
  What the listed variables give to the walk of FnStored.
-/
import Derived.Test.YtemmgfnepdgpbaaGreatDoorK44
namespace Go.Proofs.YtemmgfnepdgpbaaGreatDoor
open Go

theorem stored_laid {W : World} (h : laidMetH Tryz.prog Rows.fnStoredRow.laid W) : TabS W := by
  rw [MakeChecks.laidMetH_plain _ _ _ (by kernel_rfl)] at h
  exact powS_reads (Lib.laidMet.reads h (.tail _ (.tail _ (.head _))))
end Go.Proofs.YtemmgfnepdgpbaaGreatDoor
