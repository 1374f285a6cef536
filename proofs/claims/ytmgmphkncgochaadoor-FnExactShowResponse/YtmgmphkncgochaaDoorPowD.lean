/-
  The table of powers of ten, out of what the rows list.
-/
import Derived.Test.YtmgmphkncgochaaDoorPow6
namespace Go.Proofs.YtmgmphkncgochaaDoor
open Go
theorem showRq_laid {W : World} (h : laidMetH Tryd.prog Rows.fnExactShowRequestRow.laid W) : Tab W := by
  rw [MakeChecks.laidMetH_plain _ _ _ (by kernel_rfl)] at h
  exact pow_reads (Lib.laidMet.reads h (.tail _ (.tail _ (.head _))))
theorem showRs_laid {W : World} (h : laidMetH Tryd.prog Rows.fnExactShowResponseRow.laid W) : Tab W := by
  rw [MakeChecks.laidMetH_plain _ _ _ (by kernel_rfl)] at h
  exact pow_reads (Lib.laidMet.reads h (.tail _ (.tail _ (.head _))))
end Go.Proofs.YtmgmphkncgochaaDoor
