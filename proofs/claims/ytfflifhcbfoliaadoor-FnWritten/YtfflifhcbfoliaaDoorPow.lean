/-
  What the listed table of powers of ten gives to the walks.
-/
import Derived.Test.YtfflifhcbfoliaaDoorSho
import Derived.ProofKit
import Derived.Lib.LaidU8
import Derived.MakeChecks
namespace Go.Proofs.YtfflifhcbfoliaaDoor
open Go

theorem gPowType : (Tryd.prog.globals[0]?).map (·.type) = some 72 := by kernel_rfl
theorem under72 : Tryd.prog.underlying 72 = some (.array 20 62) := by kernel_rfl
theorem under62 : Tryd.prog.underlying 62 = some (.int .u64) := by kernel_rfl
theorem cells72 : Tryd.prog.cellsOf 72 = 20 := by kernel_rfl
theorem cells62 : Tryd.prog.cellsOf 62 = 1 := by kernel_rfl
theorem pow_is : (Rows.laid_internal_strconv_uint64pow10 : DataW Unit) = Lib.tabData .u64 Lib.pow10Tab := rfl
theorem pow_reads {W : World} (h : Lib.VarReads Tryd.prog W "internal/strconv.uint64pow10" Rows.laid_internal_strconv_uint64pow10) : Tab W := by
  obtain ⟨g, t, cs, fuel, p, hg, ht, hv, hd⟩ := h
  obtain rfl := Option.some.inj (gPow.symm.trans hg)
  obtain rfl := Option.some.inj (gPowType.symm.trans ht)
  rw [pow_is] at hd
  unfold Tab Lib.TabIs
  rw [hv, ← Lib.cells_of_tab under72 under62 cells62 cells72 hd]
theorem show_laid {W : World} (h : laidMetH Tryd.prog Rows.fnExactShowDateRow.laid W) : Tab W := by
  rw [MakeChecks.laidMetH_plain _ _ _ (by kernel_rfl)] at h
  exact pow_reads (Lib.laidMet.reads h (.tail _ (.tail _ (.head _))))
theorem read_laid {W : World} (h : laidMetH Tryd.prog Rows.fnExactReadDateRow.laid W) : Tab W := by
  rw [MakeChecks.laidMetH_plain _ _ _ (by kernel_rfl)] at h
  exact pow_reads (Lib.laidMet.reads h (.tail _ (.tail _ (.head _))))
theorem written_laid {W : World} (h : laidMetH Tryd.prog Rows.fnWrittenRow.laid W) : Tab W := by
  rw [MakeChecks.laidMetH_plain _ _ _ (by kernel_rfl)] at h
  exact pow_reads (Lib.laidMet.reads h (.tail _ (.tail _ (.head _))))
end Go.Proofs.YtfflifhcbfoliaaDoor
