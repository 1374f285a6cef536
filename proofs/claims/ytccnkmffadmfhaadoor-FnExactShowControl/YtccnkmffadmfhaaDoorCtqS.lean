/-
  What the listed table of powers of ten gives to the walks of control.
-/
import Derived.Test.YtccnkmffadmfhaaDoorCtqT
import Derived.ProofKit
import Derived.Lib.LaidU8
import Derived.MakeChecks
namespace Go.Proofs.YtccnkmffadmfhaaDoor
open Go

theorem gPowTypeS : (Tryd.prog.globals[1]?).map (·.type) = some 97 := by kernel_rfl
theorem underPAS : Tryd.prog.underlying 97 = some (.array 20 77) := by kernel_rfl
theorem underPUS : Tryd.prog.underlying 77 = some (.int .u64) := by kernel_rfl
theorem cellsPAS : Tryd.prog.cellsOf 97 = 20 := by kernel_rfl
theorem cellsPUS : Tryd.prog.cellsOf 77 = 1 := by kernel_rfl
theorem powS_is : (Rows.laid_internal_strconv_uint64pow10 : DataW Unit) = Lib.tabData .u64 Lib.pow10Tab := rfl
theorem powS_reads {W : World} (h : Lib.VarReads Tryd.prog W "internal/strconv.uint64pow10" Rows.laid_internal_strconv_uint64pow10) : TabS W := by
  obtain ⟨g, t, cs, fuel, p, hg, ht, hv, hd⟩ := h
  obtain rfl := Option.some.inj (gPowS.symm.trans hg)
  obtain rfl := Option.some.inj (gPowTypeS.symm.trans ht)
  rw [powS_is] at hd
  unfold TabS Lib.TabIs
  rw [hv, ← Lib.cells_of_tab underPAS underPUS cellsPUS cellsPAS hd]
theorem showControl_laid {W : World} (h : laidMetH Tryd.prog Rows.fnExactShowControlRow.laid W) : TabS W := by
  rw [MakeChecks.laidMetH_plain _ _ _ (by kernel_rfl)] at h
  exact powS_reads (Lib.laidMet.reads h (.tail _ (.tail _ (.head _))))
end Go.Proofs.YtccnkmffadmfhaaDoor
