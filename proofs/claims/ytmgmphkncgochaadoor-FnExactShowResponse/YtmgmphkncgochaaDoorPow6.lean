/-
  What the listed table of powers of ten gives to the walks.
-/
import Derived.Test.YtmgmphkncgochaaDoorMqB
import Derived.ProofKit
import Derived.Lib.LaidU8
import Derived.MakeChecks
namespace Go.Proofs.YtmgmphkncgochaaDoor
open Go

theorem gPowType : (Tryd.prog.globals[0]?).map (·.type) = some 94 := by kernel_rfl
theorem underPA : Tryd.prog.underlying 94 = some (.array 20 80) := by kernel_rfl
theorem underPU : Tryd.prog.underlying 80 = some (.int .u64) := by kernel_rfl
theorem cellsPA : Tryd.prog.cellsOf 94 = 20 := by kernel_rfl
theorem cellsPU : Tryd.prog.cellsOf 80 = 1 := by kernel_rfl
theorem pow_is : (Rows.laid_internal_strconv_uint64pow10 : DataW Unit) = Lib.tabData .u64 Lib.pow10Tab := rfl
theorem pow_reads {W : World} (h : Lib.VarReads Tryd.prog W "internal/strconv.uint64pow10" Rows.laid_internal_strconv_uint64pow10) : Tab W := by
  obtain ⟨g, t, cs, fuel, p, hg, ht, hv, hd⟩ := h
  obtain rfl := Option.some.inj (gPow.symm.trans hg)
  obtain rfl := Option.some.inj (gPowType.symm.trans ht)
  rw [pow_is] at hd
  unfold Tab Lib.TabIs
  rw [hv, ← Lib.cells_of_tab underPA underPU cellsPU cellsPA hd]
end Go.Proofs.YtmgmphkncgochaaDoor
