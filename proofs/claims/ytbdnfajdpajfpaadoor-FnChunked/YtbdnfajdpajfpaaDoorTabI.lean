/-
  What the listed table of the library's package of bits gives to the walks: its fifteenth cell.
-/
import Derived.Test.YtbdnfajdpajfpaaDoorRows
import Derived.ProofKit
import Derived.Lib.LaidU8
import Derived.MakeChecks
namespace Go.Proofs.YtbdnfajdpajfpaaDoor
open Go

theorem gTab : Tryd.prog.globalNamed "math/bits.deBruijn64tab" = some 2 := by kernel_rfl
theorem gTabType : (Tryd.prog.globals[2]?).map (·.type) = some 85 := by kernel_rfl
theorem under90 : Tryd.prog.underlying 85 = some (.array 64 5) := by kernel_rfl
theorem cells90 : Tryd.prog.cellsOf 85 = 64 := by kernel_rfl
theorem cells5 : Tryd.prog.cellsOf 5 = 1 := by kernel_rfl
def tab64 : List Int := [0, 1, 56, 2, 57, 49, 28, 3, 61, 58, 42, 50, 38, 29, 17, 4, 62, 47, 59, 36, 45, 43, 51, 22, 53, 39, 33, 30, 24, 18, 12, 5, 63, 55, 48, 27, 60, 41, 37, 16, 46, 35, 44, 21, 52, 32, 23, 11, 54, 26, 40, 15, 34, 20, 31, 10, 25, 14, 19, 9, 13, 8, 7, 6]
theorem tab64_is : (Rows.laid_math_bits_deBruijn64tab : DataW Unit) = Lib.tabData .u8 tab64 := rfl

theorem tab_reads {W : World} (h : Lib.VarReads Tryd.prog W "math/bits.deBruijn64tab" Rows.laid_math_bits_deBruijn64tab) : W.cell? ⟨2, 15, none⟩ = some (.int .u8 4) ∧ 2 < W.heap.size := by
  obtain ⟨g, t, cs, fuel, p, hg, ht, hv, hd⟩ := h
  obtain rfl := Option.some.inj (gTab.symm.trans hg)
  obtain rfl := Option.some.inj (gTabType.symm.trans ht)
  rw [tab64_is] at hd
  have hc := Lib.cells_of_tab under90 Tryd.underlying5 cells5 cells90 hd
  have h1 := World.var?_cell hg hv 15
  have h2 : cs[15]? = some (.int .u8 4) := by
    have : cs.toList[15]? = some (.int .u8 4) := by rw [hc]; rfl
    simpa using this
  rw [h2] at h1
  exact ⟨h1, World.block_lt_of_cell? W ⟨2, 15, none⟩ h1⟩

theorem xch_laid {W : World} (h : laidMetH Tryd.prog Rows.fnExactChunkedRow.laid W) : W.cell? ⟨2, 15, none⟩ = some (.int .u8 4) ∧ 2 < W.heap.size := by
  rw [MakeChecks.laidMetH_plain _ _ _ (by kernel_rfl)] at h
  exact tab_reads (Lib.laidMet.reads h (.tail _ (.head _)))
theorem chk_laid {W : World} (h : laidMetH Tryd.prog Rows.fnChunkedRow.laid W) : W.cell? ⟨2, 15, none⟩ = some (.int .u8 4) ∧ 2 < W.heap.size := by
  rw [MakeChecks.laidMetH_plain _ _ _ (by kernel_rfl)] at h
  exact tab_reads (Lib.laidMet.reads h (.tail _ (.head _)))
end Go.Proofs.YtbdnfajdpajfpaaDoor
