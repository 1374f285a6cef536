/-
  What the listed variables give to the walk of FnExactRecords, and a world in which they lie so.
-/
import Derived.Test.YtemmgfnepdgpbaaGreatDoorJ24
import Derived.Test.YtemmgfnepdgpbaaGreatDoorJ19
import Derived.RowKit
import Derived.RowKitTokens
import Derived.LaidLaws
import Derived.LaidHandle
import Derived.LaidSub
import Derived.Stop.LaidErr
import Derived.Stop.Joined
import Derived.Lay
namespace Go.Proofs.YtemmgfnepdgpbaaGreatDoor
open Go Go.RowKit Go.ChangeShapes Go.WideShapes Go.ChangeAt Go.Extern.Stop Go.Stop Go.Extern

theorem gNo : Tryz.prog.globalNamed "loop.example/g00207/impl.errNoRecord" = some 0 := by kernel_rfl
theorem gNoT : (Tryz.prog.globals[0]?).map (·.type) = some 74 := by kernel_rfl
theorem gTy : Tryz.prog.globalNamed "errors.errorType" = some 1 := by kernel_rfl
theorem cellsEST : Tryz.prog.cellsOf 235 = 1 := by kernel_rfl
theorem cellsStr : Tryz.prog.cellsOf 9 = 1 := by kernel_rfl
theorem starE : "*" ++ "errors.errorString" = "*errors.errorString" := by decide
theorem rowESP (u : TypeId) (h : Tryz.prog.typeName? 3 u = some "*errors.errorString") : u = 216 :=
  typeName_ptr_named (nm := "errors.errorString") (by rw [starE]; kernel_rfl) (by kernel_rfl) (by decide) u (by rw [starE]; exact h)
theorem rtIs : (Tryz.prog.cutTypes.find? (·.1 == "internal/reflectlite.rtype")).map (·.2) = some 158 := by kernel_rfl
theorem oneErr : ((List.range 246).filter fun t => Tryz.prog.rowNamed t [101, 114, 114, 111, 114]) = [74] := by kernel_rfl
theorem manyT : Tryz.prog.types.size = 246 := by kernel_rfl
abbrev lmR : List (String × DataW Unit) := Rows.fnExactRecordsRow.laid
abbrev lmP : List (String × DataW Unit) := [("math/bits.deBruijn32tab", Rows.laid_math_bits_deBruijn32tab), ("math/bits.deBruijn64tab", Rows.laid_math_bits_deBruijn64tab), ("internal/strconv.uint64pow10", Rows.laid_internal_strconv_uint64pow10), ("unicode/utf8.acceptRanges", Rows.laid_unicode_utf8_acceptRanges), ("loop.example/g00207/impl.errNoRecord", Rows.laid_loop_example_g00207_impl_errNoRecord), ("unicode/utf8.first", Rows.laid_unicode_utf8_first)]
theorem lmR_plain : (lmR.filter fun x => x.2.handleName?.isNone) = lmP := rfl
theorem lmR_hand : (lmR.filter fun x => x.2.handleName?.isSome) = [("errors.errorType", Rows.laid_errors_errorType)] := rfl
/-- What the condition gives: the table, the error that tells of no record, the type that errors.As asks for. -/
theorem records_laid {W : World} (h : laidMetH Tryz.prog lmR W) : TabS W ∧ (∃ a : Addr, W.var? Tryz.prog "loop.example/g00207/impl.errNoRecord" = some #[.iface 216 (.pointer (some a))]) ∧ W.cell? ⟨1, 0, none⟩ = some (.iface 158 (.agg #[.pointer (some ⟨8, 74, none⟩)])) := by
  obtain ⟨h1, h2⟩ := laidMetH_iff.1 h
  rw [lmR_plain] at h1
  rw [lmR_hand] at h2
  refine ⟨powS_reads (Lib.laidMet.reads h1 (.tail _ (.tail _ (.head _)))), ?_, ?_⟩
  · obtain ⟨a0, sa, hva, _⟩ := laid_sentinel h1.tail.tail.tail.tail gNo gNoT Tryz.underlying74 rowESP Tryz.underlying216 Tryz.underlying235 rfl rfl Tryz.underlying9 cellsEST cellsStr
    exact ⟨a0, hva⟩
  · obtain ⟨name, u, ty, e1, e2, e3, e4, e5⟩ := h2 _ (List.mem_singleton.2 rfl)
    have en : name = [101, 114, 114, 111, 114] := (Option.some.inj e1).symm
    subst en
    obtain rfl := Option.some.inj (rtIs.symm.trans e2)
    have hm : ty ∈ (List.range 246).filter fun t => Tryz.prog.rowNamed t [101, 114, 114, 111, 114] := List.mem_filter.2 ⟨List.mem_range.2 (by rw [← manyT]; exact e3), e4⟩
    rw [oneErr] at hm
    obtain rfl := List.mem_singleton.1 hm
    have hh : typeHandle Tryz.prog 74 = .pointer (some ⟨8, 74, none⟩) := by kernel_rfl
    rw [hh] at e5
    simpa using World.var?_cell gTy e5 0
end Go.Proofs.YtemmgfnepdgpbaaGreatDoor
