/-
  The walks of FnExactRecord and FnExactRecords, given what the program's Record and Records answer in worlds of a kind.
  What the listed table of powers of ten gives to the walks of the store.
  What the listed variables give to the walks of FnExactShowObject and FnExactRecord.
-/
import Derived.Test.YtemmgfnepdgpbaaDoorR13
import Derived.Test.YtemmgfnepdgpbaaDoorR14
import Derived.Test.YtemmgfnepdgpbaaDoorR07
import Derived.ProofKit
import Derived.Lib.LaidU8
import Derived.MakeChecks
namespace Go.Proofs.YtemmgfnepdgpbaaDoor
open Go.RowKit Go.Sort St Ow
set_option linter.unusedVariables false
set_option linter.unusedSimpArgs false

theorem OwnsS.x {w : World} {B : Nat} {v : Value} {l : List ByteArray} (h : OwnsS w B v l) : OwnsX w B v l := by
  show w.ownsRow B 9 1 v l.length (cellsE txtE l)
  rw [cellsX_map]
  exact h.2
theorem walkRecX (X : World → Prop) (hX : ∀ w w', X w → Below w.heap.size w w' → X w') (hi : ∀ (s : ByteArray) (w : World), X w → s.size ≤ 1048576 → Calls Tryd.prog 11 #[.string s] w fun e w' => e = .returned (.string (rcdA s)) ∧ Below w.heap.size w w')
    (s : ByteArray) (w : World) (hs : s.size ≤ maxLen) (hx : X w) :
    Calls Tryd.prog 4 #[.string s] w fun e w' => e = .returned (.bool true) ∧ Below w.heap.size w w' := by
  unfold maxLen at hs
  by_cases hb : 1048576 < s.size
  · have hbi : 1048576 < (s.size : Int) := by omega
    go_enter Tryd.func4, Tryd.ntmps4
    go_wp2
    go_ret
    exact ⟨rfl, Below.refl _ _⟩
  · have hbi : ¬ 1048576 < (s.size : Int) := by omega
    have hsp := fun W => specRec s W (by omega)
    have him := fun W (hW : Below w.heap.size w W) => hi s W (hX _ _ hx hW) (by omega)
    generalize rcdA s = T at hsp him
    have dT : (T.toList != T.toList) = false := by simp
    clear hi hX hx
    go_enter Tryd.func4, Tryd.ntmps4
    go_wp2_with fail
    refine (hsp _).mono ?_
    rintro e w1 ⟨rfl, hb1⟩
    go_wp2_with fail
    refine (him _ hb1).mono ?_
    rintro e w2 ⟨rfl, hb2⟩
    have B2 : Hid (Below w.heap.size w w2) := (show Below _ _ _ from hb1.trans (hb2.mono hb1.size))
    clear hb1 hb2
    go_wp2
    go_ret
    exact ⟨rfl, B2.out⟩
end Go.Proofs.YtemmgfnepdgpbaaDoor
namespace Go.Proofs.YtemmgfnepdgpbaaDoor
open Go

theorem gPowTypeS : (Tryd.prog.globals[0]?).map (·.type) = some 95 := by kernel_rfl
theorem underPAS : Tryd.prog.underlying 95 = some (.array 20 82) := by kernel_rfl
theorem underPUS : Tryd.prog.underlying 82 = some (.int .u64) := by kernel_rfl
theorem cellsPAS : Tryd.prog.cellsOf 95 = 20 := by kernel_rfl
theorem cellsPUS : Tryd.prog.cellsOf 82 = 1 := by kernel_rfl
theorem powS_is : (Rows.laid_internal_strconv_uint64pow10 : DataW Unit) = Lib.tabData .u64 Lib.pow10Tab := rfl
theorem powS_reads {W : World} (h : Lib.VarReads Tryd.prog W "internal/strconv.uint64pow10" Rows.laid_internal_strconv_uint64pow10) : TabS W := by
  obtain ⟨g, t, cs, fuel, p, hg, ht, hv, hd⟩ := h
  obtain rfl := Option.some.inj (gPowS.symm.trans hg)
  obtain rfl := Option.some.inj (gPowTypeS.symm.trans ht)
  rw [powS_is] at hd
  unfold TabS Lib.TabIs
  rw [hv, ← Lib.cells_of_tab underPAS underPUS cellsPUS cellsPAS hd]
end Go.Proofs.YtemmgfnepdgpbaaDoor
namespace Go.Proofs.YtemmgfnepdgpbaaDoor
open Go

theorem record_laid {W : World} (h : laidMetH Tryd.prog Rows.fnExactRecordRow.laid W) : TabS W := by
  rw [MakeChecks.laidMetH_plain _ _ _ (by kernel_rfl)] at h
  exact powS_reads (Lib.laidMet.reads h (.tail _ (.tail _ (.head _))))
end Go.Proofs.YtemmgfnepdgpbaaDoor
