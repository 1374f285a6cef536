/-
  The library's FormatInt of any number, by its contract.
-/
import Derived.Test.YtccnkmffadmfhaaDoorCtlP
import Derived.Test.YtccnkmffadmfhaaDoorShelfG
import Derived.Lib.SmallJoins
import Derived.Lib.QuietBelow
import Derived.BigQuiet
namespace Go.Proofs.YtccnkmffadmfhaaDoor
open Go.RowKit Go.Sort
set_option linter.unusedVariables false

/-- The library's table of powers of ten lies as its text lays it. -/
def TabS (w : World) : Prop := Lib.TabIs Tryd.prog w "internal/strconv.uint64pow10" .u64 Lib.pow10Tab
theorem gPowS : Tryd.prog.globalNamed "internal/strconv.uint64pow10" = some 1 := by kernel_rfl
theorem TabS.low {w w' : World} (h : TabS w) (hb : Below w.heap.size w w') : TabS w' := Go.Joins.tab_stays gPowS h hb (Nat.le_refl _)
theorem low_grow8 (w : World) (k : Nat) (os : Array Obj) : Below w.heap.size w (grow (w.drewN k) os) :=
  ⟨rfl, rfl, rfl, by simp [grow], fun j hj => by simp only [grow]; exact Array.getElem?_append_left hj⟩
theorem fmtS (n : Nat) (hn : n ≤ 9223372036854775807) (w : World) (ht : TabS w) :
    Calls Tryd.prog 41 #[.int .i64 n, .int .i64 10] w fun e w' => e = .returned (.string (itoS n)) ∧ Below w.heap.size w w' := by
  have e : (⟨(Lib.itoa (n : Int)).toArray⟩ : ByteArray) = itoS n := by unfold Lib.itoa itoS; rw [if_neg (by omega), Int.toNat_natCast]
  rw [← e]
  exact (Tryd.formatInt n (by omega) (by omega) w ht).mono fun e w' ⟨h1, k, os, h2⟩ => ⟨h1, by rw [h2]; exact low_grow8 w k os⟩
end Go.Proofs.YtccnkmffadmfhaaDoor
