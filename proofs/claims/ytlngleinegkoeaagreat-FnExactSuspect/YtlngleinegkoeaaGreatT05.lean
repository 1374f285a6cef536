/-
  Plain facts on a row of bytes that is turned byte by byte, on the bytes of a rune, and on capitals.
-/
import Derived.Test.YtlngleinegkoeaaGreatT04
import Derived.Laws.IdiomStrings
import Derived.Laws.NewBlocks
namespace Go.Proofs.YtlngleinegkoeaaGreat
open Go.RowKit

/-- The row of block B holds the bytes of l, none of them frozen. -/
def RowIs (w : World) (B : Nat) (l : List UInt8) : Prop := ∀ j (h : j < l.length), w.cell? ⟨B, j, none⟩ = some (.int .u8 (l[j].toNat : Int)) ∧ w.frozen? ⟨B, j, none⟩ = false

theorem RowIs.put {w : World} {B : Nat} {l : List UInt8} (h : RowIs w B l) {k : Nat} (hk : k < l.length) (v : UInt8) : RowIs (w.setCell ⟨B, k, none⟩ (.int .u8 (v.toNat : Int))) B (l.set k v) := by
  intro j hj
  have hl : j < l.length := by rw [List.length_set] at hj; exact hj
  refine ⟨?_, by rw [World.frozen?_setCell]; exact (h j hl).2⟩
  by_cases e : j = k
  · subst e
    rw [World.cell?_setCell_same _ _ _ (h j hl).1]
    simp
  · rw [World.cell?_setCell_other _ _ _ _ (by simp; omega), (h j hl).1]
    rw [List.getElem_set_ne (fun x => e x.symm)]

/-- The first k bytes are turned, the others not yet. -/
def cur (f : UInt8 → UInt8) (l : List UInt8) (k : Nat) : List UInt8 := (l.take k).map f ++ l.drop k
end Go.Proofs.YtlngleinegkoeaaGreat
