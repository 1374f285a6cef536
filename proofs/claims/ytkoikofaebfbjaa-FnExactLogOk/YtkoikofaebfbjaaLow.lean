/-
  The contracts of Lower, the specification's and the program's: both answer the text with each capital made small.
-/
import Derived.Test.YtkoikofaebfbjaaRows
import Derived.Test.YtkoikofaebfbjaaPlain4
import Derived.WalkKit
import Derived.WalkSpells
namespace Go.Proofs.Ytkoikofaebfbjaa
open Go.RowKit

theorem len_data (s : ByteArray) : s.data.toList.length = s.size := by simp

/-- The text with each capital made small. -/
def lowS (s : ByteArray) : ByteArray := ⟨(s.data.toList.map lowB).toArray⟩

theorem addr_at (B j : Nat) : (⟨B, 0, none⟩ : Addr).add j = ⟨B, j, none⟩ := by
  cases j with
  | zero => rfl
  | succ j => simp [Addr.add]
theorem iterPos_put (A : World) (a : Addr) (v : Value) (k : Nat) (h : k ≠ a.block) : (A.setCell a v).iterPos k = A.iterPos k := by
  unfold World.iterPos; rw [Below.heap_setCell _ _ _ _ h]
theorem back_low (s : ByteArray) (k : Nat) (hk : ¬ k < s.size) (wr : World) (B cap : Nat) (h : RowIs wr B (cur lowB s.data.toList k)) :
    (convert 48 9 (.slice (some ⟨B, 0, none⟩) s.size cap)).run Try.prog wr = .ok (.string (lowS s)) wr := by
  rw [cur_all lowB _ k (by rw [len_data]; exact hk)] at h
  have hl : (s.data.toList.map lowB).length = s.size := by rw [List.length_map, len_data]
  have := run_convert_bytes_back (P := Try.prog) wr 48 9 5 ⟨B, 0, none⟩ cap (s.data.toList.map lowB) Try.underlying48 Try.underlying5 Try.underlying9 (fun j hj => by
    rw [addr_at]
    exact (h j hj).1)
  rw [hl] at this
  exact this

theorem iter_put (W : World) (s : ByteArray) (p B k : Nat) (v : Value) (h : B < W.heap.size) : (W.iter s p).setCell ⟨B, k, none⟩ v = (W.setCell ⟨B, k, none⟩ v).iter s p :=
  World.setCell_alloc_past _ _ _ _ h
theorem iter_cell (W : World) (s : ByteArray) (p B k : Nat) (h : B < W.heap.size) : (W.iter s p).cell? ⟨B, k, none⟩ = W.cell? ⟨B, k, none⟩ :=
  (below_iter W s p).cell (p := ⟨B, k, none⟩) h
theorem iter_frozen (W : World) (s : ByteArray) (p B k : Nat) (h : B < W.heap.size) : (W.iter s p).frozen? ⟨B, k, none⟩ = W.frozen? ⟨B, k, none⟩ :=
  (below_iter W s p).frozen (p := ⟨B, k, none⟩) h

theorem low_world {A B : World} {n m : Int} {a : Addr} (h : n = m) (e : A.setCell a (.int .u8 m) = B) : A.setCell a (.int .u8 n) = B := by rw [h]; exact e

end Go.Proofs.Ytkoikofaebfbjaa
