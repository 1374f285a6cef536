/-
  A row of bytes that a call makes, writes into and cuts; and append of a part of such a row, as one step of a region that draws.
-/
import Derived.Test.YtccnkmffadmfhaaGreatDoorDrT
import Derived.Lib.OthersKept
import Derived.Deep.RegionLaw
namespace Go.Proofs.YtccnkmffadmfhaaGreatDoor
open Go.RowKit

/-- A row of bytes l in a block from B on, which v is. -/
def Rw (w : World) (B : Nat) (v : Value) (l : List UInt8) : Prop := ∃ g cap, v = .slice (some ⟨g, 0, none⟩) l.length cap ∧ B ≤ g ∧ g < w.heap.size ∧ l.length ≤ cap ∧ cap ≤ maxLen ∧ RowIs w g l
theorem RowIs.same {w w' : World} {g : Nat} {l : List UInt8} (h : RowIs w g l) (hb : w'.heap[g]? = w.heap[g]?) : RowIs w' g l := fun j hj =>
  ⟨(World.cell?_of_block (w := w) (a := ⟨g, j, none⟩) hb).trans (h j hj).1, (World.frozen?_of_block (w := w) (a := ⟨g, j, none⟩) hb).trans (h j hj).2⟩
theorem Rw.beside {w w' : World} {B b : Nat} {v : Value} {l : List UInt8} (h : Rw w B v l) (hb : Beside b w w') (hB : b < B) : Rw w' B v l := by
  obtain ⟨g, cap, rfl, h1, h2, h3, h4, h5⟩ := h
  exact ⟨g, cap, rfl, h1, Nat.lt_of_lt_of_le h2 hb.2.2.2.1, h3, h4, h5.same (hb.2.2.2.2 g h2 (by omega))⟩
theorem RowIs.take {w : World} {g : Nat} {l : List UInt8} (h : RowIs w g l) (k : Nat) : RowIs w g (l.take k) := fun j hj => by
  have hj' : j < l.length := by rw [List.length_take] at hj; omega
  have := h j hj'
  rw [List.getElem_take]
  exact this
theorem Rw.text {w : World} {B : Nat} {v : Value} {l : List UInt8} (h : Rw w B v l) : (convert 22 9 v).run Tryz.prog w = .ok (.string ⟨l.toArray⟩) w := by
  obtain ⟨g, cap, rfl, h1, h2, h3, h4, h5⟩ := h
  exact run_convert_bytes_back (P := Tryz.prog) w 22 9 5 ⟨g, 0, none⟩ cap l Tryz.underlying22 Tryz.underlying5 Tryz.underlying9 (fun j hj => by
    rw [addr_add, Nat.zero_add]
    exact (h5 j hj).1)
theorem Rw.of {w : World} {B : Nat} {v : Value} {l : List UInt8} (h : OwnsB w B v l) (hv : v ≠ .slice none 0 0) : Rw w B v l := by
  have hh := h
  rcases h.2 with ⟨h0, _⟩ | ⟨g, cap, cur, rfl, hb, hg, hc, hm, rest⟩
  · exact absurd h0 hv
  · refine ⟨g, cap, rfl, hb, (Array.getElem?_eq_some_iff.1 hg).1, hc, hm, fun j hj => ⟨?_, World.ownsRow.frozenAt hh j⟩⟩
    have := World.ownsRow.cells hh (g := g) rfl j (.int .u8 (l[j].toNat : Int)) (by simp [bytesV, hj])
    rw [addr_add, Nat.zero_add] at this
    exact this
end Go.Proofs.YtccnkmffadmfhaaGreatDoor
