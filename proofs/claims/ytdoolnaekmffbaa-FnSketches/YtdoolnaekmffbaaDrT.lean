/-
  The contracts of the drawing functions that lean on one drawn byte: a number below a bound, a chance, a text.
-/
import Derived.Test.YtdoolnaekmffbaaDraw
import Derived.Test.YtdoolnaekmffbaaOwn2
namespace Go.Proofs.Ytdoolnaekmffbaa
open Go.RowKit

theorem byte_back {x : Int} (h0 : 0 ≤ x) (h1 : x ≤ 255) : x = ((UInt8.ofNat x.toNat).toNat : Int) := by
  rw [UInt8.toNat_ofNat', Nat.mod_eq_of_lt (by omega)]
  omega


theorem OwnsB.beside {w w' : World} {B b : Nat} {v : Value} {l : List UInt8} (h : OwnsB w B v l) (hb : Beside b w w') (hB : b < B) : OwnsB w' B v l := by
  refine ⟨h.1, ?_⟩
  rcases h.2 with h0 | ⟨g, cap, cur, hv, hbg, hg, rest⟩
  · exact .inl h0
  · exact .inr ⟨g, cap, cur, hv, hbg, by rw [hb.2.2.2.2 g (Array.getElem?_eq_some_iff.1 hg).1 (by omega)]; exact hg, rest⟩
theorem OwnsB.shape {w : World} {B : Nat} {v : Value} {l : List UInt8} (h : OwnsB w B v l) (hl : 0 < l.length) : ∃ g cap, v = .slice (some ⟨g, 0, none⟩) l.length cap := by
  rcases h.2 with ⟨_, h0⟩ | ⟨g, cap, cur, hv, _⟩
  · omega
  · exact ⟨g, cap, hv⟩
theorem Beside.grow {b B : Nat} {w wr w2 : World} (h : Beside b w wr) (hb : Below B wr w2) (hB : w.heap.size ≤ B) : Beside b w w2 :=
  ⟨hb.os.trans h.1, hb.tape.trans h.2.1, hb.output.trans h.2.2.1, Nat.le_trans h.2.2.2.1 hb.size, fun k hk hg => (hb.block k (by omega)).trans (h.2.2.2.2 k hk hg)⟩
/-- A byte stored into an owned row. -/
theorem OwnsB.put {w : World} {B g cap n : Nat} {l : List UInt8} (hn : n = l.length) (h : OwnsB w B (.slice (some ⟨g, 0, none⟩) n cap) l) (k : Nat) (c : UInt8) : OwnsB (w.setCell ⟨g, k, none⟩ (.int .u8 (c.toNat : Int))) B (.slice (some ⟨g, 0, none⟩) n cap) (l.set k c) := by
  subst hn
  have h2 := (World.ownsRow.stored h k (.int .u8 (c.toNat : Int))).1
  unfold OwnsB
  have e : bytesV (l.set k c) = (bytesV l).set k (.int .u8 (c.toNat : Int)) := by unfold bytesV; rw [List.map_set]
  rw [List.length_set, e]
  exact h2
theorem OwnsB.at {w : World} {B g cap n : Nat} {l : List UInt8} (hn : n = l.length) (h : OwnsB w B (.slice (some ⟨g, 0, none⟩) n cap) l) (j : Nat) (hj : j < l.length) : w.cell? ⟨g, j, none⟩ = some (.int .u8 (l[j].toNat : Int)) ∧ w.frozen? ⟨g, j, none⟩ = false ∧ B ≤ g := by
  subst hn
  refine ⟨?_, World.ownsRow.frozenAt h j, (World.ownsRow.lt h g rfl).1⟩
  rw [World.ownsRow.cellAt h j (by omega)]
  simp [bytesV, hj]
end Go.Proofs.Ytdoolnaekmffbaa
