/-
  The specification's Best: when a number comes again, and what is dropped.
-/
import Derived.Test.YtdoolnaekmffbaaRomC
namespace Go.Proofs.Ytdoolnaekmffbaa
open Go.RowKit Go.Sort Rom
theorem drop_idx {t : List Int} {j : Nat} {x : Int} (h : j < t.length) : (t.drop j).idxOf x = if t[j] = x then 0 else (t.drop (j + 1)).idxOf x + 1 := by
  rw [List.drop_eq_getElem_cons h]
  by_cases e : t[j] = x
  · rw [if_pos e, e, List.idxOf_cons_self]
  · rw [if_neg e, idx_ne _ e]
theorem cutN {w : World} {B g n cap k : Nat} {l : List Int} (h : OwnsN w B (.slice (some ⟨g, 0, Option.none⟩) n cap) l) (hn : n = l.length) (hk : k ≤ l.length) : ∃ A : Addr, (if cap = k then some (⟨g, 0, Option.none⟩ : Addr) else some ⟨g, k, Option.none⟩) = some A ∧ ∀ x : World, x.heap[g]? = w.heap[g]? → ∀ j u, (cellsE intE (l.drop k))[j]? = some u → x.cell? (A.add j) = some u := by
  subst hn
  obtain ⟨a, c, e, h1, _, _⟩ := h.form
  injection e with _ _ e3
  subst e3
  by_cases e : cap = k
  · refine ⟨⟨g, 0, Option.none⟩, by rw [if_pos e], fun x _ j u hu => ?_⟩
    rw [List.drop_of_length_le (by omega)] at hu
    simp [cellsE] at hu
  · refine ⟨⟨g, k, Option.none⟩, by rw [if_neg e], fun x hx j u hu => ?_⟩
    rw [cellsE_drop intE l k hk, List.getElem?_drop] at hu
    rw [show k * intE.k = k from Nat.mul_one k] at hu
    have k1 := World.ownsRow.cells h (g := g) rfl (k + j) u hu
    rw [addr_add] at k1 ⊢
    rw [Nat.zero_add] at k1
    rw [← k1]
    simp only [World.cell?]
    rw [hx]
end Go.Proofs.Ytdoolnaekmffbaa
