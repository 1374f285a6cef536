/-
  A region that draws its order, in which a call's answer goes into a box of its own: what stays through all of it.
-/
import Derived.Test.YtdoolnaekmffbaaRgL
import Derived.Test.YtdoolnaekmffbaaRgS
import Derived.Test.YtdoolnaekmffbaaBx
namespace Go.Proofs.Ytdoolnaekmffbaa
open Go.RowKit
set_option linter.unusedVariables false

/-- All but boxes of the type TY from lo on lie as they lay; boxes stay boxes. -/
structure Kx (TY lo : Nat) (x y : World) : Prop where
  size : x.heap.size ≤ y.heap.size
  stay : ∀ k o, x.heap[k]? = some o → (k < lo ∨ ∀ c, o ≠ .cells c TY (0, 0)) → y.heap[k]? = some o
  box : ∀ k c, lo ≤ k → x.heap[k]? = some (.cells c TY (0, 0)) → ∃ c', y.heap[k]? = some (.cells c' TY (0, 0)) ∧ c'.size = c.size
theorem Kx.of {TY lo : Nat} {x y : World} (hb : Below x.heap.size x y) : Kx TY lo x y :=
  ⟨hb.size, fun k o h _ => (hb.block k (Array.getElem?_eq_some_iff.1 h).1).trans h, fun k c _ h => ⟨c, (hb.block k (Array.getElem?_eq_some_iff.1 h).1).trans h, rfl⟩⟩
/-- A box whose cells are to be stored. -/
def BoxK (TY m lo : Nat) (x : World) (k : Nat) : Prop := lo ≤ k ∧ ∃ c, x.heap[k]? = some (.cells c TY (0, 0)) ∧ c.size = m
theorem BoxK.kx {TY m lo : Nat} {x y : World} {k : Nat} (h : BoxK TY m lo x k) (hk : Kx TY lo x y) : BoxK TY m lo y k := by
  obtain ⟨h0, c, h1, h2⟩ := h
  obtain ⟨c', h3, h4⟩ := hk.box k c h0 h1
  exact ⟨h0, c', h3, h4.trans h2⟩
theorem Kx.put {TY m lo : Nat} {x : World} {gb : Nat} (h : BoxK TY m lo x gb) (i : Nat) (v : Value) : Kx TY lo x (x.setCell ⟨gb, i, none⟩ v) := by
  obtain ⟨h0, c, h1, h2⟩ := h
  refine ⟨by simp [World.setCell], fun k o hk hn => ?_, fun k c2 hl hk => ?_⟩
  · by_cases e : k = gb
    · subst e
      rw [h1] at hk
      injection hk with hk
      rcases hn with hn | hn
      · omega
      · exact absurd hk.symm (hn c)
    · exact (Below.heap_setCell _ _ _ _ e).trans hk
  · by_cases e : k = gb
    · subst e
      rw [h1] at hk
      injection hk with hk
      injection hk with hk _ _
      subst hk
      exact ⟨_, heap_setCell_same x k i _ _ v h1, by simp⟩
    · exact ⟨c2, (Below.heap_setCell _ _ _ _ e).trans hk, rfl⟩
theorem Kx.trans {TY lo : Nat} {x y z : World} (h : Kx TY lo x y) (k : Kx TY lo y z) : Kx TY lo x z :=
  ⟨Nat.le_trans h.size k.size, fun i o hi hn => k.stay i o (h.stay i o hi hn) hn, fun i c hl hi => by
    obtain ⟨c1, h1, h2⟩ := h.box i c hl hi
    obtain ⟨c2, h3, h4⟩ := k.box i c1 hl h1
    exact ⟨c2, h3, h4.trans h2⟩⟩
theorem HasE.kx {α : Type} {E : Enc α} {ty TY lo : Nat} {x y : World} {B : Nat} {v : Value} {l : List α} (h : HasE E ty x B v l) (hk : Kx TY lo x y) (hne : ty ≠ TY) : HasE E ty y B v l := by
  rcases h with h0 | ⟨g, cap, cur, hv, hbg, hh, rest⟩
  · exact .inl h0
  · exact .inr ⟨g, cap, cur, hv, hbg, hk.stay g _ hh (.inr fun c e => by injection e with _ e _; exact hne e), rest⟩
theorem BoxK.put2 {TY lo : Nat} {x : World} {gb : Nat} (h : BoxK TY 2 lo x gb) (p q : Value) : Bx ((x.setCell ⟨gb, 0, none⟩ p).setCell ⟨gb, 1, none⟩ q) gb TY #[p, q] := by
  obtain ⟨h0, c, h1, h2⟩ := h
  have hc : Bx x gb TY c := h1
  have := (hc.put 0 p).put 1 q
  have e : (c.setIfInBounds 0 p).setIfInBounds 1 q = #[p, q] := by
    obtain ⟨L⟩ := c
    match L, h2 with
    | [a, b], _ => rfl
  rw [e] at this
  exact this
end Go.Proofs.Ytdoolnaekmffbaa
