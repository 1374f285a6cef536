/-
  Spans as plain data: which are right, put in order, made one; the bytes that they have.
-/

namespace Go.Proofs.YtlngleinegkoeaaGreat
set_option linter.unusedVariables false

/-- A span: both ends in it. -/
abbrev Sp := Int × Int
def Ris (l : List Sp) : Prop := l.Pairwise fun x y => x.1 ≤ y.1
/-- They rise, and none touches the next one. -/
def Nrm (l : List Sp) : Prop := (∀ x ∈ l, 0 ≤ x.1 ∧ x.1 ≤ x.2) ∧ l.Pairwise fun x y => x.2 + 1 < y.1
theorem Nrm.ris {l : List Sp} (h : Nrm l) : Ris l := by
  obtain ⟨h1, h2⟩ := h
  unfold Ris
  rw [List.pairwise_iff_getElem] at h2 ⊢
  intro i j hi hj hij
  have := h1 l[i] (List.getElem_mem hi)
  have := h2 i j hi hj hij
  omega
theorem Nrm.tail {x : Sp} {l : List Sp} (h : Nrm (x :: l)) : Nrm l := ⟨fun y hy => h.1 y (List.mem_cons_of_mem _ hy), (List.pairwise_cons.1 h.2).2⟩
end Go.Proofs.YtlngleinegkoeaaGreat
