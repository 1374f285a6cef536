/-
  Spans as plain data: which are right, put in order, made one; the bytes that they have.
-/

namespace Go.Proofs.Ytdahfhkeeemdiaa
set_option linter.unusedVariables false

/-- A span: both ends in it. -/
abbrev Sp := Int × Int
/-- They rise, and none touches the next one. -/
def Nrm (l : List Sp) : Prop := (∀ x ∈ l, 0 ≤ x.1 ∧ x.1 ≤ x.2) ∧ l.Pairwise fun x y => x.2 + 1 < y.1
theorem Nrm.tail {x : Sp} {l : List Sp} (h : Nrm (x :: l)) : Nrm l := ⟨fun y hy => h.1 y (List.mem_cons_of_mem _ hy), (List.pairwise_cons.1 h.2).2⟩
end Go.Proofs.Ytdahfhkeeemdiaa
