/-
  The specification's words of a line, by their contract.
  The specification's lines and numbers of a line, by their contracts.
  The specification's numbers of a line and its records, by their contracts.
-/
import Derived.Test.YtemmgfnepdgpbaaDoorR06
import Derived.Test.YtemmgfnepdgpbaaDoorR04
import Derived.Test.YtemmgfnepdgpbaaDoorR10
import Derived.Test.YtemmgfnepdgpbaaDoorRows
import Derived.Test.YtemmgfnepdgpbaaDoorR05
import Derived.WalkKit
import Derived.WalkSpells
import Derived.Test.YtemmgfnepdgpbaaDoorR07
namespace Go.Proofs.YtemmgfnepdgpbaaDoor
open Go.RowKit
set_option linter.unusedVariables false

def wrdS (l : List UInt8) : List ByteArray := (wrdL l).map txtL
/-- The words found so far: k bytes looked at, the next word begins at f. -/
def WrdAt (l : List UInt8) (k f : Nat) (ws : List ByteArray) : Prop :=
  (k ≤ l.length ∧ f ≤ k ∧ ws.length ≤ f ∧ (∀ c ∈ (l.drop f).take (k - f), c ≠ 32) ∧ wrdS l = ws ++ wrdS (l.drop f)) ∨ (k = l.length + 1 ∧ ws.length ≤ k ∧ wrdS l = ws)
theorem WrdAt.from {l : List UInt8} {k f : Nat} {ws : List ByteArray} (h : WrdAt l k f ws) (hk : k ≤ l.length) : f ≤ k := by
  rcases h with ⟨h1, h2, _⟩ | ⟨h1, _⟩
  · exact h2
  · omega
theorem WrdAt.few {l : List UInt8} {k f : Nat} {ws : List ByteArray} (h : WrdAt l k f ws) : ws.length ≤ l.length + 1 := by
  rcases h with ⟨h1, h2, h0, _⟩ | ⟨h1, h2, _⟩ <;> omega
theorem WrdAt.all {l : List UInt8} {f : Nat} {ws : List ByteArray} (h : WrdAt l (l.length + 1) f ws) : ws = wrdS l := by
  rcases h with ⟨h1, _⟩ | ⟨_, _, h2⟩
  · omega
  · exact h2.symm
end Go.Proofs.YtemmgfnepdgpbaaDoor
namespace Go.Proofs.YtemmgfnepdgpbaaDoor
open Go.RowKit St
set_option linter.unusedVariables false
set_option linter.unusedSimpArgs false

/-- No byte 10 from k up to j. -/
def LnT (s : ByteArray) (k j : Nat) : Prop := (10 : UInt8) ∉ (s.data.toList.drop k).take (j - k)
theorem drop_parts (s : ByteArray) {k j : Nat} (hk : k ≤ j) (hj : j < s.size) : s.data.toList.drop k = (s.data.toList.drop k).take (j - k) ++ s[j] :: s.data.toList.drop (j + 1) := by
  have hl : s.data.toList.length = s.size := by simp
  have e : s[j] = s.data.toList[j]'(by omega) := by simp; rfl
  have d : s.data.toList.drop j = s.data.toList[j]'(by omega) :: s.data.toList.drop (j + 1) := List.drop_eq_getElem_cons (by omega)
  conv => lhs; rw [← List.take_append_drop (j - k) (s.data.toList.drop k)]
  rw [List.drop_drop, show k + (j - k) = j from by omega, d, e]
theorem LnT.next {s : ByteArray} {k j : Nat} (h : LnT s k j) (hk : k ≤ j) (hj : j < s.size) (hc : s[j] ≠ 10) : LnT s k (j + 1) := by
  unfold LnT at *
  have hl : s.data.toList.length = s.size := by simp
  have e : s[j] = s.data.toList[j]'(by omega) := by simp; rfl
  rw [show j + 1 - k = (j - k) + 1 from by omega, List.take_succ_eq_append_getElem (by rw [List.length_drop]; omega), List.mem_append, List.getElem_drop]
  rintro (h1 | h1)
  · exact h h1
  · rw [List.mem_singleton] at h1
    apply hc
    rw [e, h1]
    congr 1
    omega
theorem LnT.found {s : ByteArray} {k j : Nat} (h : LnT s k j) (hk : k ≤ j) (hj : j < s.size) (hc : s[j] = 10) : ln10 (s.data.toList.drop k) = some ((s.data.toList.drop k).take (j - k), s.data.toList.drop (j + 1)) := by
  have e := drop_parts s hk hj
  rw [hc] at e
  unfold LnT at h
  obtain ⟨x, hx⟩ : ∃ x, (s.data.toList.drop k).take (j - k) = x := ⟨_, rfl⟩
  rw [hx] at e h ⊢
  rw [e]
  exact ln10_at _ h
end Go.Proofs.YtemmgfnepdgpbaaDoor
namespace Go.Proofs.YtemmgfnepdgpbaaDoor
open Go.RowKit St Ow
set_option linter.unusedVariables false
set_option linter.unusedSimpArgs false

theorem OwnsS.open {w : World} {B : Nat} {v : Value} {l : List ByteArray} (h : OwnsS w B v l) : ∃ g cap, v = .slice (some ⟨g, 0, none⟩) l.length cap ∧ l.length ≤ cap ∧ cap ≤ maxLen ∧ g < w.heap.size ∧ ∀ j (hj : j < l.length), w.cell? ⟨g, j, none⟩ = some (.string l[j]) := by
  obtain ⟨⟨g, c, rfl, hB, hl⟩, hrow⟩ := h
  refine ⟨g, c, rfl, ?_, ?_, hl, fun j hj => ?_⟩
  · rcases hrow.2 with ⟨e, _⟩ | ⟨g', c', cur, e, _, _, h3, h4, _⟩
    · cases e
    · injection e with _ _ e3; omega
  · rcases hrow.2 with ⟨e, _⟩ | ⟨g', c', cur, e, _, _, h3, h4, _⟩
    · cases e
    · injection e with _ _ e3; omega
  · have := World.ownsRow.cells hrow (g := g) rfl j (.string l[j]) (by simp [hj])
    rw [addr_add, Nat.zero_add] at this
    exact this
end Go.Proofs.YtemmgfnepdgpbaaDoor
