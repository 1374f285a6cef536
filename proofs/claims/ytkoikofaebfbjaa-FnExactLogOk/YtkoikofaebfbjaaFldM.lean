/-
  Fields in memory: slices of fields that are read, and slices of fields that a call owns.
-/
import Derived.Test.YtkoikofaebfbjaaOwn2
import Derived.WalkKit
import Derived.WalkSpells
import Derived.Deep.QuietTactic
import Derived.BigQuiet
namespace Go.Proofs.Ytkoikofaebfbjaa
open Go.RowKit

/-- A field: its name and its value. -/
abbrev Fl := ByteArray × ByteArray
/-- The slice v reads as the fields l. -/
def Fls (w : World) (v : Value) (l : List Fl) : Prop :=
  ∃ a cap, v = .slice a l.length cap ∧ l.length ≤ cap ∧ cap ≤ maxLen ∧ (0 < l.length → ∃ g o, a = some ⟨g, o, none⟩ ∧ g < w.heap.size ∧
    ∀ j (hj : j < l.length), w.cell? ⟨g, o + j * 2, none⟩ = some (.string l[j].1) ∧ w.cell? ⟨g, o + j * 2 + 1, none⟩ = some (.string l[j].2))
theorem Fls.kept {w w' : World} {v : Value} {l : List Fl} (h : Fls w v l) (hb : Below w.heap.size w w') : Fls w' v l := by
  obtain ⟨a, cap, hv, h1, h2, h3⟩ := h
  refine ⟨a, cap, hv, h1, h2, fun h0 => ?_⟩
  obtain ⟨g, o, ha, hg, hc⟩ := h3 h0
  exact ⟨g, o, ha, Nat.lt_of_lt_of_le hg hb.size, fun j hj => ⟨(hb.cell (p := ⟨g, o + j * 2, none⟩) hg).trans (hc j hj).1, (hb.cell (p := ⟨g, o + j * 2 + 1, none⟩) hg).trans (hc j hj).2⟩⟩
theorem Fls.drewN {w : World} {v : Value} {l : List Fl} (h : Fls w v l) (n : Nat) : Fls (w.drewN n) v l := h

/-! ### Slices of fields that a call owns -/
def cellsF (l : List Fl) : List Value := l.flatMap fun f => [.string f.1, .string f.2]
theorem cellsF_nil : cellsF [] = [] := rfl
theorem cellsF_append (a b : List Fl) : cellsF (a ++ b) = cellsF a ++ cellsF b := by simp [cellsF]
theorem cellsF_length (l : List Fl) : (cellsF l).length = l.length * 2 := by
  induction l with
  | nil => rfl
  | cons f l ih => simp [cellsF] at ih ⊢; omega
theorem cellsF_at (l : List Fl) : ∀ j (hj : j < l.length), (cellsF l)[j * 2]? = some (.string l[j].1) ∧ (cellsF l)[j * 2 + 1]? = some (.string l[j].2) := by
  induction l with
  | nil => intro j hj; simp at hj
  | cons f l ih =>
    intro j hj
    have e : cellsF (f :: l) = .string f.1 :: .string f.2 :: cellsF l := rfl
    cases j with
    | zero => rw [e]; exact ⟨rfl, rfl⟩
    | succ j =>
      have := ih j (by simpa using hj)
      rw [e, show (j + 1) * 2 = j * 2 + 1 + 1 from by omega]
      exact this
theorem cellsF_one (l : List Fl) : ∀ u ∈ cellsF l, u.oneCell' = true := by
  intro u hu
  obtain ⟨f, _, h⟩ := List.mem_flatMap.1 hu
  simp at h
  rcases h with rfl | rfl <;> rfl
/-- A text stored into an owned slice. -/
theorem cellsF_set1 (l : List Fl) (c : ByteArray) : ∀ k (hk : k < l.length), (cellsF l).set (k * 2) (.string c) = cellsF (l.set k (c, l[k].2)) := by
  induction l with
  | nil => intro k hk; simp at hk
  | cons f l ih =>
    intro k hk
    have e : ∀ (f : Fl) (l : List Fl), cellsF (f :: l) = .string f.1 :: .string f.2 :: cellsF l := fun _ _ => rfl
    cases k with
    | zero => simp [e]
    | succ k =>
      have := ih k (by simpa using hk)
      rw [e, show (k + 1) * 2 = k * 2 + 1 + 1 from by omega]
      simp only [List.set_cons_succ, List.getElem_cons_succ, e]
      rw [this]
theorem cellsF_set2 (l : List Fl) (c : ByteArray) : ∀ k (hk : k < l.length), (cellsF l).set (k * 2 + 1) (.string c) = cellsF (l.set k (l[k].1, c)) := by
  induction l with
  | nil => intro k hk; simp at hk
  | cons f l ih =>
    intro k hk
    have e : ∀ (f : Fl) (l : List Fl), cellsF (f :: l) = .string f.1 :: .string f.2 :: cellsF l := fun _ _ => rfl
    cases k with
    | zero => simp [e]
    | succ k =>
      have := ih k (by simpa using hk)
      rw [e, show (k + 1) * 2 + 1 = k * 2 + 1 + 1 + 1 from by omega]
      simp only [List.set_cons_succ, List.getElem_cons_succ, e]
      rw [this]
def szF (f : Fl) : Nat := f.1.size + f.2.size
def szL (l : List Fl) : Nat := (l.map szF).sum
theorem szL_nil : szL [] = 0 := rfl
theorem szL_append (a b : List Fl) : szL (a ++ b) = szL a + szL b := by simp [szL]
theorem szL_next {l : List Fl} {k : Nat} (hk : k < l.length) : szL (l.take (k + 1)) = szL (l.take k) + (l[k].1.size + l[k].2.size) := by
  rw [List.take_succ_eq_append_getElem hk, szL_append]; simp [szL, szF]
theorem szL_take (l : List Fl) (k : Nat) : szL (l.take k) ≤ szL l := by
  have := szL_append (l.take k) (l.drop k)
  rw [List.take_append_drop] at this
  omega
theorem szL_at {l : List Fl} {k : Nat} (hk : k < l.length) : l[k].1.size + l[k].2.size ≤ szL l := by
  have h1 := szL_next hk
  have h2 := szL_take l (k + 1)
  omega

end Go.Proofs.Ytkoikofaebfbjaa
