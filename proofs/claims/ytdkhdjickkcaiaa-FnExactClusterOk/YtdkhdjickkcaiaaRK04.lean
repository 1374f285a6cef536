/-
  Some bytes appended to a row that a call owns, as one step of a region that draws.
  Rows of like elements in memory, each in so many cells: rows that are read, rows that a call owns, rows that it has for itself. Whatever the elements.
-/
import Derived.Test.YtdkhdjickkcaiaaRows
import Derived.Test.YtdkhdjickkcaiaaRK03
import Derived.WalkKit
import Derived.WalkSpells
import Derived.Lib.OthersKept
import Derived.Deep.RegionLaw
import Derived.Deep.QuietTactic
import Derived.BigQuiet
namespace Go.Proofs.Ytdkhdjickkcaiaa
open Go.RowKit

theorem addr_add (g o j : Nat) : (⟨g, o, none⟩ : Addr).add j = ⟨g, o + j, none⟩ := by
  unfold Addr.add
  by_cases e : j = 0
  · subst e; simp
  · simp [e]
end Go.Proofs.Ytdkhdjickkcaiaa
namespace Go.Proofs.Ytdkhdjickkcaiaa
open Go.RowKit
set_option linter.unusedVariables false

/-- How an element lies in memory. -/
structure Enc (α : Type) where
  k : Nat
  pos : 0 < k
  c : α → List Value
  len : ∀ x, (c x).length = k
  one : ∀ x, ∀ u ∈ c x, u.oneCell' = true
def cellsE {α : Type} (E : Enc α) (l : List α) : List Value := l.flatMap E.c
theorem cellsE_cons {α : Type} (E : Enc α) (x : α) (l : List α) : cellsE E (x :: l) = E.c x ++ cellsE E l := rfl
theorem cellsE_single {α : Type} (E : Enc α) (x : α) : cellsE E [x] = E.c x := by simp [cellsE]
theorem cellsE_append {α : Type} (E : Enc α) (a b : List α) : cellsE E (a ++ b) = cellsE E a ++ cellsE E b := by simp [cellsE]
theorem cellsE_length {α : Type} (E : Enc α) (l : List α) : (cellsE E l).length = l.length * E.k := by
  induction l with
  | nil => simp [cellsE]
  | cons x l ih => rw [cellsE_cons, List.length_append, ih, E.len, List.length_cons, Nat.succ_mul]; omega
theorem cellsE_at {α : Type} (E : Enc α) (l : List α) : ∀ j (hj : j < l.length) i, i < E.k → (cellsE E l)[j * E.k + i]? = (E.c l[j])[i]? := by
  induction l with
  | nil => intro j hj; simp at hj
  | cons x l ih =>
    intro j hj i hi
    rw [cellsE_cons]
    cases j with
    | zero => rw [Nat.zero_mul, Nat.zero_add, List.getElem?_append_left (by rw [E.len]; exact hi)]; rfl
    | succ j =>
      rw [List.getElem?_append_right (by rw [E.len, Nat.succ_mul]; omega), E.len, show (j + 1) * E.k + i - E.k = j * E.k + i by rw [Nat.succ_mul]; omega]
      exact ih j (by simpa using hj) i hi
theorem cellsE_set {α : Type} (E : Enc α) (l : List α) : ∀ j (hj : j < l.length) i (_ : i < E.k) (u : Value) (y : α), E.c y = (E.c l[j]).set i u → (cellsE E l).set (j * E.k + i) u = cellsE E (l.set j y) := by
  induction l with
  | nil => intro j hj; simp at hj
  | cons x l ih =>
    intro j hj i hi u y hy
    rw [cellsE_cons]
    cases j with
    | zero => rw [Nat.zero_mul, Nat.zero_add, List.set_append_left _ _ (by rw [E.len]; exact hi), List.set_cons_zero, cellsE_cons, hy]; rfl
    | succ j =>
      rw [List.set_append_right _ _ (by rw [E.len, Nat.succ_mul]; omega), E.len, show (j + 1) * E.k + i - E.k = j * E.k + i by rw [Nat.succ_mul]; omega, List.set_cons_succ, cellsE_cons, ih j (by simpa using hj) i hi u y hy]
/-- The slice v reads as the elements l. -/
def Sls {α : Type} (E : Enc α) (w : World) (v : Value) (l : List α) : Prop :=
  ∃ a cap, v = .slice a l.length cap ∧ l.length ≤ cap ∧ cap ≤ maxLen ∧ (0 < l.length → ∃ g o, a = some ⟨g, o, none⟩ ∧ g < w.heap.size ∧
    ∀ j u, (cellsE E l)[j]? = some u → w.cell? ⟨g, o + j, none⟩ = some u)
theorem Sls.kept {α : Type} {E : Enc α} {w w' : World} {v : Value} {l : List α} (h : Sls E w v l) (hb : Below w.heap.size w w') : Sls E w' v l := by
  obtain ⟨a, cap, hv, h1, h2, h3⟩ := h
  refine ⟨a, cap, hv, h1, h2, fun h0 => ?_⟩
  obtain ⟨g, o, ha, hg, hc⟩ := h3 h0
  exact ⟨g, o, ha, Nat.lt_of_lt_of_le hg hb.size, fun j u hu => (hb.cell (p := ⟨g, o + j, none⟩) hg).trans (hc j u hu)⟩
theorem Sls.nil {α : Type} {E : Enc α} {w : World} {a : Option Addr} {cap : Nat} (h : cap ≤ maxLen) : Sls E w (.slice a 0 cap) ([] : List α) :=
  ⟨a, cap, rfl, Nat.zero_le _, h, fun h0 => absurd h0 (Nat.lt_irrefl 0)⟩

/-- The value v owns the elements l, in a block from B on. -/
def OwnsE {α : Type} (E : Enc α) (ty : TypeId) (w : World) (B : Nat) (v : Value) (l : List α) : Prop := w.ownsRow B ty E.k v l.length (cellsE E l)
theorem OwnsE.kept {α : Type} {E : Enc α} {ty : TypeId} {w w' : World} {B : Nat} {v : Value} {l : List α} (h : OwnsE E ty w B v l) (hb : Below w.heap.size w w') : OwnsE E ty w' B v l := by
  refine ⟨h.1, ?_⟩
  rcases h.2 with h0 | ⟨g, cap, cur, hv, hbg, hg, rest⟩
  · exact .inl h0
  · exact .inr ⟨g, cap, cur, hv, hbg, by rw [hb.block g (Array.getElem?_eq_some_iff.1 hg).1]; exact hg, rest⟩
theorem OwnsE.from {α : Type} {E : Enc α} {ty : TypeId} {w : World} {B : Nat} {v : Value} {l : List α} (h : OwnsE E ty w B v l) : ∀ k, v.ownBlock = some k → B ≤ k := fun k hk => (World.ownsRow.lt h k hk).1
theorem OwnsE.under {α : Type} {E : Enc α} {ty : TypeId} {w : World} {B : Nat} {v : Value} {l : List α} (h : OwnsE E ty w B v l) : ∀ k, v.ownBlock = some k → k < w.heap.size := fun k hk => (World.ownsRow.lt h k hk).2
theorem OwnsE.low {α : Type} {E : Enc α} {ty : TypeId} {w : World} {B B' : Nat} {v : Value} {l : List α} (h : OwnsE E ty w B v l) (hB : B' ≤ B) : OwnsE E ty w B' v l := by
  refine ⟨h.1, ?_⟩
  rcases h.2 with h0 | ⟨g, cap, cur, hv, hb, hg, rest⟩
  · exact .inl h0
  · exact .inr ⟨g, cap, cur, hv, by omega, hg, rest⟩
theorem OwnsE.form {α : Type} {E : Enc α} {ty : TypeId} {w : World} {B : Nat} {v : Value} {l : List α} (h : OwnsE E ty w B v l) : ∃ a cap, v = .slice a l.length cap ∧ l.length ≤ cap ∧ cap ≤ maxLen ∧ ((a = Option.none ∧ cap = 0) ∨ ∃ g, a = some ⟨g, 0, Option.none⟩) := by
  rcases h.2 with ⟨rfl, h0⟩ | ⟨g, cap, cur, rfl, hb, hg, hc, hm, rest⟩
  · exact ⟨Option.none, 0, by rw [h0], by omega, Nat.zero_le _, .inl ⟨rfl, rfl⟩⟩
  · exact ⟨_, cap, rfl, hc, hm, .inr ⟨g, rfl⟩⟩
theorem OwnsE.at {α : Type} {E : Enc α} {ty : TypeId} {w : World} {B g n cap : Nat} {l : List α} (h : OwnsE E ty w B (.slice (some ⟨g, 0, Option.none⟩) n cap) l) {j i : Nat} (hj : j < l.length) {u : Value} (hu : (E.c l[j])[i]? = some u) : w.cell? ⟨g, j * E.k + i, Option.none⟩ = some u := by
  have hi : i < E.k := by rw [← E.len l[j]]; exact (List.getElem?_eq_some_iff.1 hu).1
  have k1 := World.ownsRow.cells h (g := g) rfl (j * E.k + i) u (by rw [cellsE_at E l j hj i hi]; exact hu)
  rw [addr_add, Nat.zero_add] at k1
  exact k1
theorem OwnsE.free {α : Type} {E : Enc α} {ty : TypeId} {w : World} {B g n cap : Nat} {l : List α} (hn : n = l.length) (h : OwnsE E ty w B (.slice (some ⟨g, 0, Option.none⟩) n cap) l) (j : Nat) : w.frozen? ⟨g, j, Option.none⟩ = false := by
  subst hn
  exact World.ownsRow.frozenAt h j
/-- One cell stored. -/
theorem OwnsE.put {α : Type} {E : Enc α} {ty : TypeId} {w : World} {B g n cap : Nat} {l : List α} (hn : n = l.length) (h : OwnsE E ty w B (.slice (some ⟨g, 0, Option.none⟩) n cap) l) {j i : Nat} (hj : j < l.length) (hi : i < E.k) (u : Value) (y : α) (hy : E.c y = (E.c l[j]).set i u) :
    OwnsE E ty (w.setCell ⟨g, j * E.k + i, Option.none⟩ u) B (.slice (some ⟨g, 0, Option.none⟩) n cap) (l.set j y) := by
  subst hn
  have h2 := (World.ownsRow.stored h (j * E.k + i) u).1
  unfold OwnsE
  rw [List.length_set, ← cellsE_set E l j hj i hi u y hy]
  exact h2
/-- A cell of another block stored. -/
theorem OwnsE.other {α : Type} {E : Enc α} {ty : TypeId} {w : World} {B : Nat} {v : Value} {l : List α} (h : OwnsE E ty w B v l) (a : Addr) (u : Value) (hne : ∀ k, v.ownBlock = some k → k ≠ a.block) : OwnsE E ty (w.setCell a u) B v l := by
  refine ⟨h.1, ?_⟩
  rcases h.2 with h0 | ⟨g, cap, cur, hv, hbg, hg, rest⟩
  · exact .inl h0
  · exact .inr ⟨g, cap, cur, hv, hbg, by rw [Below.heap_setCell _ _ _ _ (hne g (by rw [hv]; rfl))]; exact hg, rest⟩
/-- The value v has the elements l, in a block from B on, whatever room lies behind them. -/
def HasE {α : Type} (E : Enc α) (ty : TypeId) (w : World) (B : Nat) (v : Value) (l : List α) : Prop :=
  (v = .slice Option.none 0 0 ∧ l = []) ∨ ∃ g cap cur, v = .slice (some ⟨g, 0, Option.none⟩) l.length cap ∧ B ≤ g ∧ w.heap[g]? = some (.cells cur ty (0, 0)) ∧ l.length ≤ cap ∧ cap ≤ maxLen ∧ cap * E.k ≤ cur.size ∧ cur.toList.take (l.length * E.k) = cellsE E l
theorem OwnsE.has {α : Type} {E : Enc α} {ty : TypeId} {w : World} {B : Nat} {v : Value} {l : List α} (h : OwnsE E ty w B v l) : HasE E ty w B v l := by
  rcases h.2 with ⟨h0, h1⟩ | ⟨g, cap, cur, hv, hb, hg, hc, hm, hz, ht⟩
  · exact .inl ⟨h0, List.eq_nil_of_length_eq_zero h1⟩
  · exact .inr ⟨g, cap, cur, hv, hb, hg, hc, hm, by omega, ht⟩
theorem HasE.kept {α : Type} {E : Enc α} {ty : TypeId} {w w' : World} {B : Nat} {v : Value} {l : List α} (h : HasE E ty w B v l) (hb : Below w.heap.size w w') : HasE E ty w' B v l := by
  rcases h with h0 | ⟨g, cap, cur, hv, hbg, hg, rest⟩
  · exact .inl h0
  · exact .inr ⟨g, cap, cur, hv, hbg, by rw [hb.block g (Array.getElem?_eq_some_iff.1 hg).1]; exact hg, rest⟩
theorem HasE.low {α : Type} {E : Enc α} {ty : TypeId} {w : World} {B B' : Nat} {v : Value} {l : List α} (h : HasE E ty w B v l) (hB : B' ≤ B) : HasE E ty w B' v l := by
  rcases h with h0 | ⟨g, cap, cur, hv, hb, rest⟩
  · exact .inl h0
  · exact .inr ⟨g, cap, cur, hv, by omega, rest⟩
theorem HasE.from {α : Type} {E : Enc α} {ty : TypeId} {w : World} {B : Nat} {v : Value} {l : List α} (h : HasE E ty w B v l) : ∀ k, v.ownBlock = some k → B ≤ k := by
  intro k hk
  rcases h with ⟨rfl, _⟩ | ⟨g, cap, cur, rfl, hb, _⟩
  · simp [Value.ownBlock] at hk
  · simp [Value.ownBlock] at hk; omega
theorem HasE.under {α : Type} {E : Enc α} {ty : TypeId} {w : World} {B : Nat} {v : Value} {l : List α} (h : HasE E ty w B v l) : ∀ k, v.ownBlock = some k → k < w.heap.size := by
  intro k hk
  rcases h with ⟨rfl, _⟩ | ⟨g, cap, cur, rfl, hb, hg, _⟩
  · simp [Value.ownBlock] at hk
  · simp [Value.ownBlock] at hk; subst hk; exact (Array.getElem?_eq_some_iff.1 hg).1
theorem HasE.form {α : Type} {E : Enc α} {ty : TypeId} {w : World} {B : Nat} {v : Value} {l : List α} (h : HasE E ty w B v l) : ∃ a cap, v = .slice a l.length cap ∧ l.length ≤ cap ∧ cap ≤ maxLen ∧ (0 < l.length → ∃ g, a = some ⟨g, 0, Option.none⟩) := by
  rcases h with ⟨rfl, rfl⟩ | ⟨g, cap, cur, rfl, hb, hg, hc, hm, _⟩
  · exact ⟨Option.none, 0, rfl, Nat.le_refl _, Nat.zero_le _, fun h => absurd h (by simp)⟩
  · exact ⟨_, cap, rfl, hc, hm, fun _ => ⟨g, rfl⟩⟩
theorem HasE.free {α : Type} {E : Enc α} {ty : TypeId} {w : World} {B g n cap : Nat} {l : List α} (h : HasE E ty w B (.slice (some ⟨g, 0, Option.none⟩) n cap) l) (j : Nat) : w.frozen? ⟨g, j, Option.none⟩ = false := by
  rcases h with ⟨h0, _⟩ | ⟨g', cap', cur, hv, hb, hg, _⟩
  · cases h0
  · simp only [Value.slice.injEq, Option.some.injEq, Addr.mk.injEq, and_true] at hv
    obtain ⟨rfl, _⟩ := hv
    exact frozen_of_row w g j cur _ hg
theorem HasE.sls {α : Type} {E : Enc α} {ty : TypeId} {w : World} {B : Nat} {v : Value} {l : List α} (h : HasE E ty w B v l) : Sls E w v l := by
  rcases h with ⟨rfl, rfl⟩ | ⟨g, cap, cur, rfl, hb, hg, hc, hm, hz, ht⟩
  · exact Sls.nil (Nat.zero_le _)
  · refine ⟨_, cap, rfl, hc, hm, fun _ => ⟨g, 0, rfl, (Array.getElem?_eq_some_iff.1 hg).1, fun j u hu => ?_⟩⟩
    have hlt : j < l.length * E.k := by rw [← cellsE_length E l]; exact (List.getElem?_eq_some_iff.1 hu).1
    rw [← ht, List.getElem?_take_of_lt hlt] at hu
    rw [Nat.zero_add, cell_of_row w g _ cur _ _ hg]
    simpa using hu
end Go.Proofs.Ytdkhdjickkcaiaa
