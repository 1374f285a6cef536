/-
  Some bytes appended to a row that a call owns, as one step of a region that draws.
  Rows of like elements in memory, each in so many cells: rows that are read, rows that a call owns, rows that it has for itself. Whatever the elements.
  Calls that lay new blocks and draw, and turn nothing that lay before.
-/
import Derived.Test.YtdkhdjickkcaiaaRows
import Derived.Test.YtdkhdjickkcaiaaRN01
import Derived.WalkKit
import Derived.WalkSpells
import Derived.Lib.OthersKept
import Derived.Deep.RegionLaw
import Derived.Deep.QuietTactic
import Derived.BigQuiet
import Derived.Below
import Derived.Laws.IdiomStrings
import Derived.Shelf.SlSortCmp.QuietGrown
namespace Go.Proofs.Ytdkhdjickkcaiaa
open Go.RowKit

theorem addr_add (g o j : Nat) : (⟨g, o, none⟩ : Addr).add j = ⟨g, o + j, none⟩ := by
  unfold Addr.add
  by_cases e : j = 0
  · subst e; simp
  · simp [e]
end Go.Proofs.Ytdkhdjickkcaiaa
namespace Go.Proofs.Ytdkhdjickkcaiaa
open Go.RowKit
set_option linter.unusedVariables false

/-- How an element lies in memory. -/
structure Enc (α : Type) where
  k : Nat
  pos : 0 < k
  c : α → List Value
  len : ∀ x, (c x).length = k
  one : ∀ x, ∀ u ∈ c x, u.oneCell' = true
def cellsE {α : Type} (E : Enc α) (l : List α) : List Value := l.flatMap E.c
theorem cellsE_cons {α : Type} (E : Enc α) (x : α) (l : List α) : cellsE E (x :: l) = E.c x ++ cellsE E l := rfl
theorem cellsE_single {α : Type} (E : Enc α) (x : α) : cellsE E [x] = E.c x := by simp [cellsE]
theorem cellsE_append {α : Type} (E : Enc α) (a b : List α) : cellsE E (a ++ b) = cellsE E a ++ cellsE E b := by simp [cellsE]
theorem cellsE_length {α : Type} (E : Enc α) (l : List α) : (cellsE E l).length = l.length * E.k := by
  induction l with
  | nil => simp [cellsE]
  | cons x l ih => rw [cellsE_cons, List.length_append, ih, E.len, List.length_cons, Nat.succ_mul]; omega
theorem cellsE_at {α : Type} (E : Enc α) (l : List α) : ∀ j (hj : j < l.length) i, i < E.k → (cellsE E l)[j * E.k + i]? = (E.c l[j])[i]? := by
  induction l with
  | nil => intro j hj; simp at hj
  | cons x l ih =>
    intro j hj i hi
    rw [cellsE_cons]
    cases j with
    | zero => rw [Nat.zero_mul, Nat.zero_add, List.getElem?_append_left (by rw [E.len]; exact hi)]; rfl
    | succ j =>
      rw [List.getElem?_append_right (by rw [E.len, Nat.succ_mul]; omega), E.len, show (j + 1) * E.k + i - E.k = j * E.k + i by rw [Nat.succ_mul]; omega]
      exact ih j (by simpa using hj) i hi
theorem cellsE_set {α : Type} (E : Enc α) (l : List α) : ∀ j (hj : j < l.length) i (_ : i < E.k) (u : Value) (y : α), E.c y = (E.c l[j]).set i u → (cellsE E l).set (j * E.k + i) u = cellsE E (l.set j y) := by
  induction l with
  | nil => intro j hj; simp at hj
  | cons x l ih =>
    intro j hj i hi u y hy
    rw [cellsE_cons]
    cases j with
    | zero => rw [Nat.zero_mul, Nat.zero_add, List.set_append_left _ _ (by rw [E.len]; exact hi), List.set_cons_zero, cellsE_cons, hy]; rfl
    | succ j =>
      rw [List.set_append_right _ _ (by rw [E.len, Nat.succ_mul]; omega), E.len, show (j + 1) * E.k + i - E.k = j * E.k + i by rw [Nat.succ_mul]; omega, List.set_cons_succ, cellsE_cons, ih j (by simpa using hj) i hi u y hy]
theorem cellsE_one {α : Type} (E : Enc α) (l : List α) : ∀ u ∈ cellsE E l, u.oneCell' = true := by
  intro u hu
  obtain ⟨x, _, h⟩ := List.mem_flatMap.1 hu
  exact E.one x u h

/-- The slice v reads as the elements l. -/
def Sls {α : Type} (E : Enc α) (w : World) (v : Value) (l : List α) : Prop :=
  ∃ a cap, v = .slice a l.length cap ∧ l.length ≤ cap ∧ cap ≤ maxLen ∧ (0 < l.length → ∃ g o, a = some ⟨g, o, none⟩ ∧ g < w.heap.size ∧
    ∀ j u, (cellsE E l)[j]? = some u → w.cell? ⟨g, o + j, none⟩ = some u)
theorem Sls.kept {α : Type} {E : Enc α} {w w' : World} {v : Value} {l : List α} (h : Sls E w v l) (hb : Below w.heap.size w w') : Sls E w' v l := by
  obtain ⟨a, cap, hv, h1, h2, h3⟩ := h
  refine ⟨a, cap, hv, h1, h2, fun h0 => ?_⟩
  obtain ⟨g, o, ha, hg, hc⟩ := h3 h0
  exact ⟨g, o, ha, Nat.lt_of_lt_of_le hg hb.size, fun j u hu => (hb.cell (p := ⟨g, o + j, none⟩) hg).trans (hc j u hu)⟩
theorem Sls.nil {α : Type} {E : Enc α} {w : World} {a : Option Addr} {cap : Nat} (h : cap ≤ maxLen) : Sls E w (.slice a 0 cap) ([] : List α) :=
  ⟨a, cap, rfl, Nat.zero_le _, h, fun h0 => absurd h0 (Nat.lt_irrefl 0)⟩

/-- The value v owns the elements l, in a block from B on. -/
def OwnsE {α : Type} (E : Enc α) (ty : TypeId) (w : World) (B : Nat) (v : Value) (l : List α) : Prop := w.ownsRow B ty E.k v l.length (cellsE E l)
theorem OwnsE.none {α : Type} {E : Enc α} {ty : TypeId} (w : World) (B : Nat) : OwnsE E ty w B (.slice Option.none 0 0) ([] : List α) := ⟨by simp [cellsE], .inl ⟨rfl, rfl⟩⟩
theorem OwnsE.born {α : Type} {E : Enc α} {ty : TypeId} (w : World) : OwnsE E ty (w.alloc (.cells #[] ty)) w.heap.size (.slice (some ⟨w.heap.size, 0, Option.none⟩) 0 0) ([] : List α) :=
  World.ownsRow_lit w #[] 0 (Nat.le_refl _) (by unfold maxLen; decide) (by simp)
theorem OwnsE.alloc {α : Type} {E : Enc α} {ty : TypeId} {w : World} {B : Nat} {v : Value} {l : List α} (h : OwnsE E ty w B v l) (o : Obj) : OwnsE E ty (w.alloc o) B v l := World.ownsRow.alloc h o
theorem OwnsE.kept {α : Type} {E : Enc α} {ty : TypeId} {w w' : World} {B : Nat} {v : Value} {l : List α} (h : OwnsE E ty w B v l) (hb : Below w.heap.size w w') : OwnsE E ty w' B v l := by
  refine ⟨h.1, ?_⟩
  rcases h.2 with h0 | ⟨g, cap, cur, hv, hbg, hg, rest⟩
  · exact .inl h0
  · exact .inr ⟨g, cap, cur, hv, hbg, by rw [hb.block g (Array.getElem?_eq_some_iff.1 hg).1]; exact hg, rest⟩
theorem OwnsE.from {α : Type} {E : Enc α} {ty : TypeId} {w : World} {B : Nat} {v : Value} {l : List α} (h : OwnsE E ty w B v l) : ∀ k, v.ownBlock = some k → B ≤ k := fun k hk => (World.ownsRow.lt h k hk).1
theorem OwnsE.under {α : Type} {E : Enc α} {ty : TypeId} {w : World} {B : Nat} {v : Value} {l : List α} (h : OwnsE E ty w B v l) : ∀ k, v.ownBlock = some k → k < w.heap.size := fun k hk => (World.ownsRow.lt h k hk).2
theorem OwnsE.low {α : Type} {E : Enc α} {ty : TypeId} {w : World} {B B' : Nat} {v : Value} {l : List α} (h : OwnsE E ty w B v l) (hB : B' ≤ B) : OwnsE E ty w B' v l := by
  refine ⟨h.1, ?_⟩
  rcases h.2 with h0 | ⟨g, cap, cur, hv, hb, hg, rest⟩
  · exact .inl h0
  · exact .inr ⟨g, cap, cur, hv, by omega, hg, rest⟩
theorem OwnsE.form {α : Type} {E : Enc α} {ty : TypeId} {w : World} {B : Nat} {v : Value} {l : List α} (h : OwnsE E ty w B v l) : ∃ a cap, v = .slice a l.length cap ∧ l.length ≤ cap ∧ cap ≤ maxLen ∧ ((a = Option.none ∧ cap = 0) ∨ ∃ g, a = some ⟨g, 0, Option.none⟩) := by
  rcases h.2 with ⟨rfl, h0⟩ | ⟨g, cap, cur, rfl, hb, hg, hc, hm, rest⟩
  · exact ⟨Option.none, 0, by rw [h0], by omega, Nat.zero_le _, .inl ⟨rfl, rfl⟩⟩
  · exact ⟨_, cap, rfl, hc, hm, .inr ⟨g, rfl⟩⟩
theorem OwnsE.at {α : Type} {E : Enc α} {ty : TypeId} {w : World} {B g n cap : Nat} {l : List α} (h : OwnsE E ty w B (.slice (some ⟨g, 0, Option.none⟩) n cap) l) {j i : Nat} (hj : j < l.length) {u : Value} (hu : (E.c l[j])[i]? = some u) : w.cell? ⟨g, j * E.k + i, Option.none⟩ = some u := by
  have hi : i < E.k := by rw [← E.len l[j]]; exact (List.getElem?_eq_some_iff.1 hu).1
  have k1 := World.ownsRow.cells h (g := g) rfl (j * E.k + i) u (by rw [cellsE_at E l j hj i hi]; exact hu)
  rw [addr_add, Nat.zero_add] at k1
  exact k1
/-- A cell of another block stored. -/
theorem OwnsE.other {α : Type} {E : Enc α} {ty : TypeId} {w : World} {B : Nat} {v : Value} {l : List α} (h : OwnsE E ty w B v l) (a : Addr) (u : Value) (hne : ∀ k, v.ownBlock = some k → k ≠ a.block) : OwnsE E ty (w.setCell a u) B v l := by
  refine ⟨h.1, ?_⟩
  rcases h.2 with h0 | ⟨g, cap, cur, hv, hbg, hg, rest⟩
  · exact .inl h0
  · exact .inr ⟨g, cap, cur, hv, hbg, by rw [Below.heap_setCell _ _ _ _ (hne g (by rw [hv]; rfl))]; exact hg, rest⟩
/-- One element that lies in a fresh block. -/
theorem fresh_cell {α : Type} {E : Enc α} (w : World) (x : α) (C : Array Value) (ty : TypeId) (hC : C.toList = E.c x) : ∀ j u, (cellsE E [x])[j]? = some u → (w.alloc (.cells C ty)).cell? ((⟨w.heap.size, 0, Option.none⟩ : Addr).add j) = some u := by
  intro j u hu
  rw [cellsE_single, ← hC] at hu
  rw [addr_add, Nat.zero_add, World.cell?_alloc_mark]
  simpa using hu

/-- The value v has the elements l, in a block from B on, whatever room lies behind them. -/
def HasE {α : Type} (E : Enc α) (ty : TypeId) (w : World) (B : Nat) (v : Value) (l : List α) : Prop :=
  (v = .slice Option.none 0 0 ∧ l = []) ∨ ∃ g cap cur, v = .slice (some ⟨g, 0, Option.none⟩) l.length cap ∧ B ≤ g ∧ w.heap[g]? = some (.cells cur ty (0, 0)) ∧ l.length ≤ cap ∧ cap ≤ maxLen ∧ cap * E.k ≤ cur.size ∧ cur.toList.take (l.length * E.k) = cellsE E l
theorem OwnsE.has {α : Type} {E : Enc α} {ty : TypeId} {w : World} {B : Nat} {v : Value} {l : List α} (h : OwnsE E ty w B v l) : HasE E ty w B v l := by
  rcases h.2 with ⟨h0, h1⟩ | ⟨g, cap, cur, hv, hb, hg, hc, hm, hz, ht⟩
  · exact .inl ⟨h0, List.eq_nil_of_length_eq_zero h1⟩
  · exact .inr ⟨g, cap, cur, hv, hb, hg, hc, hm, by omega, ht⟩
theorem HasE.kept {α : Type} {E : Enc α} {ty : TypeId} {w w' : World} {B : Nat} {v : Value} {l : List α} (h : HasE E ty w B v l) (hb : Below w.heap.size w w') : HasE E ty w' B v l := by
  rcases h with h0 | ⟨g, cap, cur, hv, hbg, hg, rest⟩
  · exact .inl h0
  · exact .inr ⟨g, cap, cur, hv, hbg, by rw [hb.block g (Array.getElem?_eq_some_iff.1 hg).1]; exact hg, rest⟩
theorem HasE.grown {α : Type} {E : Enc α} {ty : TypeId} {w w' : World} {B : Nat} {v : Value} {l : List α} {r : Option Nat} (h : HasE E ty w B v l) (hg : w.grownBy w' r) (hne : ∀ k, v.ownBlock = some k → r ≠ some k) : HasE E ty w' B v l := by
  rcases h with h0 | ⟨g, cap, cur, hv, hbg, hh, rest⟩
  · exact .inl h0
  · exact .inr ⟨g, cap, cur, hv, hbg, by rw [hg.block g (Array.getElem?_eq_some_iff.1 hh).1 (fun e => hne g (by rw [hv]; rfl) e.symm)]; exact hh, rest⟩
theorem HasE.low {α : Type} {E : Enc α} {ty : TypeId} {w : World} {B B' : Nat} {v : Value} {l : List α} (h : HasE E ty w B v l) (hB : B' ≤ B) : HasE E ty w B' v l := by
  rcases h with h0 | ⟨g, cap, cur, hv, hb, rest⟩
  · exact .inl h0
  · exact .inr ⟨g, cap, cur, hv, by omega, rest⟩
theorem HasE.from {α : Type} {E : Enc α} {ty : TypeId} {w : World} {B : Nat} {v : Value} {l : List α} (h : HasE E ty w B v l) : ∀ k, v.ownBlock = some k → B ≤ k := by
  intro k hk
  rcases h with ⟨rfl, _⟩ | ⟨g, cap, cur, rfl, hb, _⟩
  · simp [Value.ownBlock] at hk
  · simp [Value.ownBlock] at hk; omega
theorem HasE.under {α : Type} {E : Enc α} {ty : TypeId} {w : World} {B : Nat} {v : Value} {l : List α} (h : HasE E ty w B v l) : ∀ k, v.ownBlock = some k → k < w.heap.size := by
  intro k hk
  rcases h with ⟨rfl, _⟩ | ⟨g, cap, cur, rfl, hb, hg, _⟩
  · simp [Value.ownBlock] at hk
  · simp [Value.ownBlock] at hk; subst hk; exact (Array.getElem?_eq_some_iff.1 hg).1
theorem HasE.form {α : Type} {E : Enc α} {ty : TypeId} {w : World} {B : Nat} {v : Value} {l : List α} (h : HasE E ty w B v l) : ∃ a cap, v = .slice a l.length cap ∧ l.length ≤ cap ∧ cap ≤ maxLen ∧ (0 < l.length → ∃ g, a = some ⟨g, 0, Option.none⟩) := by
  rcases h with ⟨rfl, rfl⟩ | ⟨g, cap, cur, rfl, hb, hg, hc, hm, _⟩
  · exact ⟨Option.none, 0, rfl, Nat.le_refl _, Nat.zero_le _, fun h => absurd h (by simp)⟩
  · exact ⟨_, cap, rfl, hc, hm, fun _ => ⟨g, rfl⟩⟩
theorem HasE.at {α : Type} {E : Enc α} {ty : TypeId} {w : World} {B g n cap : Nat} {l : List α} (h : HasE E ty w B (.slice (some ⟨g, 0, Option.none⟩) n cap) l) {j i : Nat} (hj : j < l.length) {u : Value} (hu : (E.c l[j])[i]? = some u) : w.cell? ⟨g, j * E.k + i, Option.none⟩ = some u := by
  rcases h with ⟨h0, _⟩ | ⟨g', cap', cur, hv, hb, hg, hc, hm, hz, ht⟩
  · cases h0
  · simp only [Value.slice.injEq, Option.some.injEq, Addr.mk.injEq, and_true] at hv
    obtain ⟨rfl, _⟩ := hv
    have hi : i < E.k := by rw [← E.len l[j]]; exact (List.getElem?_eq_some_iff.1 hu).1
    have hlt : j * E.k + i < l.length * E.k := by
      have : (j + 1) * E.k ≤ l.length * E.k := Nat.mul_le_mul_right _ hj
      rw [Nat.succ_mul] at this
      omega
    have c1 : (cellsE E l)[j * E.k + i]? = some u := by rw [cellsE_at E l j hj i hi]; exact hu
    rw [← ht, List.getElem?_take_of_lt hlt] at c1
    rw [cell_of_row w g _ cur _ _ hg]
    simpa using c1
theorem HasE.free {α : Type} {E : Enc α} {ty : TypeId} {w : World} {B g n cap : Nat} {l : List α} (h : HasE E ty w B (.slice (some ⟨g, 0, Option.none⟩) n cap) l) (j : Nat) : w.frozen? ⟨g, j, Option.none⟩ = false := by
  rcases h with ⟨h0, _⟩ | ⟨g', cap', cur, hv, hb, hg, _⟩
  · cases h0
  · simp only [Value.slice.injEq, Option.some.injEq, Addr.mk.injEq, and_true] at hv
    obtain ⟨rfl, _⟩ := hv
    exact frozen_of_row w g j cur _ hg
theorem HasE.sls {α : Type} {E : Enc α} {ty : TypeId} {w : World} {B : Nat} {v : Value} {l : List α} (h : HasE E ty w B v l) : Sls E w v l := by
  rcases h with ⟨rfl, rfl⟩ | ⟨g, cap, cur, rfl, hb, hg, hc, hm, hz, ht⟩
  · exact Sls.nil (Nat.zero_le _)
  · refine ⟨_, cap, rfl, hc, hm, fun _ => ⟨g, 0, rfl, (Array.getElem?_eq_some_iff.1 hg).1, fun j u hu => ?_⟩⟩
    have hlt : j < l.length * E.k := by rw [← cellsE_length E l]; exact (List.getElem?_eq_some_iff.1 hu).1
    rw [← ht, List.getElem?_take_of_lt hlt] at hu
    rw [Nat.zero_add, cell_of_row w g _ cur _ _ hg]
    simpa using hu
theorem HasE.put {α : Type} {E : Enc α} {ty : TypeId} {w : World} {B g n cap : Nat} {l : List α} (h : HasE E ty w B (.slice (some ⟨g, 0, Option.none⟩) n cap) l) {j i : Nat} (hj : j < l.length) (hi : i < E.k) (u : Value) (y : α) (hy : E.c y = (E.c l[j]).set i u) :
    HasE E ty (w.setCell ⟨g, j * E.k + i, Option.none⟩ u) B (.slice (some ⟨g, 0, Option.none⟩) n cap) (l.set j y) := by
  rcases h with ⟨h0, _⟩ | ⟨g', cap', cur, hv, hb, hg, hc, hm, hz, ht⟩
  · cases h0
  · simp only [Value.slice.injEq, Option.some.injEq, Addr.mk.injEq, and_true] at hv
    obtain ⟨rfl, rfl, rfl⟩ := hv
    refine .inr ⟨g, cap, cur.setIfInBounds (j * E.k + i) u, by rw [List.length_set], hb, heap_setCell_same w g _ cur _ _ hg, by rw [List.length_set]; exact hc, hm, by simpa using hz, ?_⟩
    rw [List.length_set, ← cellsE_set E l j hj i hi u y hy, Array.toList_setIfInBounds, ← ht, List.take_set]
/-- What a row that grows leaves as it was. -/
theorem grownE_put {a w : World} {g : Nat} (h : a.grownBy w (some g)) (j : Nat) (v : Value) : a.grownBy (w.setCell ⟨g, j, Option.none⟩ v) (some g) :=
  ⟨h.os, h.tape, h.output, by simpa [World.setCell] using h.size, fun k hk hne => (Below.heap_setCell _ _ _ _ (fun e => hne (by rw [e]))).trans (h.block k hk hne)⟩
theorem grownE_below {a w w' : World} {r : Option Nat} (h : a.grownBy w r) (hb : Below w.heap.size w w') : a.grownBy w' r :=
  ⟨hb.os.trans h.os, hb.tape.trans h.tape, hb.output.trans h.output, Nat.le_trans h.size hb.size, fun k hk hne => (hb.block k (Nat.lt_of_lt_of_le hk h.size)).trans (h.block k hk hne)⟩
theorem grownE_self (w : World) (r : Option Nat) : w.grownBy w r := ⟨rfl, rfl, rfl, Nat.le_refl _, fun _ _ _ => rfl⟩
/-- A row that lies from B on grows: below B all stays. -/
theorem belowE {B : Nat} {w w1 w2 : World} {r : Option Nat} (hb : Below B w w1) (hg : w1.grownBy w2 r) (hB : B ≤ w1.heap.size) (hr : ∀ k, r = some k → B ≤ k) : Below B w w2 :=
  ⟨hg.os.trans hb.os, hg.tape.trans hb.tape, hg.output.trans hb.output, Nat.le_trans hb.size hg.size, fun k hk => (hg.block k (by omega) (fun e => by have := hr k e.symm; omega)).trans (hb.block k hk)⟩
end Go.Proofs.Ytdkhdjickkcaiaa
namespace Go.Proofs.Ytdkhdjickkcaiaa
open Go.RowKit Go.Sort

theorem mixed : Try.prog.follows .mixedOrders = true := by kernel_rfl

/-- New blocks and draws alone. -/
def Grew (w w' : World) : Prop := Below w.heap.size w w' ∧ w.drawn ≤ w'.drawn
theorem Grew.refl (w : World) : Grew w w := ⟨Below.refl _ _, Nat.le_refl _⟩
theorem Grew.trans {a b c : World} (h : Grew a b) (k : Grew b c) : Grew a c :=
  ⟨⟨k.1.os.trans h.1.os, k.1.tape.trans h.1.tape, k.1.output.trans h.1.output, Nat.le_trans h.1.size k.1.size, fun i hi => (k.1.block i (Nat.lt_of_lt_of_le hi h.1.size)).trans (h.1.block i hi)⟩, Nat.le_trans h.2 k.2⟩
theorem Grew.alloc {w w' : World} (h : Grew w w') (o : Obj) : Grew w (w'.alloc o) := ⟨h.1.alloc h.1.size o, h.2⟩
theorem Grew.drewN {w w' : World} (h : Grew w w') (n : Nat) : Grew w (w'.drewN n) := ⟨⟨h.1.os, h.1.tape, h.1.output, h.1.size, h.1.block⟩, Nat.le_trans h.2 (Nat.le_add_right _ _)⟩
theorem Grew.low {w w' : World} (h : Grew w w') : Below w.heap.size w w' := h.1
theorem Grew.cell {w x : World} {b j : Nat} {v : Value} (hb : Grew w x) (h : w.cell? ⟨b, j, none⟩ = some v) (hB : b < w.heap.size) : x.cell? ⟨b, j, none⟩ = some v := (hb.1.cell (p := ⟨b, j, none⟩) hB).trans h
end Go.Proofs.Ytdkhdjickkcaiaa
