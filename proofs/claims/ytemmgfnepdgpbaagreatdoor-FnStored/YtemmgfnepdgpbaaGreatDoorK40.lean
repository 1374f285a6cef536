/-
  A region that draws its order and ends in a store: what each operation leaves is good for as long as its block stays.
  Slices of texts that came in or that a call made: how they are read; the laws' own helpers for them.
  The contract of the specification's Hex.
  Drawn parts and drawn texts of chunks: whatever is drawn, few parts, none long.
-/
import Derived.Test.YtemmgfnepdgpbaaGreatDoorK39
import Derived.Test.YtemmgfnepdgpbaaGreatDoorK19
import Derived.Test.YtemmgfnepdgpbaaGreatDoorK09
import Derived.Test.YtemmgfnepdgpbaaGreatDoorK15
import Derived.SliceStrings
import Derived.Deep.QuietTactic
import Derived.BigQuiet
import Derived.Laws.OwnMore
import Derived.Test.YtemmgfnepdgpbaaGreatDoorK08
import Derived.Test.YtemmgfnepdgpbaaGreatDoorRows
import Derived.WalkKit
import Derived.WalkSpells
import Derived.Laws.Bits64b
import Derived.Laws.IdiomStrings
import Derived.Laws.Strings
import Derived.Test.YtemmgfnepdgpbaaGreatDoorK33
import Derived.Deep.RegionLaw
import Derived.Deep.RegionWith
namespace Go.Proofs.YtemmgfnepdgpbaaGreatDoor
open Go.RowKit Go.Sort
set_option linter.unusedVariables false

/-- Whichever of the operations 0 .. N - 1 are done, what they left is good; behind operation N all are done. -/
structure CondG (G : World → Nat → Value → Prop) (d : Nat → Nat) (N : Nat) (Fin : (Nat → Value) → World → Prop) (L : Nat → Bool) (t : Nat → Value) (w : World) : Prop where
  en : L N = true → (∀ i, i < N → L i = true) ∧ Fin t w
  ok : L N = false → ∀ i, i < N → L i = true → G w i (t (d i))
theorem CondG.none {G : World → Nat → Value → Prop} {d : Nat → Nat} {N : Nat} {Fin : (Nat → Value) → World → Prop} {t : Nat → Value} {w : World} : CondG G d N Fin (fun _ => false) t w :=
  ⟨fun h => (by cases h), fun _ _ _ h => (by cases h)⟩
theorem CondG.not {G : World → Nat → Value → Prop} {d : Nat → Nat} {N : Nat} {Fin : (Nat → Value) → World → Prop} {L : Nat → Bool} {t : Nat → Value} {w : World} (C : CondG G d N Fin L t w) {i : Nat} (hi : L i = false) (hN : i ≤ N) : L N = false := by
  cases h : L N with
  | false => rfl
  | true =>
    rcases Nat.lt_or_eq_of_le hN with h1 | rfl
    · rw [(C.en h).1 i h1] at hi; cases hi
    · rw [h] at hi; cases hi
theorem CondG.got {G : World → Nat → Value → Prop} {d : Nat → Nat} {N : Nat} {Fin : (Nat → Value) → World → Prop} {L : Nat → Bool} {t : Nat → Value} {w : World} (C : CondG G d N Fin L t w) {i : Nat} (hi : L i = false) (hN : i ≤ N) (j : Nat) (hj : j < N) (hl : L j = true) : G w j (t (d j)) := C.ok (C.not hi hN) j hj hl
theorem CondG.put {G : World → Nat → Value → Prop} {d : Nat → Nat} {N : Nat} {Fin : (Nat → Value) → World → Prop} {L : Nat → Bool} {t : Nat → Value} {w w' : World} (C : CondG G d N Fin L t w) {i : Nat} (hi : L i = false) (hN : i < N) {v : Value} (hd : ∀ j, j < N → j ≠ i → d j ≠ d i) (hk : ∀ j u, j < N → G w j u → G w' j u) (hg : G w' i v) : CondG G d N Fin (upd L i true) (upd t (d i) v) w' := by
  have hLN := C.not hi (Nat.le_of_lt hN)
  refine ⟨fun h => ?_, fun _ j hj hl => ?_⟩
  · rw [show upd L i true N = L N from if_neg (by omega), hLN] at h; cases h
  · by_cases e : j = i
    · subst e
      rw [show upd t (d j) v (d j) = v from if_pos rfl]
      exact hg
    · rw [show upd L i true j = L j from if_neg e] at hl
      rw [show upd t (d i) v (d j) = t (d j) from if_neg (hd j hj e)]
      exact hk j _ hj (C.ok hLN j hj hl)
theorem CondG.last {G : World → Nat → Value → Prop} {d : Nat → Nat} {N : Nat} {Fin : (Nat → Value) → World → Prop} {L : Nat → Bool} {t : Nat → Value} {w' : World} (hall : ∀ i, i < N → L i = true) (hF : Fin t w') : CondG G d N Fin (upd L N true) t w' := by
  refine ⟨fun _ => ⟨fun i hi => ?_, hF⟩, fun h => ?_⟩
  · rw [show upd L N true i = L i from if_neg (by omega)]; exact hall i hi
  · rw [show upd L N true N = true from if_pos rfl] at h; cases h

theorem OwnsF.keep {w w' : World} {B b : Nat} {v : Value} {l : List Fl} (h : OwnsF w B v l) (hk : Keep b w w') (hB : b < B) : OwnsF w' B v l := by
  refine ⟨h.1, ?_⟩
  rcases h.2 with h0 | ⟨g, cap, cur, hv, hbg, hg, rest⟩
  · exact .inl h0
  · exact .inr ⟨g, cap, cur, hv, hbg, hk g _ (by omega) hg, rest⟩
/-- A store into a block of another type leaves the row. -/
theorem OwnsF.besides {w : World} {B g k : Nat} {v : Value} {l : List Fl} {c : Array Value} {T : TypeId} {fr : Nat × Nat} (h : OwnsF w B v l) (hg : w.heap[g]? = some (.cells c T fr)) (hT : T ≠ 83) (x : Value) : OwnsF (w.setCell ⟨g, k, none⟩ x) B v l := by
  refine ⟨h.1, ?_⟩
  rcases h.2 with h0 | ⟨g', cap, cur, hv, hbg, hg', rest⟩
  · exact .inl h0
  · refine .inr ⟨g', cap, cur, hv, hbg, ?_, rest⟩
    rw [Below.heap_setCell _ _ _ _ (show g' ≠ g from fun e => by subst e; rw [hg] at hg'; injection hg' with e; injection e with _ e _; exact hT e)]
    exact hg'
/-- Few fields, each of them small. -/
def SmallG (l : List Fl) : Prop := l.length ≤ 40 ∧ ∀ f ∈ l, f.1.size ≤ 20 ∧ f.2.size ≤ 20
theorem SmallF.more {l : List Fl} (h : SmallF l) : SmallG l := ⟨by have := h.1; omega, fun f hf => by have := h.2 f hf; omega⟩
theorem SmallG.sz {l : List Fl} (h : SmallG l) : szL l ≤ 1600 := by
  have : ∀ (l : List Fl), (∀ f ∈ l, f.1.size ≤ 20 ∧ f.2.size ≤ 20) → szL l ≤ 40 * l.length := by
    intro l
    induction l with
    | nil => intro _; exact Nat.zero_le _
    | cons f l ih =>
      intro h
      have h1 := h f (by simp)
      have h2 := ih fun g hg => h g (by simp [hg])
      have e : szL (f :: l) = szF f + szL l := by simp [szL]
      rw [e, List.length_cons]
      unfold szF
      omega
  have h2 := this l h.2
  have := h.1
  omega
end Go.Proofs.YtemmgfnepdgpbaaGreatDoor
namespace Go.Proofs.YtemmgfnepdgpbaaGreatDoor
open Go.RowKit

/-- The slice v holds the texts l. -/
def StrsP (w : World) (v : Value) (l : List ByteArray) : Prop := ∃ a cap, v = .slice a l.length cap ∧ l.length ≤ cap ∧ cap ≤ maxLen ∧ (0 < l.length → ∃ g o, a = some ⟨g, o, none⟩ ∧ g < w.heap.size ∧ ∀ j (hj : j < l.length), w.cell? ⟨g, o + j, none⟩ = some (.string l[j]))
theorem StrsP.kept {w w' : World} {v : Value} {l : List ByteArray} (h : StrsP w v l) (hb : Below w.heap.size w w') : StrsP w' v l := by
  obtain ⟨a, cap, h1, h2, h3, h4⟩ := h
  refine ⟨a, cap, h1, h2, h3, fun h0 => ?_⟩
  obtain ⟨g, o, h5, h6, h7⟩ := h4 h0
  exact ⟨g, o, h5, Nat.lt_of_lt_of_le h6 hb.size, fun j hj => (hb.cell (p := ⟨g, o + j, none⟩) h6).trans (h7 j hj)⟩
theorem StrsP.drew {w : World} {v : Value} {l : List ByteArray} (h : StrsP w v l) : StrsP w.drew v l := h
/-- The value v owns the texts l, in a block from B on. -/
def OwnsP (w : World) (B : Nat) (v : Value) (l : List ByteArray) : Prop := w.ownsRow B 9 1 v l.length (l.map Value.string)
theorem OwnsP.put {w : World} {B g cap n : Nat} {l : List ByteArray} (h : OwnsP w B (.slice (some ⟨g, 0, none⟩) n cap) l) (hn : n = l.length) (k : Nat) (s : ByteArray) : OwnsP (w.setCell ⟨g, k, none⟩ (.string s)) B (.slice (some ⟨g, 0, none⟩) n cap) (l.set k s) := by
  subst hn
  rcases h.2 with ⟨e, _⟩ | ⟨g', cap', cur, e, hb, hg, hc, hm, hz, rest⟩
  · cases e
  · obtain ⟨rfl, rfl⟩ : g = g' ∧ cap = cap' := by simpa using e
    refine ⟨by simp, .inr ⟨g, cap, cur.setIfInBounds k (.string s), by simp, hb, ?_, by simpa using hc, hm, by simpa using hz, ?_⟩⟩
    · rw [setCell_eq_setRow w g k cur 9 (0, 0) _ hg]
      exact setRow_heap w g cur _ 9 _ hg
    · simp only [Nat.mul_one] at rest ⊢
      rw [List.length_set, Array.toList_setIfInBounds, List.take_set, rest, List.map_set]
theorem OwnsP.at {w : World} {B g cap n : Nat} {l : List ByteArray} (h : OwnsP w B (.slice (some ⟨g, 0, none⟩) n cap) l) (hn : n = l.length) (k : Nat) (hk : k < l.length) : w.cell? ⟨g, k, none⟩ = some (.string l[k]) ∧ w.frozen? ⟨g, k, none⟩ = false := by
  subst hn
  refine ⟨?_, World.ownsRow.frozenAt h k⟩
  have := World.ownsRow.cells h (g := g) rfl k (.string l[k]) (by rw [List.getElem?_map, List.getElem?_eq_getElem hk]; rfl)
  rw [addr_add, Nat.zero_add] at this
  exact this
end Go.Proofs.YtemmgfnepdgpbaaGreatDoor
namespace Go.Proofs.YtemmgfnepdgpbaaGreatDoor
open Go.RowKit

/-- n lies between lo and hi. -/
def inR (n lo hi : Int) : Bool := decide (lo ≤ n ∧ n ≤ hi)
theorem inRange (n lo hi : Int) (w : World) : Calls Tryz.prog 33 #[.int .i64 n, .int .i64 lo, .int .i64 hi] w fun e w' => e = .returned (.bool (inR n lo hi)) ∧ w = w' := by
  unfold inR
  by_cases h1 : lo ≤ n
  · by_cases h2 : n ≤ hi
    · have e : decide (lo ≤ n ∧ n ≤ hi) = true := decide_eq_true ⟨h1, h2⟩
      rw [e]
      clear e
      go_enter Tryz.func33, Tryz.ntmps33
      go_wp2
      go_ret
      exact ⟨by simp, rfl⟩
    · have e : decide (lo ≤ n ∧ n ≤ hi) = false := decide_eq_false (fun x => h2 x.2)
      rw [e]
      clear e
      go_enter Tryz.func33, Tryz.ntmps33
      go_wp2
      go_ret
      exact ⟨by simp, rfl⟩
  · have e : decide (lo ≤ n ∧ n ≤ hi) = false := decide_eq_false (fun x => h1 x.1)
    rw [e]
    clear e
    go_enter Tryz.func33, Tryz.ntmps33
    go_wp2
    go_ret
    exact ⟨rfl, rfl⟩

end Go.Proofs.YtemmgfnepdgpbaaGreatDoor
namespace Go.Proofs.YtemmgfnepdgpbaaGreatDoor
open Go.RowKit

theorem OwnsP.born (w : World) : OwnsP (w.alloc (.cells #[] 9)) w.heap.size (.slice (some ⟨w.heap.size, 0, none⟩) 0 0) [] :=
  World.ownsRow_lit w #[] 0 (Nat.le_refl _) (by unfold maxLen; decide) rfl
theorem OwnsP.from {w : World} {B : Nat} {v : Value} {l : List ByteArray} (h : OwnsP w B v l) : ∀ k, v.ownBlock = some k → B ≤ k := fun k hk => (World.ownsRow.lt h k hk).1
theorem OwnsP.beside {w w' : World} {B b : Nat} {v : Value} {l : List ByteArray} (h : OwnsP w B v l) (hb : Beside b w w') (hB : b < B) : OwnsP w' B v l := by
  refine ⟨h.1, ?_⟩
  rcases h.2 with h0 | ⟨g, cap, cur, hv, hbg, hg, rest⟩
  · exact .inl h0
  · exact .inr ⟨g, cap, cur, hv, hbg, by rw [hb.2.2.2.2 g (Array.getElem?_eq_some_iff.1 hg).1 (by omega)]; exact hg, rest⟩
theorem OwnsP.kept {w w' : World} {B : Nat} {v : Value} {l : List ByteArray} (h : OwnsP w B v l) (hb : Below w.heap.size w w') : OwnsP w' B v l := by
  refine ⟨h.1, ?_⟩
  rcases h.2 with h0 | ⟨g, cap, cur, hv, hbg, hg, rest⟩
  · exact .inl h0
  · exact .inr ⟨g, cap, cur, hv, hbg, by rw [hb.block g (Array.getElem?_eq_some_iff.1 hg).1]; exact hg, rest⟩
theorem OwnsP.low {w : World} {B B' : Nat} {v : Value} {l : List ByteArray} (h : OwnsP w B v l) (hB : B' ≤ B) : OwnsP w B' v l := by
  refine ⟨h.1, ?_⟩
  rcases h.2 with h0 | ⟨g, cap, cur, hv, hb, hg, rest⟩
  · exact .inl h0
  · exact .inr ⟨g, cap, cur, hv, by omega, hg, rest⟩
end Go.Proofs.YtemmgfnepdgpbaaGreatDoor
