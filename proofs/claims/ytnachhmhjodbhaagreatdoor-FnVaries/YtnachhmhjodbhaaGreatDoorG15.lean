/-
  The contracts of the law's own helpers: slices of texts compared, marked, and asked for their marks.
  How many items a text has at most, and what is kept of an owned slice where another one is marked.
  How large items are.
-/
import Derived.Test.YtnachhmhjodbhaaGreatDoorG05
import Derived.Deep.QuietTactic
import Derived.BigQuiet
import Derived.Deep.RegionWith
import Derived.Laws.IdiomStrings
import Derived.Test.YtnachhmhjodbhaaGreatDoorG14
import Derived.Test.YtnachhmhjodbhaaGreatDoorG12
namespace Go.Proofs.YtnachhmhjodbhaaGreatDoor
open Go.RowKit

/-- What a walk reads of an owned slice of texts. -/
theorem OwnsS.at {w : World} {B g n cap : Nat} {l : List ByteArray} (h : OwnsS w B (.slice (some ⟨g, 0, none⟩) n cap) l) (hn : n = l.length) : ∀ j (hj : j < l.length), w.cell? ⟨g, j, none⟩ = some (.string l[j]) := by
  intro j hj
  subst hn
  have := World.ownsRow.cellAt h.2 j (by omega)
  rw [this]
  simp [hj]

/-- A text stored into an owned slice. -/
theorem OwnsS.put {w : World} {B g cap : Nat} {l : List ByteArray} {n : Nat} (hn : n = l.length) (h : OwnsS w B (.slice (some ⟨g, 0, none⟩) n cap) l) (k : Nat) (c : ByteArray) : OwnsS (w.setCell ⟨g, k, none⟩ (.string c)) B (.slice (some ⟨g, 0, none⟩) n cap) (l.set k c) := by
  subst hn
  obtain ⟨⟨g', cap', hv, hb, hg⟩, ho⟩ := h
  have h2 := (ho.stored k (.string c)).1
  simp only [Value.slice.injEq, Option.some.injEq, Addr.mk.injEq, and_true, true_and] at hv
  obtain ⟨rfl, rfl⟩ := hv
  refine ⟨⟨g, cap, by rw [List.length_set], hb, by simpa [World.setCell] using hg⟩, ?_⟩
  rw [List.length_set, List.map_set]
  exact h2
/-- What holds of every block but g. -/
def But (g : Nat) (w w' : World) : Prop := w'.os = w.os ∧ w'.tape = w.tape ∧ w'.output = w.output ∧ w.heap.size ≤ w'.heap.size ∧ ∀ k, k < w.heap.size → k ≠ g → w'.heap[k]? = w.heap[k]?
theorem But.refl (g : Nat) (w : World) : But g w w := ⟨rfl, rfl, rfl, Nat.le_refl _, fun _ _ _ => rfl⟩
theorem But.below {g : Nat} {a w w' : World} (h : But g a w) (hb : Below w.heap.size w w') : But g a w' :=
  ⟨hb.os.trans h.1, hb.tape.trans h.2.1, hb.output.trans h.2.2.1, Nat.le_trans h.2.2.2.1 hb.size, fun k hk hg => (hb.block k (by have := h.2.2.2.1; omega)).trans (h.2.2.2.2 k hk hg)⟩
theorem But.put {g : Nat} {a w : World} (h : But g a w) (k : Nat) (v : Value) : But g a (w.setCell ⟨g, k, none⟩ v) :=
  ⟨h.1, h.2.1, h.2.2.1, by simpa [World.setCell] using h.2.2.2.1, fun j hj hg => (Below.heap_setCell _ _ _ _ hg).trans (h.2.2.2.2 j hj hg)⟩

end Go.Proofs.YtnachhmhjodbhaaGreatDoor
namespace Go.Proofs.YtnachhmhjodbhaaGreatDoor
open Go.RowKit

theorem partsF_length : ∀ (n : Nat) (l cur : List UInt8) (op : Bool), l.length ≤ n → (partsF cur op l).length ≤ l.length + 1 := by
  intro n
  induction n with
  | zero =>
    intro l cur op h
    have e : l = [] := List.eq_nil_of_length_eq_zero (by omega)
    subst e
    rw [partsF_nil]; simp
  | succ n ih =>
    intro l cur op h
    cases l with
    | nil => rw [partsF_nil]; simp
    | cons c r =>
      simp only [List.length_cons] at h
      by_cases h1 : op = false ∧ c.toNat = 44
      · obtain ⟨rfl, h1⟩ := h1
        rw [partsF_comma _ _ h1]
        have := ih r [] false (by omega)
        simp only [List.length_cons]
        omega
      · by_cases h2 : c.toNat = 34
        · rw [partsF_quote _ _ _ h2]
          have := ih r (cur ++ [c]) (!op) (by omega)
          simp only [List.length_cons]
          omega
        · by_cases h3 : op = true ∧ c.toNat = 92
          · obtain ⟨rfl, h3⟩ := h3
            rw [partsF_take _ _ h3]
            cases r with
            | nil => simp
            | cons d r =>
              simp only [List.length_cons] at h ⊢
              have := ih r (cur ++ [c] ++ [d]) true (by omega)
              show (partsF (cur ++ [c] ++ [d]) true r).length ≤ _
              omega
          · rw [partsF_plain _ _ _ h1 h2 h3]
            have := ih r (cur ++ [c]) op (by omega)
            simp only [List.length_cons]
            omega
theorem itemsOf_length (ps : List (List UInt8)) : (itemsOf ps).length ≤ ps.length := by
  induction ps with
  | nil => simp [itemsOf]
  | cons p ps ih =>
    rw [itemsOf_cons, List.length_append, List.length_cons]
    have := one_length ⟨p.toArray⟩
    omega
theorem itemsA_length (s : ByteArray) : (itemsA s).length ≤ 401 := by
  cases h : visB s with
  | false => rw [← itemsA_no h]; simp
  | true =>
    rw [← itemsA_yes h]
    have h1 := vis_sizeI h
    have h2 := partsF_length s.data.toList.length s.data.toList [] false (Nat.le_refl _)
    have h3 := itemsOf_length (partsF [] false s.data.toList)
    have h4 : s.data.toList.length = s.size := by simp
    unfold itemsT
    omega

theorem OwnsS.but {w w' : World} {B g : Nat} {v : Value} {l : List ByteArray} (h : OwnsS w B v l) (hb : But g w w') (hne : ∀ k, v.ownBlock = some k → k ≠ g) : OwnsS w' B v l := by
  obtain ⟨⟨g0, cap, hv, hbg, hg⟩, h1, h2⟩ := h
  refine ⟨⟨g0, cap, hv, hbg, Nat.lt_of_lt_of_le hg hb.2.2.2.1⟩, h1, ?_⟩
  rcases h2 with h0 | ⟨g', cap', cur, hv', hb', hg', rest⟩
  · exact .inl h0
  · refine .inr ⟨g', cap', cur, hv', hb', ?_, rest⟩
    rw [hb.2.2.2.2 g' (Array.getElem?_eq_some_iff.1 hg').1 (hne g' (by rw [hv']; rfl))]
    exact hg'
theorem But.low {g B : Nat} {w w' : World} (h : But g w w') (hB : B ≤ g) (hs : B ≤ w.heap.size) : Below B w w' :=
  ⟨h.1, h.2.1, h.2.2.1, h.2.2.2.1, fun k hk => h.2.2.2.2 k (by omega) (by omega)⟩
theorem OwnsS.under {w : World} {B : Nat} {v : Value} {l : List ByteArray} (h : OwnsS w B v l) : ∀ k, v.ownBlock = some k → k < w.heap.size := fun k hk => (World.ownsRow.lt h.2 k hk).2
end Go.Proofs.YtnachhmhjodbhaaGreatDoor
namespace Go.Proofs.YtnachhmhjodbhaaGreatDoor
open Go.RowKit

theorem partsF_size : ∀ (n : Nat) (l cur : List UInt8) (op : Bool), l.length ≤ n → ∀ p ∈ partsF cur op l, p.length ≤ cur.length + l.length := by
  intro n
  induction n with
  | zero =>
    intro l cur op h p hp
    have e : l = [] := List.eq_nil_of_length_eq_zero (by omega)
    subst e
    rw [partsF_nil] at hp
    rw [List.mem_singleton.1 hp]; simp
  | succ n ih =>
    intro l cur op h p hp
    cases l with
    | nil => rw [partsF_nil] at hp; rw [List.mem_singleton.1 hp]; simp
    | cons c r =>
      simp only [List.length_cons] at h ⊢
      by_cases h1 : op = false ∧ c.toNat = 44
      · obtain ⟨rfl, h1⟩ := h1
        rw [partsF_comma _ _ h1] at hp
        rcases List.mem_cons.1 hp with rfl | hp
        · omega
        · have := ih r [] false (by omega) p hp
          simp at this
          omega
      · by_cases h2 : c.toNat = 34
        · rw [partsF_quote _ _ _ h2] at hp
          have := ih r (cur ++ [c]) (!op) (by omega) p hp
          simp at this
          omega
        · by_cases h3 : op = true ∧ c.toNat = 92
          · obtain ⟨rfl, h3⟩ := h3
            rw [partsF_take _ _ h3] at hp
            cases r with
            | nil => simp at hp; subst hp; simp
            | cons d r =>
              simp only [List.length_cons] at h ⊢
              have := ih r (cur ++ [c] ++ [d]) true (by omega) p hp
              simp at this
              omega
          · rw [partsF_plain _ _ _ h1 h2 h3] at hp
            have := ih r (cur ++ [c]) op (by omega) p hp
            simp at this
            omega
theorem items_size (s : ByteArray) : ∀ x ∈ itemsA s, x.size ≤ 400 := by
  intro x hx
  cases h : visB s with
  | false => rw [← itemsA_no h] at hx; cases hx
  | true =>
    rw [← itemsA_yes h] at hx
    unfold itemsT itemsOf at hx
    obtain ⟨p, hp, hxp⟩ := List.mem_flatMap.1 hx
    have h1 := partsF_size s.data.toList.length s.data.toList [] false (Nat.le_refl _) p hp
    have h2 := vis_sizeI h
    have h3 : s.data.toList.length = s.size := by simp
    unfold one at hxp
    split at hxp
    · rw [List.mem_singleton.1 hxp]
      have h4 := trimB_size ⟨p.toArray⟩
      have h5 : (⟨p.toArray⟩ : ByteArray).size = p.length := by show p.toArray.size = _; simp
      simp at h1
      omega
    · cases hxp
end Go.Proofs.YtnachhmhjodbhaaGreatDoor
