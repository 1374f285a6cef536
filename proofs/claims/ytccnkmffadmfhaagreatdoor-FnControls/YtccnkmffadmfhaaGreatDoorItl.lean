/-
  How many items a text has at most, and what is kept of an owned slice where another one is marked.
-/
import Derived.Test.YtccnkmffadmfhaaGreatDoorItems2
import Derived.Test.YtccnkmffadmfhaaGreatDoorHeld
namespace Go.Proofs.YtccnkmffadmfhaaGreatDoor
open Go.RowKit

theorem partsF_length : ∀ (n : Nat) (l cur : List UInt8) (op : Bool), l.length ≤ n → (partsF cur op l).length ≤ l.length + 1 := by
  intro n
  induction n with
  | zero =>
    intro l cur op h
    have e : l = [] := List.eq_nil_of_length_eq_zero (by omega)
    subst e
    rw [partsF_nil]; simp
  | succ n ih =>
    intro l cur op h
    cases l with
    | nil => rw [partsF_nil]; simp
    | cons c r =>
      simp only [List.length_cons] at h
      by_cases h1 : op = false ∧ c.toNat = 44
      · obtain ⟨rfl, h1⟩ := h1
        rw [partsF_comma _ _ h1]
        have := ih r [] false (by omega)
        simp only [List.length_cons]
        omega
      · by_cases h2 : c.toNat = 34
        · rw [partsF_quote _ _ _ h2]
          have := ih r (cur ++ [c]) (!op) (by omega)
          simp only [List.length_cons]
          omega
        · by_cases h3 : op = true ∧ c.toNat = 92
          · obtain ⟨rfl, h3⟩ := h3
            rw [partsF_take _ _ h3]
            cases r with
            | nil => simp
            | cons d r =>
              simp only [List.length_cons] at h ⊢
              have := ih r (cur ++ [c] ++ [d]) true (by omega)
              show (partsF (cur ++ [c] ++ [d]) true r).length ≤ _
              omega
          · rw [partsF_plain _ _ _ h1 h2 h3]
            have := ih r (cur ++ [c]) op (by omega)
            simp only [List.length_cons]
            omega
theorem itemsOf_length (ps : List (List UInt8)) : (itemsOf ps).length ≤ ps.length := by
  induction ps with
  | nil => simp [itemsOf]
  | cons p ps ih =>
    rw [itemsOf_cons, List.length_append, List.length_cons]
    have := one_length ⟨p.toArray⟩
    omega
theorem itemsA_length (s : ByteArray) : (itemsA s).length ≤ 401 := by
  cases h : visB s with
  | false => rw [← itemsA_no h]; simp
  | true =>
    rw [← itemsA_yes h]
    have h1 := vis_size h
    have h2 := partsF_length s.data.toList.length s.data.toList [] false (Nat.le_refl _)
    have h3 := itemsOf_length (partsF [] false s.data.toList)
    have h4 : s.data.toList.length = s.size := by simp
    unfold itemsT
    omega

theorem OwnsS.but {w w' : World} {B g : Nat} {v : Value} {l : List ByteArray} (h : OwnsS w B v l) (hb : But g w w') (hne : ∀ k, v.ownBlock = some k → k ≠ g) : OwnsS w' B v l := by
  obtain ⟨⟨g0, cap, hv, hbg, hg⟩, h1, h2⟩ := h
  refine ⟨⟨g0, cap, hv, hbg, Nat.lt_of_lt_of_le hg hb.2.2.2.1⟩, h1, ?_⟩
  rcases h2 with h0 | ⟨g', cap', cur, hv', hb', hg', rest⟩
  · exact .inl h0
  · refine .inr ⟨g', cap', cur, hv', hb', ?_, rest⟩
    rw [hb.2.2.2.2 g' (Array.getElem?_eq_some_iff.1 hg').1 (hne g' (by rw [hv']; rfl))]
    exact hg'
theorem But.low {g B : Nat} {w w' : World} (h : But g w w') (hB : B ≤ g) (hs : B ≤ w.heap.size) : Below B w w' :=
  ⟨h.1, h.2.1, h.2.2.1, h.2.2.2.1, fun k hk => h.2.2.2.2 k (by omega) (by omega)⟩
theorem OwnsS.under {w : World} {B : Nat} {v : Value} {l : List ByteArray} (h : OwnsS w B v l) : ∀ k, v.ownBlock = some k → k < w.heap.size := fun k hk => (World.ownsRow.lt h.2 k hk).2
end Go.Proofs.YtccnkmffadmfhaaGreatDoor
