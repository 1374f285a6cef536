/-
  How large items are.
-/
import Derived.Test.YtccnkmffadmfhaaGreatDoorItems
namespace Go.Proofs.YtccnkmffadmfhaaGreatDoor
open Go.RowKit

theorem partsF_size : ∀ (n : Nat) (l cur : List UInt8) (op : Bool), l.length ≤ n → ∀ p ∈ partsF cur op l, p.length ≤ cur.length + l.length := by
  intro n
  induction n with
  | zero =>
    intro l cur op h p hp
    have e : l = [] := List.eq_nil_of_length_eq_zero (by omega)
    subst e
    rw [partsF_nil] at hp
    rw [List.mem_singleton.1 hp]; simp
  | succ n ih =>
    intro l cur op h p hp
    cases l with
    | nil => rw [partsF_nil] at hp; rw [List.mem_singleton.1 hp]; simp
    | cons c r =>
      simp only [List.length_cons] at h ⊢
      by_cases h1 : op = false ∧ c.toNat = 44
      · obtain ⟨rfl, h1⟩ := h1
        rw [partsF_comma _ _ h1] at hp
        rcases List.mem_cons.1 hp with rfl | hp
        · omega
        · have := ih r [] false (by omega) p hp
          simp at this
          omega
      · by_cases h2 : c.toNat = 34
        · rw [partsF_quote _ _ _ h2] at hp
          have := ih r (cur ++ [c]) (!op) (by omega) p hp
          simp at this
          omega
        · by_cases h3 : op = true ∧ c.toNat = 92
          · obtain ⟨rfl, h3⟩ := h3
            rw [partsF_take _ _ h3] at hp
            cases r with
            | nil => simp at hp; subst hp; simp
            | cons d r =>
              simp only [List.length_cons] at h ⊢
              have := ih r (cur ++ [c] ++ [d]) true (by omega) p hp
              simp at this
              omega
          · rw [partsF_plain _ _ _ h1 h2 h3] at hp
            have := ih r (cur ++ [c]) op (by omega) p hp
            simp at this
            omega
theorem items_size (s : ByteArray) : ∀ x ∈ itemsA s, x.size ≤ 400 := by
  intro x hx
  cases h : visB s with
  | false => rw [← itemsA_no h] at hx; cases hx
  | true =>
    rw [← itemsA_yes h] at hx
    unfold itemsT itemsOf at hx
    obtain ⟨p, hp, hxp⟩ := List.mem_flatMap.1 hx
    have h1 := partsF_size s.data.toList.length s.data.toList [] false (Nat.le_refl _) p hp
    have h2 := vis_size h
    have h3 : s.data.toList.length = s.size := by simp
    unfold one at hxp
    split at hxp
    · rw [List.mem_singleton.1 hxp]
      have h4 := trimB_size ⟨p.toArray⟩
      have h5 : (⟨p.toArray⟩ : ByteArray).size = p.length := by show p.toArray.size = _; simp
      simp at h1
      omega
    · cases hxp
end Go.Proofs.YtccnkmffadmfhaaGreatDoor
