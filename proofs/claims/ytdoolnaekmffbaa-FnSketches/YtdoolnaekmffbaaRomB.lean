/-
  The specification's shelf of what is recent.
-/
import Derived.Test.YtdoolnaekmffbaaRomA
namespace Go.Proofs.Ytdoolnaekmffbaa
open Go.RowKit Go.Sort Rom
set_option linter.unusedVariables false
set_option linter.unusedSimpArgs false

theorem shf_length (r : Nat) (p : List Int) : (shf r p).length ≤ r := by rw [shf_is, List.length_take]; exact Nat.min_le_left _ _
theorem filt_next {S : List Int} {j : Nat} {x : Int} (h : j < S.length) : (S.take (j + 1)).filter (fun y => decide (y ≠ x)) = (S.take j).filter (fun y => decide (y ≠ x)) ++ (if S[j] = x then [] else [S[j]]) := by
  rw [List.take_succ_eq_append_getElem h, List.filter_append]
  congr 1
  by_cases e : S[j] = x
  · rw [if_pos e, List.filter_cons_of_neg (by simpa using e)]; rfl
  · rw [if_neg e, List.filter_cons_of_pos (by simpa using e)]; rfl
theorem mem_next {S : List Int} {j : Nat} {x : Int} (h : j < S.length) : decide (x ∈ S.take (j + 1)) = (decide (x ∈ S.take j) || decide (S[j] = x)) := by
  rw [List.take_succ_eq_append_getElem h]
  by_cases h1 : x ∈ S.take j
  · rw [decide_eq_true h1, decide_eq_true (List.mem_append.2 (.inl h1))]; rfl
  · by_cases h2 : S[j] = x
    · rw [decide_eq_false h1, decide_eq_true h2, decide_eq_true (List.mem_append.2 (.inr (List.mem_singleton.2 h2.symm)))]; rfl
    · have h3 : ¬ x ∈ S.take j ++ [S[j]] := fun hm => by
        rcases List.mem_append.1 hm with e | e
        · exact h1 e
        · exact h2 (List.mem_singleton.1 e).symm
      rw [decide_eq_false h1, decide_eq_false h2, decide_eq_false h3]; rfl
theorem shf_next {r : Nat} {t : List Int} {k : Nat} (h : k < t.length) : shf r (t.take (k + 1)) = srS r (shf r (t.take k)) t[k] := by
  rw [List.take_succ_eq_append_getElem h, shf_snoc]
theorem mis_next {r : Nat} {t : List Int} {k : Nat} (h : k < t.length) : mis r t (k + 1) = mis r t k + (if t[k] ∈ shf r (t.take k) then 0 else 1) := by
  show mis r t k + (if t.getD k 0 ∈ shf r (t.take k) then 0 else 1) = _
  have e : t.getD k 0 = t[k] := by simp [h]
  rw [e]
theorem mis_le (r : Nat) (t : List Int) : ∀ k, mis r t k ≤ k
  | 0 => Nat.le_refl _
  | k + 1 => by
    have := mis_le r t k
    show mis r t k + _ ≤ k + 1
    split <;> omega
theorem ownsN_some {w : World} {B n sc : Nat} {sa : Option Addr} {S : List Int} (h : OwnsN w B (.slice sa n sc) S) (h0 : 0 < S.length) : ∃ sg, sa = some ⟨sg, 0, none⟩ := by
  rcases h.2 with ⟨_, e⟩ | ⟨g, cap, cur, e, _⟩
  · omega
  · injection e with e1 _ _
    exact ⟨g, e1⟩
/-- What is recent. -/
def recA (t : List Int) (r : Int) : List Int := if toldB t r = true then shf r.toNat t else []
def misA (t : List Int) (r : Int) : Int := if toldB t r = true then (mis r.toNat t t.length : Int) else -1
end Go.Proofs.Ytdoolnaekmffbaa
