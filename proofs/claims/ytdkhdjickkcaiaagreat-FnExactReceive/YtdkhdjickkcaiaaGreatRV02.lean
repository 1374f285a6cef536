/-
  Plain facts of sketches: numbers in a rising list, marks, what is marked, both.
-/
import Derived.Test.YtdkhdjickkcaiaaGreatRVS
import Derived.Test.YtdkhdjickkcaiaaGreatRV01
set_option linter.unusedVariables false
set_option linter.unusedSimpArgs false
set_option maxRecDepth 100000
set_option maxHeartbeats 64000000
namespace Go.Proofs.YtdkhdjickkcaiaaGreat.Sk
open Ow

def put (n : Int) : List Int → List Int
 | [] => [n]
 | x :: t => if x < n then x :: put n t else if x = n then x :: t else n :: x :: t
theorem put_mem (n : Int) : ∀ (l : List Int) (y : Int), y ∈ put n l ↔ y = n ∨ y ∈ l
 | [], y => by simp [put]
 | x :: t, y => by
  unfold put
  split
  ·
   rw [List.mem_cons, put_mem n t y, List.mem_cons]
   constructor
   ·
    rintro (h | h | h)
    ·
     exact .inr (.inl h)
    ·
     exact .inl h
    ·
     exact .inr (.inr h)
   ·
    rintro (h | h | h)
    ·
     exact .inr (.inl h)
    ·
     exact .inl h
    ·
     exact .inr (.inr h)
  ·
   split
   ·
    rename_i _ e
    subst e
    constructor
    ·
     exact fun h => .inr h
    ·
     rintro (h | h)
     ·
      rw [h]; exact List.mem_cons_self
     ·
      exact h
   ·
    rw [List.mem_cons]
theorem put_ris (n : Int) : ∀ (l : List Int), l.Pairwise (· < ·) → (put n l).Pairwise (· < ·)
 | [], _ => by simp [put]
 | x :: t, h => by
  rw [List.pairwise_cons] at h
  unfold put
  split
  ·
   rename_i hx
   rw [List.pairwise_cons]
   refine ⟨fun y hy => ?_, put_ris n t h.2⟩
   rcases (put_mem n t y).1 hy with rfl | hy
   ·
    exact hx
   ·
    exact h.1 y hy
  ·
   split
   ·
    exact List.pairwise_cons.2 h
   ·
    rename_i h1 h2
    rw [List.pairwise_cons]
    refine ⟨fun y hy => ?_, List.pairwise_cons.2 h⟩
    rcases List.mem_cons.1 hy with rfl | hy
    ·
     omega
    ·
     have := h.1 y hy; omega
theorem nodup_lt {l : List Int} (h : l.Pairwise (· < ·)) : l.Nodup := by
 induction h with
 | nil => exact List.nodup_nil
 | cons h1 h2 ih => exact List.nodup_cons.2 ⟨fun hm => by have := h1 _ hm; omega, ih⟩
theorem ris_one {l m : List Int} (hl : l.Pairwise (· < ·)) (hm : m.Pairwise (· < ·)) (h : ∀ y, y ∈ l ↔ y ∈ m) : l = m := by
 have nl : l.Nodup := nodup_lt hl
 have nm : m.Nodup := nodup_lt hm
 refine List.Perm.eq_of_pairwise (le := (· < ·)) (fun a b _ _ h1 h2 => by omega) hl hm ?_
 exact (List.perm_ext_iff_of_nodup nl nm).2 h
theorem put_there {n : Int} {l : List Int} (hl : l.Pairwise (· < ·)) (h : n ∈ l) : put n l = l :=
 ris_one (put_ris n l hl) hl fun y => by rw [put_mem]; exact ⟨fun k => k.elim (fun e => e ▸ h) id, .inr⟩
theorem put_at (n : Int) : ∀ (l : List Int) (k : Nat), k ≤ l.length → (∀ j (hj : j < l.length), j < k → l[j] < n) → (∀ hk : k < l.length, n < l[k]) → put n l = l.take k ++ n :: l.drop k
 | [], k, hk, _, _ => by
  simp only [List.length_nil] at hk
  obtain rfl : k = 0 := by omega
  rfl
 | x :: t, 0, _, _, h => by
  have := h (by simp)
  simp only [List.getElem_cons_zero] at this
  unfold put
  rw [if_neg (by omega), if_neg (by omega)]
  rfl
 | x :: t, k + 1, hk, h1, h2 => by
  have h0 := h1 0 (by simp) (by omega)
  simp only [List.getElem_cons_zero] at h0
  unfold put
  rw [if_pos h0, put_at n t k (by simpa using hk) (fun j hj hjk => by have := h1 (j + 1) (by simpa using hj) (by omega); simpa using this) (fun hk2 => by have := h2 (by simpa using hk2); simpa using this)]
  rfl
def risB (l : List Int) (b : Int) : Bool := l.all (fun x => decide (0 ≤ x ∧ x ≤ b - 1)) && decide (l.Pairwise (· < ·))
theorem risB_iff {l : List Int} {b : Int} : risB l b = true ↔ (∀ x ∈ l, 0 ≤ x ∧ x ≤ b - 1) ∧ l.Pairwise (· < ·) := by
 unfold risB
 rw [Bool.and_eq_true, List.all_eq_true, decide_eq_true_eq]
 exact ⟨fun h => ⟨fun x hx => of_decide_eq_true (h.1 x hx), h.2⟩, fun h => ⟨fun x hx => decide_eq_true (h.1 x hx), h.2⟩⟩
def stepR (l : List Int) (b : Int) (i : Nat) (h : i < l.length) : Prop := (0 ≤ l[i] ∧ l[i] ≤ b - 1) ∧ ∀ h0 : 0 < i, l[i - 1] < l[i]
theorem risB_of {l : List Int} {b : Int} (h : ∀ (i : Nat) (hi : i < l.length), stepR l b i hi) : risB l b = true :=
 risB_iff.2 ⟨fun x hx => by obtain ⟨i, hi, rfl⟩ := List.mem_iff_getElem.1 hx; exact (h i hi).1, risen fun i hi h0 => (h i hi).2 h0⟩
theorem risB_not {l : List Int} {b : Int} (i : Nat) (hi : i < l.length) (h : ¬ stepR l b i hi) : risB l b = false := by
 cases e : risB l b with
 | false => rfl
 | true =>
  have k := risB_iff.1 e
  exact absurd ⟨k.1 _ (List.getElem_mem hi), fun h0 => List.pairwise_iff_getElem.1 k.2 _ _ (by omega) hi (by omega)⟩ h
end Go.Proofs.YtdkhdjickkcaiaaGreat.Sk
