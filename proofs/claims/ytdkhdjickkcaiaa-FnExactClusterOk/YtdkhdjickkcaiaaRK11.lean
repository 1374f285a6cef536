/-
  Plain facts of sketches: numbers in a rising list, marks, what is marked, both.
-/
import Derived.Test.YtdkhdjickkcaiaaRK10
namespace Go.Proofs.Ytdkhdjickkcaiaa.Sk
open Ow
set_option linter.unusedVariables false

/-- A number into a list that rises. -/
def put (n : Int) : List Int → List Int
  | [] => [n]
  | x :: t => if x < n then x :: put n t else if x = n then x :: t else n :: x :: t
def risB (l : List Int) (b : Int) : Bool := l.all (fun x => decide (0 ≤ x ∧ x ≤ b - 1)) && decide (l.Pairwise (· < ·))
theorem risB_iff {l : List Int} {b : Int} : risB l b = true ↔ (∀ x ∈ l, 0 ≤ x ∧ x ≤ b - 1) ∧ l.Pairwise (· < ·) := by
  unfold risB
  rw [Bool.and_eq_true, List.all_eq_true, decide_eq_true_eq]
  exact ⟨fun h => ⟨fun x hx => of_decide_eq_true (h.1 x hx), h.2⟩, fun h => ⟨fun x hx => decide_eq_true (h.1 x hx), h.2⟩⟩
/-- Gone through one by one. -/
def stepR (l : List Int) (b : Int) (i : Nat) (h : i < l.length) : Prop := (0 ≤ l[i] ∧ l[i] ≤ b - 1) ∧ ∀ h0 : 0 < i, l[i - 1] < l[i]
theorem risB_of {l : List Int} {b : Int} (h : ∀ (i : Nat) (hi : i < l.length), stepR l b i hi) : risB l b = true :=
  risB_iff.2 ⟨fun x hx => by obtain ⟨i, hi, rfl⟩ := List.mem_iff_getElem.1 hx; exact (h i hi).1, risen fun i hi h0 => (h i hi).2 h0⟩
theorem risB_not {l : List Int} {b : Int} (i : Nat) (hi : i < l.length) (h : ¬ stepR l b i hi) : risB l b = false := by
  cases e : risB l b with
  | false => rfl
  | true =>
    have k := risB_iff.1 e
    exact absurd ⟨k.1 _ (List.getElem_mem hi), fun h0 => List.pairwise_iff_getElem.1 k.2 _ _ (by omega) hi (by omega)⟩ h
end Go.Proofs.Ytdkhdjickkcaiaa.Sk
