/-
  Plain facts on digits: the value of a digit, the number that a list of digits is, and how great it is.
-/
import Derived.Test.YtemmgfnepdgpbaaGreatDoorK02
namespace Go.Proofs.YtemmgfnepdgpbaaGreatDoor
open Go.RowKit

/-- The value of a digit (decimal or hexadecimal), -1 where it is none. -/
def digV (r : Int) : Int := if 48 ≤ r ∧ r ≤ 57 then r - 48 else if 97 ≤ r ∧ r ≤ 102 then r - 97 + 10 else if 65 ≤ r ∧ r ≤ 70 then r - 65 + 10 else -1
theorem digV_d {r : Int} (h : 48 ≤ r ∧ r ≤ 57) : digV r = r - 48 := by unfold digV; rw [if_pos h]
theorem digV_a {r : Int} (h : 97 ≤ r ∧ r ≤ 102) : digV r = r - 97 + 10 := by unfold digV; rw [if_neg (by omega), if_pos h]
theorem digV_A {r : Int} (h : 65 ≤ r ∧ r ≤ 70) : digV r = r - 65 + 10 := by unfold digV; rw [if_neg (by omega), if_neg (by omega), if_pos h]
theorem digV_no {r : Int} (h : ¬ (48 ≤ r ∧ r ≤ 57)) (h' : ¬ (97 ≤ r ∧ r ≤ 102)) (h'' : ¬ (65 ≤ r ∧ r ≤ 70)) : digV r = -1 := by unfold digV; rw [if_neg h, if_neg h', if_neg h'']
theorem digV_bd (r : Int) : -1 ≤ digV r ∧ digV r ≤ 15 := by
  unfold digV; split
  · omega
  · split
    · omega
    · split <;> omega
theorem digV_high {r : Int} (h : 128 ≤ r) : digV r = -1 := digV_no (by omega) (by omega) (by omega)
theorem digV_ten {r : Int} : (0 ≤ digV r ∧ digV r < 10) ↔ (48 ≤ r ∧ r ≤ 57) := by
  unfold digV; split
  · omega
  · split
    · omega
    · split <;> omega

/-- A digit at base b. -/
def digN (b : Int) (r : Int) : Bool := decide (0 ≤ digV r ∧ digV r < b)
theorem digN_yes {b r : Int} (h : 0 ≤ digV r) (h' : digV r < b) : digN b r = true := decide_eq_true ⟨h, h'⟩
theorem digN_no {b r : Int} (h : ¬ (0 ≤ digV r ∧ digV r < b)) : digN b r = false := decide_eq_false h

/-- The number that the digits are. -/
def numL (b : Int) (l : List UInt8) : Int := l.foldl (fun n c => n * b + digV (c.toNat : Int)) 0
theorem numL_snoc (b : Int) (l : List UInt8) (c : UInt8) : numL b (l ++ [c]) = numL b l * b + digV (c.toNat : Int) := by
  unfold numL; rw [List.foldl_append]; rfl
theorem numL_step {b : Int} {s : ByteArray} {k : Nat} {n : Int} (hk : k < s.size) (h : n = numL b (s.data.toList.take k)) : n * b + digV (s[k].toNat : Int) = numL b (s.data.toList.take (k + 1)) := by
  rw [take_snoc s k hk, numL_snoc, h]

theorem allB_before {p : Int → Bool} {s : ByteArray} {k : Nat} (hk : k < s.size) (h : allB p (s.data.toList.take (k + 1)) = true) : allB p (s.data.toList.take k) = true ∧ p (s[k].toNat : Int) = true := by
  rw [take_snoc s k hk] at h
  unfold allB at *
  rw [List.all_append, Bool.and_eq_true] at h
  exact ⟨h.1, by have := h.2; simpa using this⟩
theorem numL_bd (b : Int) (hb : 1 ≤ b) (s : ByteArray) : ∀ k, k ≤ s.size → allB (digN b) (s.data.toList.take k) = true → 0 ≤ numL b (s.data.toList.take k) ∧ numL b (s.data.toList.take k) < b ^ k := by
  intro k
  induction k with
  | zero => intro _ _; exact ⟨Int.le_refl 0, by show (0 : Int) < b ^ 0; rw [Int.pow_zero]; decide⟩
  | succ k ih =>
    intro hk ha
    obtain ⟨h1, h2⟩ := allB_before (by omega) ha
    obtain ⟨g0, g1⟩ := ih (by omega) h1
    have hd := of_decide_eq_true h2
    rw [← numL_step (by omega) rfl, Int.pow_succ]
    have m1 := Int.mul_nonneg g0 (show 0 ≤ b by omega)
    have m2 := Int.mul_le_mul_of_nonneg_right (show numL b (s.data.toList.take k) + 1 ≤ b ^ k by omega) (show 0 ≤ b by omega)
    rw [Int.add_mul, Int.one_mul] at m2
    omega
theorem pow_le10 : ∀ k : Nat, k ≤ 15 → (10 : Int) ^ k ≤ 1000000000000000 := by
  intro k hk
  have h : ∀ j : Fin 16, (10 : Int) ^ j.val ≤ 1000000000000000 := by decide
  exact h ⟨k, by omega⟩
theorem num_bound10 {s : ByteArray} {k : Nat} (hk : k ≤ 15) (hs : k ≤ s.size) (h : allB (digN 10) (s.data.toList.take k) = true) : 0 ≤ numL 10 (s.data.toList.take k) ∧ numL 10 (s.data.toList.take k) ≤ 1000000000000000 := by
  have h1 := numL_bd 10 (by decide) s k hs h
  have h2 := pow_le10 k hk
  omega
/-- What is read: whether it is a number of at most m digits at base b, and which. -/
def numOk (b : Int) (m : Nat) (s : ByteArray) : Bool := decide (1 ≤ s.size ∧ s.size ≤ m) && allB (digN b) s.data.toList
def numV (b : Int) (m : Nat) (s : ByteArray) : Int := if numOk b m s = true then numL b s.data.toList else 0
theorem num_no {b : Int} {m : Nat} {s : ByteArray} (h : numOk b m s = false) : numV b m s = 0 := by unfold numV; rw [h]; rfl
theorem num_yes {b : Int} {m : Nat} {s : ByteArray} (h : numOk b m s = true) : numV b m s = numL b s.data.toList := by unfold numV; rw [h]; rfl
theorem numOk_out {b : Int} {m : Nat} {s : ByteArray} (h : s.size < 1 ∨ m < s.size) : numOk b m s = false := by
  have e : decide (1 ≤ s.size ∧ s.size ≤ m) = false := decide_eq_false (by omega)
  unfold numOk; rw [e]; rfl
theorem numOk_in {b : Int} {m : Nat} {s : ByteArray} {x : Bool} (h1 : 1 ≤ s.size) (h2 : s.size ≤ m) (h : x = allB (digN b) s.data.toList) : numOk b m s = x := by
  have e : decide (1 ≤ s.size ∧ s.size ≤ m) = true := decide_eq_true ⟨h1, h2⟩
  unfold numOk; rw [e, h]; rfl
/-- The answer of a reading. -/
def numE (b : Int) (m : Nat) (s : ByteArray) : Value := .tuple #[.int .i64 (numV b m s), .bool (numOk b m s)]
theorem numE_no {b : Int} {m : Nat} {s : ByteArray} (h : numOk b m s = false) : Ending.returned (.tuple #[.int .i64 0, .bool false]) = .returned (numE b m s) := by
  unfold numE; rw [num_no h, h]
theorem numE_yes {b : Int} {m : Nat} {s : ByteArray} {n : Int} (h : numOk b m s = true) (hn : n = numL b s.data.toList) : Ending.returned (.tuple #[.int .i64 n, .bool true]) = .returned (numE b m s) := by
  unfold numE; rw [num_yes h, h, hn]
end Go.Proofs.YtemmgfnepdgpbaaGreatDoor
