/-
  Plain facts on hexadecimal digits: the digits of a number, and that a number is read from its digits.
-/
import Derived.Test.YtkoikofaebfbjaaPlain3
namespace Go.Proofs.Ytkoikofaebfbjaa
open Go.RowKit

/-- The digit of a number below 16. -/
def hexB (d : Nat) : UInt8 := if d < 10 then UInt8.ofNat (48 + d) else UInt8.ofNat (87 + d)
/-- The hexadecimal digits of n, at most f + 1 of them. -/
def hexF : Nat → Nat → List UInt8
  | 0, n => [hexB n]
  | f + 1, n => if n < 16 then [hexB n] else hexF f (n / 16) ++ [hexB (n % 16)]
theorem hexF_small (f n : Nat) (h : n < 16) : hexF f n = [hexB n] := by
  cases f with
  | zero => rfl
  | succ f => simp [hexF, h]
theorem hexF_step (f n : Nat) (h : ¬ n < 16) : hexF (f + 1) n = hexF f (n / 16) ++ [hexB (n % 16)] := by simp [hexF, h]
/-- What Hex answers within its range. -/
def hexS (n : Nat) : ByteArray := ⟨(hexF 13 n).toArray⟩
def hexA (n : Int) : ByteArray := if 0 ≤ n ∧ n ≤ 4503599627370496 then hexS n.toNat else ⟨#[]⟩
theorem hexA_no {n : Int} (h : ¬ (0 ≤ n ∧ n ≤ 4503599627370496)) : (⟨#[]⟩ : ByteArray) = hexA n := by unfold hexA; rw [if_neg h]
theorem hexA_yes {n : Nat} (h : n ≤ 4503599627370496) : hexS n = hexA (n : Int) := by unfold hexA; rw [if_pos (by omega), Int.toNat_natCast]

theorem ret_hex {a b : ByteArray} (h : a = b) : Ending.returned (.string a) = .returned (.string b) := by rw [h]
theorem ret_two {v : Value} {a b : ByteArray} (h : a = b) : Ending.returned (.tuple #[v, .string a]) = .returned (.tuple #[v, .string b]) := by rw [h]
theorem hex_more {n m f : Nat} {t : List UInt8} (hf : f + t.length = 13) (hm : m < 16 ^ (f + 1)) (h16 : 16 ≤ m) (h : hexF 13 n = hexF f m ++ t) : ∃ f', f' + (hexB (m % 16) :: t).length = 13 ∧ m / 16 < 16 ^ (f' + 1) ∧ hexF 13 n = hexF f' (m / 16) ++ (hexB (m % 16) :: t) := by
  cases f with
  | zero => simp at hm; omega
  | succ f =>
    refine ⟨f, by simp; omega, ?_, ?_⟩
    · rw [Nat.pow_succ] at hm
      exact Nat.div_lt_of_lt_mul (by rw [Nat.mul_comm]; exact hm)
    · rw [h, hexF_step f m (by omega)]
      simp
theorem hex_done {n m f : Nat} {t : List UInt8} (h16 : ¬ 16 ≤ m) (h : hexF 13 n = hexF f m ++ t) : (⟨(hexB m :: t).toArray⟩ : ByteArray) = hexS n := by
  unfold hexS; rw [h, hexF_small f m (by omega)]; rfl

theorem hexB_nat {d : Nat} (h : d < 16) : digV ((hexB d).toNat : Int) = (d : Int) := by
  have k : ∀ j : Fin 16, digV ((hexB j.val).toNat : Int) = (j.val : Int) := by decide +kernel
  exact k ⟨d, h⟩
theorem hexF_length (f : Nat) : ∀ n, 1 ≤ (hexF f n).length := by
  intro n
  cases f with
  | zero => simp [hexF]
  | succ f =>
    by_cases h : n < 16
    · rw [hexF_small _ _ h]; simp
    · rw [hexF_step f n h, List.length_append]; simp
theorem hexF_num (f : Nat) : ∀ n, n < 16 ^ (f + 1) → numL 16 (hexF f n) = (n : Int) ∧ allB (digN 16) (hexF f n) = true := by
  have oneB : ∀ d : Nat, d < 16 → digN 16 ((hexB d).toNat : Int) = true := fun d hd => digN_yes (by rw [hexB_nat hd]; omega) (by rw [hexB_nat hd]; omega)
  have base : ∀ (f n : Nat), n < 16 → numL 16 (hexF f n) = (n : Int) ∧ allB (digN 16) (hexF f n) = true := fun f n h => by
    rw [hexF_small f n h]
    refine ⟨?_, ?_⟩
    · show 0 * 16 + digV ((hexB n).toNat : Int) = (n : Int)
      rw [hexB_nat h]; omega
    · unfold allB; simp [oneB n h]
  induction f with
  | zero => intro n hn; exact base 0 n (by omega)
  | succ f ih =>
    intro n hn
    by_cases h : n < 16
    · exact base _ n h
    · have h1 : n / 16 < 16 ^ (f + 1) := by
        rw [Nat.pow_succ] at hn
        exact Nat.div_lt_of_lt_mul (by rw [Nat.mul_comm]; exact hn)
      obtain ⟨g1, g2⟩ := ih (n / 16) h1
      rw [hexF_step f n h, numL_snoc, g1, hexB_nat (by omega)]
      refine ⟨by omega, ?_⟩
      unfold allB at g2 ⊢
      rw [List.all_append, g2]
      simp [oneB (n % 16) (by omega)]
/-- What Hex writes is read back, where it has at most 13 digits. -/
theorem hex_back {n : Nat} (hn : n ≤ 4503599627370496) (hz : (hexS n).size ≤ 13) : numOk 16 13 (hexS n) = true ∧ numV 16 13 (hexS n) = (n : Int) := by
  obtain ⟨g1, g2⟩ := hexF_num 13 n (by omega)
  have hl := hexF_length 13 n
  have e : (hexS n).data.toList = hexF 13 n := rfl
  have hz1 : (hexS n).size = (hexF 13 n).length := by show (hexF 13 n).toArray.size = _; simp
  have h1 : numOk 16 13 (hexS n) = true := numOk_in (by omega) hz (by rw [e, g2])
  exact ⟨h1, by rw [num_yes h1, e, g1]⟩
/-- A number that was read has digits, within the range. -/
theorem hex_full {n : Int} (h0 : 0 ≤ n) (h1 : n ≤ 4503599627370496) : 0 < (hexA n).size := by
  obtain ⟨m, rfl⟩ := Int.eq_ofNat_of_zero_le h0
  rw [← hexA_yes (by omega)]
  have hl := hexF_length 13 m
  have : (hexS m).size = (hexF 13 m).length := by show (hexF 13 m).toArray.size = _; simp
  omega
theorem numV_nonneg {s : ByteArray} (h : numOk 16 13 s = true) : 0 ≤ numV 16 13 s := by
  rw [num_yes h]
  unfold numOk at h
  rw [Bool.and_eq_true] at h
  have h1 := of_decide_eq_true h.1
  have e : s.data.toList.take s.size = s.data.toList := List.take_of_length_le (by simp)
  have := numL_bd 16 (by decide) s s.size (Nat.le_refl _) (by rw [e]; exact h.2)
  rw [e] at this
  exact this.1
theorem hexF_most (f : Nat) : ∀ n, (hexF f n).length ≤ f + 1 := by
  induction f with
  | zero => intro n; simp [hexF]
  | succ f ih =>
    intro n
    by_cases h : n < 16
    · rw [hexF_small _ _ h]; simp
    · rw [hexF_step f n h, List.length_append]
      have := ih (n / 16)
      simp only [List.length_singleton]
      omega
theorem hexA_size (m : Nat) (h : m ≤ 4503599627370496) : (hexA (m : Int)).size ≤ 14 := by
  rw [← hexA_yes h]
  have h1 := hexF_most 13 m
  have : (hexS m).size = (hexF 13 m).length := by show (hexF 13 m).toArray.size = _; simp
  omega
theorem hexA_back {m : Nat} (h : m ≤ 4503599627370496) (hz : (hexA (m : Int)).size ≤ 13) : numOk 16 13 (hexA (m : Int)) = true ∧ numV 16 13 (hexA (m : Int)) = (m : Int) := by
  rw [← hexA_yes h] at hz ⊢
  exact hex_back h hz

end Go.Proofs.Ytkoikofaebfbjaa
