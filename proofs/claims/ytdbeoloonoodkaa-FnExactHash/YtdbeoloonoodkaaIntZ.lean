/-
  The specification's l1Int of a number that is not negative: its decimal digits.
-/
import Derived.Test.YtdbeoloonoodkaaOwn2
import Derived.Lib.ItoaNum
import Derived.WalkKit
import Derived.WalkSpells
namespace Go.Proofs.Ytdbeoloonoodkaa
open Go.RowKit
set_option linter.unusedVariables false

def itoS (n : Nat) : ByteArray := ⟨(Lib.decDigits n).toArray⟩
theorem dec_small {u : Nat} (h : u < 10) : Lib.decDigits u = [UInt8.ofNat (48 + u)] := by rw [Lib.decDigits, dif_pos h]
theorem dec_big {u : Nat} (h : ¬ u < 10) : Lib.decDigits u = Lib.decDigits (u / 10) ++ [UInt8.ofNat (48 + u % 10)] := by rw [Lib.decDigits, dif_neg h]
theorem dec_len : ∀ (f u : Nat), u < 10 ^ (f + 1) → (Lib.decDigits u).length ≤ f + 1
  | 0, u, h => by rw [dec_small (by simpa using h)]; simp
  | f + 1, u, h => by
    by_cases h10 : u < 10
    · rw [dec_small h10]; simp
    · rw [dec_big h10, List.length_append]
      have := dec_len f (u / 10) (Nat.div_lt_of_lt_mul (by rw [Nat.mul_comm, ← Nat.pow_succ]; exact h))
      simp
      omega
theorem itoS_size {n : Nat} (h : n < 10000000000000000000) : (itoS n).size ≤ 19 := by
  have := dec_len 18 n (by simpa using h)
  unfold itoS
  show ((Lib.decDigits n).toArray).size ≤ 19
  simpa using this
theorem itoS_is {n : Nat} {x : ByteArray} (h : Lib.decDigits n = x.data.toList) : x = itoS n := by
  unfold itoS
  have : x.data = (Lib.decDigits n).toArray := Array.ext' (by rw [h])
  cases x
  exact congrArg _ this
theorem void8 (x : ByteArray) : x.toList.isEmpty = decide (x.size = 0) := by
  have e : x.toList = x.data.toList := by rw [ByteArray.toList_eq]
  rw [e]
  have h : x.data.toList.length = x.size := by simp
  cases hx : x.data.toList with
  | nil => rw [hx] at h; simp at h; simp [← h]
  | cons a b =>
    rw [hx] at h
    have h2 : ¬ x.size = 0 := by rw [← h]; simp
    rw [decide_eq_false h2]; rfl
/-- How far digits are written. -/
def DecZ (u m : Nat) (x : ByteArray) : Prop := (x.size = 0 ∧ m = u) ∨ (0 < x.size ∧ Lib.decDigits u = (if m = 0 then [] else Lib.decDigits m) ++ x.data.toList)
theorem cat8 (c : UInt8) (x : ByteArray) : ((⟨#[c]⟩ : ByteArray) ++ x).data.toList = c :: x.data.toList := by simp
theorem DecZ.next {u m : Nat} {x : ByteArray} (h : DecZ u m x) (h2 : x.size = 0 ∨ 0 < m) : DecZ u (m / 10) ((⟨#[UInt8.ofNat (48 + m % 10)]⟩ : ByteArray) ++ x) := by
  have hs : ((⟨#[UInt8.ofNat (48 + m % 10)]⟩ : ByteArray) ++ x).size = 1 + x.size := by rw [ByteArray.size_append]; rfl
  have hd : Lib.decDigits u = Lib.decDigits m ++ x.data.toList := by
    rcases h with ⟨h1, rfl⟩ | ⟨h1, h3⟩
    · have : x.data.toList = [] := List.eq_nil_of_length_eq_zero (by rw [← h1]; simp)
      rw [this, List.append_nil]
    · rw [if_neg (by omega)] at h3; exact h3
  refine .inr ⟨by omega, ?_⟩
  rw [hd, cat8]
  by_cases h10 : m < 10
  · rw [if_pos (by omega), dec_small h10, Nat.mod_eq_of_lt h10]; rfl
  · rw [if_neg (by omega), dec_big h10]; simp
theorem DecZ.size {u m : Nat} {x : ByteArray} (h : DecZ u m x) (hu : u < 10000000000000000000) : x.size ≤ 19 := by
  have hl : x.data.toList.length = x.size := by simp
  rcases h with ⟨h1, _⟩ | ⟨_, h3⟩
  · omega
  · have := dec_len 18 u (by simpa using hu)
    rw [h3, List.length_append] at this
    omega
theorem byte8 (w : World) (n : Int) (c : UInt8) (h : n = (c.toNat : Int)) : (convert 24 9 (.slice (some ⟨w.heap.size, 0, none⟩) 1 1)).run Try.prog (w.alloc (.cells #[.int .u8 n] 5)) = .ok (.string ⟨#[c]⟩) (w.alloc (.cells #[.int .u8 n] 5)) := by
  subst h
  exact OwnsB.text (OwnsB.one w c)
theorem dig8 {d : Nat} (h : d < 10) : ((UInt8.ofNat (48 + d)).toNat : Int) = 48 + (d : Int) := by
  have k : ∀ j : Fin 10, ((UInt8.ofNat (48 + j.val)).toNat : Int) = 48 + (j.val : Int) := by decide +kernel
  exact k ⟨d, h⟩
def decMu8 (a b : Value) : Nat := 2 * (intOf a).toNat + (match b with | .string s => if s.size = 0 then 1 else 0 | _ => 0)
theorem ret_str8 {a b : ByteArray} (h : a = b) : Ending.returned (.string a) = .returned (.string b) := by rw [h]
end Go.Proofs.Ytdbeoloonoodkaa
