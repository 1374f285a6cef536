/-
  Plain facts on lists of bytes: all bytes of a list are letters of a token; the first k + 1 bytes are the first k and the next.
-/
import Derived.Test.YtdkhdjickkcaiaaPlain
import Derived.Below
namespace Go.Proofs.Ytdkhdjickkcaiaa
open Go.RowKit

theorem take_snoc (s : ByteArray) (k : Nat) (h : k < s.size) : s.data.toList.take (k + 1) = s.data.toList.take k ++ [s[k]] := by
  rw [List.take_succ_eq_append_getElem (by simpa using h)]; rfl
theorem take_all (s : ByteArray) (k : Nat) (h : ¬ k < s.size) : s.data.toList.take k = s.data.toList :=
  List.take_of_length_le (by have e : s.data.toList.length = s.size := by simp
                             omega)
theorem mem_at (s : ByteArray) (k : Nat) (h : k < s.size) : s[k] ∈ s.data.toList := by
  have e : s[k] = s.data.toList[k]'(by simpa using h) := rfl
  rw [e]; exact List.getElem_mem _

/-- Every byte of the list is so. -/
def allB (p : Int → Bool) (l : List UInt8) : Bool := l.all fun c => p (c.toNat : Int)
theorem allB_nil (p : Int → Bool) (s : ByteArray) : allB p (s.data.toList.take 0) = true := rfl
theorem allB_step {p : Int → Bool} {s : ByteArray} {k : Nat} (hk : k < s.size) (h : allB p (s.data.toList.take k) = true) (hp : p (s[k].toNat : Int) = true) : allB p (s.data.toList.take (k + 1)) = true := by
  rw [take_snoc s k hk]
  unfold allB at *
  rw [List.all_append, h]
  simp [hp]
theorem allB_end {p : Int → Bool} {s : ByteArray} {k : Nat} (hk : ¬ k < s.size) (h : allB p (s.data.toList.take k) = true) : true = allB p s.data.toList := by
  rw [take_all s k hk] at h; exact h.symm
theorem allB_not {p : Int → Bool} {s : ByteArray} {k : Nat} (hk : k < s.size) (hp : p (s[k].toNat : Int) = false) : false = allB p s.data.toList := by
  symm
  unfold allB
  rw [List.all_eq_false]
  exact ⟨s[k], mem_at s k hk, by simp [hp]⟩

/-- A token. -/
def tokB (s : ByteArray) : Bool := decide (1 ≤ s.size ∧ s.size ≤ 64) && allB tokN s.data.toList
theorem tokB_out {s : ByteArray} (h : s.size < 1 ∨ 64 < s.size) : false = tokB s := by
  have e : decide (1 ≤ s.size ∧ s.size ≤ 64) = false := decide_eq_false (by omega)
  unfold tokB; rw [e]; rfl
theorem tokB_in {s : ByteArray} {b : Bool} (h1 : 1 ≤ s.size) (h2 : s.size ≤ 64) (h : b = allB tokN s.data.toList) : b = tokB s := by
  have e : decide (1 ≤ s.size ∧ s.size ≤ 64) = true := decide_eq_true ⟨h1, h2⟩
  unfold tokB; rw [e, h]; rfl
theorem tokN_high {r : Int} (h : 128 ≤ r) : tokN r = false := decide_eq_false (by omega)
theorem byte_lt (c : UInt8) : c.toNat < 256 := c.toNat_lt

theorem below_iter (w : World) (s : ByteArray) (pos : Nat) : Below w.heap.size w (w.iter s pos) := (Below.refl _ w).alloc (Nat.le_refl _) _
end Go.Proofs.Ytdkhdjickkcaiaa
