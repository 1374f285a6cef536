/-
  The contract of the specification's test of one letter of a token.
-/
import Derived.Test.YtkoikofaebfbjaaTok
import Derived.Lib.SlBytesConst
namespace Go.Proofs.Ytkoikofaebfbjaa
open Go.RowKit

/-- The marks that a token may have beside letters and digits. -/
def marks : List Int := [33, 35, 36, 37, 38, 39, 42, 43, 45, 46, 94, 95, 124, 126, 96]

theorem marksAt (w : World) (k : Nat) (hk : k < 15) : (w.alloc (.cells #[.int .u8 33, .int .u8 35, .int .u8 36, .int .u8 37, .int .u8 38, .int .u8 39, .int .u8 42, .int .u8 43, .int .u8 45, .int .u8 46, .int .u8 94, .int .u8 95, .int .u8 124, .int .u8 126, .int .u8 96] 5 (15, 16))).cell? ⟨w.heap.size, k, none⟩ = some (.int .u8 (marks.getD k 0)) := by
  rw [World.cell?_alloc_mark]
  rcases (show k = 0 ∨ k = 1 ∨ k = 2 ∨ k = 3 ∨ k = 4 ∨ k = 5 ∨ k = 6 ∨ k = 7 ∨ k = 8 ∨ k = 9 ∨ k = 10 ∨ k = 11 ∨ k = 12 ∨ k = 13 ∨ k = 14 from by omega) with rfl | rfl | rfl | rfl | rfl | rfl | rfl | rfl | rfl | rfl | rfl | rfl | rfl | rfl | rfl <;> rfl
theorem marks_yes (b : Int) (k : Nat) (hk : k < 15) (h : marks.getD k 0 = b) : true = tokN b := by
  rcases (show k = 0 ∨ k = 1 ∨ k = 2 ∨ k = 3 ∨ k = 4 ∨ k = 5 ∨ k = 6 ∨ k = 7 ∨ k = 8 ∨ k = 9 ∨ k = 10 ∨ k = 11 ∨ k = 12 ∨ k = 13 ∨ k = 14 from by omega) with rfl | rfl | rfl | rfl | rfl | rfl | rfl | rfl | rfl | rfl | rfl | rfl | rfl | rfl | rfl <;> (simp [marks] at h; subst h; rfl)
theorem marks_step {b v : Int} {k : Nat} (h : ∀ j, j < k → marks.getD j 0 ≠ b) (hv : marks.getD k 0 = v) (hb : ¬ v = b) : ∀ j, j < k + 1 → marks.getD j 0 ≠ b := by
  intro j hj
  by_cases e : j = k
  · subst e; rw [hv]; exact hb
  · exact h j (by omega)
theorem marks_no (b : Int) (h : ¬ ((97 ≤ b ∧ b ≤ 122) ∨ (65 ≤ b ∧ b ≤ 90) ∨ (48 ≤ b ∧ b ≤ 57))) (hm : ∀ j, j < 15 → marks.getD j 0 ≠ b) : false = tokN b := by
  have m0 := hm 0 (by decide); have m1 := hm 1 (by decide); have m2 := hm 2 (by decide); have m3 := hm 3 (by decide); have m4 := hm 4 (by decide)
  have m5 := hm 5 (by decide); have m6 := hm 6 (by decide); have m7 := hm 7 (by decide); have m8 := hm 8 (by decide); have m9 := hm 9 (by decide)
  have m10 := hm 10 (by decide); have m11 := hm 11 (by decide); have m12 := hm 12 (by decide); have m13 := hm 13 (by decide); have m14 := hm 14 (by decide)
  simp [marks] at m0 m1 m2 m3 m4 m5 m6 m7 m8 m9 m10 m11 m12 m13 m14
  exact tokN_no (by omega)

end Go.Proofs.Ytkoikofaebfbjaa
