/-
  The contracts of the tests of a plain byte, the specification's and the program's.
-/
import Derived.Test.YthadmhleibhlgaaDoorRows
import Derived.Test.YthadmhleibhlgaaDoorPthA
import Derived.WalkKit
import Derived.WalkSpells
import Derived.Lib.SlBytesConst
namespace Go.Proofs.YthadmhleibhlgaaDoor
open Go.RowKit

set_option maxHeartbeats 1000000 in
set_option maxRecDepth 100000 in
theorem isPln (b : Int) (w : World) :
    Calls Tryd.prog 60 #[.int .u8 b] w fun e w' => e = .returned (.bool (plnN b)) ∧ w' = w := by
  go_enter Tryd.func60, Tryd.ntmps60
  go_wp2
  all_goals go_ret
  all_goals refine ⟨ret_bool ?_, rfl⟩
  all_goals try simp only [beq_iff_eq, beq_eq_false_iff_ne, ne_eq] at *
  all_goals first | (refine plnN_yes (r := b) ?_; omega) | (refine plnN_no (r := b) ?_; omega)

/-- The marks that are plain beside letters and digits. -/
def plnM : List Int := [45, 46, 95, 126, 47, 58, 64, 33, 36, 38, 39, 40, 41, 42, 43, 44, 59, 61]

theorem plnAt (w : World) (k : Nat) (hk : k < 18) : (w.alloc (.cells #[.int .u8 45, .int .u8 46, .int .u8 95, .int .u8 126, .int .u8 47, .int .u8 58, .int .u8 64, .int .u8 33, .int .u8 36, .int .u8 38, .int .u8 39, .int .u8 40, .int .u8 41, .int .u8 42, .int .u8 43, .int .u8 44, .int .u8 59, .int .u8 61] 5 (18, 19))).cell? ⟨w.heap.size, k, none⟩ = some (.int .u8 (plnM.getD k 0)) := by
  rw [World.cell?_alloc_mark]
  rcases (show k = 0 ∨ k = 1 ∨ k = 2 ∨ k = 3 ∨ k = 4 ∨ k = 5 ∨ k = 6 ∨ k = 7 ∨ k = 8 ∨ k = 9 ∨ k = 10 ∨ k = 11 ∨ k = 12 ∨ k = 13 ∨ k = 14 ∨ k = 15 ∨ k = 16 ∨ k = 17 from by omega) with rfl | rfl | rfl | rfl | rfl | rfl | rfl | rfl | rfl | rfl | rfl | rfl | rfl | rfl | rfl | rfl | rfl | rfl <;> rfl
theorem plnM_yes (b : Int) (k : Nat) (hk : k < 18) (h : plnM.getD k 0 = b) : true = plnN b := by
  rcases (show k = 0 ∨ k = 1 ∨ k = 2 ∨ k = 3 ∨ k = 4 ∨ k = 5 ∨ k = 6 ∨ k = 7 ∨ k = 8 ∨ k = 9 ∨ k = 10 ∨ k = 11 ∨ k = 12 ∨ k = 13 ∨ k = 14 ∨ k = 15 ∨ k = 16 ∨ k = 17 from by omega) with rfl | rfl | rfl | rfl | rfl | rfl | rfl | rfl | rfl | rfl | rfl | rfl | rfl | rfl | rfl | rfl | rfl | rfl <;> (simp [plnM] at h; subst h; rfl)
theorem plnM_step {b v : Int} {k : Nat} (h : ∀ j, j < k → plnM.getD j 0 ≠ b) (hv : plnM.getD k 0 = v) (hb : ¬ v = b) : ∀ j, j < k + 1 → plnM.getD j 0 ≠ b := by
  intro j hj
  by_cases e : j = k
  · subst e; rw [hv]; exact hb
  · exact h j (by omega)
theorem plnM_no (b : Int) (h : ¬ ((97 ≤ b ∧ b ≤ 122) ∨ (65 ≤ b ∧ b ≤ 90) ∨ (48 ≤ b ∧ b ≤ 57))) (hm : ∀ j, j < 18 → plnM.getD j 0 ≠ b) : false = plnN b := by
  have m0 := hm 0 (by decide)
  have m1 := hm 1 (by decide)
  have m2 := hm 2 (by decide)
  have m3 := hm 3 (by decide)
  have m4 := hm 4 (by decide)
  have m5 := hm 5 (by decide)
  have m6 := hm 6 (by decide)
  have m7 := hm 7 (by decide)
  have m8 := hm 8 (by decide)
  have m9 := hm 9 (by decide)
  have m10 := hm 10 (by decide)
  have m11 := hm 11 (by decide)
  have m12 := hm 12 (by decide)
  have m13 := hm 13 (by decide)
  have m14 := hm 14 (by decide)
  have m15 := hm 15 (by decide)
  have m16 := hm 16 (by decide)
  have m17 := hm 17 (by decide)
  simp [plnM] at m0 m1 m2 m3 m4 m5 m6 m7 m8 m9 m10 m11 m12 m13 m14 m15 m16 m17
  exact plnN_no (by omega)

set_option maxHeartbeats 1000000 in
set_option maxRecDepth 100000 in
theorem l3Pln_hi (b : Int) (w : World) (h : 122 < b) :
    Calls Tryd.prog 86 #[.int .u8 b] w fun e w' => e = .returned (.bool (plnN b)) ∧ Below w.heap.size w w' := by
  have kc := fun (w : World) (C : Array Value) (n c : Nat) => Lib.run_convert_bytes_const (P := Tryd.prog) w 22 5 C n c Tryd.underlying22 Tryd.underlying5
  have d0 : decide (97 ≤ b) = true := by simp; omega
  have d1 : decide (b ≤ 122) = false := by simp; omega
  have d2 : decide (65 ≤ b) = true := by simp; omega
  have d3 : decide (b ≤ 90) = false := by simp; omega
  have d4 : decide (48 ≤ b) = true := by simp; omega
  have d5 : decide (b ≤ 57) = false := by simp; omega
  go_enter Tryd.func86, Tryd.ntmps86
  go_wp2
  go_loop [30] (fun i => ∃ k : Nat, k ≤ 18 ∧ i = .int .i64 k ∧ Hid (∀ j, j < k → plnM.getD j 0 ≠ b)) (fun i => 18 - (intOf i).toNat)
  case atStart => exact ⟨0, Nat.zero_le _, rfl, fun j hj => absurd hj (Nat.not_lt_zero _)⟩
  case round =>
    obtain ⟨k, hk, rfl, hno⟩ := hrel
    by_cases hlt : k < 18
    · have hcell := plnAt w k hlt
      generalize hv : plnM.getD k 0 = v at hcell
      have HV : Hid (plnM.getD k 0 = v) := hv
      clear hv
      by_cases hvb : v = b
      · have hq : (v == b) = true := by simp [hvb]
        have HB : Hid (v = b) := hvb
        clear hvb
        go_wp2
        go_ret
        exact ⟨ret_bool (plnM_yes b k hlt (HV.out.trans HB.out)), (Below.refl _ w).alloc (Nat.le_refl _) _⟩
      · have hq : (v == b) = false := by simp [hvb]
        go_wp2
        go_round
        case rel => exact ⟨k + 1, by omega, by go_num, plnM_step hno.out HV.out hvb⟩
        case measure => simp [intOf]; omega
    · go_wp2
      go_ret
      exact ⟨ret_bool (plnM_no b (by omega) (by have e : k = 18 := by omega
                                                rw [← e]; exact hno.out)), (Below.refl _ w).alloc (Nat.le_refl _) _⟩
set_option maxHeartbeats 1000000 in
set_option maxRecDepth 100000 in
theorem l3Pln_mid2 (b : Int) (w : World) (h : 90 < b ∧ b < 97) :
    Calls Tryd.prog 86 #[.int .u8 b] w fun e w' => e = .returned (.bool (plnN b)) ∧ Below w.heap.size w w' := by
  have kc := fun (w : World) (C : Array Value) (n c : Nat) => Lib.run_convert_bytes_const (P := Tryd.prog) w 22 5 C n c Tryd.underlying22 Tryd.underlying5
  have d0 : decide (97 ≤ b) = false := by simp; omega
  have d1 : decide (65 ≤ b) = true := by simp; omega
  have d2 : decide (b ≤ 90) = false := by simp; omega
  have d3 : decide (48 ≤ b) = true := by simp; omega
  have d4 : decide (b ≤ 57) = false := by simp; omega
  go_enter Tryd.func86, Tryd.ntmps86
  go_wp2
  go_loop [30] (fun i => ∃ k : Nat, k ≤ 18 ∧ i = .int .i64 k ∧ Hid (∀ j, j < k → plnM.getD j 0 ≠ b)) (fun i => 18 - (intOf i).toNat)
  case atStart => exact ⟨0, Nat.zero_le _, rfl, fun j hj => absurd hj (Nat.not_lt_zero _)⟩
  case round =>
    obtain ⟨k, hk, rfl, hno⟩ := hrel
    by_cases hlt : k < 18
    · have hcell := plnAt w k hlt
      generalize hv : plnM.getD k 0 = v at hcell
      have HV : Hid (plnM.getD k 0 = v) := hv
      clear hv
      by_cases hvb : v = b
      · have hq : (v == b) = true := by simp [hvb]
        have HB : Hid (v = b) := hvb
        clear hvb
        go_wp2
        go_ret
        exact ⟨ret_bool (plnM_yes b k hlt (HV.out.trans HB.out)), (Below.refl _ w).alloc (Nat.le_refl _) _⟩
      · have hq : (v == b) = false := by simp [hvb]
        go_wp2
        go_round
        case rel => exact ⟨k + 1, by omega, by go_num, plnM_step hno.out HV.out hvb⟩
        case measure => simp [intOf]; omega
    · go_wp2
      go_ret
      exact ⟨ret_bool (plnM_no b (by omega) (by have e : k = 18 := by omega
                                                rw [← e]; exact hno.out)), (Below.refl _ w).alloc (Nat.le_refl _) _⟩
set_option maxHeartbeats 1000000 in
set_option maxRecDepth 100000 in
theorem l3Pln_mid1 (b : Int) (w : World) (h : 57 < b ∧ b < 65) :
    Calls Tryd.prog 86 #[.int .u8 b] w fun e w' => e = .returned (.bool (plnN b)) ∧ Below w.heap.size w w' := by
  have kc := fun (w : World) (C : Array Value) (n c : Nat) => Lib.run_convert_bytes_const (P := Tryd.prog) w 22 5 C n c Tryd.underlying22 Tryd.underlying5
  have d0 : decide (97 ≤ b) = false := by simp; omega
  have d1 : decide (65 ≤ b) = false := by simp; omega
  have d2 : decide (48 ≤ b) = true := by simp; omega
  have d3 : decide (b ≤ 57) = false := by simp; omega
  go_enter Tryd.func86, Tryd.ntmps86
  go_wp2
  go_loop [30] (fun i => ∃ k : Nat, k ≤ 18 ∧ i = .int .i64 k ∧ Hid (∀ j, j < k → plnM.getD j 0 ≠ b)) (fun i => 18 - (intOf i).toNat)
  case atStart => exact ⟨0, Nat.zero_le _, rfl, fun j hj => absurd hj (Nat.not_lt_zero _)⟩
  case round =>
    obtain ⟨k, hk, rfl, hno⟩ := hrel
    by_cases hlt : k < 18
    · have hcell := plnAt w k hlt
      generalize hv : plnM.getD k 0 = v at hcell
      have HV : Hid (plnM.getD k 0 = v) := hv
      clear hv
      by_cases hvb : v = b
      · have hq : (v == b) = true := by simp [hvb]
        have HB : Hid (v = b) := hvb
        clear hvb
        go_wp2
        go_ret
        exact ⟨ret_bool (plnM_yes b k hlt (HV.out.trans HB.out)), (Below.refl _ w).alloc (Nat.le_refl _) _⟩
      · have hq : (v == b) = false := by simp [hvb]
        go_wp2
        go_round
        case rel => exact ⟨k + 1, by omega, by go_num, plnM_step hno.out HV.out hvb⟩
        case measure => simp [intOf]; omega
    · go_wp2
      go_ret
      exact ⟨ret_bool (plnM_no b (by omega) (by have e : k = 18 := by omega
                                                rw [← e]; exact hno.out)), (Below.refl _ w).alloc (Nat.le_refl _) _⟩
set_option maxHeartbeats 1000000 in
set_option maxRecDepth 100000 in
theorem l3Pln_lo (b : Int) (w : World) (h : b < 48) :
    Calls Tryd.prog 86 #[.int .u8 b] w fun e w' => e = .returned (.bool (plnN b)) ∧ Below w.heap.size w w' := by
  have kc := fun (w : World) (C : Array Value) (n c : Nat) => Lib.run_convert_bytes_const (P := Tryd.prog) w 22 5 C n c Tryd.underlying22 Tryd.underlying5
  have d0 : decide (97 ≤ b) = false := by simp; omega
  have d1 : decide (65 ≤ b) = false := by simp; omega
  have d2 : decide (48 ≤ b) = false := by simp; omega
  go_enter Tryd.func86, Tryd.ntmps86
  go_wp2
  go_loop [30] (fun i => ∃ k : Nat, k ≤ 18 ∧ i = .int .i64 k ∧ Hid (∀ j, j < k → plnM.getD j 0 ≠ b)) (fun i => 18 - (intOf i).toNat)
  case atStart => exact ⟨0, Nat.zero_le _, rfl, fun j hj => absurd hj (Nat.not_lt_zero _)⟩
  case round =>
    obtain ⟨k, hk, rfl, hno⟩ := hrel
    by_cases hlt : k < 18
    · have hcell := plnAt w k hlt
      generalize hv : plnM.getD k 0 = v at hcell
      have HV : Hid (plnM.getD k 0 = v) := hv
      clear hv
      by_cases hvb : v = b
      · have hq : (v == b) = true := by simp [hvb]
        have HB : Hid (v = b) := hvb
        clear hvb
        go_wp2
        go_ret
        exact ⟨ret_bool (plnM_yes b k hlt (HV.out.trans HB.out)), (Below.refl _ w).alloc (Nat.le_refl _) _⟩
      · have hq : (v == b) = false := by simp [hvb]
        go_wp2
        go_round
        case rel => exact ⟨k + 1, by omega, by go_num, plnM_step hno.out HV.out hvb⟩
        case measure => simp [intOf]; omega
    · go_wp2
      go_ret
      exact ⟨ret_bool (plnM_no b (by omega) (by have e : k = 18 := by omega
                                                rw [← e]; exact hno.out)), (Below.refl _ w).alloc (Nat.le_refl _) _⟩
theorem l3Pln_alnum_a (b : Int) (w : World) (h : 97 ≤ b ∧ b ≤ 122) :
    Calls Tryd.prog 86 #[.int .u8 b] w fun e w' => e = .returned (.bool (plnN b)) ∧ Below w.heap.size w w' := by
  obtain ⟨h1, h2⟩ := h
  go_enter Tryd.func86, Tryd.ntmps86
  go_wp2
  go_ret
  exact ⟨ret_bool (plnN_yes (by omega)), Below.refl _ _⟩
theorem l3Pln_alnum_b (b : Int) (w : World) (h : 65 ≤ b ∧ b ≤ 90) :
    Calls Tryd.prog 86 #[.int .u8 b] w fun e w' => e = .returned (.bool (plnN b)) ∧ Below w.heap.size w w' := by
  obtain ⟨h1, h2⟩ := h
  go_enter Tryd.func86, Tryd.ntmps86
  go_wp2
  go_ret
  exact ⟨ret_bool (plnN_yes (by omega)), Below.refl _ _⟩
theorem l3Pln_alnum_c (b : Int) (w : World) (h : 48 ≤ b ∧ b ≤ 57) :
    Calls Tryd.prog 86 #[.int .u8 b] w fun e w' => e = .returned (.bool (plnN b)) ∧ Below w.heap.size w w' := by
  obtain ⟨h1, h2⟩ := h
  go_enter Tryd.func86, Tryd.ntmps86
  go_wp2
  go_ret
  exact ⟨ret_bool (plnN_yes (by omega)), Below.refl _ _⟩
theorem l3Pln (b : Int) (w : World) :
    Calls Tryd.prog 86 #[.int .u8 b] w fun e w' => e = .returned (.bool (plnN b)) ∧ Below w.heap.size w w' := by
  by_cases h1 : 122 < b
  · exact l3Pln_hi b w h1
  · by_cases h2 : 97 ≤ b
    · exact l3Pln_alnum_a b w ⟨h2, by omega⟩
    · by_cases h3 : 90 < b
      · exact l3Pln_mid2 b w ⟨h3, by omega⟩
      · by_cases h4 : 65 ≤ b
        · exact l3Pln_alnum_b b w ⟨h4, by omega⟩
        · by_cases h5 : 57 < b
          · exact l3Pln_mid1 b w ⟨h5, by omega⟩
          · by_cases h6 : 48 ≤ b
            · exact l3Pln_alnum_c b w ⟨h6, by omega⟩
            · exact l3Pln_lo b w (by omega)
end Go.Proofs.YthadmhleibhlgaaDoor
