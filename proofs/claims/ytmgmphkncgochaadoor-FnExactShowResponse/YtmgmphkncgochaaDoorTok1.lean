/-
  The contract of the specification's test of one letter of a token.
-/
import Derived.Test.YtmgmphkncgochaaDoorTok
import Derived.Lib.SlBytesConst
namespace Go.Proofs.YtmgmphkncgochaaDoor
open Go.RowKit

/-- The marks that a token may have beside letters and digits. -/
def marks : List Int := [33, 35, 36, 37, 38, 39, 42, 43, 45, 46, 94, 95, 124, 126, 96]

theorem marksAt (w : World) (k : Nat) (hk : k < 15) : (w.alloc (.cells #[.int .u8 33, .int .u8 35, .int .u8 36, .int .u8 37, .int .u8 38, .int .u8 39, .int .u8 42, .int .u8 43, .int .u8 45, .int .u8 46, .int .u8 94, .int .u8 95, .int .u8 124, .int .u8 126, .int .u8 96] 5 (15, 16))).cell? ⟨w.heap.size, k, none⟩ = some (.int .u8 (marks.getD k 0)) := by
  rw [World.cell?_alloc_mark]
  rcases (show k = 0 ∨ k = 1 ∨ k = 2 ∨ k = 3 ∨ k = 4 ∨ k = 5 ∨ k = 6 ∨ k = 7 ∨ k = 8 ∨ k = 9 ∨ k = 10 ∨ k = 11 ∨ k = 12 ∨ k = 13 ∨ k = 14 from by omega) with rfl | rfl | rfl | rfl | rfl | rfl | rfl | rfl | rfl | rfl | rfl | rfl | rfl | rfl | rfl <;> rfl
theorem marks_yes (b : Int) (k : Nat) (hk : k < 15) (h : marks.getD k 0 = b) : true = tokN b := by
  rcases (show k = 0 ∨ k = 1 ∨ k = 2 ∨ k = 3 ∨ k = 4 ∨ k = 5 ∨ k = 6 ∨ k = 7 ∨ k = 8 ∨ k = 9 ∨ k = 10 ∨ k = 11 ∨ k = 12 ∨ k = 13 ∨ k = 14 from by omega) with rfl | rfl | rfl | rfl | rfl | rfl | rfl | rfl | rfl | rfl | rfl | rfl | rfl | rfl | rfl <;> (simp [marks] at h; subst h; rfl)
theorem marks_step {b v : Int} {k : Nat} (h : ∀ j, j < k → marks.getD j 0 ≠ b) (hv : marks.getD k 0 = v) (hb : ¬ v = b) : ∀ j, j < k + 1 → marks.getD j 0 ≠ b := by
  intro j hj
  by_cases e : j = k
  · subst e; rw [hv]; exact hb
  · exact h j (by omega)
theorem marks_no (b : Int) (h : ¬ ((97 ≤ b ∧ b ≤ 122) ∨ (65 ≤ b ∧ b ≤ 90) ∨ (48 ≤ b ∧ b ≤ 57))) (hm : ∀ j, j < 15 → marks.getD j 0 ≠ b) : false = tokN b := by
  have m0 := hm 0 (by decide); have m1 := hm 1 (by decide); have m2 := hm 2 (by decide); have m3 := hm 3 (by decide); have m4 := hm 4 (by decide)
  have m5 := hm 5 (by decide); have m6 := hm 6 (by decide); have m7 := hm 7 (by decide); have m8 := hm 8 (by decide); have m9 := hm 9 (by decide)
  have m10 := hm 10 (by decide); have m11 := hm 11 (by decide); have m12 := hm 12 (by decide); have m13 := hm 13 (by decide); have m14 := hm 14 (by decide)
  simp [marks] at m0 m1 m2 m3 m4 m5 m6 m7 m8 m9 m10 m11 m12 m13 m14
  exact tokN_no (by omega)

set_option maxHeartbeats 1000000 in
set_option maxRecDepth 100000 in
theorem l1Tok_hi (b : Int) (w : World) (h : 122 < b) :
    Calls Tryd.prog 63 #[.int .u8 b] w fun e w' => e = .returned (.bool (tokN b)) ∧ Below w.heap.size w w' := by
  have kc := fun (w : World) (C : Array Value) (n c : Nat) => Lib.run_convert_bytes_const (P := Tryd.prog) w 71 5 C n c Tryd.underlying71 Tryd.underlying5
  have d0 : decide (97 ≤ b) = true := by simp; omega
  have d1 : decide (b ≤ 122) = false := by simp; omega
  have d2 : decide (65 ≤ b) = true := by simp; omega
  have d3 : decide (b ≤ 90) = false := by simp; omega
  have d4 : decide (48 ≤ b) = true := by simp; omega
  have d5 : decide (b ≤ 57) = false := by simp; omega
  go_enter Tryd.func63, Tryd.ntmps63
  go_wp2
  go_loop [31] (fun i => ∃ k : Nat, k ≤ 15 ∧ i = .int .i64 k ∧ Hid (∀ j, j < k → marks.getD j 0 ≠ b)) (fun i => 15 - (intOf i).toNat)
  case atStart => exact ⟨0, Nat.zero_le _, rfl, fun j hj => absurd hj (Nat.not_lt_zero _)⟩
  case round =>
    obtain ⟨k, hk, rfl, hno⟩ := hrel
    by_cases hlt : k < 15
    · have hcell := marksAt w k hlt
      generalize hv : marks.getD k 0 = v at hcell
      have HV : Hid (marks.getD k 0 = v) := hv
      clear hv
      by_cases hvb : v = b
      · have hq : (v == b) = true := by simp [hvb]
        have HB : Hid (v = b) := hvb
        clear hvb
        go_wp2
        go_ret
        exact ⟨ret_bool (marks_yes b k hlt (HV.out.trans HB.out)), (Below.refl _ w).alloc (Nat.le_refl _) _⟩
      · have hq : (v == b) = false := by simp [hvb]
        go_wp2
        go_round
        case rel => exact ⟨k + 1, by omega, by go_num, marks_step hno.out HV.out hvb⟩
        case measure => simp [intOf]; omega
    · go_wp2
      go_ret
      exact ⟨ret_bool (marks_no b (by omega) (by have e : k = 15 := by omega
                                                 rw [← e]; exact hno.out)), (Below.refl _ w).alloc (Nat.le_refl _) _⟩
set_option maxHeartbeats 1000000 in
set_option maxRecDepth 100000 in
theorem l1Tok_mid2 (b : Int) (w : World) (h : 90 < b ∧ b < 97) :
    Calls Tryd.prog 63 #[.int .u8 b] w fun e w' => e = .returned (.bool (tokN b)) ∧ Below w.heap.size w w' := by
  have kc := fun (w : World) (C : Array Value) (n c : Nat) => Lib.run_convert_bytes_const (P := Tryd.prog) w 71 5 C n c Tryd.underlying71 Tryd.underlying5
  have d0 : decide (97 ≤ b) = false := by simp; omega
  have d1 : decide (65 ≤ b) = true := by simp; omega
  have d2 : decide (b ≤ 90) = false := by simp; omega
  have d3 : decide (48 ≤ b) = true := by simp; omega
  have d4 : decide (b ≤ 57) = false := by simp; omega
  go_enter Tryd.func63, Tryd.ntmps63
  go_wp2
  go_loop [31] (fun i => ∃ k : Nat, k ≤ 15 ∧ i = .int .i64 k ∧ Hid (∀ j, j < k → marks.getD j 0 ≠ b)) (fun i => 15 - (intOf i).toNat)
  case atStart => exact ⟨0, Nat.zero_le _, rfl, fun j hj => absurd hj (Nat.not_lt_zero _)⟩
  case round =>
    obtain ⟨k, hk, rfl, hno⟩ := hrel
    by_cases hlt : k < 15
    · have hcell := marksAt w k hlt
      generalize hv : marks.getD k 0 = v at hcell
      have HV : Hid (marks.getD k 0 = v) := hv
      clear hv
      by_cases hvb : v = b
      · have hq : (v == b) = true := by simp [hvb]
        have HB : Hid (v = b) := hvb
        clear hvb
        go_wp2
        go_ret
        exact ⟨ret_bool (marks_yes b k hlt (HV.out.trans HB.out)), (Below.refl _ w).alloc (Nat.le_refl _) _⟩
      · have hq : (v == b) = false := by simp [hvb]
        go_wp2
        go_round
        case rel => exact ⟨k + 1, by omega, by go_num, marks_step hno.out HV.out hvb⟩
        case measure => simp [intOf]; omega
    · go_wp2
      go_ret
      exact ⟨ret_bool (marks_no b (by omega) (by have e : k = 15 := by omega
                                                 rw [← e]; exact hno.out)), (Below.refl _ w).alloc (Nat.le_refl _) _⟩
set_option maxHeartbeats 1000000 in
set_option maxRecDepth 100000 in
theorem l1Tok_mid1 (b : Int) (w : World) (h : 57 < b ∧ b < 65) :
    Calls Tryd.prog 63 #[.int .u8 b] w fun e w' => e = .returned (.bool (tokN b)) ∧ Below w.heap.size w w' := by
  have kc := fun (w : World) (C : Array Value) (n c : Nat) => Lib.run_convert_bytes_const (P := Tryd.prog) w 71 5 C n c Tryd.underlying71 Tryd.underlying5
  have d0 : decide (97 ≤ b) = false := by simp; omega
  have d1 : decide (65 ≤ b) = false := by simp; omega
  have d2 : decide (48 ≤ b) = true := by simp; omega
  have d3 : decide (b ≤ 57) = false := by simp; omega
  go_enter Tryd.func63, Tryd.ntmps63
  go_wp2
  go_loop [31] (fun i => ∃ k : Nat, k ≤ 15 ∧ i = .int .i64 k ∧ Hid (∀ j, j < k → marks.getD j 0 ≠ b)) (fun i => 15 - (intOf i).toNat)
  case atStart => exact ⟨0, Nat.zero_le _, rfl, fun j hj => absurd hj (Nat.not_lt_zero _)⟩
  case round =>
    obtain ⟨k, hk, rfl, hno⟩ := hrel
    by_cases hlt : k < 15
    · have hcell := marksAt w k hlt
      generalize hv : marks.getD k 0 = v at hcell
      have HV : Hid (marks.getD k 0 = v) := hv
      clear hv
      by_cases hvb : v = b
      · have hq : (v == b) = true := by simp [hvb]
        have HB : Hid (v = b) := hvb
        clear hvb
        go_wp2
        go_ret
        exact ⟨ret_bool (marks_yes b k hlt (HV.out.trans HB.out)), (Below.refl _ w).alloc (Nat.le_refl _) _⟩
      · have hq : (v == b) = false := by simp [hvb]
        go_wp2
        go_round
        case rel => exact ⟨k + 1, by omega, by go_num, marks_step hno.out HV.out hvb⟩
        case measure => simp [intOf]; omega
    · go_wp2
      go_ret
      exact ⟨ret_bool (marks_no b (by omega) (by have e : k = 15 := by omega
                                                 rw [← e]; exact hno.out)), (Below.refl _ w).alloc (Nat.le_refl _) _⟩
set_option maxHeartbeats 1000000 in
set_option maxRecDepth 100000 in
theorem l1Tok_lo (b : Int) (w : World) (h : b < 48) :
    Calls Tryd.prog 63 #[.int .u8 b] w fun e w' => e = .returned (.bool (tokN b)) ∧ Below w.heap.size w w' := by
  have kc := fun (w : World) (C : Array Value) (n c : Nat) => Lib.run_convert_bytes_const (P := Tryd.prog) w 71 5 C n c Tryd.underlying71 Tryd.underlying5
  have d0 : decide (97 ≤ b) = false := by simp; omega
  have d1 : decide (65 ≤ b) = false := by simp; omega
  have d2 : decide (48 ≤ b) = false := by simp; omega
  go_enter Tryd.func63, Tryd.ntmps63
  go_wp2
  go_loop [31] (fun i => ∃ k : Nat, k ≤ 15 ∧ i = .int .i64 k ∧ Hid (∀ j, j < k → marks.getD j 0 ≠ b)) (fun i => 15 - (intOf i).toNat)
  case atStart => exact ⟨0, Nat.zero_le _, rfl, fun j hj => absurd hj (Nat.not_lt_zero _)⟩
  case round =>
    obtain ⟨k, hk, rfl, hno⟩ := hrel
    by_cases hlt : k < 15
    · have hcell := marksAt w k hlt
      generalize hv : marks.getD k 0 = v at hcell
      have HV : Hid (marks.getD k 0 = v) := hv
      clear hv
      by_cases hvb : v = b
      · have hq : (v == b) = true := by simp [hvb]
        have HB : Hid (v = b) := hvb
        clear hvb
        go_wp2
        go_ret
        exact ⟨ret_bool (marks_yes b k hlt (HV.out.trans HB.out)), (Below.refl _ w).alloc (Nat.le_refl _) _⟩
      · have hq : (v == b) = false := by simp [hvb]
        go_wp2
        go_round
        case rel => exact ⟨k + 1, by omega, by go_num, marks_step hno.out HV.out hvb⟩
        case measure => simp [intOf]; omega
    · go_wp2
      go_ret
      exact ⟨ret_bool (marks_no b (by omega) (by have e : k = 15 := by omega
                                                 rw [← e]; exact hno.out)), (Below.refl _ w).alloc (Nat.le_refl _) _⟩

theorem l1Tok_alnum_a (b : Int) (w : World) (h : 97 ≤ b ∧ b ≤ 122) :
    Calls Tryd.prog 63 #[.int .u8 b] w fun e w' => e = .returned (.bool (tokN b)) ∧ Below w.heap.size w w' := by
  obtain ⟨h1, h2⟩ := h
  go_enter Tryd.func63, Tryd.ntmps63
  go_wp2
  go_ret
  exact ⟨ret_bool (tokN_yes (by omega)), Below.refl _ _⟩
theorem l1Tok_alnum_b (b : Int) (w : World) (h : 65 ≤ b ∧ b ≤ 90) :
    Calls Tryd.prog 63 #[.int .u8 b] w fun e w' => e = .returned (.bool (tokN b)) ∧ Below w.heap.size w w' := by
  obtain ⟨h1, h2⟩ := h
  go_enter Tryd.func63, Tryd.ntmps63
  go_wp2
  go_ret
  exact ⟨ret_bool (tokN_yes (by omega)), Below.refl _ _⟩
theorem l1Tok_alnum_c (b : Int) (w : World) (h : 48 ≤ b ∧ b ≤ 57) :
    Calls Tryd.prog 63 #[.int .u8 b] w fun e w' => e = .returned (.bool (tokN b)) ∧ Below w.heap.size w w' := by
  obtain ⟨h1, h2⟩ := h
  go_enter Tryd.func63, Tryd.ntmps63
  go_wp2
  go_ret
  exact ⟨ret_bool (tokN_yes (by omega)), Below.refl _ _⟩
theorem l1Tok (b : Int) (w : World) :
    Calls Tryd.prog 63 #[.int .u8 b] w fun e w' => e = .returned (.bool (tokN b)) ∧ Below w.heap.size w w' := by
  by_cases h1 : 122 < b
  · exact l1Tok_hi b w h1
  by_cases h2 : 97 ≤ b
  · exact l1Tok_alnum_a b w (by omega)
  by_cases h3 : 90 < b
  · exact l1Tok_mid2 b w (by omega)
  by_cases h4 : 65 ≤ b
  · exact l1Tok_alnum_b b w (by omega)
  by_cases h5 : 57 < b
  · exact l1Tok_mid1 b w (by omega)
  by_cases h6 : 48 ≤ b
  · exact l1Tok_alnum_c b w (by omega)
  · exact l1Tok_lo b w (by omega)
end Go.Proofs.YtmgmphkncgochaaDoor
