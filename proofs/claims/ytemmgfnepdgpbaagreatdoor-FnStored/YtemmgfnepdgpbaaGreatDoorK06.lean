/-
  The contract of the specification's test of one letter of a token.
  The contracts of TokenOk, the specification's and the program's: both answer whether the text is a token.
  Plain facts on fields: which are right, what is got, what is left without a name, what has hops, what is shown.
  Plain facts on reading fields: the line up to the first line end, what a line tells, and all lines up to an empty one.
-/
import Derived.Test.YtemmgfnepdgpbaaGreatDoorK05
import Derived.Lib.SlBytesConst
import Derived.Test.YtemmgfnepdgpbaaGreatDoorK02
import Derived.Laws.RangeAny
import Derived.Test.YtemmgfnepdgpbaaGreatDoorK04
namespace Go.Proofs.YtemmgfnepdgpbaaGreatDoor
open Go.RowKit

/-- The marks that a token may have beside letters and digits. -/
def marks : List Int := [33, 35, 36, 37, 38, 39, 42, 43, 45, 46, 94, 95, 124, 126, 96]

theorem marksAt (w : World) (k : Nat) (hk : k < 15) : (w.alloc (.cells #[.int .u8 33, .int .u8 35, .int .u8 36, .int .u8 37, .int .u8 38, .int .u8 39, .int .u8 42, .int .u8 43, .int .u8 45, .int .u8 46, .int .u8 94, .int .u8 95, .int .u8 124, .int .u8 126, .int .u8 96] 5 (15, 16))).cell? ⟨w.heap.size, k, none⟩ = some (.int .u8 (marks.getD k 0)) := by
  rw [World.cell?_alloc_mark]
  rcases (show k = 0 ∨ k = 1 ∨ k = 2 ∨ k = 3 ∨ k = 4 ∨ k = 5 ∨ k = 6 ∨ k = 7 ∨ k = 8 ∨ k = 9 ∨ k = 10 ∨ k = 11 ∨ k = 12 ∨ k = 13 ∨ k = 14 from by omega) with rfl | rfl | rfl | rfl | rfl | rfl | rfl | rfl | rfl | rfl | rfl | rfl | rfl | rfl | rfl <;> rfl
theorem marks_yes (b : Int) (k : Nat) (hk : k < 15) (h : marks.getD k 0 = b) : true = tokN b := by
  rcases (show k = 0 ∨ k = 1 ∨ k = 2 ∨ k = 3 ∨ k = 4 ∨ k = 5 ∨ k = 6 ∨ k = 7 ∨ k = 8 ∨ k = 9 ∨ k = 10 ∨ k = 11 ∨ k = 12 ∨ k = 13 ∨ k = 14 from by omega) with rfl | rfl | rfl | rfl | rfl | rfl | rfl | rfl | rfl | rfl | rfl | rfl | rfl | rfl | rfl <;> (simp [marks] at h; subst h; rfl)
theorem marks_step {b v : Int} {k : Nat} (h : ∀ j, j < k → marks.getD j 0 ≠ b) (hv : marks.getD k 0 = v) (hb : ¬ v = b) : ∀ j, j < k + 1 → marks.getD j 0 ≠ b := by
  intro j hj
  by_cases e : j = k
  · subst e; rw [hv]; exact hb
  · exact h j (by omega)
theorem marks_no (b : Int) (h : ¬ ((97 ≤ b ∧ b ≤ 122) ∨ (65 ≤ b ∧ b ≤ 90) ∨ (48 ≤ b ∧ b ≤ 57))) (hm : ∀ j, j < 15 → marks.getD j 0 ≠ b) : false = tokN b := by
  have m0 := hm 0 (by decide); have m1 := hm 1 (by decide); have m2 := hm 2 (by decide); have m3 := hm 3 (by decide); have m4 := hm 4 (by decide)
  have m5 := hm 5 (by decide); have m6 := hm 6 (by decide); have m7 := hm 7 (by decide); have m8 := hm 8 (by decide); have m9 := hm 9 (by decide)
  have m10 := hm 10 (by decide); have m11 := hm 11 (by decide); have m12 := hm 12 (by decide); have m13 := hm 13 (by decide); have m14 := hm 14 (by decide)
  simp [marks] at m0 m1 m2 m3 m4 m5 m6 m7 m8 m9 m10 m11 m12 m13 m14
  exact tokN_no (by omega)

set_option maxHeartbeats 1000000 in
set_option maxRecDepth 100000 in
theorem l1Tok_hi (b : Int) (w : World) (h : 122 < b) :
    Calls Tryz.prog 127 #[.int .u8 b] w fun e w' => e = .returned (.bool (tokN b)) ∧ Below w.heap.size w w' := by
  have kc := fun (w : World) (C : Array Value) (n c : Nat) => Lib.run_convert_bytes_const (P := Tryz.prog) w 22 5 C n c Tryz.underlying22 Tryz.underlying5
  have d0 : decide (97 ≤ b) = true := by simp; omega
  have d1 : decide (b ≤ 122) = false := by simp; omega
  have d2 : decide (65 ≤ b) = true := by simp; omega
  have d3 : decide (b ≤ 90) = false := by simp; omega
  have d4 : decide (48 ≤ b) = true := by simp; omega
  have d5 : decide (b ≤ 57) = false := by simp; omega
  go_enter Tryz.func127, Tryz.ntmps127
  go_wp2
  go_loop [31] (fun i => ∃ k : Nat, k ≤ 15 ∧ i = .int .i64 k ∧ Hid (∀ j, j < k → marks.getD j 0 ≠ b)) (fun i => 15 - (intOf i).toNat)
  case atStart => exact ⟨0, Nat.zero_le _, rfl, fun j hj => absurd hj (Nat.not_lt_zero _)⟩
  case round =>
    obtain ⟨k, hk, rfl, hno⟩ := hrel
    by_cases hlt : k < 15
    · have hcell := marksAt w k hlt
      generalize hv : marks.getD k 0 = v at hcell
      have HV : Hid (marks.getD k 0 = v) := hv
      clear hv
      by_cases hvb : v = b
      · have hq : (v == b) = true := by simp [hvb]
        have HB : Hid (v = b) := hvb
        clear hvb
        go_wp2
        go_ret
        exact ⟨ret_bool (marks_yes b k hlt (HV.out.trans HB.out)), (Below.refl _ w).alloc (Nat.le_refl _) _⟩
      · have hq : (v == b) = false := by simp [hvb]
        go_wp2
        go_round
        case rel => exact ⟨k + 1, by omega, by go_num, marks_step hno.out HV.out hvb⟩
        case measure => simp [intOf]; omega
    · go_wp2
      go_ret
      exact ⟨ret_bool (marks_no b (by omega) (by have e : k = 15 := by omega
                                                 rw [← e]; exact hno.out)), (Below.refl _ w).alloc (Nat.le_refl _) _⟩
set_option maxHeartbeats 1000000 in
set_option maxRecDepth 100000 in
theorem l1Tok_mid2 (b : Int) (w : World) (h : 90 < b ∧ b < 97) :
    Calls Tryz.prog 127 #[.int .u8 b] w fun e w' => e = .returned (.bool (tokN b)) ∧ Below w.heap.size w w' := by
  have kc := fun (w : World) (C : Array Value) (n c : Nat) => Lib.run_convert_bytes_const (P := Tryz.prog) w 22 5 C n c Tryz.underlying22 Tryz.underlying5
  have d0 : decide (97 ≤ b) = false := by simp; omega
  have d1 : decide (65 ≤ b) = true := by simp; omega
  have d2 : decide (b ≤ 90) = false := by simp; omega
  have d3 : decide (48 ≤ b) = true := by simp; omega
  have d4 : decide (b ≤ 57) = false := by simp; omega
  go_enter Tryz.func127, Tryz.ntmps127
  go_wp2
  go_loop [31] (fun i => ∃ k : Nat, k ≤ 15 ∧ i = .int .i64 k ∧ Hid (∀ j, j < k → marks.getD j 0 ≠ b)) (fun i => 15 - (intOf i).toNat)
  case atStart => exact ⟨0, Nat.zero_le _, rfl, fun j hj => absurd hj (Nat.not_lt_zero _)⟩
  case round =>
    obtain ⟨k, hk, rfl, hno⟩ := hrel
    by_cases hlt : k < 15
    · have hcell := marksAt w k hlt
      generalize hv : marks.getD k 0 = v at hcell
      have HV : Hid (marks.getD k 0 = v) := hv
      clear hv
      by_cases hvb : v = b
      · have hq : (v == b) = true := by simp [hvb]
        have HB : Hid (v = b) := hvb
        clear hvb
        go_wp2
        go_ret
        exact ⟨ret_bool (marks_yes b k hlt (HV.out.trans HB.out)), (Below.refl _ w).alloc (Nat.le_refl _) _⟩
      · have hq : (v == b) = false := by simp [hvb]
        go_wp2
        go_round
        case rel => exact ⟨k + 1, by omega, by go_num, marks_step hno.out HV.out hvb⟩
        case measure => simp [intOf]; omega
    · go_wp2
      go_ret
      exact ⟨ret_bool (marks_no b (by omega) (by have e : k = 15 := by omega
                                                 rw [← e]; exact hno.out)), (Below.refl _ w).alloc (Nat.le_refl _) _⟩
set_option maxHeartbeats 1000000 in
set_option maxRecDepth 100000 in
theorem l1Tok_mid1 (b : Int) (w : World) (h : 57 < b ∧ b < 65) :
    Calls Tryz.prog 127 #[.int .u8 b] w fun e w' => e = .returned (.bool (tokN b)) ∧ Below w.heap.size w w' := by
  have kc := fun (w : World) (C : Array Value) (n c : Nat) => Lib.run_convert_bytes_const (P := Tryz.prog) w 22 5 C n c Tryz.underlying22 Tryz.underlying5
  have d0 : decide (97 ≤ b) = false := by simp; omega
  have d1 : decide (65 ≤ b) = false := by simp; omega
  have d2 : decide (48 ≤ b) = true := by simp; omega
  have d3 : decide (b ≤ 57) = false := by simp; omega
  go_enter Tryz.func127, Tryz.ntmps127
  go_wp2
  go_loop [31] (fun i => ∃ k : Nat, k ≤ 15 ∧ i = .int .i64 k ∧ Hid (∀ j, j < k → marks.getD j 0 ≠ b)) (fun i => 15 - (intOf i).toNat)
  case atStart => exact ⟨0, Nat.zero_le _, rfl, fun j hj => absurd hj (Nat.not_lt_zero _)⟩
  case round =>
    obtain ⟨k, hk, rfl, hno⟩ := hrel
    by_cases hlt : k < 15
    · have hcell := marksAt w k hlt
      generalize hv : marks.getD k 0 = v at hcell
      have HV : Hid (marks.getD k 0 = v) := hv
      clear hv
      by_cases hvb : v = b
      · have hq : (v == b) = true := by simp [hvb]
        have HB : Hid (v = b) := hvb
        clear hvb
        go_wp2
        go_ret
        exact ⟨ret_bool (marks_yes b k hlt (HV.out.trans HB.out)), (Below.refl _ w).alloc (Nat.le_refl _) _⟩
      · have hq : (v == b) = false := by simp [hvb]
        go_wp2
        go_round
        case rel => exact ⟨k + 1, by omega, by go_num, marks_step hno.out HV.out hvb⟩
        case measure => simp [intOf]; omega
    · go_wp2
      go_ret
      exact ⟨ret_bool (marks_no b (by omega) (by have e : k = 15 := by omega
                                                 rw [← e]; exact hno.out)), (Below.refl _ w).alloc (Nat.le_refl _) _⟩
set_option maxHeartbeats 1000000 in
set_option maxRecDepth 100000 in
theorem l1Tok_lo (b : Int) (w : World) (h : b < 48) :
    Calls Tryz.prog 127 #[.int .u8 b] w fun e w' => e = .returned (.bool (tokN b)) ∧ Below w.heap.size w w' := by
  have kc := fun (w : World) (C : Array Value) (n c : Nat) => Lib.run_convert_bytes_const (P := Tryz.prog) w 22 5 C n c Tryz.underlying22 Tryz.underlying5
  have d0 : decide (97 ≤ b) = false := by simp; omega
  have d1 : decide (65 ≤ b) = false := by simp; omega
  have d2 : decide (48 ≤ b) = false := by simp; omega
  go_enter Tryz.func127, Tryz.ntmps127
  go_wp2
  go_loop [31] (fun i => ∃ k : Nat, k ≤ 15 ∧ i = .int .i64 k ∧ Hid (∀ j, j < k → marks.getD j 0 ≠ b)) (fun i => 15 - (intOf i).toNat)
  case atStart => exact ⟨0, Nat.zero_le _, rfl, fun j hj => absurd hj (Nat.not_lt_zero _)⟩
  case round =>
    obtain ⟨k, hk, rfl, hno⟩ := hrel
    by_cases hlt : k < 15
    · have hcell := marksAt w k hlt
      generalize hv : marks.getD k 0 = v at hcell
      have HV : Hid (marks.getD k 0 = v) := hv
      clear hv
      by_cases hvb : v = b
      · have hq : (v == b) = true := by simp [hvb]
        have HB : Hid (v = b) := hvb
        clear hvb
        go_wp2
        go_ret
        exact ⟨ret_bool (marks_yes b k hlt (HV.out.trans HB.out)), (Below.refl _ w).alloc (Nat.le_refl _) _⟩
      · have hq : (v == b) = false := by simp [hvb]
        go_wp2
        go_round
        case rel => exact ⟨k + 1, by omega, by go_num, marks_step hno.out HV.out hvb⟩
        case measure => simp [intOf]; omega
    · go_wp2
      go_ret
      exact ⟨ret_bool (marks_no b (by omega) (by have e : k = 15 := by omega
                                                 rw [← e]; exact hno.out)), (Below.refl _ w).alloc (Nat.le_refl _) _⟩

theorem l1Tok_alnum_a (b : Int) (w : World) (h : 97 ≤ b ∧ b ≤ 122) :
    Calls Tryz.prog 127 #[.int .u8 b] w fun e w' => e = .returned (.bool (tokN b)) ∧ Below w.heap.size w w' := by
  obtain ⟨h1, h2⟩ := h
  go_enter Tryz.func127, Tryz.ntmps127
  go_wp2
  go_ret
  exact ⟨ret_bool (tokN_yes (by omega)), Below.refl _ _⟩
theorem l1Tok_alnum_b (b : Int) (w : World) (h : 65 ≤ b ∧ b ≤ 90) :
    Calls Tryz.prog 127 #[.int .u8 b] w fun e w' => e = .returned (.bool (tokN b)) ∧ Below w.heap.size w w' := by
  obtain ⟨h1, h2⟩ := h
  go_enter Tryz.func127, Tryz.ntmps127
  go_wp2
  go_ret
  exact ⟨ret_bool (tokN_yes (by omega)), Below.refl _ _⟩
theorem l1Tok_alnum_c (b : Int) (w : World) (h : 48 ≤ b ∧ b ≤ 57) :
    Calls Tryz.prog 127 #[.int .u8 b] w fun e w' => e = .returned (.bool (tokN b)) ∧ Below w.heap.size w w' := by
  obtain ⟨h1, h2⟩ := h
  go_enter Tryz.func127, Tryz.ntmps127
  go_wp2
  go_ret
  exact ⟨ret_bool (tokN_yes (by omega)), Below.refl _ _⟩
theorem l1Tok (b : Int) (w : World) :
    Calls Tryz.prog 127 #[.int .u8 b] w fun e w' => e = .returned (.bool (tokN b)) ∧ Below w.heap.size w w' := by
  by_cases h1 : 122 < b
  · exact l1Tok_hi b w h1
  by_cases h2 : 97 ≤ b
  · exact l1Tok_alnum_a b w (by omega)
  by_cases h3 : 90 < b
  · exact l1Tok_mid2 b w (by omega)
  by_cases h4 : 65 ≤ b
  · exact l1Tok_alnum_b b w (by omega)
  by_cases h5 : 57 < b
  · exact l1Tok_mid1 b w (by omega)
  by_cases h6 : 48 ≤ b
  · exact l1Tok_alnum_c b w (by omega)
  · exact l1Tok_lo b w (by omega)
end Go.Proofs.YtemmgfnepdgpbaaGreatDoor
namespace Go.Proofs.YtemmgfnepdgpbaaGreatDoor
open Go.RowKit

theorem specTok_out (s : ByteArray) (w : World) (hs : s.size ≤ maxLen) (h : s.size < 1 ∨ 64 < s.size) :
    Calls Tryz.prog 93 #[.string s] w fun e w' => e = .returned (.bool (tokB s)) ∧ Below w.heap.size w w' := by
  unfold maxLen at hs
  have ht := tokB_out h
  have HT : Hid (false = tokB s) := ht
  clear ht
  rcases h with h | h
  · go_enter Tryz.func93, Tryz.ntmps93
    go_wp2
    go_ret
    exact ⟨ret_bool HT.out, Below.refl _ _⟩
  · have h' : ¬ s.size < 1 := by omega
    go_enter Tryz.func93, Tryz.ntmps93
    go_wp2
    go_ret
    exact ⟨ret_bool HT.out, Below.refl _ _⟩

set_option maxHeartbeats 400000 in
theorem specTok_in (s : ByteArray) (w : World) (h1 : 1 ≤ s.size) (h2 : s.size ≤ 64) :
    Calls Tryz.prog 93 #[.string s] w fun e w' => e = .returned (.bool (tokB s)) ∧ Below w.heap.size w w' := by
  have d1 : decide ((s.size : Int) < 1) = false := by simp; omega
  have d2 : decide (64 < (s.size : Int)) = false := by simp; omega
  go_enter Tryz.func93, Tryz.ntmps93
  go_wp2
  go_loopw [3] (fun i wr => ∃ k : Nat, k ≤ s.size ∧ i = .int .i64 k ∧ Below w.heap.size w wr ∧ Hid (allB tokN (s.data.toList.take k) = true)) (fun i _ => s.size - (intOf i).toNat)
  case atStart => exact ⟨0, Nat.zero_le _, rfl, Below.refl _ _, allB_nil _ _⟩
  case round =>
    obtain ⟨k, hk, rfl, hb, ha⟩ := hrel
    by_cases hlt : k < s.size
    · by_cases ht : tokN (s[k].toNat : Int) = true
      · go_wp2_with (go_at_call 127; refine (l1Tok _ _).mono ?_; rintro e w' ⟨rfl, hb'⟩)
        go_roundw
        case rel => exact ⟨k + 1, by omega, by go_num, hb.trans (hb'.mono hb.size), allB_step hlt ha.out ht⟩
        case measure => simp [intOf]; omega
      · have ht' : tokN (s[k].toNat : Int) = false := by simpa using ht
        clear ht
        go_wp2_with (go_at_call 127; refine (l1Tok _ _).mono ?_; rintro e w' ⟨rfl, hb'⟩)
        go_ret
        exact ⟨ret_bool (tokB_in h1 h2 (allB_not hlt ht')), hb.trans (hb'.mono hb.size)⟩
    · go_wp2
      go_ret
      exact ⟨ret_bool (tokB_in h1 h2 (allB_end hlt ha.out)), hb⟩

theorem specTok (s : ByteArray) (w : World) (hs : s.size ≤ maxLen) :
    Calls Tryz.prog 93 #[.string s] w fun e w' => e = .returned (.bool (tokB s)) ∧ Below w.heap.size w w' := by
  by_cases h : s.size < 1 ∨ 64 < s.size
  · exact specTok_out s w hs h
  · exact specTok_in s w (by omega) (by omega)

theorem implTok_out (s : ByteArray) (w : World) (hs : s.size ≤ maxLen) (h : s.size < 1 ∨ 64 < s.size) :
    Calls Tryz.prog 117 #[.string s] w fun e w' => e = .returned (.bool (tokB s)) ∧ Below w.heap.size w w' := by
  unfold maxLen at hs
  have ht := tokB_out h
  have HT : Hid (false = tokB s) := ht
  clear ht
  rcases h with h | h
  · go_enter Tryz.func117, Tryz.ntmps117
    go_wp2
    go_ret
    exact ⟨ret_bool HT.out, Below.refl _ _⟩
  · have h' : ¬ s.size < 1 := by omega
    go_enter Tryz.func117, Tryz.ntmps117
    go_wp2
    go_ret
    exact ⟨ret_bool HT.out, Below.refl _ _⟩

set_option maxHeartbeats 400000 in
theorem implTok_in (s : ByteArray) (w : World) (h1 : 1 ≤ s.size) (h2 : s.size ≤ 64) :
    Calls Tryz.prog 117 #[.string s] w fun e w' => e = .returned (.bool (tokB s)) ∧ Below w.heap.size w w' := by
  have d1 : decide ((s.size : Int) < 1) = false := by simp; omega
  have d2 : decide (64 < (s.size : Int)) = false := by simp; omega
  go_enter Tryz.func117, Tryz.ntmps117
  go_wp2
  go_loopw [4] (fun _ wr => ∃ pos : Nat, pos ≤ s.size ∧ wr = w.iter s pos ∧ Hid (allB tokN (s.data.toList.take pos) = true)) (fun _ wr => s.size - wr.iterPos w.heap.size)
  case atStart => exact ⟨0, Nat.zero_le _, rfl, allB_nil _ _⟩
  case round =>
    obtain ⟨pos, hpos, rfl, ha⟩ := hrel
    by_cases hp : pos < s.size
    · by_cases hasc : (s[pos]).toNat < 128
      · have hnx : ∀ ty, (Instr.next (.pointer (some ⟨w.heap.size, 0, none⟩)) true ty).run Tryz.prog (w.iter s pos) = _ := fun ty => run_next_ascii w s pos ty hp hasc
        by_cases ht : tokN (s[pos].toNat : Int) = true
        · go_wp2_with (go_at_call 141; refine (isTok _ _).mono ?_; rintro e w' ⟨rfl, rfl⟩)
          go_roundw
          case rel => exact ⟨pos + 1, by omega, rfl, allB_step hp ha.out ht⟩
          case measure => simp; omega
        · have ht' : tokN (s[pos].toNat : Int) = false := by simpa using ht
          clear ht
          go_wp2_with (go_at_call 141; refine (isTok _ _).mono ?_; rintro e w' ⟨rfl, rfl⟩)
          go_ret
          exact ⟨ret_bool (tokB_in h1 h2 (allB_not hp ht')), below_iter _ _ _⟩
      · have hnx : ∀ ty, (Instr.next (.pointer (some ⟨w.heap.size, 0, none⟩)) true ty).run Tryz.prog (w.iter s pos) = _ := fun ty => run_next_any w s pos ty hp
        have hd := (decode_high s pos hp (by omega)).1
        have hf : false = allB tokN s.data.toList := allB_not hp (tokN_high (by omega))
        have HF : Hid (false = allB tokN s.data.toList) := hf
        clear hf
        generalize (Utf8.decode s pos).1 = r at hnx hd
        generalize (Utf8.decode s pos).2 = p2 at hnx
        have ht : tokN (r : Int) = false := tokN_high (by omega)
        go_wp2_with (go_at_call 141; refine (isTok _ _).mono ?_; rintro e w' ⟨rfl, rfl⟩)
        go_ret
        exact ⟨ret_bool (tokB_in h1 h2 HF.out), below_iter _ _ _⟩
    · have hnx : ∀ ty, (Instr.next (.pointer (some ⟨w.heap.size, 0, none⟩)) true ty).run Tryz.prog (w.iter s pos) = _ := fun ty => run_next_end w s pos ty hp
      go_wp2
      go_ret
      exact ⟨ret_bool (tokB_in h1 h2 (allB_end hp ha.out)), below_iter _ _ _⟩

theorem implTok (s : ByteArray) (w : World) (hs : s.size ≤ maxLen) :
    Calls Tryz.prog 117 #[.string s] w fun e w' => e = .returned (.bool (tokB s)) ∧ Below w.heap.size w w' := by
  by_cases h : s.size < 1 ∨ 64 < s.size
  · exact implTok_out s w hs h
  · exact implTok_in s w (by omega) (by omega)
end Go.Proofs.YtemmgfnepdgpbaaGreatDoor
namespace Go.Proofs.YtemmgfnepdgpbaaGreatDoor
open Go.RowKit

/-- A field that is right. -/
def fldOk (f : Fl) : Bool := tokB f.1 && (visB f.2 && decide (trimB f.2 = f.2))
def fldsOk (l : List Fl) : Bool := decide (l.length ≤ 30) && l.all fldOk
theorem fldOk_tok {f : Fl} (h : tokB f.1 = false) : false = fldOk f := by unfold fldOk; rw [h]; rfl
theorem fldOk_vis {f : Fl} (h : tokB f.1 = true) (h2 : visB f.2 = false) : false = fldOk f := by unfold fldOk; rw [h, h2]; rfl
theorem fldOk_trim {f : Fl} (h : tokB f.1 = true) (h2 : visB f.2 = true) : decide (trimB f.2 = f.2) = fldOk f := by unfold fldOk; rw [h, h2]; rfl
theorem str_eq (a b : ByteArray) : (a.toList == b.toList) = decide (a = b) := by
  by_cases h : a = b
  · subst h; simp
  · rw [decide_eq_false h]
    have : ¬ a.toList = b.toList := fun e => h (by rw [ByteArray.toList_eq, ByteArray.toList_eq] at e; exact ext_bytes e)
    simp [this]
theorem fldOk_same {f : Fl} (h : tokB f.1 = true) (h2 : visB f.2 = true) : ((trimB f.2).toList == f.2.toList) = fldOk f := by rw [str_eq]; exact fldOk_trim h h2
theorem fldOk_parts {f : Fl} (h : fldOk f = true) : tokB f.1 = true ∧ visB f.2 = true ∧ trimB f.2 = f.2 := by
  unfold fldOk at h
  rw [Bool.and_eq_true, Bool.and_eq_true] at h
  exact ⟨h.1, h.2.1, of_decide_eq_true h.2.2⟩
theorem tok_size {s : ByteArray} (h : tokB s = true) : 1 ≤ s.size ∧ s.size ≤ 64 := by
  unfold tokB at h; rw [Bool.and_eq_true] at h; exact of_decide_eq_true h.1
theorem visB_size {s : ByteArray} (h : visB s = true) : s.size ≤ 400 := by
  unfold visB at h; rw [Bool.and_eq_true] at h; exact of_decide_eq_true h.1
theorem fldOk_size {f : Fl} (h : fldOk f = true) : f.1.size ≤ 64 ∧ f.2.size ≤ 400 := by
  obtain ⟨h1, h2, _⟩ := fldOk_parts h
  exact ⟨(tok_size h1).2, visB_size h2⟩
theorem fldsOk_long {l : List Fl} (h : 30 < l.length) : false = fldsOk l := by
  unfold fldsOk; rw [decide_eq_false (by omega)]; rfl
theorem fldsOk_all {l : List Fl} (h : l.length ≤ 30) (b : Bool) (e : b = l.all fldOk) : b = fldsOk l := by
  unfold fldsOk; rw [decide_eq_true h, e]; rfl
theorem fldsOk_parts {l : List Fl} (h : fldsOk l = true) : l.length ≤ 30 ∧ ∀ f ∈ l, fldOk f = true := by
  unfold fldsOk at h
  rw [Bool.and_eq_true] at h
  exact ⟨of_decide_eq_true h.1, fun f hf => List.all_eq_true.1 h.2 f hf⟩
theorem all_yes {l : List Fl} {k : Nat} (hk : k < l.length) (h : (l.take k).all fldOk = true) (hf : fldOk l[k] = true) : (l.take (k + 1)).all fldOk = true := by
  rw [List.take_succ_eq_append_getElem hk, List.all_append, h]; simp [hf]
theorem all_no {l : List Fl} {k : Nat} (hk : k < l.length) (hf : fldOk l[k] = false) : false = l.all fldOk := by
  cases e : l.all fldOk with
  | false => rfl
  | true => have := List.all_eq_true.1 e l[k] (List.getElem_mem hk); rw [hf] at this; cases this
theorem all_end {l : List Fl} {k : Nat} (hk : ¬ k < l.length) (h : (l.take k).all fldOk = true) : true = l.all fldOk := by
  rw [List.take_of_length_le (by omega)] at h; exact h.symm

/-! ### What is got -/
def gStep (n : ByteArray) (p : ByteArray × Bool) (f : Fl) : ByteArray × Bool :=
  if lowS f.1 = lowS n then ((if p.2 = true then p.1 ++ ⟨#[44, 32]⟩ else p.1) ++ f.2, true) else p
def getF (l : List Fl) (n : ByteArray) : ByteArray × Bool := l.foldl (gStep n) (⟨#[]⟩, false)
def getA (l : List Fl) (n : ByteArray) : ByteArray × Bool := if fldsOk l = true then getF l n else (⟨#[]⟩, false)
theorem getA_no {l : List Fl} (n : ByteArray) (h : fldsOk l = false) : (⟨#[]⟩, false) = getA l n := by unfold getA; rw [if_neg (by simp [h])]
theorem getA_yes {l : List Fl} (n : ByteArray) (h : fldsOk l = true) : getF l n = getA l n := by unfold getA; rw [if_pos h]
theorem getF_next {l : List Fl} {k : Nat} (n : ByteArray) (hk : k < l.length) : getF (l.take (k + 1)) n = gStep n (getF (l.take k) n) l[k] := by
  rw [List.take_succ_eq_append_getElem hk, getF, List.foldl_append]; rfl
theorem gStep_no {n : ByteArray} {p : ByteArray × Bool} {f : Fl} (h : ¬ lowS f.1 = lowS n) : gStep n p f = p := if_neg h
theorem gStep_first {n : ByteArray} {x : ByteArray} {f : Fl} (h : lowS f.1 = lowS n) : gStep n (x, false) f = (x ++ f.2, true) := by unfold gStep; rw [if_pos h]; rfl
theorem gStep_more {n : ByteArray} {x : ByteArray} {f : Fl} (h : lowS f.1 = lowS n) : gStep n (x, true) f = (x ++ ⟨#[44, 32]⟩ ++ f.2, true) := by unfold gStep; rw [if_pos h]; rfl
theorem getF_end {l : List Fl} {k : Nat} (n : ByteArray) (hk : ¬ k < l.length) : getF (l.take k) n = getF l n := by rw [List.take_of_length_le (by omega)]
theorem gStep_size (n : ByteArray) (p : ByteArray × Bool) (f : Fl) : (gStep n p f).1.size ≤ p.1.size + 2 + f.2.size := by
  unfold gStep
  split
  · show ((if p.2 = true then p.1 ++ ⟨#[44, 32]⟩ else p.1) ++ f.2).size ≤ _
    rw [ByteArray.size_append]
    split
    · rw [ByteArray.size_append]; show p.1.size + 2 + f.2.size ≤ _; omega
    · omega
  · omega
theorem getF_size (l : List Fl) (n : ByteArray) (h : ∀ f ∈ l, fldOk f = true) : ∀ k, k ≤ l.length → (getF (l.take k) n).1.size ≤ 402 * k := by
  intro k
  induction k with
  | zero => intro _; show (⟨#[]⟩ : ByteArray).size ≤ _; exact Nat.zero_le _
  | succ k ih =>
    intro hk
    rw [getF_next n (by omega)]
    have h1 := gStep_size n (getF (l.take k) n) l[k]
    have h2 := ih (by omega)
    have h3 := (fldOk_size (h l[k] (List.getElem_mem _))).2
    omega
theorem getA_size (l : List Fl) (n : ByteArray) : (getA l n).1.size ≤ 12060 := by
  cases h : fldsOk l with
  | false => rw [← getA_no n h]; show (⟨#[]⟩ : ByteArray).size ≤ _; exact Nat.zero_le _
  | true =>
    rw [← getA_yes n h]
    obtain ⟨h1, h2⟩ := fldsOk_parts h
    have := getF_size l n h2 l.length (Nat.le_refl _)
    rw [List.take_length] at this
    omega
/-! ### What is left -/
def keepB (n : ByteArray) (f : Fl) : Bool := !decide (lowS f.1 = lowS n)
def wo (l : List Fl) (n : ByteArray) : List Fl := l.filter (keepB n)
/-! ### What has hops -/
/-! ### What is shown -/
def showF (f : Fl) : List UInt8 := f.1.data.toList ++ [58, 32] ++ f.2.data.toList ++ [13, 10]
def showL (l : List Fl) : List UInt8 := l.flatMap showF
def showA (l : List Fl) : ByteArray := if fldsOk l = true then ⟨(showL l).toArray⟩ else ⟨#[]⟩
theorem showA_no {l : List Fl} (h : fldsOk l = false) : ⟨#[]⟩ = showA l := by unfold showA; rw [if_neg (by simp [h])]
theorem showA_yes {l : List Fl} (h : fldsOk l = true) : ⟨(showL l).toArray⟩ = showA l := by unfold showA; rw [if_pos h]
theorem showL_next {l : List Fl} {k : Nat} (hk : k < l.length) : showL (l.take (k + 1)) = showL (l.take k) ++ showF l[k] := by
  rw [List.take_succ_eq_append_getElem hk, showL, List.flatMap_append]; simp [showL]
theorem showL_end {l : List Fl} {k : Nat} (hk : ¬ k < l.length) : showL (l.take k) = showL l := by rw [List.take_of_length_le (by omega)]
theorem showF_length (f : Fl) : (showF f).length = f.1.size + f.2.size + 4 := by
  have h1 : f.1.data.toList.length = f.1.size := by simp
  have h2 : f.2.data.toList.length = f.2.size := by simp
  unfold showF
  simp only [List.length_append, List.length_cons, List.length_nil, h1, h2]
  omega
theorem showL_length (l : List Fl) (h : ∀ f ∈ l, fldOk f = true) : ∀ k, k ≤ l.length → (showL (l.take k)).length ≤ 468 * k := by
  intro k
  induction k with
  | zero => intro _; exact Nat.zero_le _
  | succ k ih =>
    intro hk
    rw [showL_next (by omega), List.length_append, showF_length]
    have h2 := ih (by omega)
    have h3 := fldOk_size (h l[k] (List.getElem_mem _))
    omega
end Go.Proofs.YtemmgfnepdgpbaaGreatDoor
namespace Go.Proofs.YtemmgfnepdgpbaaGreatDoor
open Go.RowKit

/-- The line up to the first line end, and what is behind that. -/
def lnC : List UInt8 → Option (List UInt8 × List UInt8)
  | [] => none
  | [_] => none
  | c :: d :: r => if c = 13 ∧ d = 10 then some ([], r) else (lnC (d :: r)).map fun p => (c :: p.1, p.2)
/-- .. where no other byte 13 or 10 comes ahead of it. -/
def lnS : List UInt8 → Option (List UInt8 × List UInt8)
  | [] => none
  | [_] => none
  | c :: d :: r => if c = 10 then none else if c = 13 then (if d = 10 then some ([], r) else none) else (lnS (d :: r)).map fun p => (c :: p.1, p.2)
def clean (l : List UInt8) : Prop := ∀ c ∈ l, c ≠ 13 ∧ c ≠ 10
theorem lnS_some : ∀ {l x r : List UInt8}, lnS l = some (x, r) → lnC l = some (x, r) ∧ clean x
  | [], _, _, h => by simp [lnS] at h
  | [_], _, _, h => by simp [lnS] at h
  | c :: d :: t, x, r, h => by
    unfold lnS at h
    unfold lnC
    by_cases h1 : c = 10
    · simp [h1] at h
    by_cases h2 : c = 13
    · by_cases h3 : d = 10
      · simp [h2, h3] at h
        obtain ⟨rfl, rfl⟩ := h
        simp [h2, h3, clean]
      · simp [h2, h3] at h
    · simp only [h1, h2, if_false, false_and, Option.map_eq_some_iff] at h ⊢
      obtain ⟨⟨y, q⟩, hq, he⟩ := h
      injection he with e1 e2
      subst e1 e2
      obtain ⟨g1, g2⟩ := lnS_some hq
      refine ⟨⟨(y, q), g1, rfl⟩, ?_⟩
      intro b hb
      rcases List.mem_cons.1 hb with rfl | hb
      · exact ⟨h2, h1⟩
      · exact g2 b hb
theorem lnC_length : ∀ {l x r : List UInt8}, lnC l = some (x, r) → l = x ++ [13, 10] ++ r
  | [], _, _, h => by simp [lnC] at h
  | [_], _, _, h => by simp [lnC] at h
  | c :: d :: t, x, r, h => by
    unfold lnC at h
    by_cases h0 : c = 13 ∧ d = 10
    · obtain ⟨rfl, rfl⟩ := h0
      simp at h
      obtain ⟨rfl, rfl⟩ := h
      rfl
    · rw [if_neg h0, Option.map_eq_some_iff] at h
      obtain ⟨⟨y, q⟩, hq, he⟩ := h
      injection he with e1 e2
      subst e1 e2
      rw [lnC_length hq]
      rfl
/-- A line that is clean is found. -/
theorem lnC_clean : ∀ {x : List UInt8} (r : List UInt8), clean x → lnC (x ++ [13, 10] ++ r) = some (x, r)
  | [], r, _ => by simp [lnC]
  | [c], r, h => by
    have := (h c (by simp)).1
    simp [lnC, this]
  | c :: d :: t, r, h => by
    have h1 := (h c (by simp)).1
    have ih := lnC_clean (x := d :: t) r (fun b hb => h b (by simp [hb]))
    show lnC (c :: d :: (t ++ [13, 10] ++ r)) = _
    unfold lnC
    rw [if_neg (fun e => h1 e.1)]
    have e : lnC (d :: (t ++ [13, 10] ++ r)) = some (d :: t, r) := ih
    rw [e]
    rfl
/-- How the line grows byte by byte. -/
theorem lnS_ten {c : UInt8} {r : List UInt8} (h : c = 10) : lnS (c :: r) = none := by
  cases r with
  | nil => rfl
  | cons d r => simp [lnS, h]
theorem lnS_end {c d : UInt8} {r : List UInt8} (h : c = 13) (h2 : d = 10) : lnS (c :: d :: r) = some ([], r) := by simp [lnS, h, h2]
theorem lnS_lone {c : UInt8} {r : List UInt8} (h : c = 13) (h2 : ∀ d t, r = d :: t → d ≠ 10) : lnS (c :: r) = none := by
  cases r with
  | nil => rfl
  | cons d r => simp [lnS, h, h2 d r rfl]
theorem lnS_more {c : UInt8} {r : List UInt8} (h : c ≠ 13) (h2 : c ≠ 10) : lnS (c :: r) = (lnS r).map fun p => (c :: p.1, p.2) := by
  cases r with
  | nil => rfl
  | cons d r => simp [lnS, h, h2]

/-! ### What a line tells -/
def colL : List UInt8 → Option (List UInt8 × List UInt8)
  | [] => none
  | c :: r => if c = 58 then some ([], r) else (colL r).map fun p => (c :: p.1, p.2)
def fldT (a b : List UInt8) : Fl := (⟨a.toArray⟩, trimB ⟨b.toArray⟩)
def rdF (x : List UInt8) : Option Fl := match colL x with
  | none => none
  | some (a, b) => if fldOk (fldT a b) = true then some (fldT a b) else none
theorem rdF_col {x : List UInt8} (h : colL x = none) : rdF x = none := by unfold rdF; rw [h]
theorem rdF_no {x a b : List UInt8} (h : colL x = some (a, b)) (h2 : fldOk (fldT a b) = false) : rdF x = none := by unfold rdF; rw [h]; simp [h2]
theorem rdF_yes {x a b : List UInt8} (h : colL x = some (a, b)) (h2 : fldOk (fldT a b) = true) : rdF x = some (fldT a b) := by unfold rdF; rw [h]; simp [h2]
theorem colL_is : ∀ {x a b : List UInt8}, colL x = some (a, b) → x = a ++ [58] ++ b ∧ ∀ c ∈ a, c ≠ 58
  | [], _, _, h => by simp [colL] at h
  | c :: r, a, b, h => by
    unfold colL at h
    by_cases h0 : c = 58
    · simp [h0] at h
      obtain ⟨rfl, rfl⟩ := h
      simp [h0]
    · rw [if_neg h0, Option.map_eq_some_iff] at h
      obtain ⟨⟨y, q⟩, hq, he⟩ := h
      injection he with e1 e2
      subst e1 e2
      obtain ⟨g1, g2⟩ := colL_is hq
      refine ⟨by rw [g1]; simp, fun b hb => ?_⟩
      rcases List.mem_cons.1 hb with rfl | hb
      · exact h0
      · exact g2 b hb
theorem colL_at : ∀ {a : List UInt8} (b : List UInt8), (∀ c ∈ a, c ≠ 58) → colL (a ++ [58] ++ b) = some (a, b)
  | [], b, _ => by simp [colL]
  | c :: r, b, h => by
    show colL (c :: (r ++ [58] ++ b)) = _
    unfold colL
    rw [if_neg (h c (by simp)), colL_at b (fun d hd => h d (by simp [hd]))]
    rfl
/-! ### All lines -/
end Go.Proofs.YtemmgfnepdgpbaaGreatDoor
