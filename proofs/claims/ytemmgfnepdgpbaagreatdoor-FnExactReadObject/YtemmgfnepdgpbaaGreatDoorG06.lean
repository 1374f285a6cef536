/-
  The contracts of Lower, the specification's and the program's: both answer the text with each capital made small.
  The contracts of the functions that tell a token.
  The contract of the specification's test of one letter of a token.
-/
import Derived.Test.YtemmgfnepdgpbaaGreatDoorRows
import Derived.Test.YtemmgfnepdgpbaaGreatDoorG03
import Derived.WalkKit
import Derived.WalkSpells
import Derived.Test.YtemmgfnepdgpbaaGreatDoorG01
import Derived.Lib.SlBytesConst
namespace Go.Proofs.YtemmgfnepdgpbaaGreatDoor
open Go.RowKit

theorem len_data (s : ByteArray) : s.data.toList.length = s.size := by simp

/-- The text with each capital made small. -/
def lowS (s : ByteArray) : ByteArray := ⟨(s.data.toList.map lowB).toArray⟩

theorem addr_at (B j : Nat) : (⟨B, 0, none⟩ : Addr).add j = ⟨B, j, none⟩ := by
  cases j with
  | zero => rfl
  | succ j => simp [Addr.add]
theorem iterPos_put (A : World) (a : Addr) (v : Value) (k : Nat) (h : k ≠ a.block) : (A.setCell a v).iterPos k = A.iterPos k := by
  unfold World.iterPos; rw [Below.heap_setCell _ _ _ _ h]
theorem back_low (s : ByteArray) (k : Nat) (hk : ¬ k < s.size) (wr : World) (B cap : Nat) (h : RowIs wr B (cur lowB s.data.toList k)) :
    (convert 22 9 (.slice (some ⟨B, 0, none⟩) s.size cap)).run Tryz.prog wr = .ok (.string (lowS s)) wr := by
  rw [cur_all lowB _ k (by rw [len_data]; exact hk)] at h
  have hl : (s.data.toList.map lowB).length = s.size := by rw [List.length_map, len_data]
  have := run_convert_bytes_back (P := Tryz.prog) wr 22 9 5 ⟨B, 0, none⟩ cap (s.data.toList.map lowB) Tryz.underlying22 Tryz.underlying5 Tryz.underlying9 (fun j hj => by
    rw [addr_at]
    exact (h j hj).1)
  rw [hl] at this
  exact this

set_option maxHeartbeats 400000 in
theorem specLow (s : ByteArray) (w : World) (hs : s.size ≤ maxLen) :
    Calls Tryz.prog 129 #[.string s] w fun e w' => e = .returned (.string (lowS s)) ∧ Below w.heap.size w w' := by
  unfold maxLen at hs
  obtain ⟨cap, C, hconv, hrow⟩ := bytes_laid (P := Tryz.prog) w 9 22 5 s Tryz.underlying9 Tryz.underlying22 Tryz.underlying5
  have HR : Hid (RowIs (w.alloc (.cells C 5 (C.size, C.size + 1))) w.heap.size s.data.toList) := hrow
  clear hrow
  go_enter Tryz.func129, Tryz.ntmps129
  go_wp2
  go_loopw [4] (fun i wr => ∃ k : Nat, k ≤ s.size ∧ i = .int .i64 k ∧ Below w.heap.size w wr ∧ w.heap.size < wr.heap.size ∧ Hid (RowIs wr w.heap.size (cur lowB s.data.toList k))) (fun i _ => s.size - (intOf i).toNat)
  case atStart => exact ⟨0, Nat.zero_le _, rfl, ((Below.refl _ w).alloc (Nat.le_refl _) _).drew, by simp, by rw [cur_zero]; exact HR.out⟩
  case round =>
    obtain ⟨k, hk, rfl, hb, hz, hr⟩ := hrel
    clear hconv
    by_cases hlt : k < s.size
    · have hlt' : k < s.data.toList.length := by rw [len_data]; exact hlt
      have hat := hr.out k (by rw [cur_length]; exact hlt')
      rw [cur_at _ _ _ hlt'] at hat
      have hcell : wr.cell? ⟨w.heap.size, k, none⟩ = some (.int .u8 (s[k].toNat : Int)) := hat.1
      have hfz := hat.2
      clear hat
      by_cases hc : 65 ≤ (s[k].toNat : Int) ∧ (s[k].toNat : Int) ≤ 90
      · have hlow := lowB_yes (c := s[k]) (by omega)
        have hnew := hr.out.put (k := k) (by rw [cur_length]; exact hlt') (lowB s[k])
        have e1 : (cur lowB s.data.toList k).set k (lowB s[k]) = cur lowB s.data.toList (k + 1) := cur_next lowB s.data.toList k hlt'
        rw [e1, hlow] at hnew
        have HN : Hid (RowIs (wr.setCell ⟨w.heap.size, k, none⟩ (.int .u8 ((s[k].toNat : Int) + 32))) w.heap.size (cur lowB s.data.toList (k + 1))) := hnew
        clear hnew hlow e1
        obtain ⟨hc1, hc2⟩ := hc
        go_wp2
        go_roundw
        case rel => exact ⟨k + 1, by omega, by go_num, hb.setCell (Nat.le_refl _) _, by simpa [World.setCell] using hz, HN⟩
        case measure => simp [intOf]; omega
      · have e1 : cur lowB s.data.toList (k + 1) = cur lowB s.data.toList k := cur_same lowB s.data.toList k hlt' (lowB_no (c := s[k]) (by omega))
        have HN : Hid (RowIs wr w.heap.size (cur lowB s.data.toList (k + 1))) := by rw [e1]; exact hr
        clear e1
        rcases (show (s[k].toNat : Int) < 65 ∨ (65 ≤ (s[k].toNat : Int) ∧ 90 < (s[k].toNat : Int)) from by omega) with g | ⟨g, g'⟩
        all_goals
          clear hc
          go_wp2
          go_roundw
          case rel => exact ⟨k + 1, by omega, by go_num, hb, hz, HN⟩
          case measure => simp [intOf]; omega
    · have hback := back_low s k hlt wr w.heap.size cap hr.out
      go_wp2
      go_ret
      exact ⟨rfl, hb⟩

theorem iter_put (W : World) (s : ByteArray) (p B k : Nat) (v : Value) (h : B < W.heap.size) : (W.iter s p).setCell ⟨B, k, none⟩ v = (W.setCell ⟨B, k, none⟩ v).iter s p :=
  World.setCell_alloc_past _ _ _ _ h
theorem iter_cell (W : World) (s : ByteArray) (p B k : Nat) (h : B < W.heap.size) : (W.iter s p).cell? ⟨B, k, none⟩ = W.cell? ⟨B, k, none⟩ :=
  (below_iter W s p).cell (p := ⟨B, k, none⟩) h
theorem iter_frozen (W : World) (s : ByteArray) (p B k : Nat) (h : B < W.heap.size) : (W.iter s p).frozen? ⟨B, k, none⟩ = W.frozen? ⟨B, k, none⟩ :=
  (below_iter W s p).frozen (p := ⟨B, k, none⟩) h

theorem low_world {A B : World} {n m : Int} {a : Addr} (h : n = m) (e : A.setCell a (.int .u8 m) = B) : A.setCell a (.int .u8 n) = B := by rw [h]; exact e

set_option maxHeartbeats 400000 in
theorem implLow (s : ByteArray) (w : World) (_hs : s.size ≤ maxLen) :
    Calls Tryz.prog 144 #[.string s] w fun e w' => e = .returned (.string (lowS s)) ∧ Below w.heap.size w w' := by
  obtain ⟨cap, C, hconv, hrow⟩ := bytes_laid (P := Tryz.prog) w 9 22 5 s Tryz.underlying9 Tryz.underlying22 Tryz.underlying5
  have HR : Hid (RowIs (w.alloc (.cells C 5 (C.size, C.size + 1))) w.heap.size s.data.toList) := hrow
  clear hrow
  go_enter Tryz.func144, Tryz.ntmps144
  go_wp2
  go_loopw [4, 5] (fun _ _ wr => ∃ (pos : Nat) (W : World), pos ≤ s.size ∧ wr = W.iter s pos ∧ W.heap.size = w.heap.size + 1 ∧ Below w.heap.size w W ∧ Hid (RowIs W w.heap.size (cur lowB s.data.toList pos))) (fun _ _ wr => s.size - wr.iterPos (w.heap.size + 1))
  case atStart => exact ⟨0, _, Nat.zero_le _, rfl, by simp, ((Below.refl _ w).alloc (Nat.le_refl _) _).drew, by rw [cur_zero]; exact HR.out⟩
  case round =>
    obtain ⟨pos, W, hpos, rfl, hW, hb, hr⟩ := hrel
    clear hconv
    by_cases hp : pos < s.size
    · have hlt' : pos < s.data.toList.length := by rw [len_data]; exact hp
      by_cases hasc : (s[pos]).toNat < 128
      · have hnx0 : ∀ ty, (Instr.next (.pointer (some ⟨W.heap.size, 0, none⟩)) true ty).run Tryz.prog (W.iter s pos) = _ := fun ty => run_next_ascii W s pos ty hp hasc
        rw [hW] at hnx0
        have hat := hr.out pos (by rw [cur_length]; exact hlt')
        rw [cur_at _ _ _ hlt'] at hat
        have hcell : (W.iter s (pos + 1)).cell? ⟨w.heap.size, pos, none⟩ = some (.int .u8 (s[pos].toNat : Int)) := (iter_cell W s (pos + 1) w.heap.size pos (by omega)).trans hat.1
        have hfz : (W.iter s (pos + 1)).frozen? ⟨w.heap.size, pos, none⟩ = false := (iter_frozen W s (pos + 1) w.heap.size pos (by omega)).trans hat.2
        clear hat
        by_cases hc : 65 ≤ (s[pos].toNat : Int) ∧ (s[pos].toNat : Int) ≤ 90
        · have hlow := lowB_yes (c := s[pos]) (by omega)
          have hnew := hr.out.put (k := pos) (by rw [cur_length]; exact hlt') (lowB s[pos])
          have e1 : (cur lowB s.data.toList pos).set pos (lowB s[pos]) = cur lowB s.data.toList (pos + 1) := cur_next lowB s.data.toList pos hlt'
          rw [e1, hlow] at hnew
          have HN : Hid (RowIs (W.setCell ⟨w.heap.size, pos, none⟩ (.int .u8 ((s[pos].toNat : Int) + 32))) w.heap.size (cur lowB s.data.toList (pos + 1))) := hnew
          have HS : Hid ((W.iter s (pos + 1)).setCell ⟨w.heap.size, pos, none⟩ (.int .u8 ((s[pos].toNat : Int) + 32)) = (W.setCell ⟨w.heap.size, pos, none⟩ (.int .u8 ((s[pos].toNat : Int) + 32))).iter s (pos + 1)) := iter_put W s (pos + 1) w.heap.size pos _ (by omega)
          clear hnew hlow e1
          obtain ⟨hc1, hc2⟩ := hc
          go_wp2
          go_roundw
          case rel => exact ⟨pos + 1, _, by omega, low_world (by omega) HS.out, by simpa [World.setCell] using hW, hb.setCell (Nat.le_refl _) _, HN⟩
          case measure => rw [iterPos_put _ _ _ _ (by simp), ← hW]; simp; omega
        · have e1 : cur lowB s.data.toList (pos + 1) = cur lowB s.data.toList pos := cur_same lowB s.data.toList pos hlt' (lowB_no (c := s[pos]) (by omega))
          have HN : Hid (RowIs W w.heap.size (cur lowB s.data.toList (pos + 1))) := by rw [e1]; exact hr
          clear e1
          rcases (show (s[pos].toNat : Int) < 65 ∨ (65 ≤ (s[pos].toNat : Int) ∧ 90 < (s[pos].toNat : Int)) from by omega) with g | ⟨g, g'⟩
          all_goals
            clear hc
            go_wp2
            go_roundw
            case rel => exact ⟨pos + 1, W, by omega, rfl, hW, hb, HN⟩
            case measure => rw [← hW]; simp; omega
      · have hnx0 : ∀ ty, (Instr.next (.pointer (some ⟨W.heap.size, 0, none⟩)) true ty).run Tryz.prog (W.iter s pos) = _ := fun ty => run_next_any W s pos ty hp
        rw [hW] at hnx0
        have hd := (decode_high s pos hp (by omega)).1
        have hw1 := (decode_high s pos hp (by omega)).2
        have hw2 := decode_within s pos hp (by omega)
        have e1 : cur lowB s.data.toList (pos + (Utf8.decode s pos).2) = cur lowB s.data.toList pos := cur_skip lowB s.data.toList pos _ (fun j hj => by
          obtain ⟨q1, q2⟩ := decode_skip s pos hp (by omega) j hj
          have q3 : 128 ≤ (s.data.toList[pos + j]'(by rw [len_data]; exact q1)).toNat := q2
          exact ⟨by rw [len_data]; exact q1, lowB_no (by omega)⟩)
        have HN : Hid (RowIs W w.heap.size (cur lowB s.data.toList (pos + (Utf8.decode s pos).2))) := by rw [e1]; exact hr
        clear e1
        generalize (Utf8.decode s pos).1 = r at hnx0 hd
        generalize (Utf8.decode s pos).2 = p2 at hnx0 HN hw1 hw2
        have hg : 90 < (r : Int) := by omega
        have hg' : 65 ≤ (r : Int) := by omega
        go_wp2
        go_roundw
        case rel => exact ⟨pos + p2, W, hw2, rfl, hW, hb, HN⟩
        case measure => rw [← hW]; simp; omega
    · have hnx0 : ∀ ty, (Instr.next (.pointer (some ⟨W.heap.size, 0, none⟩)) true ty).run Tryz.prog (W.iter s pos) = _ := fun ty => run_next_end W s pos ty hp
      rw [hW] at hnx0
      have hback := back_low s pos hp (W.iter s pos) w.heap.size cap (fun j hj => ⟨(iter_cell W s pos w.heap.size j (by omega)).trans (hr.out j hj).1, (iter_frozen W s pos w.heap.size j (by omega)).trans (hr.out j hj).2⟩)
      go_wp2
      go_ret
      exact ⟨rfl, hb.trans ((below_iter W s pos).mono (by omega))⟩
end Go.Proofs.YtemmgfnepdgpbaaGreatDoor
namespace Go.Proofs.YtemmgfnepdgpbaaGreatDoor
open Go.RowKit

set_option maxHeartbeats 1000000 in
set_option maxRecDepth 100000 in
theorem isTok (r : Int) (w : World) :
    Calls Tryz.prog 141 #[.int .i32 r] w fun e w' => e = .returned (.bool (tokN r)) ∧ w' = w := by
  go_enter Tryz.func141, Tryz.ntmps141
  go_wp2
  all_goals go_ret
  all_goals refine ⟨ret_bool ?_, rfl⟩
  all_goals try simp only [beq_iff_eq, beq_eq_false_iff_ne, ne_eq] at *
  all_goals first | (refine tokN_yes (r := r) ?_; omega) | (refine tokN_no (r := r) ?_; omega)
end Go.Proofs.YtemmgfnepdgpbaaGreatDoor
namespace Go.Proofs.YtemmgfnepdgpbaaGreatDoor
open Go.RowKit

/-- The marks that a token may have beside letters and digits. -/
def marks : List Int := [33, 35, 36, 37, 38, 39, 42, 43, 45, 46, 94, 95, 124, 126, 96]

theorem marksAt (w : World) (k : Nat) (hk : k < 15) : (w.alloc (.cells #[.int .u8 33, .int .u8 35, .int .u8 36, .int .u8 37, .int .u8 38, .int .u8 39, .int .u8 42, .int .u8 43, .int .u8 45, .int .u8 46, .int .u8 94, .int .u8 95, .int .u8 124, .int .u8 126, .int .u8 96] 5 (15, 16))).cell? ⟨w.heap.size, k, none⟩ = some (.int .u8 (marks.getD k 0)) := by
  rw [World.cell?_alloc_mark]
  rcases (show k = 0 ∨ k = 1 ∨ k = 2 ∨ k = 3 ∨ k = 4 ∨ k = 5 ∨ k = 6 ∨ k = 7 ∨ k = 8 ∨ k = 9 ∨ k = 10 ∨ k = 11 ∨ k = 12 ∨ k = 13 ∨ k = 14 from by omega) with rfl | rfl | rfl | rfl | rfl | rfl | rfl | rfl | rfl | rfl | rfl | rfl | rfl | rfl | rfl <;> rfl
theorem marks_yes (b : Int) (k : Nat) (hk : k < 15) (h : marks.getD k 0 = b) : true = tokN b := by
  rcases (show k = 0 ∨ k = 1 ∨ k = 2 ∨ k = 3 ∨ k = 4 ∨ k = 5 ∨ k = 6 ∨ k = 7 ∨ k = 8 ∨ k = 9 ∨ k = 10 ∨ k = 11 ∨ k = 12 ∨ k = 13 ∨ k = 14 from by omega) with rfl | rfl | rfl | rfl | rfl | rfl | rfl | rfl | rfl | rfl | rfl | rfl | rfl | rfl | rfl <;> (simp [marks] at h; subst h; rfl)
theorem marks_step {b v : Int} {k : Nat} (h : ∀ j, j < k → marks.getD j 0 ≠ b) (hv : marks.getD k 0 = v) (hb : ¬ v = b) : ∀ j, j < k + 1 → marks.getD j 0 ≠ b := by
  intro j hj
  by_cases e : j = k
  · subst e; rw [hv]; exact hb
  · exact h j (by omega)
theorem marks_no (b : Int) (h : ¬ ((97 ≤ b ∧ b ≤ 122) ∨ (65 ≤ b ∧ b ≤ 90) ∨ (48 ≤ b ∧ b ≤ 57))) (hm : ∀ j, j < 15 → marks.getD j 0 ≠ b) : false = tokN b := by
  have m0 := hm 0 (by decide); have m1 := hm 1 (by decide); have m2 := hm 2 (by decide); have m3 := hm 3 (by decide); have m4 := hm 4 (by decide)
  have m5 := hm 5 (by decide); have m6 := hm 6 (by decide); have m7 := hm 7 (by decide); have m8 := hm 8 (by decide); have m9 := hm 9 (by decide)
  have m10 := hm 10 (by decide); have m11 := hm 11 (by decide); have m12 := hm 12 (by decide); have m13 := hm 13 (by decide); have m14 := hm 14 (by decide)
  simp [marks] at m0 m1 m2 m3 m4 m5 m6 m7 m8 m9 m10 m11 m12 m13 m14
  exact tokN_no (by omega)

set_option maxHeartbeats 1000000 in
set_option maxRecDepth 100000 in
theorem l1Tok_hi (b : Int) (w : World) (h : 122 < b) :
    Calls Tryz.prog 127 #[.int .u8 b] w fun e w' => e = .returned (.bool (tokN b)) ∧ Below w.heap.size w w' := by
  have kc := fun (w : World) (C : Array Value) (n c : Nat) => Lib.run_convert_bytes_const (P := Tryz.prog) w 22 5 C n c Tryz.underlying22 Tryz.underlying5
  have d0 : decide (97 ≤ b) = true := by simp; omega
  have d1 : decide (b ≤ 122) = false := by simp; omega
  have d2 : decide (65 ≤ b) = true := by simp; omega
  have d3 : decide (b ≤ 90) = false := by simp; omega
  have d4 : decide (48 ≤ b) = true := by simp; omega
  have d5 : decide (b ≤ 57) = false := by simp; omega
  go_enter Tryz.func127, Tryz.ntmps127
  go_wp2
  go_loop [31] (fun i => ∃ k : Nat, k ≤ 15 ∧ i = .int .i64 k ∧ Hid (∀ j, j < k → marks.getD j 0 ≠ b)) (fun i => 15 - (intOf i).toNat)
  case atStart => exact ⟨0, Nat.zero_le _, rfl, fun j hj => absurd hj (Nat.not_lt_zero _)⟩
  case round =>
    obtain ⟨k, hk, rfl, hno⟩ := hrel
    by_cases hlt : k < 15
    · have hcell := marksAt w k hlt
      generalize hv : marks.getD k 0 = v at hcell
      have HV : Hid (marks.getD k 0 = v) := hv
      clear hv
      by_cases hvb : v = b
      · have hq : (v == b) = true := by simp [hvb]
        have HB : Hid (v = b) := hvb
        clear hvb
        go_wp2
        go_ret
        exact ⟨ret_bool (marks_yes b k hlt (HV.out.trans HB.out)), (Below.refl _ w).alloc (Nat.le_refl _) _⟩
      · have hq : (v == b) = false := by simp [hvb]
        go_wp2
        go_round
        case rel => exact ⟨k + 1, by omega, by go_num, marks_step hno.out HV.out hvb⟩
        case measure => simp [intOf]; omega
    · go_wp2
      go_ret
      exact ⟨ret_bool (marks_no b (by omega) (by have e : k = 15 := by omega
                                                 rw [← e]; exact hno.out)), (Below.refl _ w).alloc (Nat.le_refl _) _⟩
set_option maxHeartbeats 1000000 in
set_option maxRecDepth 100000 in
theorem l1Tok_mid2 (b : Int) (w : World) (h : 90 < b ∧ b < 97) :
    Calls Tryz.prog 127 #[.int .u8 b] w fun e w' => e = .returned (.bool (tokN b)) ∧ Below w.heap.size w w' := by
  have kc := fun (w : World) (C : Array Value) (n c : Nat) => Lib.run_convert_bytes_const (P := Tryz.prog) w 22 5 C n c Tryz.underlying22 Tryz.underlying5
  have d0 : decide (97 ≤ b) = false := by simp; omega
  have d1 : decide (65 ≤ b) = true := by simp; omega
  have d2 : decide (b ≤ 90) = false := by simp; omega
  have d3 : decide (48 ≤ b) = true := by simp; omega
  have d4 : decide (b ≤ 57) = false := by simp; omega
  go_enter Tryz.func127, Tryz.ntmps127
  go_wp2
  go_loop [31] (fun i => ∃ k : Nat, k ≤ 15 ∧ i = .int .i64 k ∧ Hid (∀ j, j < k → marks.getD j 0 ≠ b)) (fun i => 15 - (intOf i).toNat)
  case atStart => exact ⟨0, Nat.zero_le _, rfl, fun j hj => absurd hj (Nat.not_lt_zero _)⟩
  case round =>
    obtain ⟨k, hk, rfl, hno⟩ := hrel
    by_cases hlt : k < 15
    · have hcell := marksAt w k hlt
      generalize hv : marks.getD k 0 = v at hcell
      have HV : Hid (marks.getD k 0 = v) := hv
      clear hv
      by_cases hvb : v = b
      · have hq : (v == b) = true := by simp [hvb]
        have HB : Hid (v = b) := hvb
        clear hvb
        go_wp2
        go_ret
        exact ⟨ret_bool (marks_yes b k hlt (HV.out.trans HB.out)), (Below.refl _ w).alloc (Nat.le_refl _) _⟩
      · have hq : (v == b) = false := by simp [hvb]
        go_wp2
        go_round
        case rel => exact ⟨k + 1, by omega, by go_num, marks_step hno.out HV.out hvb⟩
        case measure => simp [intOf]; omega
    · go_wp2
      go_ret
      exact ⟨ret_bool (marks_no b (by omega) (by have e : k = 15 := by omega
                                                 rw [← e]; exact hno.out)), (Below.refl _ w).alloc (Nat.le_refl _) _⟩
set_option maxHeartbeats 1000000 in
set_option maxRecDepth 100000 in
theorem l1Tok_mid1 (b : Int) (w : World) (h : 57 < b ∧ b < 65) :
    Calls Tryz.prog 127 #[.int .u8 b] w fun e w' => e = .returned (.bool (tokN b)) ∧ Below w.heap.size w w' := by
  have kc := fun (w : World) (C : Array Value) (n c : Nat) => Lib.run_convert_bytes_const (P := Tryz.prog) w 22 5 C n c Tryz.underlying22 Tryz.underlying5
  have d0 : decide (97 ≤ b) = false := by simp; omega
  have d1 : decide (65 ≤ b) = false := by simp; omega
  have d2 : decide (48 ≤ b) = true := by simp; omega
  have d3 : decide (b ≤ 57) = false := by simp; omega
  go_enter Tryz.func127, Tryz.ntmps127
  go_wp2
  go_loop [31] (fun i => ∃ k : Nat, k ≤ 15 ∧ i = .int .i64 k ∧ Hid (∀ j, j < k → marks.getD j 0 ≠ b)) (fun i => 15 - (intOf i).toNat)
  case atStart => exact ⟨0, Nat.zero_le _, rfl, fun j hj => absurd hj (Nat.not_lt_zero _)⟩
  case round =>
    obtain ⟨k, hk, rfl, hno⟩ := hrel
    by_cases hlt : k < 15
    · have hcell := marksAt w k hlt
      generalize hv : marks.getD k 0 = v at hcell
      have HV : Hid (marks.getD k 0 = v) := hv
      clear hv
      by_cases hvb : v = b
      · have hq : (v == b) = true := by simp [hvb]
        have HB : Hid (v = b) := hvb
        clear hvb
        go_wp2
        go_ret
        exact ⟨ret_bool (marks_yes b k hlt (HV.out.trans HB.out)), (Below.refl _ w).alloc (Nat.le_refl _) _⟩
      · have hq : (v == b) = false := by simp [hvb]
        go_wp2
        go_round
        case rel => exact ⟨k + 1, by omega, by go_num, marks_step hno.out HV.out hvb⟩
        case measure => simp [intOf]; omega
    · go_wp2
      go_ret
      exact ⟨ret_bool (marks_no b (by omega) (by have e : k = 15 := by omega
                                                 rw [← e]; exact hno.out)), (Below.refl _ w).alloc (Nat.le_refl _) _⟩
set_option maxHeartbeats 1000000 in
set_option maxRecDepth 100000 in
theorem l1Tok_lo (b : Int) (w : World) (h : b < 48) :
    Calls Tryz.prog 127 #[.int .u8 b] w fun e w' => e = .returned (.bool (tokN b)) ∧ Below w.heap.size w w' := by
  have kc := fun (w : World) (C : Array Value) (n c : Nat) => Lib.run_convert_bytes_const (P := Tryz.prog) w 22 5 C n c Tryz.underlying22 Tryz.underlying5
  have d0 : decide (97 ≤ b) = false := by simp; omega
  have d1 : decide (65 ≤ b) = false := by simp; omega
  have d2 : decide (48 ≤ b) = false := by simp; omega
  go_enter Tryz.func127, Tryz.ntmps127
  go_wp2
  go_loop [31] (fun i => ∃ k : Nat, k ≤ 15 ∧ i = .int .i64 k ∧ Hid (∀ j, j < k → marks.getD j 0 ≠ b)) (fun i => 15 - (intOf i).toNat)
  case atStart => exact ⟨0, Nat.zero_le _, rfl, fun j hj => absurd hj (Nat.not_lt_zero _)⟩
  case round =>
    obtain ⟨k, hk, rfl, hno⟩ := hrel
    by_cases hlt : k < 15
    · have hcell := marksAt w k hlt
      generalize hv : marks.getD k 0 = v at hcell
      have HV : Hid (marks.getD k 0 = v) := hv
      clear hv
      by_cases hvb : v = b
      · have hq : (v == b) = true := by simp [hvb]
        have HB : Hid (v = b) := hvb
        clear hvb
        go_wp2
        go_ret
        exact ⟨ret_bool (marks_yes b k hlt (HV.out.trans HB.out)), (Below.refl _ w).alloc (Nat.le_refl _) _⟩
      · have hq : (v == b) = false := by simp [hvb]
        go_wp2
        go_round
        case rel => exact ⟨k + 1, by omega, by go_num, marks_step hno.out HV.out hvb⟩
        case measure => simp [intOf]; omega
    · go_wp2
      go_ret
      exact ⟨ret_bool (marks_no b (by omega) (by have e : k = 15 := by omega
                                                 rw [← e]; exact hno.out)), (Below.refl _ w).alloc (Nat.le_refl _) _⟩

theorem l1Tok_alnum_a (b : Int) (w : World) (h : 97 ≤ b ∧ b ≤ 122) :
    Calls Tryz.prog 127 #[.int .u8 b] w fun e w' => e = .returned (.bool (tokN b)) ∧ Below w.heap.size w w' := by
  obtain ⟨h1, h2⟩ := h
  go_enter Tryz.func127, Tryz.ntmps127
  go_wp2
  go_ret
  exact ⟨ret_bool (tokN_yes (by omega)), Below.refl _ _⟩
theorem l1Tok_alnum_b (b : Int) (w : World) (h : 65 ≤ b ∧ b ≤ 90) :
    Calls Tryz.prog 127 #[.int .u8 b] w fun e w' => e = .returned (.bool (tokN b)) ∧ Below w.heap.size w w' := by
  obtain ⟨h1, h2⟩ := h
  go_enter Tryz.func127, Tryz.ntmps127
  go_wp2
  go_ret
  exact ⟨ret_bool (tokN_yes (by omega)), Below.refl _ _⟩
theorem l1Tok_alnum_c (b : Int) (w : World) (h : 48 ≤ b ∧ b ≤ 57) :
    Calls Tryz.prog 127 #[.int .u8 b] w fun e w' => e = .returned (.bool (tokN b)) ∧ Below w.heap.size w w' := by
  obtain ⟨h1, h2⟩ := h
  go_enter Tryz.func127, Tryz.ntmps127
  go_wp2
  go_ret
  exact ⟨ret_bool (tokN_yes (by omega)), Below.refl _ _⟩
theorem l1Tok (b : Int) (w : World) :
    Calls Tryz.prog 127 #[.int .u8 b] w fun e w' => e = .returned (.bool (tokN b)) ∧ Below w.heap.size w w' := by
  by_cases h1 : 122 < b
  · exact l1Tok_hi b w h1
  by_cases h2 : 97 ≤ b
  · exact l1Tok_alnum_a b w (by omega)
  by_cases h3 : 90 < b
  · exact l1Tok_mid2 b w (by omega)
  by_cases h4 : 65 ≤ b
  · exact l1Tok_alnum_b b w (by omega)
  by_cases h5 : 57 < b
  · exact l1Tok_mid1 b w (by omega)
  by_cases h6 : 48 ≤ b
  · exact l1Tok_alnum_c b w (by omega)
  · exact l1Tok_lo b w (by omega)
end Go.Proofs.YtemmgfnepdgpbaaGreatDoor
