/-
  The contracts of Lower, the specification's and the program's: both answer the text with each capital made small.
-/
import Derived.Test.YtccnkmffadmfhaaGreatDoorRows
import Derived.Test.YtccnkmffadmfhaaGreatDoorPlain4
import Derived.WalkKit
import Derived.WalkSpells
namespace Go.Proofs.YtccnkmffadmfhaaGreatDoor
open Go.RowKit

theorem len_data (s : ByteArray) : s.data.toList.length = s.size := by simp

/-- The text with each capital made small. -/
def lowS (s : ByteArray) : ByteArray := ⟨(s.data.toList.map lowB).toArray⟩

theorem addr_at (B j : Nat) : (⟨B, 0, none⟩ : Addr).add j = ⟨B, j, none⟩ := by
  cases j with
  | zero => rfl
  | succ j => simp [Addr.add]
theorem iterPos_put (A : World) (a : Addr) (v : Value) (k : Nat) (h : k ≠ a.block) : (A.setCell a v).iterPos k = A.iterPos k := by
  unfold World.iterPos; rw [Below.heap_setCell _ _ _ _ h]
theorem back_low (s : ByteArray) (k : Nat) (hk : ¬ k < s.size) (wr : World) (B cap : Nat) (h : RowIs wr B (cur lowB s.data.toList k)) :
    (convert 22 9 (.slice (some ⟨B, 0, none⟩) s.size cap)).run Tryz.prog wr = .ok (.string (lowS s)) wr := by
  rw [cur_all lowB _ k (by rw [len_data]; exact hk)] at h
  have hl : (s.data.toList.map lowB).length = s.size := by rw [List.length_map, len_data]
  have := run_convert_bytes_back (P := Tryz.prog) wr 22 9 5 ⟨B, 0, none⟩ cap (s.data.toList.map lowB) Tryz.underlying22 Tryz.underlying5 Tryz.underlying9 (fun j hj => by
    rw [addr_at]
    exact (h j hj).1)
  rw [hl] at this
  exact this

set_option maxHeartbeats 400000 in
theorem specLow (s : ByteArray) (w : World) (hs : s.size ≤ maxLen) :
    Calls Tryz.prog 32 #[.string s] w fun e w' => e = .returned (.string (lowS s)) ∧ Below w.heap.size w w' := by
  unfold maxLen at hs
  obtain ⟨cap, C, hconv, hrow⟩ := bytes_laid (P := Tryz.prog) w 9 22 5 s Tryz.underlying9 Tryz.underlying22 Tryz.underlying5
  have HR : Hid (RowIs (w.alloc (.cells C 5 (C.size, C.size + 1))) w.heap.size s.data.toList) := hrow
  clear hrow
  go_enter Tryz.func32, Tryz.ntmps32
  go_wp2
  go_loopw [4] (fun i wr => ∃ k : Nat, k ≤ s.size ∧ i = .int .i64 k ∧ Below w.heap.size w wr ∧ w.heap.size < wr.heap.size ∧ Hid (RowIs wr w.heap.size (cur lowB s.data.toList k))) (fun i _ => s.size - (intOf i).toNat)
  case atStart => exact ⟨0, Nat.zero_le _, rfl, ((Below.refl _ w).alloc (Nat.le_refl _) _).drew, by simp, by rw [cur_zero]; exact HR.out⟩
  case round =>
    obtain ⟨k, hk, rfl, hb, hz, hr⟩ := hrel
    clear hconv
    by_cases hlt : k < s.size
    · have hlt' : k < s.data.toList.length := by rw [len_data]; exact hlt
      have hat := hr.out k (by rw [cur_length]; exact hlt')
      rw [cur_at _ _ _ hlt'] at hat
      have hcell : wr.cell? ⟨w.heap.size, k, none⟩ = some (.int .u8 (s[k].toNat : Int)) := hat.1
      have hfz := hat.2
      clear hat
      by_cases hc : 65 ≤ (s[k].toNat : Int) ∧ (s[k].toNat : Int) ≤ 90
      · have hlow := lowB_yes (c := s[k]) (by omega)
        have hnew := hr.out.put (k := k) (by rw [cur_length]; exact hlt') (lowB s[k])
        have e1 : (cur lowB s.data.toList k).set k (lowB s[k]) = cur lowB s.data.toList (k + 1) := cur_next lowB s.data.toList k hlt'
        rw [e1, hlow] at hnew
        have HN : Hid (RowIs (wr.setCell ⟨w.heap.size, k, none⟩ (.int .u8 ((s[k].toNat : Int) + 32))) w.heap.size (cur lowB s.data.toList (k + 1))) := hnew
        clear hnew hlow e1
        obtain ⟨hc1, hc2⟩ := hc
        go_wp2
        go_roundw
        case rel => exact ⟨k + 1, by omega, by go_num, hb.setCell (Nat.le_refl _) _, by simpa [World.setCell] using hz, HN⟩
        case measure => simp [intOf]; omega
      · have e1 : cur lowB s.data.toList (k + 1) = cur lowB s.data.toList k := cur_same lowB s.data.toList k hlt' (lowB_no (c := s[k]) (by omega))
        have HN : Hid (RowIs wr w.heap.size (cur lowB s.data.toList (k + 1))) := by rw [e1]; exact hr
        clear e1
        rcases (show (s[k].toNat : Int) < 65 ∨ (65 ≤ (s[k].toNat : Int) ∧ 90 < (s[k].toNat : Int)) from by omega) with g | ⟨g, g'⟩
        all_goals
          clear hc
          go_wp2
          go_roundw
          case rel => exact ⟨k + 1, by omega, by go_num, hb, hz, HN⟩
          case measure => simp [intOf]; omega
    · have hback := back_low s k hlt wr w.heap.size cap hr.out
      go_wp2
      go_ret
      exact ⟨rfl, hb⟩

theorem iter_put (W : World) (s : ByteArray) (p B k : Nat) (v : Value) (h : B < W.heap.size) : (W.iter s p).setCell ⟨B, k, none⟩ v = (W.setCell ⟨B, k, none⟩ v).iter s p :=
  World.setCell_alloc_past _ _ _ _ h
theorem iter_cell (W : World) (s : ByteArray) (p B k : Nat) (h : B < W.heap.size) : (W.iter s p).cell? ⟨B, k, none⟩ = W.cell? ⟨B, k, none⟩ :=
  (below_iter W s p).cell (p := ⟨B, k, none⟩) h
theorem iter_frozen (W : World) (s : ByteArray) (p B k : Nat) (h : B < W.heap.size) : (W.iter s p).frozen? ⟨B, k, none⟩ = W.frozen? ⟨B, k, none⟩ :=
  (below_iter W s p).frozen (p := ⟨B, k, none⟩) h

theorem low_world {A B : World} {n m : Int} {a : Addr} (h : n = m) (e : A.setCell a (.int .u8 m) = B) : A.setCell a (.int .u8 n) = B := by rw [h]; exact e

set_option maxHeartbeats 400000 in
theorem implLow (s : ByteArray) (w : World) (_hs : s.size ≤ maxLen) :
    Calls Tryz.prog 28 #[.string s] w fun e w' => e = .returned (.string (lowS s)) ∧ Below w.heap.size w w' := by
  obtain ⟨cap, C, hconv, hrow⟩ := bytes_laid (P := Tryz.prog) w 9 22 5 s Tryz.underlying9 Tryz.underlying22 Tryz.underlying5
  have HR : Hid (RowIs (w.alloc (.cells C 5 (C.size, C.size + 1))) w.heap.size s.data.toList) := hrow
  clear hrow
  go_enter Tryz.func28, Tryz.ntmps28
  go_wp2
  go_loopw [4, 5] (fun _ _ wr => ∃ (pos : Nat) (W : World), pos ≤ s.size ∧ wr = W.iter s pos ∧ W.heap.size = w.heap.size + 1 ∧ Below w.heap.size w W ∧ Hid (RowIs W w.heap.size (cur lowB s.data.toList pos))) (fun _ _ wr => s.size - wr.iterPos (w.heap.size + 1))
  case atStart => exact ⟨0, _, Nat.zero_le _, rfl, by simp, ((Below.refl _ w).alloc (Nat.le_refl _) _).drew, by rw [cur_zero]; exact HR.out⟩
  case round =>
    obtain ⟨pos, W, hpos, rfl, hW, hb, hr⟩ := hrel
    clear hconv
    by_cases hp : pos < s.size
    · have hlt' : pos < s.data.toList.length := by rw [len_data]; exact hp
      by_cases hasc : (s[pos]).toNat < 128
      · have hnx0 : ∀ ty, (Instr.next (.pointer (some ⟨W.heap.size, 0, none⟩)) true ty).run Tryz.prog (W.iter s pos) = _ := fun ty => run_next_ascii W s pos ty hp hasc
        rw [hW] at hnx0
        have hat := hr.out pos (by rw [cur_length]; exact hlt')
        rw [cur_at _ _ _ hlt'] at hat
        have hcell : (W.iter s (pos + 1)).cell? ⟨w.heap.size, pos, none⟩ = some (.int .u8 (s[pos].toNat : Int)) := (iter_cell W s (pos + 1) w.heap.size pos (by omega)).trans hat.1
        have hfz : (W.iter s (pos + 1)).frozen? ⟨w.heap.size, pos, none⟩ = false := (iter_frozen W s (pos + 1) w.heap.size pos (by omega)).trans hat.2
        clear hat
        by_cases hc : 65 ≤ (s[pos].toNat : Int) ∧ (s[pos].toNat : Int) ≤ 90
        · have hlow := lowB_yes (c := s[pos]) (by omega)
          have hnew := hr.out.put (k := pos) (by rw [cur_length]; exact hlt') (lowB s[pos])
          have e1 : (cur lowB s.data.toList pos).set pos (lowB s[pos]) = cur lowB s.data.toList (pos + 1) := cur_next lowB s.data.toList pos hlt'
          rw [e1, hlow] at hnew
          have HN : Hid (RowIs (W.setCell ⟨w.heap.size, pos, none⟩ (.int .u8 ((s[pos].toNat : Int) + 32))) w.heap.size (cur lowB s.data.toList (pos + 1))) := hnew
          have HS : Hid ((W.iter s (pos + 1)).setCell ⟨w.heap.size, pos, none⟩ (.int .u8 ((s[pos].toNat : Int) + 32)) = (W.setCell ⟨w.heap.size, pos, none⟩ (.int .u8 ((s[pos].toNat : Int) + 32))).iter s (pos + 1)) := iter_put W s (pos + 1) w.heap.size pos _ (by omega)
          clear hnew hlow e1
          obtain ⟨hc1, hc2⟩ := hc
          go_wp2
          go_roundw
          case rel => exact ⟨pos + 1, _, by omega, low_world (by omega) HS.out, by simpa [World.setCell] using hW, hb.setCell (Nat.le_refl _) _, HN⟩
          case measure => rw [iterPos_put _ _ _ _ (by simp), ← hW]; simp; omega
        · have e1 : cur lowB s.data.toList (pos + 1) = cur lowB s.data.toList pos := cur_same lowB s.data.toList pos hlt' (lowB_no (c := s[pos]) (by omega))
          have HN : Hid (RowIs W w.heap.size (cur lowB s.data.toList (pos + 1))) := by rw [e1]; exact hr
          clear e1
          rcases (show (s[pos].toNat : Int) < 65 ∨ (65 ≤ (s[pos].toNat : Int) ∧ 90 < (s[pos].toNat : Int)) from by omega) with g | ⟨g, g'⟩
          all_goals
            clear hc
            go_wp2
            go_roundw
            case rel => exact ⟨pos + 1, W, by omega, rfl, hW, hb, HN⟩
            case measure => rw [← hW]; simp; omega
      · have hnx0 : ∀ ty, (Instr.next (.pointer (some ⟨W.heap.size, 0, none⟩)) true ty).run Tryz.prog (W.iter s pos) = _ := fun ty => run_next_any W s pos ty hp
        rw [hW] at hnx0
        have hd := (decode_high s pos hp (by omega)).1
        have hw1 := (decode_high s pos hp (by omega)).2
        have hw2 := decode_within s pos hp (by omega)
        have e1 : cur lowB s.data.toList (pos + (Utf8.decode s pos).2) = cur lowB s.data.toList pos := cur_skip lowB s.data.toList pos _ (fun j hj => by
          obtain ⟨q1, q2⟩ := decode_skip s pos hp (by omega) j hj
          have q3 : 128 ≤ (s.data.toList[pos + j]'(by rw [len_data]; exact q1)).toNat := q2
          exact ⟨by rw [len_data]; exact q1, lowB_no (by omega)⟩)
        have HN : Hid (RowIs W w.heap.size (cur lowB s.data.toList (pos + (Utf8.decode s pos).2))) := by rw [e1]; exact hr
        clear e1
        generalize (Utf8.decode s pos).1 = r at hnx0 hd
        generalize (Utf8.decode s pos).2 = p2 at hnx0 HN hw1 hw2
        have hg : 90 < (r : Int) := by omega
        have hg' : 65 ≤ (r : Int) := by omega
        go_wp2
        go_roundw
        case rel => exact ⟨pos + p2, W, hw2, rfl, hW, hb, HN⟩
        case measure => rw [← hW]; simp; omega
    · have hnx0 : ∀ ty, (Instr.next (.pointer (some ⟨W.heap.size, 0, none⟩)) true ty).run Tryz.prog (W.iter s pos) = _ := fun ty => run_next_end W s pos ty hp
      rw [hW] at hnx0
      have hback := back_low s pos hp (W.iter s pos) w.heap.size cap (fun j hj => ⟨(iter_cell W s pos w.heap.size j (by omega)).trans (hr.out j hj).1, (iter_frozen W s pos w.heap.size j (by omega)).trans (hr.out j hj).2⟩)
      go_wp2
      go_ret
      exact ⟨rfl, hb.trans ((below_iter W s pos).mono (by omega))⟩
end Go.Proofs.YtccnkmffadmfhaaGreatDoor
