/-
  The contracts of VisibleOk, the specification's and the program's: both answer whether the text is visible.
-/
import Derived.Test.YtccnkmffadmfhaaGreatDoorRows
import Derived.Test.YtccnkmffadmfhaaGreatDoorPlain2
import Derived.WalkKit
import Derived.WalkSpells
namespace Go.Proofs.YtccnkmffadmfhaaGreatDoor
open Go.RowKit

/-- The number of a visible byte. -/
def visN (r : Int) : Bool := decide ((32 ≤ r ∧ r ≤ 126) ∨ r = 9)
theorem visN_yes {r : Int} (h : (32 ≤ r ∧ r ≤ 126) ∨ r = 9) : visN r = true := decide_eq_true h
theorem visN_no {r : Int} (h : ¬ ((32 ≤ r ∧ r ≤ 126) ∨ r = 9)) : visN r = false := decide_eq_false h
/-- A visible text. -/
def visB (s : ByteArray) : Bool := decide (s.size ≤ 400) && allB visN s.data.toList
theorem visB_out {s : ByteArray} (h : 400 < s.size) : false = visB s := by
  have e : decide (s.size ≤ 400) = false := decide_eq_false (by omega)
  unfold visB; rw [e]; rfl
theorem visB_in {s : ByteArray} {b : Bool} (h2 : s.size ≤ 400) (h : b = allB visN s.data.toList) : b = visB s := by
  have e : decide (s.size ≤ 400) = true := decide_eq_true h2
  unfold visB; rw [e, h]; rfl
theorem bne_yes {a b : Int} (h : a ≠ b) : (a != b) = true := by simp [h]
theorem bne_no {a b : Int} (h : a = b) : (a != b) = false := by simp [h]

theorem specVis_out (s : ByteArray) (w : World) (hs : s.size ≤ maxLen) (h : 400 < s.size) :
    Calls Tryz.prog 55 #[.string s] w fun e w' => e = .returned (.bool (visB s)) ∧ w' = w := by
  unfold maxLen at hs
  have ht := visB_out h
  have HT : Hid (false = visB s) := ht
  clear ht
  go_enter Tryz.func55, Tryz.ntmps55
  go_wp2
  go_ret
  exact ⟨ret_bool HT.out, rfl⟩

set_option maxHeartbeats 400000 in
theorem specVis_in (s : ByteArray) (w : World) (h2 : s.size ≤ 400) :
    Calls Tryz.prog 55 #[.string s] w fun e w' => e = .returned (.bool (visB s)) ∧ w' = w := by
  have d2 : decide (400 < (s.size : Int)) = false := by simp; omega
  go_enter Tryz.func55, Tryz.ntmps55
  go_wp2
  go_loop [3] (fun i => ∃ k : Nat, k ≤ s.size ∧ i = .int .i64 k ∧ Hid (allB visN (s.data.toList.take k) = true)) (fun i => s.size - (intOf i).toNat)
  case atStart => exact ⟨0, Nat.zero_le _, rfl, allB_nil _ _⟩
  case round =>
    obtain ⟨k, hk, rfl, ha⟩ := hrel
    by_cases hlt : k < s.size
    · by_cases h9 : (s[k].toNat : Int) = 9
      · have hv := allB_step hlt ha.out (visN_yes (Or.inr h9))
        have HV : Hid (allB visN (s.data.toList.take (k + 1)) = true) := hv
        have hq := bne_no h9
        have hl : (s[k].toNat : Int) < 32 := by omega
        clear hv h9
        go_wp2
        go_round
        case rel => exact ⟨k + 1, by omega, by go_num, HV⟩
        case measure => simp [intOf]; omega
      · have hq := bne_yes h9
        by_cases hl : (s[k].toNat : Int) < 32
        · have hf := allB_not (p := visN) hlt (visN_no (by omega))
          have HF : Hid (false = allB visN s.data.toList) := hf
          clear hf h9
          go_wp2
          go_ret
          exact ⟨ret_bool (visB_in h2 HF.out), rfl⟩
        · by_cases hg : 126 < (s[k].toNat : Int)
          · have hf := allB_not (p := visN) hlt (visN_no (by omega))
            have HF : Hid (false = allB visN s.data.toList) := hf
            clear hf h9
            go_wp2
            go_ret
            exact ⟨ret_bool (visB_in h2 HF.out), rfl⟩
          · have hv := allB_step hlt ha.out (visN_yes (by omega))
            have HV : Hid (allB visN (s.data.toList.take (k + 1)) = true) := hv
            clear hv h9
            go_wp2
            go_round
            case rel => exact ⟨k + 1, by omega, by go_num, HV⟩
            case measure => simp [intOf]; omega
    · go_wp2
      go_ret
      exact ⟨ret_bool (visB_in h2 (allB_end hlt ha.out)), rfl⟩

theorem specVis (s : ByteArray) (w : World) (hs : s.size ≤ maxLen) :
    Calls Tryz.prog 55 #[.string s] w fun e w' => e = .returned (.bool (visB s)) ∧ w' = w := by
  by_cases h : 400 < s.size
  · exact specVis_out s w hs h
  · exact specVis_in s w (by omega)

theorem implVis_out (s : ByteArray) (w : World) (hs : s.size ≤ maxLen) (h : 400 < s.size) :
    Calls Tryz.prog 52 #[.string s] w fun e w' => e = .returned (.bool (visB s)) ∧ Below w.heap.size w w' := by
  unfold maxLen at hs
  have ht := visB_out h
  have HT : Hid (false = visB s) := ht
  clear ht
  go_enter Tryz.func52, Tryz.ntmps52
  go_wp2
  go_ret
  exact ⟨ret_bool HT.out, Below.refl _ _⟩

set_option maxHeartbeats 400000 in
theorem implVis_in (s : ByteArray) (w : World) (h2 : s.size ≤ 400) :
    Calls Tryz.prog 52 #[.string s] w fun e w' => e = .returned (.bool (visB s)) ∧ Below w.heap.size w w' := by
  have d2 : decide (400 < (s.size : Int)) = false := by simp; omega
  go_enter Tryz.func52, Tryz.ntmps52
  go_wp2
  go_loopw [4] (fun _ wr => ∃ pos : Nat, pos ≤ s.size ∧ wr = w.iter s pos ∧ Hid (allB visN (s.data.toList.take pos) = true)) (fun _ wr => s.size - wr.iterPos w.heap.size)
  case atStart => exact ⟨0, Nat.zero_le _, rfl, allB_nil _ _⟩
  case round =>
    obtain ⟨pos, hpos, rfl, ha⟩ := hrel
    by_cases hp : pos < s.size
    · by_cases hasc : (s[pos]).toNat < 128
      · have hnx : ∀ ty, (Instr.next (.pointer (some ⟨w.heap.size, 0, none⟩)) true ty).run Tryz.prog (w.iter s pos) = _ := fun ty => run_next_ascii w s pos ty hp hasc
        by_cases h9 : (s[pos].toNat : Int) = 9
        · have hv := allB_step hp ha.out (visN_yes (Or.inr h9))
          have HV : Hid (allB visN (s.data.toList.take (pos + 1)) = true) := hv
          have hq := bne_no h9
          clear hv h9
          go_wp2
          go_roundw
          case rel => exact ⟨pos + 1, by omega, rfl, HV⟩
          case measure => simp; omega
        · have hq := bne_yes h9
          by_cases hl : (s[pos].toNat : Int) < 32
          · have hf := allB_not (p := visN) hp (visN_no (by omega))
            have HF : Hid (false = allB visN s.data.toList) := hf
            clear hf h9
            go_wp2
            go_ret
            exact ⟨ret_bool (visB_in h2 HF.out), below_iter _ _ _⟩
          · by_cases hg : 126 < (s[pos].toNat : Int)
            · have hf := allB_not (p := visN) hp (visN_no (by omega))
              have HF : Hid (false = allB visN s.data.toList) := hf
              clear hf h9
              go_wp2
              go_ret
              exact ⟨ret_bool (visB_in h2 HF.out), below_iter _ _ _⟩
            · have hv := allB_step hp ha.out (visN_yes (by omega))
              have HV : Hid (allB visN (s.data.toList.take (pos + 1)) = true) := hv
              clear hv h9
              go_wp2
              go_roundw
              case rel => exact ⟨pos + 1, by omega, rfl, HV⟩
              case measure => simp; omega
      · have hnx : ∀ ty, (Instr.next (.pointer (some ⟨w.heap.size, 0, none⟩)) true ty).run Tryz.prog (w.iter s pos) = _ := fun ty => run_next_any w s pos ty hp
        have hd := (decode_high s pos hp (by omega)).1
        have hf := allB_not (p := visN) hp (visN_no (by omega))
        have HF : Hid (false = allB visN s.data.toList) := hf
        clear hf
        generalize (Utf8.decode s pos).1 = r at hnx hd
        generalize (Utf8.decode s pos).2 = p2 at hnx
        have hq : ((r : Int) != 9) = true := bne_yes (by omega)
        have hl : ¬ (r : Int) < 32 := by omega
        have hg : 126 < (r : Int) := by omega
        go_wp2
        go_ret
        exact ⟨ret_bool (visB_in h2 HF.out), below_iter _ _ _⟩
    · have hnx : ∀ ty, (Instr.next (.pointer (some ⟨w.heap.size, 0, none⟩)) true ty).run Tryz.prog (w.iter s pos) = _ := fun ty => run_next_end w s pos ty hp
      go_wp2
      go_ret
      exact ⟨ret_bool (visB_in h2 (allB_end hp ha.out)), below_iter _ _ _⟩

theorem implVis (s : ByteArray) (w : World) (hs : s.size ≤ maxLen) :
    Calls Tryz.prog 52 #[.string s] w fun e w' => e = .returned (.bool (visB s)) ∧ Below w.heap.size w w' := by
  by_cases h : 400 < s.size
  · exact implVis_out s w hs h
  · exact implVis_in s w (by omega)
end Go.Proofs.YtccnkmffadmfhaaGreatDoor
