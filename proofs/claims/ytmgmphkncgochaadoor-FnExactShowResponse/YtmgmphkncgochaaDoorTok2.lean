/-
  The contracts of TokenOk, the specification's and the program's: both answer whether the text is a token.
-/
import Derived.Test.YtmgmphkncgochaaDoorTok1
import Derived.Test.YtmgmphkncgochaaDoorPlain2
import Derived.Laws.RangeAny
namespace Go.Proofs.YtmgmphkncgochaaDoor
open Go.RowKit

theorem specTok_out (s : ByteArray) (w : World) (hs : s.size ≤ maxLen) (h : s.size < 1 ∨ 64 < s.size) :
    Calls Tryd.prog 52 #[.string s] w fun e w' => e = .returned (.bool (tokB s)) ∧ Below w.heap.size w w' := by
  unfold maxLen at hs
  have ht := tokB_out h
  have HT : Hid (false = tokB s) := ht
  clear ht
  rcases h with h | h
  · go_enter Tryd.func52, Tryd.ntmps52
    go_wp2
    go_ret
    exact ⟨ret_bool HT.out, Below.refl _ _⟩
  · have h' : ¬ s.size < 1 := by omega
    go_enter Tryd.func52, Tryd.ntmps52
    go_wp2
    go_ret
    exact ⟨ret_bool HT.out, Below.refl _ _⟩

set_option maxHeartbeats 400000 in
theorem specTok_in (s : ByteArray) (w : World) (h1 : 1 ≤ s.size) (h2 : s.size ≤ 64) :
    Calls Tryd.prog 52 #[.string s] w fun e w' => e = .returned (.bool (tokB s)) ∧ Below w.heap.size w w' := by
  have d1 : decide ((s.size : Int) < 1) = false := by simp; omega
  have d2 : decide (64 < (s.size : Int)) = false := by simp; omega
  go_enter Tryd.func52, Tryd.ntmps52
  go_wp2
  go_loopw [3] (fun i wr => ∃ k : Nat, k ≤ s.size ∧ i = .int .i64 k ∧ Below w.heap.size w wr ∧ Hid (allB tokN (s.data.toList.take k) = true)) (fun i _ => s.size - (intOf i).toNat)
  case atStart => exact ⟨0, Nat.zero_le _, rfl, Below.refl _ _, allB_nil _ _⟩
  case round =>
    obtain ⟨k, hk, rfl, hb, ha⟩ := hrel
    by_cases hlt : k < s.size
    · by_cases ht : tokN (s[k].toNat : Int) = true
      · go_wp2_with (go_at_call 63; refine (l1Tok _ _).mono ?_; rintro e w' ⟨rfl, hb'⟩)
        go_roundw
        case rel => exact ⟨k + 1, by omega, by go_num, hb.trans (hb'.mono hb.size), allB_step hlt ha.out ht⟩
        case measure => simp [intOf]; omega
      · have ht' : tokN (s[k].toNat : Int) = false := by simpa using ht
        clear ht
        go_wp2_with (go_at_call 63; refine (l1Tok _ _).mono ?_; rintro e w' ⟨rfl, hb'⟩)
        go_ret
        exact ⟨ret_bool (tokB_in h1 h2 (allB_not hlt ht')), hb.trans (hb'.mono hb.size)⟩
    · go_wp2
      go_ret
      exact ⟨ret_bool (tokB_in h1 h2 (allB_end hlt ha.out)), hb⟩

theorem specTok (s : ByteArray) (w : World) (hs : s.size ≤ maxLen) :
    Calls Tryd.prog 52 #[.string s] w fun e w' => e = .returned (.bool (tokB s)) ∧ Below w.heap.size w w' := by
  by_cases h : s.size < 1 ∨ 64 < s.size
  · exact specTok_out s w hs h
  · exact specTok_in s w (by omega) (by omega)

theorem implTok_out (s : ByteArray) (w : World) (hs : s.size ≤ maxLen) (h : s.size < 1 ∨ 64 < s.size) :
    Calls Tryd.prog 53 #[.string s] w fun e w' => e = .returned (.bool (tokB s)) ∧ Below w.heap.size w w' := by
  unfold maxLen at hs
  have ht := tokB_out h
  have HT : Hid (false = tokB s) := ht
  clear ht
  rcases h with h | h
  · go_enter Tryd.func53, Tryd.ntmps53
    go_wp2
    go_ret
    exact ⟨ret_bool HT.out, Below.refl _ _⟩
  · have h' : ¬ s.size < 1 := by omega
    go_enter Tryd.func53, Tryd.ntmps53
    go_wp2
    go_ret
    exact ⟨ret_bool HT.out, Below.refl _ _⟩

set_option maxHeartbeats 400000 in
theorem implTok_in (s : ByteArray) (w : World) (h1 : 1 ≤ s.size) (h2 : s.size ≤ 64) :
    Calls Tryd.prog 53 #[.string s] w fun e w' => e = .returned (.bool (tokB s)) ∧ Below w.heap.size w w' := by
  have d1 : decide ((s.size : Int) < 1) = false := by simp; omega
  have d2 : decide (64 < (s.size : Int)) = false := by simp; omega
  go_enter Tryd.func53, Tryd.ntmps53
  go_wp2
  go_loopw [4] (fun _ wr => ∃ pos : Nat, pos ≤ s.size ∧ wr = w.iter s pos ∧ Hid (allB tokN (s.data.toList.take pos) = true)) (fun _ wr => s.size - wr.iterPos w.heap.size)
  case atStart => exact ⟨0, Nat.zero_le _, rfl, allB_nil _ _⟩
  case round =>
    obtain ⟨pos, hpos, rfl, ha⟩ := hrel
    by_cases hp : pos < s.size
    · by_cases hasc : (s[pos]).toNat < 128
      · have hnx : ∀ ty, (Instr.next (.pointer (some ⟨w.heap.size, 0, none⟩)) true ty).run Tryd.prog (w.iter s pos) = _ := fun ty => run_next_ascii w s pos ty hp hasc
        by_cases ht : tokN (s[pos].toNat : Int) = true
        · go_wp2_with (go_at_call 64; refine (isTok _ _).mono ?_; rintro e w' ⟨rfl, rfl⟩)
          go_roundw
          case rel => exact ⟨pos + 1, by omega, rfl, allB_step hp ha.out ht⟩
          case measure => simp; omega
        · have ht' : tokN (s[pos].toNat : Int) = false := by simpa using ht
          clear ht
          go_wp2_with (go_at_call 64; refine (isTok _ _).mono ?_; rintro e w' ⟨rfl, rfl⟩)
          go_ret
          exact ⟨ret_bool (tokB_in h1 h2 (allB_not hp ht')), below_iter _ _ _⟩
      · have hnx : ∀ ty, (Instr.next (.pointer (some ⟨w.heap.size, 0, none⟩)) true ty).run Tryd.prog (w.iter s pos) = _ := fun ty => run_next_any w s pos ty hp
        have hd := (decode_high s pos hp (by omega)).1
        have hf : false = allB tokN s.data.toList := allB_not hp (tokN_high (by omega))
        have HF : Hid (false = allB tokN s.data.toList) := hf
        clear hf
        generalize (Utf8.decode s pos).1 = r at hnx hd
        generalize (Utf8.decode s pos).2 = p2 at hnx
        have ht : tokN (r : Int) = false := tokN_high (by omega)
        go_wp2_with (go_at_call 64; refine (isTok _ _).mono ?_; rintro e w' ⟨rfl, rfl⟩)
        go_ret
        exact ⟨ret_bool (tokB_in h1 h2 HF.out), below_iter _ _ _⟩
    · have hnx : ∀ ty, (Instr.next (.pointer (some ⟨w.heap.size, 0, none⟩)) true ty).run Tryd.prog (w.iter s pos) = _ := fun ty => run_next_end w s pos ty hp
      go_wp2
      go_ret
      exact ⟨ret_bool (tokB_in h1 h2 (allB_end hp ha.out)), below_iter _ _ _⟩

theorem implTok (s : ByteArray) (w : World) (hs : s.size ≤ maxLen) :
    Calls Tryd.prog 53 #[.string s] w fun e w' => e = .returned (.bool (tokB s)) ∧ Below w.heap.size w w' := by
  by_cases h : s.size < 1 ∨ 64 < s.size
  · exact implTok_out s w hs h
  · exact implTok_in s w (by omega) (by omega)
end Go.Proofs.YtmgmphkncgochaaDoor
