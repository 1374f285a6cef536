/-
  The program's TagOk, ShowTag, Strong and Alike by their contracts.
-/
import Derived.Test.YteeclocldjmgaaaDoorTagB
import Derived.Test.YteeclocldjmgaaaDoorPlain4
namespace Go.Proofs.YteeclocldjmgaaaDoor
open Go.RowKit
set_option linter.unusedVariables false

set_option maxHeartbeats 400000 in
theorem implTag (x : Tg) (w : World) (hs : x.t.size ≤ maxLen) :
    Calls Tryd.prog 10 #[tgV x] w fun e w' => e = .returned (.bool (tagB x.t)) ∧ Below w.heap.size w w' := by
  obtain ⟨wk, s⟩ := x
  unfold tgV
  simp only at hs ⊢
  unfold maxLen at hs
  have B0 : Hid (Below w.heap.size w (w.alloc (.cells #[.bool wk, .string s] 25))) := (Below.refl _ w).alloc (Nat.le_refl _) _
  by_cases h2 : 40 < s.size
  · have HF : Hid (false = tagB s) := tagB_out h2
    have d2 : decide (40 < (s.size : Int)) = true := by simp; omega
    go_enter Tryd.func10, Tryd.ntmps10
    go_wp2
    go_ret
    exact ⟨ret_bool HF.out, B0.out⟩
  · have d2 : decide (40 < (s.size : Int)) = false := by simp; omega
    have BI : Hid (∀ pos, Below w.heap.size w ((w.alloc (.cells #[.bool wk, .string s] 25)).iter s pos)) := fun pos => past7 B0.out (below_iter _ _ _)
    go_enter Tryd.func10, Tryd.ntmps10
    go_wp2
    have hW : (w.alloc (.cells #[.bool wk, .string s] 25)).heap.size = w.heap.size + 1 := by simp
    generalize (w.alloc (.cells #[.bool wk, .string s] 25)) = W at hW BI ⊢
    go_loopw [4] (fun _ wr => ∃ pos : Nat, pos ≤ s.size ∧ wr = W.iter s pos ∧ Hid (allB tagN (s.data.toList.take pos) = true)) (fun _ wr => s.size - wr.iterPos (w.heap.size + 1))
    case atStart => exact ⟨0, Nat.zero_le _, rfl, allB_nil _ _⟩
    case round =>
      obtain ⟨pos, hpos, rfl, ha⟩ := hrel
      by_cases hp : pos < s.size
      · by_cases hasc : (s[pos]).toNat < 128
        · have hnx : ∀ ty, (Instr.next (.pointer (some ⟨W.heap.size, 0, none⟩)) true ty).run Tryd.prog (W.iter s pos) = _ := fun ty => run_next_ascii W s pos ty hp hasc
          rw [hW] at hnx
          by_cases hl : (s[pos].toNat : Int) < 33
          · have HF : Hid (false = tagB s) := tagB_in (by omega) (allB_not hp (tagN_no (by omega)))
            go_wp2
            go_ret
            exact ⟨ret_bool HF.out, BI.out _⟩
          · by_cases hg : 126 < (s[pos].toNat : Int)
            · have HF : Hid (false = tagB s) := tagB_in (by omega) (allB_not hp (tagN_no (by omega)))
              go_wp2
              go_ret
              exact ⟨ret_bool HF.out, BI.out _⟩
            · by_cases hq : (s[pos].toNat : Int) = 34
              · have HF : Hid (false = tagB s) := tagB_in (by omega) (allB_not hp (tagN_no (by omega)))
                have dq : ((s[pos].toNat : Int) == 34) = true := by rw [hq]; rfl
                clear hq
                go_wp2
                go_ret
                exact ⟨ret_bool HF.out, BI.out _⟩
              · have HV : Hid (allB tagN (s.data.toList.take (pos + 1)) = true) := allB_step hp ha.out (tagN_yes (by omega))
                have dq : ((s[pos].toNat : Int) == 34) = false := by simpa using hq
                go_wp2
                go_roundw
                case rel => exact ⟨pos + 1, by omega, rfl, HV⟩
                case measure => rw [← hW]; simp; omega
        · have hnx : ∀ ty, (Instr.next (.pointer (some ⟨W.heap.size, 0, none⟩)) true ty).run Tryd.prog (W.iter s pos) = _ := fun ty => run_next_any W s pos ty hp
          rw [hW] at hnx
          have hd := (decode_high s pos hp (by omega)).1
          have HF : Hid (false = tagB s) := tagB_in (by omega) (allB_not hp (tagN_no (by omega)))
          generalize (Utf8.decode s pos).1 = r at hnx hd
          generalize (Utf8.decode s pos).2 = p2 at hnx
          have hl : ¬ (r : Int) < 33 := by omega
          have hg : 126 < (r : Int) := by omega
          go_wp2
          go_ret
          exact ⟨ret_bool HF.out, BI.out _⟩
      · have hnx : ∀ ty, (Instr.next (.pointer (some ⟨W.heap.size, 0, none⟩)) true ty).run Tryd.prog (W.iter s pos) = _ := fun ty => run_next_end W s pos ty hp
        rw [hW] at hnx
        have HT : Hid (true = tagB s) := tagB_in (by omega) (allB_end hp ha.out)
        go_wp2
        go_ret
        exact ⟨ret_bool HT.out, BI.out _⟩

set_option maxHeartbeats 400000 in
theorem implSh (x : Tg) (w : World) (hs : x.t.size ≤ maxLen) :
    Calls Tryd.prog 8 #[tgV x] w fun e w' => e = .returned (.string (shT x)) ∧ Below w.heap.size w w' := by
  have hk := fun W => implTag x W hs
  have hn := @shT_no x
  have T0 := TgB.new w x 25
  have B0 : Hid (Below w.heap.size w (w.alloc (.cells #[.bool x.w, .string x.t] 25))) := (Below.refl _ w).alloc (Nat.le_refl _) _
  obtain ⟨wk, s⟩ := x
  unfold tgV at hk ⊢
  simp only at *
  have T0 : Hid (TgB _ w.heap.size ⟨wk, s⟩) := T0
  cases hok : tagB s with
  | false =>
    have HA : Hid (⟨#[]⟩ = shT ⟨wk, s⟩) := (hn hok).symm
    rw [hok] at hk
    clear hn hok
    go_enter Tryd.func8, Tryd.ntmps8
    go_wp2_with fail
    refine (hk _).mono ?_
    rintro e w1 ⟨rfl, hb1⟩
    have B1 : Hid (Below w.heap.size w w1) := past7 B0.out hb1
    clear hb1 B0 T0 hk
    go_wp2
    go_ret
    exact ⟨ret_txt HA.out, B1.out⟩
  | true =>
    have hz := tagB_size hok
    have z1 : ((⟨#[34]⟩ : ByteArray) ++ s).size = 1 + s.size := by rw [ByteArray.size_append]; rfl
    have z2 : ((⟨#[34]⟩ : ByteArray) ++ s ++ (⟨#[34]⟩ : ByteArray)).size = 1 + s.size + 1 := by rw [ByteArray.size_append, z1]; rfl
    have HA : Hid (shT ⟨wk, s⟩ = shU ⟨wk, s⟩) := shT_yes hok
    rw [hok] at hk
    clear hn hok
    cases wk with
    | false =>
      have HT : Hid ((⟨#[34]⟩ : ByteArray) ++ s ++ (⟨#[34]⟩ : ByteArray) = shT ⟨false, s⟩) := by rw [HA.out]; rfl
      clear HA
      go_enter Tryd.func8, Tryd.ntmps8
      go_wp2_with fail
      refine (hk _).mono ?_
      rintro e w1 ⟨rfl, hb1⟩
      have B1 : Hid (Below w.heap.size w w1) := past7 B0.out hb1
      have T1 : Hid (TgB w1 w.heap.size ⟨false, s⟩) := T0.out.kept hb1
      clear hb1 B0 T0 hk
      have c0 := T1.out.c0
      have c1 := T1.out.c1
      go_wp2
      go_ret
      exact ⟨ret_txt HT.out, B1.out⟩
    | true =>
      have HT : Hid ((⟨#[87, 47]⟩ : ByteArray) ++ ((⟨#[34]⟩ : ByteArray) ++ s ++ (⟨#[34]⟩ : ByteArray)) = shT ⟨true, s⟩) := by rw [HA.out]; rfl
      clear HA
      go_enter Tryd.func8, Tryd.ntmps8
      go_wp2_with fail
      refine (hk _).mono ?_
      rintro e w1 ⟨rfl, hb1⟩
      have B1 : Hid (Below w.heap.size w w1) := past7 B0.out hb1
      have T1 : Hid (TgB w1 w.heap.size ⟨true, s⟩) := T0.out.kept hb1
      clear hb1 B0 T0 hk
      have c0 := T1.out.c0
      have c1 := T1.out.c1
      go_wp2
      go_ret
      exact ⟨ret_txt HT.out, B1.out⟩
end Go.Proofs.YteeclocldjmgaaaDoor
