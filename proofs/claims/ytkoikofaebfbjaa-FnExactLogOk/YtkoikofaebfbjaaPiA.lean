/-
  The program's purges by their contracts: right ones, what is shown.
-/
import Derived.Test.YtkoikofaebfbjaaPgB
namespace Go.Proofs.Ytkoikofaebfbjaa
open Go.RowKit Pg
set_option linter.unusedVariables false
set_option linter.unusedSimpArgs false

set_option maxHeartbeats 1000000 in
theorem implSo2 (s : ByteArray) (w : World) (hs : s.size ≤ 1048576) :
    Calls Try.prog 22 #[.string s, .int .i64 200] w fun e w' => e = .returned (.bool (allB keyN s.data.toList && decide (s.size ≤ 200))) ∧ w = w' := by
  obtain ⟨K, hK⟩ : ∃ K, (allB keyN s.data.toList && decide (s.size ≤ 200)) = K := ⟨_, rfl⟩
  rw [hK]
  have HK : Hid (K = (allB keyN s.data.toList && decide (s.size ≤ 200))) := hK.symm
  clear hK
  by_cases h5 : (200 : Int) < (s.size : Int)
  · have HF : Hid (false = K) := by show _ = _; rw [HK.out, decide_eq_false (by omega), Bool.and_false]
    go_enter Try.func22, Try.ntmps22
    go_wp2
    go_ret
    exact ⟨ret_bool HF.out, rfl⟩
  · go_enter Try.func22, Try.ntmps22
    go_wp2
    go_loop [12] (fun i => ∃ k : Nat, k ≤ s.size ∧ i = .int .i64 k ∧ Hid (allB keyN (s.data.toList.take k) = true)) (fun i => s.size - (intOf i).toNat)
    case atStart => exact ⟨0, Nat.zero_le _, rfl, allB_nil _ _⟩
    case round =>
      obtain ⟨k, hk, rfl, ha⟩ := hrel
      by_cases hlt : k < s.size
      · by_cases hl : (s[k].toNat : Int) < 33
        · have HF : Hid (false = K) := by show _ = _; rw [HK.out, ← allB_not (p := keyN) hlt (keyN_no (by omega))]; rfl
          go_wp2
          go_ret
          exact ⟨ret_bool HF.out, rfl⟩
        · by_cases hg : 126 < (s[k].toNat : Int)
          · have HF : Hid (false = K) := by show _ = _; rw [HK.out, ← allB_not (p := keyN) hlt (keyN_no (by omega))]; rfl
            go_wp2
            go_ret
            exact ⟨ret_bool HF.out, rfl⟩
          · have HV : Hid (allB keyN (s.data.toList.take (k + 1)) = true) := allB_step hlt ha.out (keyN_yes (by omega))
            go_wp2
            go_round
            case rel => exact ⟨k + 1, by omega, by go_num, HV⟩
            case measure => simp [intOf]; omega
      · have HE : Hid (true = K) := by
          show _ = _
          have e : s.data.toList.take k = s.data.toList := List.take_of_length_le (by simp; omega)
          have h2 := ha.out
          rw [e] at h2
          rw [HK.out, h2, Bool.true_and, decide_eq_true (by omega)]
        go_wp2
        go_ret
        exact ⟨ret_bool HE.out, rfl⟩
theorem void_of {s : ByteArray} : (s.toList == []) = decide (s.size = 0) := by
  have hlen : s.data.toList.length = s.size := by simp
  rw [ByteArray.toList_eq, ← hlen]
  cases s.data.toList <;> simp
theorem tx_is {s : ByteArray} (h : ¬ s.size = 0) : txOk s = (allB keyN s.data.toList && decide (s.size ≤ 200)) := by
  unfold txOk
  by_cases h2 : s.size ≤ 200
  · rw [decide_eq_true h2, decide_eq_true (show 1 ≤ s.size ∧ s.size ≤ 200 from ⟨by omega, h2⟩)]
    simp
  · rw [decide_eq_false h2, decide_eq_false (fun h : 1 ≤ s.size ∧ s.size ≤ 200 => h2 h.2)]
    simp
set_option maxRecDepth 100000 in
set_option maxHeartbeats 2000000 in
theorem implPgo (k : Int) (s : ByteArray) (w : World) (hs : s.size ≤ 1048576) :
    Calls Try.prog 10 #[pgV k s] w fun e w' => e = .returned (.bool (pgOk k s)) ∧ Below w.heap.size w w' := by
  have hS := fun W => implSo2 s W hs
  have B0 : Hid (Below w.heap.size w (w.alloc (.cells #[.int .i64 k, .string s] 26))) := (Below.refl _ w).alloc (Nat.le_refl _) _
  have X0 := Bx.new w 26 #[.int .i64 k, .string s]
  unfold pgV
  have hv := void_of (s := s)
  have HTX := fun h => tx_is (s := s) h
  generalize (allB keyN s.data.toList && decide (s.size ≤ 200)) = q at hS HTX
  go_enter Try.func10, Try.ntmps10
  generalize hwA : w.alloc (.cells #[.int .i64 k, .string s] 26) = wA at B0 X0
  have x0 := X0.cell 0
  have x1 := X0.cell 1
  clear X0
  by_cases h13 : 1 ≤ k ∧ k ≤ 3
  · have HR : Hid (pgOk k s = txOk s) := by show _ = _; unfold pgOk; rw [if_neg (by omega), decide_eq_true h13]; rfl
    by_cases h0 : s.size = 0
    · have HE : Hid (false = pgOk k s) := by show _ = _; rw [HR.out]; unfold txOk; rw [decide_eq_false (fun h : 1 ≤ s.size ∧ s.size ≤ 200 => by omega)]; rfl
      rw [decide_eq_true h0] at hv
      have hn : (s.toList != []) = false := by simp [bne, hv]
      clear hS HTX h0
      rcases (show k = 1 ∨ k = 2 ∨ k = 3 by omega) with rfl | rfl | rfl
      all_goals
        go_wp2
        go_ret
        exact ⟨ret_bool HE.out, B0.out⟩
    · have HE : Hid (q = pgOk k s) := by show _ = _; rw [HR.out, HTX h0]
      rw [decide_eq_false h0] at hv
      have hn : (s.toList != []) = true := by simp [bne, hv]
      clear HTX h0
      rcases (show k = 1 ∨ k = 2 ∨ k = 3 by omega) with rfl | rfl | rfl
      all_goals
        go_wp2_with fail
        refine (hS _).mono ?_
        rintro e w1 ⟨rfl, rfl⟩
        go_wp2
        go_ret
        exact ⟨ret_bool HE.out, B0.out⟩
  · by_cases h4 : k = 4
    · subst h4
      have HR : Hid (s.toList.isEmpty = pgOk 4 s) := by show _ = _; rw [show s.toList.isEmpty = (s.toList == []) from by cases s.toList <;> rfl, hv]; rfl
      clear hS HTX hv
      go_wp2
      go_ret
      exact ⟨ret_bool HR.out, B0.out⟩
    · have HE : Hid (false = pgOk k s) := by show _ = _; unfold pgOk; rw [if_neg h4, decide_eq_false h13]; rfl
      have k1 : ¬ k = 1 := by omega
      have k2 : ¬ k = 2 := by omega
      have k3 : ¬ k = 3 := by omega
      clear hS HTX hv h13
      go_wp2
      go_ret
      exact ⟨ret_bool HE.out, B0.out⟩
set_option maxHeartbeats 2000000 in
theorem implShp (k : Int) (s : ByteArray) (w : World) (hs : s.size ≤ 1048576) :
    Calls Try.prog 12 #[pgV k s] w fun e w' => e = .returned (.string (shwP k s)) ∧ Below w.heap.size w w' := by
  have hO := fun W => implPgo k s W hs
  have B0 : Hid (Below w.heap.size w (w.alloc (.cells #[.int .i64 k, .string s] 26))) := (Below.refl _ w).alloc (Nat.le_refl _) _
  have X0 : Hid (Bx (w.alloc (.cells #[.int .i64 k, .string s] 26)) w.heap.size 26 #[.int .i64 k, .string s]) := (show Hid _ from Bx.new w 26 #[.int .i64 k, .string s])
  unfold pgV at *
  go_enter Try.func12, Try.ntmps12
  generalize hwA : w.alloc (.cells #[.int .i64 k, .string s] 26) = wA at B0 X0
  have x0 := X0.out.cell 0
  have x1 := X0.out.cell 1
  go_wp2_with fail
  refine (hO _).mono ?_
  rintro e w1 ⟨rfl, hb1⟩
  have B1 : Hid (Below w.heap.size w w1) := (show Hid _ from B0.out.trans (hb1.mono B0.out.size))
  have X1 : Hid (Bx w1 w.heap.size 26 #[.int .i64 k, .string s]) := X0.out.kept hb1
  clear hb1 x0 x1 hO B0 X0 hwA
  cases hok : pgOk k s with
  | false =>
    have HE : Hid (shwP k s = ⟨#[]⟩) := by show _ = _; unfold shwP; rw [hok]; rfl
    go_wp2
    go_ret
    exact ⟨by rw [HE.out]; rfl, B1.out⟩
  | true =>
    have HE : Hid (shwP k s = shoP k s) := by show _ = _; unfold shwP; rw [if_pos hok]
    have hk := pg_kind hok
    have x0 := X1.out.cell 0
    have x1 := X1.out.cell 1
    clear hok
    rcases (show k = 1 ∨ k = 2 ∨ k = 3 ∨ k = 4 by omega) with rfl | rfl | rfl | rfl
    all_goals
      clear hk
      go_wp2
      go_ret
      exact ⟨by rw [HE.out]; rfl, B1.out⟩
end Go.Proofs.Ytkoikofaebfbjaa
