/-
  The specification's purges by their contracts: right ones, what is shown.
-/
import Derived.Test.YtkoikofaebfbjaaPgP
import Derived.Test.YtkoikofaebfbjaaBx
import Derived.WalkKit
import Derived.WalkSpells
namespace Go.Proofs.Ytkoikofaebfbjaa
open Go.RowKit Pg
set_option linter.unusedVariables false
set_option linter.unusedSimpArgs false

/-- A purge by value. -/
def pgV (k : Int) (s : ByteArray) : Value := .agg #[.int .i64 k, .string s]
theorem pgIn1 (n lo hi : Int) (w : World) : Calls Try.prog 21 #[.int .i64 n, .int .i64 lo, .int .i64 hi] w fun e w' => e = .returned (.bool (decide (lo ≤ n ∧ n ≤ hi))) ∧ w = w' := by
  by_cases h1 : lo ≤ n
  · by_cases h2 : n ≤ hi
    · rw [decide_eq_true (show lo ≤ n ∧ n ≤ hi from ⟨h1, h2⟩)]
      go_enter Try.func21, Try.ntmps21
      go_wp2
      go_ret
      exact ⟨rfl, rfl⟩
    · rw [decide_eq_false (fun h : lo ≤ n ∧ n ≤ hi => h2 h.2)]
      go_enter Try.func21, Try.ntmps21
      go_wp2
      go_ret
      exact ⟨rfl, rfl⟩
  · rw [decide_eq_false (fun h : lo ≤ n ∧ n ≤ hi => h1 h.1)]
    go_enter Try.func21, Try.ntmps21
    go_wp2
    go_ret
    exact ⟨rfl, rfl⟩
theorem all_at {p : Int → Bool} {l : List UInt8} {k : Nat} (h : k < l.length) (ha : (l.take k).all (fun c => p (c.toNat : Int)) = true) (hp : p (l[k].toNat : Int) = true) : (l.take (k + 1)).all (fun c => p (c.toNat : Int)) = true := by
  rw [List.take_succ_eq_append_getElem h, List.all_append, ha]
  simp [hp]
theorem all_bad {p : Int → Bool} {l : List UInt8} {k : Nat} (h : k < l.length) (hp : p (l[k].toNat : Int) = false) : l.all (fun c => p (c.toNat : Int)) = false := by
  rw [List.all_eq_false]
  exact ⟨l[k], List.getElem_mem h, by simp [hp]⟩
set_option maxRecDepth 100000 in
set_option maxHeartbeats 2000000 in
theorem specPgo (k : Int) (s : ByteArray) (w : World) (hs : s.size ≤ maxLen) :
    Calls Try.prog 8 #[pgV k s] w fun e w' => e = .returned (.bool (pgOk k s)) ∧ Below w.heap.size w w' := by
  have hin := fun W => pgIn1 k 1 3 W
  have B0 : Hid (Below w.heap.size w (w.alloc (.cells #[.int .i64 k, .string s] 26))) := (Below.refl _ w).alloc (Nat.le_refl _) _
  have X0 := Bx.new w 26 #[.int .i64 k, .string s]
  unfold pgV
  unfold maxLen at hs
  have hlen : s.data.toList.length = s.size := by simp
  go_enter Try.func8, Try.ntmps8
  generalize hwA : w.alloc (.cells #[.int .i64 k, .string s] 26) = wA at B0 X0
  have x0 := X0.cell 0
  have x1 := X0.cell 1
  clear X0
  by_cases h4 : k = 4
  · subst h4
    have HR : Hid (pgOk 4 s = s.toList.isEmpty) := by
      show decide (s.size = 0) = _
      rw [ByteArray.toList_eq, ← hlen]
      cases s.data.toList <;> simp
    clear hin
    go_wp2
    go_ret
    exact ⟨congrArg (fun b => Ending.returned (.bool b)) HR.out.symm, B0.out⟩
  · have HR : Hid (pgOk k s = (decide (1 ≤ k ∧ k ≤ 3) && txOk s)) := by show _ = _; unfold pgOk; rw [if_neg h4]
    by_cases h13 : 1 ≤ k ∧ k ≤ 3
    · rw [decide_eq_true h13] at hin
      by_cases hz : s.size < 1
      · have HE : Hid (false = pgOk k s) := by show _ = _; rw [HR.out]; unfold txOk; rw [decide_eq_false (fun h : 1 ≤ s.size ∧ s.size ≤ 200 => by omega)]; simp
        have hzi : (s.size : Int) < 1 := by omega
        go_wp2_with fail
        refine (hin _).mono ?_
        rintro e w1 ⟨rfl, rfl⟩
        go_wp2
        go_ret
        exact ⟨congrArg (fun b => Ending.returned (.bool b)) HE.out, B0.out⟩
      · by_cases hb : 200 < s.size
        · have HE : Hid (false = pgOk k s) := by show _ = _; rw [HR.out]; unfold txOk; rw [decide_eq_false (fun h : 1 ≤ s.size ∧ s.size ≤ 200 => by omega)]; simp
          have hzi : ¬ (s.size : Int) < 1 := by omega
          have hbi : 200 < (s.size : Int) := by omega
          go_wp2_with fail
          refine (hin _).mono ?_
          rintro e w1 ⟨rfl, rfl⟩
          go_wp2
          go_ret
          exact ⟨congrArg (fun b => Ending.returned (.bool b)) HE.out, B0.out⟩
        · have HT : Hid (pgOk k s = s.data.toList.all fun c => keyN (c.toNat : Int)) := by
            show _ = _
            rw [HR.out]
            unfold txOk allB
            rw [decide_eq_true h13, decide_eq_true (show 1 ≤ s.size ∧ s.size ≤ 200 from ⟨by omega, by omega⟩)]
            rfl
          have hzi : ¬ (s.size : Int) < 1 := by omega
          have hbi : ¬ 200 < (s.size : Int) := by omega
          go_wp2_with fail
          refine (hin _).mono ?_
          rintro e w1 ⟨rfl, rfl⟩
          go_wp2_with fail
          clear hin
          go_loop [3] (fun i => ∃ j : Nat, j ≤ s.size ∧ i = .int .i64 j ∧ Hid ((s.data.toList.take j).all (fun c => keyN (c.toNat : Int)) = true)) (fun i => s.size - (intOf i).toNat)
          case atStart => exact ⟨0, Nat.zero_le _, rfl, (show Hid _ from rfl)⟩
          case round =>
            obtain ⟨j, hj, rfl, hall⟩ := hrel
            by_cases hlt : j < s.size
            · have hji : (j : Int) < (s.size : Int) := by omega
              have hj2 : j < s.data.toList.length := by omega
              have e1 : s.data.toList[j]'hj2 = s[j] := by simp; rfl
              have HA := fun (h : keyN ((s.data.toList[j]'hj2).toNat : Int) = true) => all_at hj2 hall.out h
              have HN := fun (h : keyN ((s.data.toList[j]'hj2).toNat : Int) = false) => all_bad hj2 h
              rw [e1] at HA HN
              have hb8 : s[j].toNat < 256 := s[j].toNat_lt
              by_cases hk1 : s[j].toNat < 33
              · have HE : Hid (false = pgOk k s) := by show _ = _; rw [HT.out, HN (keyN_no (by omega))]
                have hk1i : (s[j].toNat : Int) < 33 := by omega
                clear HA HN
                go_wp2
                go_ret
                exact ⟨congrArg (fun b => Ending.returned (.bool b)) HE.out, B0.out⟩
              · by_cases hk2 : 126 < s[j].toNat
                · have HE : Hid (false = pgOk k s) := by show _ = _; rw [HT.out, HN (keyN_no (by omega))]
                  have hk1i : ¬ (s[j].toNat : Int) < 33 := by omega
                  have hk2i : 126 < (s[j].toNat : Int) := by omega
                  clear HA HN
                  go_wp2
                  go_ret
                  exact ⟨congrArg (fun b => Ending.returned (.bool b)) HE.out, B0.out⟩
                · have HA2 : Hid _ := HA (keyN_yes (by omega))
                  have hk1i : ¬ (s[j].toNat : Int) < 33 := by omega
                  have hk2i : ¬ 126 < (s[j].toNat : Int) := by omega
                  clear HA HN
                  go_wp2
                  go_round
                  case rel => exact ⟨j + 1, by omega, by go_num, HA2⟩
                  case measure => simp [intOf]; omega
            · obtain rfl : j = s.size := by omega
              have HE : Hid (true = pgOk k s) := by
                have := hall.out
                rw [← hlen, List.take_length] at this
                show _ = _
                rw [HT.out, this]
              go_wp2
              go_ret
              exact ⟨congrArg (fun b => Ending.returned (.bool b)) HE.out, B0.out⟩
    · have HE : Hid (false = pgOk k s) := by show _ = _; rw [HR.out, decide_eq_false h13]; rfl
      rw [decide_eq_false h13] at hin
      go_wp2_with fail
      refine (hin _).mono ?_
      rintro e w1 ⟨rfl, rfl⟩
      go_wp2
      go_ret
      exact ⟨congrArg (fun b => Ending.returned (.bool b)) HE.out, B0.out⟩
end Go.Proofs.Ytkoikofaebfbjaa
