/-
  The specification's RequestOk, ResponseOk and Framing by their contracts.
-/
import Derived.Test.YtmgmphkncgochaaDoorMsgG
import Derived.Test.YtmgmphkncgochaaDoorMsgR
import Derived.Test.YtmgmphkncgochaaDoorNum
namespace Go.Proofs.YtmgmphkncgochaaDoor
open Go.RowKit
set_option linter.unusedVariables false

theorem capN_yes {r : Int} (h : 65 ≤ r ∧ r ≤ 90) : capN r = true := decide_eq_true h
theorem capN_no {r : Int} (h : ¬ (65 ≤ r ∧ r ≤ 90)) : capN r = false := decide_eq_false h
theorem tarN_yes {r : Int} (h : 33 ≤ r ∧ r ≤ 126) : tarN r = true := decide_eq_true h
theorem tarN_no {r : Int} (h : ¬ (33 ≤ r ∧ r ≤ 126)) : tarN r = false := decide_eq_false h
theorem metB_no {s : ByteArray} (h : false = allB capN s.data.toList) : false = metB s := by unfold metB; rw [← h]; rfl
theorem metB_yes {s : ByteArray} (h : true = allB capN s.data.toList) : tokB s = metB s := by unfold metB; rw [← h]; rfl
theorem tarB_out {s : ByteArray} (h : s.size < 1 ∨ 200 < s.size) : false = tarB s := by
  unfold tarB; rw [decide_eq_false (by omega)]; rfl
theorem tarB_in {s : ByteArray} {b : Bool} (h1 : 1 ≤ s.size) (h2 : s.size ≤ 200) (h : b = allB tarN s.data.toList) : b = tarB s := by
  unfold tarB; rw [decide_eq_true ⟨h1, h2⟩, ← h]; rfl

set_option maxHeartbeats 400000 in
theorem specMet (s : ByteArray) (w : World) (hs : s.size ≤ maxLen) :
    Calls Tryd.prog 27 #[.string s] w fun e w' => e = .returned (.bool (metB s)) ∧ Below w.heap.size w w' := by
  have hm := hs
  unfold maxLen at hs
  go_enter Tryd.func27, Tryd.ntmps27
  go_wp2
  go_loop [3] (fun i => ∃ k : Nat, k ≤ s.size ∧ i = .int .i64 k ∧ Hid (allB capN (s.data.toList.take k) = true)) (fun i => s.size - (intOf i).toNat)
  case atStart => exact ⟨0, Nat.zero_le _, rfl, allB_nil _ _⟩
  case round =>
    obtain ⟨k, hk, rfl, ha⟩ := hrel
    by_cases hlt : k < s.size
    · by_cases hl : (s[k].toNat : Int) < 65
      · have HF : Hid (false = metB s) := metB_no (allB_not hlt (capN_no (by omega)))
        go_wp2
        go_ret
        exact ⟨ret_bool HF.out, Below.refl _ _⟩
      · by_cases hg : 90 < (s[k].toNat : Int)
        · have HF : Hid (false = metB s) := metB_no (allB_not hlt (capN_no (by omega)))
          go_wp2
          go_ret
          exact ⟨ret_bool HF.out, Below.refl _ _⟩
        · have HV : Hid (allB capN (s.data.toList.take (k + 1)) = true) := allB_step hlt ha.out (capN_yes (by omega))
          go_wp2
          go_round
          case rel => exact ⟨k + 1, by omega, by go_num, HV⟩
          case measure => simp [intOf]; omega
    · have HT : Hid (tokB s = metB s) := metB_yes (allB_end hlt ha.out)
      go_wp2_with (go_at_call 52; refine (specTok s _ hm).mono ?_; rintro e w1 ⟨rfl, hb1⟩)
      go_ret
      exact ⟨ret_bool HT.out, hb1⟩

set_option maxHeartbeats 400000 in
theorem specTar (s : ByteArray) (w : World) (hs : s.size ≤ maxLen) :
    Calls Tryd.prog 28 #[.string s] w fun e w' => e = .returned (.bool (tarB s)) ∧ Below w.heap.size w w' := by
  unfold maxLen at hs
  by_cases h1 : s.size < 1
  · have HF : Hid (false = tarB s) := tarB_out (.inl h1)
    have d1 : decide ((s.size : Int) < 1) = true := by simp; omega
    go_enter Tryd.func28, Tryd.ntmps28
    go_wp2
    go_ret
    exact ⟨ret_bool HF.out, Below.refl _ _⟩
  · by_cases h2 : 200 < s.size
    · have HF : Hid (false = tarB s) := tarB_out (.inr h2)
      have d1 : decide ((s.size : Int) < 1) = false := by simp; omega
      have d2 : decide (200 < (s.size : Int)) = true := by simp; omega
      go_enter Tryd.func28, Tryd.ntmps28
      go_wp2
      go_ret
      exact ⟨ret_bool HF.out, Below.refl _ _⟩
    · have d1 : decide ((s.size : Int) < 1) = false := by simp; omega
      have d2 : decide (200 < (s.size : Int)) = false := by simp; omega
      go_enter Tryd.func28, Tryd.ntmps28
      go_wp2
      go_loop [3] (fun i => ∃ k : Nat, k ≤ s.size ∧ i = .int .i64 k ∧ Hid (allB tarN (s.data.toList.take k) = true)) (fun i => s.size - (intOf i).toNat)
      case atStart => exact ⟨0, Nat.zero_le _, rfl, allB_nil _ _⟩
      case round =>
        obtain ⟨k, hk, rfl, ha⟩ := hrel
        by_cases hlt : k < s.size
        · by_cases hl : (s[k].toNat : Int) < 33
          · have HF : Hid (false = tarB s) := tarB_in (by omega) (by omega) (allB_not hlt (tarN_no (by omega)))
            go_wp2
            go_ret
            exact ⟨ret_bool HF.out, Below.refl _ _⟩
          · by_cases hg : 126 < (s[k].toNat : Int)
            · have HF : Hid (false = tarB s) := tarB_in (by omega) (by omega) (allB_not hlt (tarN_no (by omega)))
              go_wp2
              go_ret
              exact ⟨ret_bool HF.out, Below.refl _ _⟩
            · have HV : Hid (allB tarN (s.data.toList.take (k + 1)) = true) := allB_step hlt ha.out (tarN_yes (by omega))
              go_wp2
              go_round
              case rel => exact ⟨k + 1, by omega, by go_num, HV⟩
              case measure => simp [intOf]; omega
        · have HT : Hid (true = tarB s) := tarB_in (by omega) (by omega) (allB_end hlt ha.out)
          go_wp2
          go_ret
          exact ⟨ret_bool HT.out, Below.refl _ _⟩

/-- What a walk is told of fields that came in. -/
def Solid (v : Value) : Prop := ∀ n c, v = .slice none n c → c = 0
def Fits (w : World) (v : Value) (l : List Fl) : Prop := Fls w v l ∧ szL l ≤ 1048576 ∧ l.length ≤ 1048576 ∧ Solid v
theorem Fits.kept {w w' : World} {v : Value} {l : List Fl} (h : Fits w v l) (hb : Below w.heap.size w w') : Fits w' v l := ⟨h.1.kept hb, h.2⟩
theorem past6 {w w1 w2 : World} (h : Below w.heap.size w w1) (hb : Below w1.heap.size w1 w2) : Below w.heap.size w w2 := h.trans (hb.mono h.size)

theorem specOwn (v : Value) (l : List Fl) (w : World) (h : Fits w v l) :
    Calls Tryd.prog 29 #[v] w fun e w' => e = .returned (.bool (ownB l)) ∧ Below w.heap.size w w' := by
  have hg1 := specGetN v l clS w h.1 h.2.1 h.2.2.1 (by decide)
  have hz := h.2.1
  have hl := h.2.2.1
  unfold getE at hg1
  obtain ⟨a, cap, rfl, hcap⟩ := h.1
  have HF : Hid (Fits w (.slice a l.length cap) l) := h
  clear h hcap
  have ho : Hid (ownB l = (fldsOk l && (!(getF l clS).2 && !(getF l teS).2))) := rfl
  obtain ⟨x, p, hx⟩ : ∃ x p, getF l clS = (x, p) := ⟨_, _, rfl⟩
  obtain ⟨y, q, hy⟩ : ∃ y q, getF l teS = (y, q) := ⟨_, _, rfl⟩
  have hg2 : ∀ w, Fits w (.slice a l.length cap) l → Calls Tryd.prog 39 #[.slice a l.length cap, .string teS] w fun e w' => e = .returned (.tuple #[.string y, .bool q]) ∧ Below w.heap.size w w' := fun w h => by
    have := specGetN _ l teS w h.1 h.2.1 h.2.2.1 (by decide)
    unfold getE at this
    rw [hy] at this
    exact this
  rw [hx] at hg1
  have HO : Hid (ownB l = (fldsOk l && (!p && !q))) := by have := ho.out; rw [hx, hy] at this; exact this
  clear hx hy ho
  have hg3 : Hid (∀ w, Fits w (.slice a l.length cap) l → Calls Tryd.prog 39 #[.slice a l.length cap, .string teS] w fun e w' => e = .returned (.tuple #[.string y, .bool q]) ∧ Below w.heap.size w w') := hg2
  clear hg2
  unfold clS at hg1
  unfold teS at hg3
  go_enter Tryd.func29, Tryd.ntmps29
  go_wp2_with fail
  refine hg1.mono ?_
  rintro e w1 ⟨rfl, hb1⟩
  have HF1 : Hid (Fits w1 (.slice a l.length cap) l) := HF.out.kept hb1
  clear hg1
  go_wp2_with fail
  refine (hg3.out _ HF1.out).mono ?_
  rintro e w2 ⟨rfl, hb2'⟩
  have hb2 := past6 hb1 hb2'
  have HF2 : Hid (Fits w2 (.slice a l.length cap) l) := HF1.out.kept hb2'
  clear hb1 hb2' hg3
  go_wp2_with fail
  refine (specOk _ l _ HF2.out.1 hz).mono ?_
  rintro e w3 ⟨rfl, hb3'⟩
  have hb3 := past6 hb2 hb3'
  clear hb3' hb2
  cases ok : fldsOk l with
  | false =>
    rw [ok] at HO
    have H0 : Hid (false = ownB l) := by rw [HO.out]; rfl
    clear HO
    go_wp2
    go_ret
    exact ⟨ret_bool H0.out, hb3⟩
  | true =>
    rw [ok] at HO
    cases p with
    | true =>
      have H0 : Hid (false = ownB l) := by rw [HO.out]; rfl
      clear HO
      go_wp2
      go_ret
      exact ⟨ret_bool H0.out, hb3⟩
    | false =>
      cases q with
      | true =>
        have H0 : Hid (false = ownB l) := by rw [HO.out]; rfl
        clear HO
        go_wp2
        go_ret
        exact ⟨ret_bool H0.out, hb3⟩
      | false =>
        have H0 : Hid (true = ownB l) := by rw [HO.out]; rfl
        clear HO
        go_wp2
        go_ret
        exact ⟨ret_bool H0.out, hb3⟩
theorem specBare (s : Int) (w : World) :
    Calls Tryd.prog 34 #[.int .i64 s] w fun e w' => e = .returned (.bool (bareB s)) ∧ w = w' := by
  by_cases h1 : s = 204
  · subst h1
    have H0 : Hid (true = bareB 204) := rfl
    go_enter Tryd.func34, Tryd.ntmps34
    go_wp2
    go_ret
    exact ⟨ret_bool H0.out, rfl⟩
  · have d1 : (s == 204) = false := by simp [h1]
    by_cases h2 : s = 304
    · subst h2
      have H0 : Hid (true = bareB 304) := rfl
      go_enter Tryd.func34, Tryd.ntmps34
      go_wp2
      go_ret
      exact ⟨ret_bool H0.out, rfl⟩
    · have d2 : (s == 304) = false := by simp [h2]
      have H0 : Hid (false = bareB s) := by show false = bareB s; unfold bareB; simp [h1, h2]
      go_enter Tryd.func34, Tryd.ntmps34
      go_wp2
      go_ret
      exact ⟨ret_bool H0.out, rfl⟩
end Go.Proofs.YtmgmphkncgochaaDoor
