/-
  The program's checks of traces; the library's Index and Contains over numbers.
-/
import Derived.Test.YtnnmbgenepfacaaRomC
namespace Go.Proofs.Ytnnmbgenepfacaa
open Go.RowKit Go.Sort Rom
set_option linter.unusedVariables false
set_option linter.unusedSimpArgs false

def trcB (t : List Int) : Bool := decide (t.length ≤ 60) && t.all fun x => inM x 0 20
theorem told_trc (t : List Int) (r : Int) : toldB t r = (trcB t && inM r 1 10) := by
  unfold toldB trcB
  cases decide (t.length ≤ 60) <;> cases inM r 1 10 <;> cases (t.all fun x => inM x 0 20) <;> rfl
theorem implRom (r : Int) (w : World) : Calls Try.prog 54 #[.int .i64 r] w fun e w' => e = .returned (.bool (inM r 1 10)) ∧ w = w' := by
  unfold inM
  by_cases h1 : 1 ≤ r
  · by_cases h2 : r ≤ 10
    · rw [decide_eq_true (show 1 ≤ r ∧ r ≤ 10 from ⟨h1, h2⟩)]
      go_enter Try.func54, Try.ntmps54
      go_wp2
      go_ret
      exact ⟨rfl, rfl⟩
    · rw [decide_eq_false (fun h : 1 ≤ r ∧ r ≤ 10 => h2 h.2)]
      go_enter Try.func54, Try.ntmps54
      go_wp2
      go_ret
      exact ⟨rfl, rfl⟩
  · rw [decide_eq_false (fun h : 1 ≤ r ∧ r ≤ 10 => h1 h.1)]
    go_enter Try.func54, Try.ntmps54
    go_wp2
    go_ret
    exact ⟨rfl, rfl⟩
theorem implTrc (v : Value) (t : List Int) (w : World) (h : Sls numE w v t) :
    Calls Try.prog 53 #[v] w fun e w' => e = .returned (.bool (trcB t)) ∧ w = w' := by
  obtain ⟨a, cap, rfl, h1, h2, h3⟩ := h.one
  have H2 : Hid (cap ≤ maxLen) := h2
  clear h h2
  by_cases hl : t.length ≤ 60
  · have hd : ¬ (60 < (t.length : Int)) := by omega
    have HT : Hid (trcB t = t.all fun x => inM x 0 20) := by show _ = _; unfold trcB; rw [decide_eq_true hl]; rfl
    go_enter Try.func53, Try.ntmps53
    go_wp2
    go_loop [10] (fun i => ∃ k : Nat, k ≤ t.length ∧ i = .int .i64 k ∧ Hid (((t.take k).all fun x => inM x 0 20) = true)) (fun i => t.length - (intOf i).toNat)
    case atStart => exact ⟨0, Nat.zero_le _, rfl, (show Hid _ from rfl)⟩
    case round =>
      obtain ⟨k, hk, rfl, hall⟩ := hrel
      by_cases hlt : k < t.length
      · obtain ⟨g, o, rfl, hg, hc⟩ := h3 (by omega)
        have c1 := hc k hlt
        have HS := fun h2 => all_step hlt hall.out h2
        have HN := fun hb => all_no hlt hb
        generalize t[k] = x at c1 HS HN
        by_cases x0 : x < 0
        · have HE : Hid (false = trcB t) := by show _ = _; rw [HT.out, HN (decide_eq_false (by omega))]
          clear HS HN hc h3
          go_wp2
          go_ret
          exact ⟨congrArg (fun b => Ending.returned (.bool b)) HE.out, rfl⟩
        · by_cases x2 : 20 < x
          · have HE : Hid (false = trcB t) := by show _ = _; rw [HT.out, HN (decide_eq_false (by omega))]
            clear HS HN hc h3
            go_wp2
            go_ret
            exact ⟨congrArg (fun b => Ending.returned (.bool b)) HE.out, rfl⟩
          · have HA : Hid _ := HS (decide_eq_true (by omega))
            clear HS HN hc h3
            go_wp2
            go_round
            case rel => exact ⟨k + 1, by omega, by go_num, HA⟩
            case measure => simp [intOf]; omega
      · obtain rfl : k = t.length := by omega
        have HE : Hid (true = trcB t) := by
          have := hall.out
          rw [List.take_of_length_le (Nat.le_refl _)] at this
          show _ = _
          rw [HT.out, this]
        go_wp2
        go_ret
        exact ⟨congrArg (fun b => Ending.returned (.bool b)) HE.out, rfl⟩
  · have HE : Hid (false = trcB t) := by show _ = _; unfold trcB; rw [decide_eq_false hl]; rfl
    have hd : 60 < (t.length : Int) := by omega
    go_enter Try.func53, Try.ntmps53
    go_wp2
    go_ret
    exact ⟨congrArg (fun b => Ending.returned (.bool b)) HE.out, rfl⟩

def idxA (l : List Int) (x : Int) : Int := if x ∈ l then (l.idxOf x : Int) else -1
theorem idx_at {x : Int} : ∀ (l : List Int) (k : Nat) (h : k < l.length), l[k] = x → x ∉ l.take k → l.idxOf x = k
  | [], k, h, _, _ => by simp at h
  | y :: l, 0, h, e, _ => by
    have e' : y = x := e
    rw [e', List.idxOf_cons_self]
  | y :: l, k + 1, h, e, hn => by
    have hy : y ≠ x := fun e2 => hn (by rw [List.take_succ_cons, e2]; exact List.mem_cons_self ..)
    rw [idx_ne l hy, idx_at l k (by simpa using h) (by simpa using e) (fun hm => hn (by rw [List.take_succ_cons]; exact List.mem_cons_of_mem _ hm))]
theorem idxA_at {l : List Int} {x : Int} {k : Nat} (h : k < l.length) (e : l[k] = x) (hn : x ∉ l.take k) : idxA l x = (k : Int) := by
  unfold idxA
  rw [if_pos (by rw [← e]; exact List.getElem_mem h), idx_at l k h e hn]
theorem idxA_no {l : List Int} {x : Int} (h : x ∉ l) : idxA l x = -1 := by unfold idxA; rw [if_neg h]
theorem idxA_in {l : List Int} {x : Int} (h : x ∈ l) : idxA l x = (l.idxOf x : Int) ∧ l.idxOf x < l.length := by unfold idxA; rw [if_pos h]; exact ⟨rfl, List.idxOf_lt_length_of_mem h⟩
theorem idxN (v : Value) (l : List Int) (x : Int) (w : World) (h : Sls numE w v l) :
    Calls Try.prog 83 #[v, .int .i64 x] w fun e w' => e = .returned (.int .i64 (idxA l x)) ∧ w = w' := by
  obtain ⟨a, cap, rfl, h1, h2, h3⟩ := h.one
  unfold maxLen at h2
  clear h
  go_enter Try.func83, Try.ntmps83
  go_wp2
  go_loop [8] (fun i => ∃ k : Nat, k ≤ l.length ∧ i = .int .i64 k ∧ Hid (x ∉ l.take k)) (fun i => l.length - (intOf i).toNat)
  case atStart => exact ⟨0, Nat.zero_le _, rfl, (show Hid _ from (by simp : x ∉ l.take 0))⟩
  case round =>
    obtain ⟨k, hk, rfl, hno⟩ := hrel
    by_cases hlt : k < l.length
    · obtain ⟨g, o, rfl, hg, hc⟩ := h3 (by omega)
      have c1 := hc k hlt
      have HA := fun e => idxA_at hlt e hno.out
      have HN : Hid (x ∉ l.take k ++ [l[k]] → x ∉ l.take (k + 1)) := by
        show _ → _
        rw [List.take_succ_eq_append_getElem hlt]
        exact id
      generalize l[k] = y at c1 HA HN
      by_cases e : y = x
      · have HE : Hid ((k : Int) = idxA l x) := (HA e).symm
        subst e
        clear HA HN hc h3
        go_wp2
        go_ret
        exact ⟨congrArg (fun b => Ending.returned (.int .i64 b)) HE.out, rfl⟩
      · have e1 : (x == y) = false := by simpa using fun e2 : x = y => e e2.symm
        have HM : Hid (x ∉ l.take (k + 1)) := HN.out (fun hm => by
          rcases List.mem_append.1 hm with q | q
          · exact hno.out q
          · exact e (List.mem_singleton.1 q).symm)
        clear HA HN hc h3
        go_wp2
        go_round
        case rel => exact ⟨k + 1, by omega, by go_num, HM⟩
        case measure => simp [intOf]; omega
    · obtain rfl : k = l.length := by omega
      have HE : Hid (-1 = idxA l x) := by
        have := hno.out
        rw [List.take_of_length_le (Nat.le_refl _)] at this
        exact (idxA_no this).symm
      go_wp2
      go_ret
      exact ⟨congrArg (fun b => Ending.returned (.int .i64 b)) HE.out, rfl⟩
theorem conN (v : Value) (l : List Int) (x : Int) (w : World) (h : Sls numE w v l) :
    Calls Try.prog 59 #[v, .int .i64 x] w fun e w' => e = .returned (.bool (decide (x ∈ l))) ∧ w = w' := by
  have hI := idxN v l x w h
  obtain ⟨a, cap, rfl, _⟩ := h.one
  clear h
  by_cases hm : x ∈ l
  · rw [(idxA_in hm).1] at hI
    rw [decide_eq_true hm]
    go_enter Try.func59, Try.ntmps59
    go_wp2_with (go_at_call 83; refine hI.mono ?_; rintro e w' ⟨rfl, rfl⟩)
    go_ret
    exact ⟨rfl, rfl⟩
  · rw [idxA_no hm] at hI
    rw [decide_eq_false hm]
    go_enter Try.func59, Try.ntmps59
    go_wp2_with (go_at_call 83; refine hI.mono ?_; rintro e w' ⟨rfl, rfl⟩)
    go_ret
    exact ⟨rfl, rfl⟩
end Go.Proofs.Ytnnmbgenepfacaa
