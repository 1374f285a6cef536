/-
  The specification's Recent and Misses.
-/
import Derived.Test.YtnnmbgenepfacaaRomM
import Derived.Test.YtnnmbgenepfacaaRowA
namespace Go.Proofs.Ytnnmbgenepfacaa
open Go.RowKit Go.Sort Rom
set_option linter.unusedVariables false
set_option linter.unusedSimpArgs false

def inM (n lo hi : Int) : Bool := decide (lo ≤ n ∧ n ≤ hi)
theorem inRm (n lo hi : Int) (w : World) : Calls Try.prog 60 #[.int .i64 n, .int .i64 lo, .int .i64 hi] w fun e w' => e = .returned (.bool (inM n lo hi)) ∧ w = w' := by
  unfold inM
  by_cases h1 : lo ≤ n
  · by_cases h2 : n ≤ hi
    · have e : decide (lo ≤ n ∧ n ≤ hi) = true := decide_eq_true ⟨h1, h2⟩
      rw [e]
      go_enter Try.func60, Try.ntmps60
      go_wp2
      go_ret
      exact ⟨rfl, rfl⟩
    · have e : decide (lo ≤ n ∧ n ≤ hi) = false := decide_eq_false fun h => h2 h.2
      rw [e]
      go_enter Try.func60, Try.ntmps60
      go_wp2
      go_ret
      exact ⟨rfl, rfl⟩
  · have e : decide (lo ≤ n ∧ n ≤ hi) = false := decide_eq_false fun h => h1 h.1
    rw [e]
    go_enter Try.func60, Try.ntmps60
    go_wp2
    go_ret
    exact ⟨rfl, rfl⟩
def toldB (t : List Int) (r : Int) : Bool := decide (t.length ≤ 60) && (inM r 1 10 && t.all fun x => inM x 0 20)
theorem toldB_parts {t : List Int} {r : Int} (h : toldB t r = true) : t.length ≤ 60 ∧ (1 ≤ r ∧ r ≤ 10) ∧ ∀ x ∈ t, 0 ≤ x ∧ x ≤ 20 := by
  unfold toldB inM at h
  rw [Bool.and_eq_true, Bool.and_eq_true, decide_eq_true_eq, decide_eq_true_eq, List.all_eq_true] at h
  exact ⟨h.1, h.2.1, fun x hx => of_decide_eq_true (h.2.2 x hx)⟩
theorem all_no {t : List Int} {k : Nat} (h : k < t.length) (hb : inM t[k] 0 20 = false) : (t.all fun x => inM x 0 20) = false := by
  rw [List.all_eq_false]
  exact ⟨t[k], List.getElem_mem h, by simp [hb]⟩
theorem all_step {t : List Int} {k : Nat} (h : k < t.length) (h1 : ((t.take k).all fun x => inM x 0 20) = true) (h2 : inM t[k] 0 20 = true) : ((t.take (k + 1)).all fun x => inM x 0 20) = true := by
  rw [List.take_succ_eq_append_getElem h, List.all_append, h1]
  simp [h2]
theorem specTold (v : Value) (t : List Int) (r : Int) (w : World) (h : Sls numE w v t) :
    Calls Try.prog 57 #[v, .int .i64 r] w fun e w' => e = .returned (.bool (toldB t r)) ∧ w = w' := by
  obtain ⟨a, cap, rfl, h1, h2, h3⟩ := h.one
  have H2 : Hid (cap ≤ maxLen) := h2
  clear h h2
  by_cases hl : t.length ≤ 60
  · have hd : decide (60 < (t.length : Int)) = false := decide_eq_false (by omega)
    cases hr : inM r 1 10 with
    | false =>
      have HE : Hid (false = toldB t r) := by show _ = _; unfold toldB; rw [hr]; simp
      go_enter Try.func57, Try.ntmps57
      go_wp2_with (go_at_call 60; refine (inRm _ _ _ _).mono ?_; rintro e w' ⟨rfl, rfl⟩; rw [hr])
      go_ret
      exact ⟨congrArg (fun b => Ending.returned (.bool b)) HE.out, rfl⟩
    | true =>
      have HT : Hid (toldB t r = t.all fun x => inM x 0 20) := by show _ = _; unfold toldB; rw [hr, decide_eq_true hl]; rfl
      go_enter Try.func57, Try.ntmps57
      go_wp2_with (go_at_call 60; refine (inRm _ _ _ _).mono ?_; rintro e w' ⟨rfl, rfl⟩; rw [hr])
      go_loop [5] (fun i => ∃ k : Nat, k ≤ t.length ∧ i = .int .i64 k ∧ Hid (((t.take k).all fun x => inM x 0 20) = true)) (fun i => t.length - (intOf i).toNat)
      case atStart => exact ⟨0, Nat.zero_le _, rfl, (show Hid _ from rfl)⟩
      case round =>
        obtain ⟨k, hk, rfl, hall⟩ := hrel
        by_cases hlt : k < t.length
        · obtain ⟨g, o, rfl, hg, hc⟩ := h3 (by omega)
          have c1 := hc k hlt
          have HS := fun h2 => all_step hlt hall.out h2
          have HN := fun hb => all_no hlt hb
          generalize t[k] = x at c1 HS HN
          cases hx : inM x 0 20 with
          | false =>
            have HE : Hid (false = toldB t r) := by show _ = _; rw [HT.out, HN hx]
            clear HS HN hc h3
            go_wp2_with (go_at_call 60; refine (inRm _ _ _ _).mono ?_; rintro e w' ⟨rfl, rfl⟩; rw [hx])
            go_ret
            exact ⟨congrArg (fun b => Ending.returned (.bool b)) HE.out, rfl⟩
          | true =>
            have HA : Hid _ := HS hx
            clear HS HN hc h3
            go_wp2_with (go_at_call 60; refine (inRm _ _ _ _).mono ?_; rintro e w' ⟨rfl, rfl⟩; rw [hx])
            go_round
            case rel => exact ⟨k + 1, by omega, by go_num, HA⟩
            case measure => simp [intOf]; omega
        · obtain rfl : k = t.length := by omega
          have HE : Hid (true = toldB t r) := by
            have := hall.out
            rw [List.take_of_length_le (Nat.le_refl _)] at this
            show _ = _
            rw [HT.out, this]
          go_wp2
          go_ret
          exact ⟨congrArg (fun b => Ending.returned (.bool b)) HE.out, rfl⟩
  · have HE : Hid (false = toldB t r) := by show _ = _; unfold toldB; rw [decide_eq_false hl]; rfl
    have hd : decide (60 < (t.length : Int)) = true := decide_eq_true (by omega)
    go_enter Try.func57, Try.ntmps57
    go_wp2
    go_ret
    exact ⟨congrArg (fun b => Ending.returned (.bool b)) HE.out, rfl⟩
/-- One number appended. -/
theorem wpList_pushN {ops : Array Oper} {rest : List Oper} {o : Oper} {a : Act} {Q : Exit → Act → World → Prop} (w : World) (hgd : o.guard = none) (s x : Operand)
    (ho : o.op = .call { callee := .builtin .append, args := #[s, x], argTypes := #[24, 24] }) (B : Nat) (v : Value) (l : List Int) (c : Int) (hs : a.eval s = v) (hown : OwnsN w B v l)
    (hx : a.eval x = .slice (some ⟨w.heap.size, 0, none⟩) 1 1) (hlen : l.length ≤ 1000000) (hB : B ≤ w.heap.size)
    (h : ∀ v' w', OwnsN w' B v' (l ++ [c]) → w.grownBy w' v.ownBlock → wpList Try.prog ops Q rest (a.put o.dst v') w') :
    wpList Try.prog ops Q (o :: rest) a (w.alloc (.cells #[.int .i64 c] 2)) := by
  refine wpList_rowE (E := numE) _ hgd s x 24 2 (.int .i64 0) 8 Try.underlying24 Try.infoN2 rfl ho B v l hs (OwnsE.alloc hown _) ⟨w.heap.size, 0, none⟩ 1 [c] hx (fresh_cell w c #[.int .i64 c] 2 rfl) (by unfold maxLen; simp; omega) (by simp; omega) (by simp; omega) ?_
  intro v' w' h1 h2 h3
  refine h v' w' h1 ⟨h2.os, h2.tape, h2.output, ?_, ?_⟩
  · have := h2.size
    simp at this
    omega
  · intro k hk hne
    rw [h2.block k (by simp; omega) hne]
    exact Below.heap_alloc _ _ _ hk
theorem ownsN_lit (w : World) (x : Int) : OwnsN (w.alloc (.cells #[.int .i64 x] 2)) w.heap.size (.slice (some ⟨w.heap.size, 0, none⟩) 1 1) [x] :=
  World.ownsRow_lit w #[.int .i64 x] 1 (Nat.le_refl _) (by unfold maxLen; decide) rfl
end Go.Proofs.Ytnnmbgenepfacaa
