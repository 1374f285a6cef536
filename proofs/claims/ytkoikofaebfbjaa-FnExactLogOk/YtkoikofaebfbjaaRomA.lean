/-
  The specification's Recent and Misses.
-/
import Derived.Test.YtkoikofaebfbjaaRomM
import Derived.Test.YtkoikofaebfbjaaRowA
namespace Go.Proofs.Ytkoikofaebfbjaa
open Go.RowKit Go.Sort Rom
set_option linter.unusedVariables false
set_option linter.unusedSimpArgs false

def inM (n lo hi : Int) : Bool := decide (lo ≤ n ∧ n ≤ hi)
theorem inRm (n lo hi : Int) (w : World) : Calls Try.prog 21 #[.int .i64 n, .int .i64 lo, .int .i64 hi] w fun e w' => e = .returned (.bool (inM n lo hi)) ∧ w = w' := by
  unfold inM
  by_cases h1 : lo ≤ n
  · by_cases h2 : n ≤ hi
    · have e : decide (lo ≤ n ∧ n ≤ hi) = true := decide_eq_true ⟨h1, h2⟩
      rw [e]
      go_enter Try.func21, Try.ntmps21
      go_wp2
      go_ret
      exact ⟨rfl, rfl⟩
    · have e : decide (lo ≤ n ∧ n ≤ hi) = false := decide_eq_false fun h => h2 h.2
      rw [e]
      go_enter Try.func21, Try.ntmps21
      go_wp2
      go_ret
      exact ⟨rfl, rfl⟩
  · have e : decide (lo ≤ n ∧ n ≤ hi) = false := decide_eq_false fun h => h1 h.1
    rw [e]
    go_enter Try.func21, Try.ntmps21
    go_wp2
    go_ret
    exact ⟨rfl, rfl⟩
def toldB (t : List Int) (r : Int) : Bool := decide (t.length ≤ 60) && (inM r 1 10 && t.all fun x => inM x 0 20)
theorem toldB_parts {t : List Int} {r : Int} (h : toldB t r = true) : t.length ≤ 60 ∧ (1 ≤ r ∧ r ≤ 10) ∧ ∀ x ∈ t, 0 ≤ x ∧ x ≤ 20 := by
  unfold toldB inM at h
  rw [Bool.and_eq_true, Bool.and_eq_true, decide_eq_true_eq, decide_eq_true_eq, List.all_eq_true] at h
  exact ⟨h.1, h.2.1, fun x hx => of_decide_eq_true (h.2.2 x hx)⟩
theorem all_noN {t : List Int} {k : Nat} (h : k < t.length) (hb : inM t[k] 0 20 = false) : (t.all fun x => inM x 0 20) = false := by
  rw [List.all_eq_false]
  exact ⟨t[k], List.getElem_mem h, by simp [hb]⟩
theorem all_step {t : List Int} {k : Nat} (h : k < t.length) (h1 : ((t.take k).all fun x => inM x 0 20) = true) (h2 : inM t[k] 0 20 = true) : ((t.take (k + 1)).all fun x => inM x 0 20) = true := by
  rw [List.take_succ_eq_append_getElem h, List.all_append, h1]
  simp [h2]
theorem ownsN_lit (w : World) (x : Int) : OwnsN (w.alloc (.cells #[.int .i64 x] 2)) w.heap.size (.slice (some ⟨w.heap.size, 0, none⟩) 1 1) [x] :=
  World.ownsRow_lit w #[.int .i64 x] 1 (Nat.le_refl _) (by unfold maxLen; decide) rfl
end Go.Proofs.Ytkoikofaebfbjaa
