/-
  The lesser of two numbers that may not be told, by its contract.
-/
import Derived.Test.YtccnkmffadmfhaaCtlX
namespace Go.Proofs.Ytccnkmffadmfhaa
open Go.RowKit Go.Sort
set_option linter.unusedVariables false

def lsrI (a b : Int) : Int := if a = -1 ∨ b = -1 then max a b else min a b
theorem lsr_less {a b : Int} (ha : -1 ≤ a) (hb : -1 ≤ b) : lessI a b = lsrI a b := by
  unfold lessI lsrI minI
  by_cases h : a = -1 ∨ b = -1
  · rw [if_pos h]
    repeat' split
    all_goals omega
  · rw [if_neg h]
    repeat' split
    all_goals omega
def tgtL (a b : Ct) : Ct := ⟨lsrI a.a b.a, lsrI a.s b.s, lsrI a.t b.t, a.ns || b.ns, a.nc || b.nc, a.pr || b.pr, a.mu || b.mu⟩
theorem tgt_lsr {a b : Ct} (ha : ctB a = true) (hb : ctB b = true) : tgt a b = tgtL a b := by
  have h1 := ct_low ha
  have h2 := ct_low hb
  unfold tgt tgtL
  rw [lsr_less h1.1 h2.1, lsr_less h1.2.1 h2.2.1, lsr_less h1.2.2 h2.2.2]
theorem implLsr (a b : Int) (w : World) : Calls Try.prog 14 #[.int .i64 a, .int .i64 b] w fun e w' => e = .returned (.int .i64 (lsrI a b)) ∧ w = w' := by
  have H1 : Hid (lsrI a b = if a = -1 ∨ b = -1 then max a b else min a b) := rfl
  generalize lsrI a b = L at H1 ⊢
  by_cases h : a = -1
  · subst h
    have H : Hid (max (-1) b = L) := (by rw [H1.out, if_pos (.inl rfl)] : max (-1) b = L)
    clear H1
    go_enter Try.func14, Try.ntmps14
    go_wp2
    all_goals
      go_ret
      refine ⟨ret_i9 ?_, rfl⟩
      have := H.out
      omega
  · by_cases h2 : b = -1
    · subst h2
      have H : Hid (max a (-1) = L) := (by rw [H1.out, if_pos (.inr rfl)] : max a (-1) = L)
      clear H1
      go_enter Try.func14, Try.ntmps14
      go_wp2
      all_goals
        go_ret
        refine ⟨ret_i9 ?_, rfl⟩
        have := H.out
        omega
    · have H : Hid (min a b = L) := (by rw [H1.out, if_neg (by rintro (e | e); exact h e; exact h2 e)] : min a b = L)
      have d1 : (a == -1) = false := by simpa using h
      have d2 : (b == -1) = false := by simpa using h2
      clear H1
      go_enter Try.func14, Try.ntmps14
      go_wp2
      all_goals
        go_ret
        refine ⟨ret_i9 ?_, rfl⟩
        have := H.out
        omega
end Go.Proofs.Ytccnkmffadmfhaa
