/-
  The program's checks of traces; the library's Index and Contains over numbers.
-/
import Derived.Test.YtdoolnaekmffbaaRomC
namespace Go.Proofs.Ytdoolnaekmffbaa
open Go.RowKit Go.Sort Rom
set_option linter.unusedVariables false
set_option linter.unusedSimpArgs false

def trcB (t : List Int) : Bool := decide (t.length ≤ 60) && t.all fun x => inM x 0 20
theorem told_trc (t : List Int) (r : Int) : toldB t r = (trcB t && inM r 1 10) := by
  unfold toldB trcB
  cases decide (t.length ≤ 60) <;> cases inM r 1 10 <;> cases (t.all fun x => inM x 0 20) <;> rfl
def idxA (l : List Int) (x : Int) : Int := if x ∈ l then (l.idxOf x : Int) else -1
theorem idx_at {x : Int} : ∀ (l : List Int) (k : Nat) (h : k < l.length), l[k] = x → x ∉ l.take k → l.idxOf x = k
  | [], k, h, _, _ => by simp at h
  | y :: l, 0, h, e, _ => by
    have e' : y = x := e
    rw [e', List.idxOf_cons_self]
  | y :: l, k + 1, h, e, hn => by
    have hy : y ≠ x := fun e2 => hn (by rw [List.take_succ_cons, e2]; exact List.mem_cons_self ..)
    rw [idx_ne l hy, idx_at l k (by simpa using h) (by simpa using e) (fun hm => hn (by rw [List.take_succ_cons]; exact List.mem_cons_of_mem _ hm))]
theorem idxA_at {l : List Int} {x : Int} {k : Nat} (h : k < l.length) (e : l[k] = x) (hn : x ∉ l.take k) : idxA l x = (k : Int) := by
  unfold idxA
  rw [if_pos (by rw [← e]; exact List.getElem_mem h), idx_at l k h e hn]
theorem idxA_no {l : List Int} {x : Int} (h : x ∉ l) : idxA l x = -1 := by unfold idxA; rw [if_neg h]
theorem idxA_in {l : List Int} {x : Int} (h : x ∈ l) : idxA l x = (l.idxOf x : Int) ∧ l.idxOf x < l.length := by unfold idxA; rw [if_pos h]; exact ⟨rfl, List.idxOf_lt_length_of_mem h⟩
end Go.Proofs.Ytdoolnaekmffbaa
