/-
  The walk of the exact law of Hash, given what the program's Hash answers.
-/
import Derived.Test.YtdbeoloonoodkaaOwA
namespace Go.Proofs.Ytdbeoloonoodkaa
open Go.RowKit Go.Sort Ow
set_option linter.unusedVariables false

theorem walkHsh (hi : ∀ (s : ByteArray) (w : World), s.size ≤ 1048576 → Calls Try.prog 5 #[.string s] w fun e w' => e = .returned (.int .i64 (hshL s.data.toList : Nat)) ∧ Below w.heap.size w w')
    (s : ByteArray) (w : World) : Calls Try.prog 3 #[.string s] w fun e w' => e = .returned (.bool true) ∧ Below w.heap.size w w' := by
  by_cases hf : s.size ≤ 1048576
  · have h1 := fun W => specHsh s W (by unfold maxLen; omega)
    have h2 := fun W => hi s W hf
    generalize hshL s.data.toList = T at h1 h2
    have dT : ((T : Int) != (T : Int)) = false := by simp
    clear hi
    go_enter Try.func3, Try.ntmps3
    go_wp2_with fail
    refine (h1 _).mono ?_
    rintro e w1 ⟨rfl, rfl⟩
    go_wp2_with fail
    refine (h2 _).mono ?_
    rintro e w2 ⟨rfl, hb⟩
    have HB : Hid _ := hb
    clear hb
    go_wp2
    go_ret
    exact ⟨rfl, HB.out⟩
  · clear hi
    have hf2 : (1048576 : Int) < (s.size : Int) := by omega
    go_enter Try.func3, Try.ntmps3
    go_wp2
    go_ret
    exact ⟨rfl, Below.refl _ _⟩
end Go.Proofs.Ytdbeoloonoodkaa
