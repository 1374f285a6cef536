/-
  Short forms.
-/
import Derived.Below
import Derived.Deep.Draws
namespace Go.Proofs.YtdkhdjickkcaiaaGreat
open Go.RowKit
set_option linter.unusedVariables false
theorem hH_ {p : Prop} (h : p) : Hid p := h
theorem kI_ {n i : Nat} {G : Nat → Value → Prop} : ∀ j u, j < n → j ≠ i → G j u → G j u := fun _ _ _ _ h => h
theorem dwB (w : World) : Below w.heap.size w w.drew := ⟨rfl, rfl, rfl, Nat.le_refl _, fun _ _ => rfl⟩
theorem dwNB (w : World) (n : Nat) : Below w.heap.size w (w.drewN n) := ⟨rfl, rfl, rfl, Nat.le_refl _, fun _ _ => rfl⟩
theorem ltS {i n : Nat} (h : i < n + 1) : i < n ∨ i = n := Nat.lt_succ_iff_lt_or_eq.1 h
end Go.Proofs.YtdkhdjickkcaiaaGreat
