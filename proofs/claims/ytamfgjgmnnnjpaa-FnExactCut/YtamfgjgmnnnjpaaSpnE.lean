/-
  The specification's ShowSpan by its contract.
-/
import Derived.Test.YtamfgjgmnnnjpaaSpnC
import Derived.Test.YtamfgjgmnnnjpaaIntZ
import Derived.Lib.QuietBelow
import Derived.BigQuiet
namespace Go.Proofs.Ytamfgjgmnnnjpaa
open Go.RowKit Go.Sort
set_option linter.unusedVariables false

/-- What ShowSpan answers. -/
def byU : ByteArray := ⟨#[98, 121, 116, 101, 115, 32]⟩
def shwS (x : Sp) (n : Int) : ByteArray := if spB x = true ∧ x.2 < n then byU ++ itoS x.1.toNat ++ (⟨#[45]⟩ : ByteArray) ++ itoS x.2.toNat ++ (⟨#[47]⟩ : ByteArray) ++ itoS n.toNat else ⟨#[]⟩
theorem shwS_no {x : Sp} {n : Int} (h : ¬ (spB x = true ∧ x.2 < n)) : shwS x n = ⟨#[]⟩ := by unfold shwS; rw [if_neg h]
theorem shwS_yes {x : Sp} {n : Int} (h1 : spB x = true) (h2 : x.2 < n) : shwS x n = byU ++ itoS x.1.toNat ++ (⟨#[45]⟩ : ByteArray) ++ itoS x.2.toNat ++ (⟨#[47]⟩ : ByteArray) ++ itoS n.toNat := by unfold shwS; rw [if_pos ⟨h1, h2⟩]
end Go.Proofs.Ytamfgjgmnnnjpaa
