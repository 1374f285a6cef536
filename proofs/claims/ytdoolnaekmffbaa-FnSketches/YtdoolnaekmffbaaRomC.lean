/-
  The specification's Distance.
-/
import Derived.Test.YtdoolnaekmffbaaRomB
import Derived.Deep.DeepCutAuto
import Derived.Lib.QuietBelow
namespace Go.Proofs.Ytdoolnaekmffbaa
open Go.RowKit Go.Sort Rom
set_option linter.unusedVariables false
set_option linter.unusedSimpArgs false

def disA (t : List Int) (at' : Int) : Int := if toldB t 1 = true ∧ inM at' 0 ((t.length : Int) - 1) = true then (dis t at'.toNat : Int) else -1
theorem rev_next {t : List Int} {m : Nat} (h : m < t.length) : (t.take (m + 1)).reverse = t[m] :: (t.take m).reverse := by
  rw [List.take_succ_eq_append_getElem h, List.reverse_append]
  rfl
theorem disF_next (x y : Int) (seen ys : List Int) : disF x seen (y :: ys) = if y = x then (if y ∈ seen then seen else seen ++ [y]).length else disF x (if y ∈ seen then seen else seen ++ [y]) ys := rfl
end Go.Proofs.Ytdoolnaekmffbaa
