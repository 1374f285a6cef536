/-
  The specification's servers, and those without one.
-/
import Derived.Test.YtdoolnaekmffbaaOwA
import Derived.Test.YtdoolnaekmffbaaRomB
namespace Go.Proofs.Ytdoolnaekmffbaa
open Go.RowKit Go.Sort Ow
set_option linter.unusedVariables false
set_option linter.unusedSimpArgs false

theorem pastO {w w1 w2 : World} (h : Below w.heap.size w w1) (hb : Below w1.heap.size w1 w2) : Below w.heap.size w w2 := h.trans (hb.mono h.size)
theorem gon_next {l : List Int} {k : Nat} {g : Int} (h : k < l.length) : gon (l.take (k + 1)) g = gon (l.take k) g ++ (if l[k] = g then [] else [l[k]]) := by
  unfold gon
  rw [List.take_succ_eq_append_getElem h, List.filter_append]
  congr 1
  by_cases e : l[k] = g
  · rw [if_pos e, List.filter_cons_of_neg (by simpa using e)]; rfl
  · rw [if_neg e, List.filter_cons_of_pos (by simpa using e)]; rfl
theorem gon_len (l : List Int) (g : Int) : (gon l g).length ≤ l.length := List.length_filter_le _ _
end Go.Proofs.Ytdoolnaekmffbaa
