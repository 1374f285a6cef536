/-
  The contracts of the functions that tell a token.
-/
import Derived.Test.YtmgmphkncgochaaDoorRows
import Derived.Test.YtmgmphkncgochaaDoorPlain
import Derived.WalkKit
import Derived.WalkSpells
namespace Go.Proofs.YtmgmphkncgochaaDoor
open Go.RowKit

set_option maxHeartbeats 1000000 in
set_option maxRecDepth 100000 in
theorem isTok (r : Int) (w : World) :
    Calls Tryd.prog 64 #[.int .i32 r] w fun e w' => e = .returned (.bool (tokN r)) ∧ w' = w := by
  go_enter Tryd.func64, Tryd.ntmps64
  go_wp2
  all_goals go_ret
  all_goals refine ⟨ret_bool ?_, rfl⟩
  all_goals try simp only [beq_iff_eq, beq_eq_false_iff_ne, ne_eq] at *
  all_goals first | (refine tokN_yes (r := r) ?_; omega) | (refine tokN_no (r := r) ?_; omega)
end Go.Proofs.YtmgmphkncgochaaDoor
