/-
  The laws' own helpers: a date from its twin, and two dates held against each other.
-/
import Derived.Test.YtfflifhcbfoliaaDoorGrew
import Derived.BigQuiet
namespace Go.Proofs.YtfflifhcbfoliaaDoor
open Go.RowKit Go.Sort

set_option maxHeartbeats 1000000 in
theorem toDate (y m d h i s : Int) (w : World) :
    Calls Tryd.prog 15 #[.agg #[.int .i64 y, .int .i64 m, .int .i64 d, .int .i64 h, .int .i64 i, .int .i64 s]] w fun e w' => e = .returned (.agg #[.int .i64 y, .int .i64 m, .int .i64 d, .int .i64 h, .int .i64 i, .int .i64 s]) ∧ Grew w w' := by
  go_enter Tryd.func15, Tryd.ntmps15
  go_wp2
  refine bodyPost_ret (v := .agg #[.int .i64 y, .int .i64 m, .int .i64 d, .int .i64 h, .int .i64 i, .int .i64 s]) (by simp [results, Tryd.results15, go_sem]) rfl ⟨rfl, (((Grew.refl w).alloc _).alloc _).alloc _⟩

set_option maxHeartbeats 1000000 in
theorem eqDate (y m d h i s : Int) (w : World) :
    Calls Tryd.prog 16 #[.agg #[.int .i64 y, .int .i64 m, .int .i64 d, .int .i64 h, .int .i64 i, .int .i64 s], .agg #[.int .i64 y, .int .i64 m, .int .i64 d, .int .i64 h, .int .i64 i, .int .i64 s]] w fun e w' => e = .returned (.bool true) ∧ Grew w w' := by
  go_enter Tryd.func16, Tryd.ntmps16
  go_wp2
  go_ret
  exact ⟨rfl, ((Grew.refl w).alloc _).alloc _⟩
end Go.Proofs.YtfflifhcbfoliaaDoor
