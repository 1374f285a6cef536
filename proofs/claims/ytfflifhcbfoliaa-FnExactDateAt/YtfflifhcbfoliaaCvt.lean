/-
  The laws' own helpers: a date from its twin, and two dates held against each other.
-/
import Derived.Test.YtfflifhcbfoliaaGrew
import Derived.BigQuiet
namespace Go.Proofs.Ytfflifhcbfoliaa
open Go.RowKit Go.Sort

set_option maxHeartbeats 1000000 in
theorem toDate (y m d h i s : Int) (w : World) :
    Calls Try.prog 25 #[.agg #[.int .i64 y, .int .i64 m, .int .i64 d, .int .i64 h, .int .i64 i, .int .i64 s]] w fun e w' => e = .returned (.agg #[.int .i64 y, .int .i64 m, .int .i64 d, .int .i64 h, .int .i64 i, .int .i64 s]) ∧ Grew w w' := by
  go_enter Try.func25, Try.ntmps25
  go_wp2
  refine bodyPost_ret (v := .agg #[.int .i64 y, .int .i64 m, .int .i64 d, .int .i64 h, .int .i64 i, .int .i64 s]) (by simp [results, Try.results25, go_sem]) rfl ⟨rfl, (((Grew.refl w).alloc _).alloc _).alloc _⟩

set_option maxHeartbeats 1000000 in
theorem eqDate (y m d h i s : Int) (w : World) :
    Calls Try.prog 26 #[.agg #[.int .i64 y, .int .i64 m, .int .i64 d, .int .i64 h, .int .i64 i, .int .i64 s], .agg #[.int .i64 y, .int .i64 m, .int .i64 d, .int .i64 h, .int .i64 i, .int .i64 s]] w fun e w' => e = .returned (.bool true) ∧ Grew w w' := by
  go_enter Try.func26, Try.ntmps26
  go_wp2
  go_ret
  exact ⟨rfl, ((Grew.refl w).alloc _).alloc _⟩
end Go.Proofs.Ytfflifhcbfoliaa
