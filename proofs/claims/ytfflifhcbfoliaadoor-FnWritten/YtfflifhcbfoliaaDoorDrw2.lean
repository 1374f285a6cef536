/-
  The drawing functions of dates, out of their code.
-/
import Derived.Test.YtfflifhcbfoliaaDoorDrw
namespace Go.Proofs.YtfflifhcbfoliaaDoor
open Go.RowKit Go.Sort

set_option maxHeartbeats 1000000 in
theorem drawDateOk (sa : Option Addr) (sl sc : Nat) (w : World) (hc : Code8 w w.heap.size sa sl) (hl : sl ≤ 4096) :
    Calls Tryd.prog 17 #[.slice sa sl sc] w fun e w' => (∃ y m d h i s : Int, e = .returned (.agg #[.int .i64 y, .int .i64 m, .int .i64 d, .int .i64 h, .int .i64 i, .int .i64 s])) ∧ Below w.heap.size w w' := by
  have hal := fun o => (Below.refl w.heap.size w).alloc (Nat.le_refl _) o
  go_enter Tryd.func17, Tryd.ntmps17
  go_wp2_with fail
  refine (l1New sa sl sc _ (hc.up (hal _)) hl).mono ?_
  rintro e w1 ⟨rfl, hc1, hb1⟩
  have S1 : Six w1 w.heap.size := (Six.born w 25 0 0 0 0 0 0).below hb1 (by simp)
  have B1 : Below w.heap.size w w1 := (hal _).trans (lower hb1 (by simp))
  have hc1' : Cur w1 (w.heap.size + 1) sa sl sc := by simpa using hc1
  clear hb1 hal hc1
  go_wp2_with fail
  refine (l2DrawAny _ sa sl sc _ hc1').mono ?_
  rintro e w2 ⟨⟨y, m, d, h, i, s, rfl⟩, hc2, hb2⟩
  have S2 := S1.beside hb2 (by omega)
  have B2 : Below w.heap.size w w2 := B1.trans (hb2.low (by omega) B1.size)
  clear S1 B1 hb2
  obtain ⟨a0, a1, a2, a3, a4, a5, c0, c1, c2, c3, c4, c5⟩ := S2.cells
  obtain ⟨f0, f1, f2, f3, f4, f5⟩ := S2.free
  clear S2
  go_wp2
  refine bodyPost_ret (v := .agg #[.int .i64 y, .int .i64 m, .int .i64 d, .int .i64 h, .int .i64 i, .int .i64 s]) (by simp [results, Tryd.results17, go_sem, c0, c1, c2, c3, c4, c5]) rfl ⟨⟨_, _, _, _, _, _, rfl⟩, B2.trans (six_puts _ (Nat.le_refl _) _ _ _ _ _ _)⟩

end Go.Proofs.YtfflifhcbfoliaaDoor
