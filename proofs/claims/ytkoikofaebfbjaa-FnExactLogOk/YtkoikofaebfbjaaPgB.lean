/-
  The specification's purges by their contracts: what is shown, what is read.
-/
import Derived.Test.YtkoikofaebfbjaaPgA
import Derived.Deep.RegionWith
namespace Go.Proofs.Ytkoikofaebfbjaa
open Go.RowKit Pg
set_option linter.unusedVariables false
set_option linter.unusedSimpArgs false

set_option maxRecDepth 100000 in
set_option maxHeartbeats 2000000 in
theorem specSho (k : Int) (s : ByteArray) (w : World) (hs : s.size ≤ 2000000) (hk : 1 ≤ k ∧ k ≤ 4) :
    Calls Try.prog 23 #[pgV k s] w fun e w' => e = .returned (.string (shoP k s)) ∧ Below w.heap.size w w' := by
  have B0 : Hid (Below w.heap.size w (w.alloc (.cells #[.int .i64 k, .string s] 26))) := (Below.refl _ w).alloc (Nat.le_refl _) _
  have X0 : Hid (Bx (w.alloc (.cells #[.int .i64 k, .string s] 26)) w.heap.size 26 #[.int .i64 k, .string s]) := (show Hid _ from Bx.new w 26 #[.int .i64 k, .string s])
  unfold pgV
  go_enter Try.func23, Try.ntmps23
  generalize hwA : w.alloc (.cells #[.int .i64 k, .string s] 26) = wA at B0 X0
  have x0 := X0.out.cell 0
  have x1 := X0.out.cell 1
  have xl := X0.out.lt
  have hsz : w.heap.size ≤ wA.heap.size := by omega
  have HD : Hid (∀ o, Below w.heap.size w (wA.drew.alloc o) ∧ Below w.heap.size w ((wA.alloc o).drew)) := (show ∀ _, _ from fun o => ⟨B0.out.drew.alloc hsz _, (B0.out.alloc hsz _).drew⟩)
  rcases (show k = 1 ∨ k = 2 ∨ k = 3 ∨ k = 4 by omega) with rfl | rfl | rfl | rfl
  · go_wp2_with fail
    go_region
    all_goals
      go_wp2
      go_ret
      exact ⟨rfl, by first | exact (HD.out _).1 | exact (HD.out _).2⟩
  · go_wp2_with fail
    go_region
    all_goals
      go_wp2
      go_ret
      exact ⟨rfl, by first | exact (HD.out _).1 | exact (HD.out _).2⟩
  · go_wp2_with fail
    go_region
    all_goals
      go_wp2
      go_ret
      exact ⟨rfl, by first | exact (HD.out _).1 | exact (HD.out _).2⟩
  · go_wp2
    go_ret
    exact ⟨rfl, B0.out⟩
theorem pg_kind {k : Int} {s : ByteArray} (h : pgOk k s = true) : 1 ≤ k ∧ k ≤ 4 := by
  unfold pgOk at h
  split at h
  · omega
  · rw [Bool.and_eq_true, decide_eq_true_eq] at h
    omega
theorem specShp (k : Int) (s : ByteArray) (w : World) (hs : s.size ≤ 2000000) :
    Calls Try.prog 11 #[pgV k s] w fun e w' => e = .returned (.string (shwP k s)) ∧ Below w.heap.size w w' := by
  have hO := fun W => specPgo k s W (by unfold maxLen; omega)
  have hS := fun W h => specSho k s W hs h
  have B0 : Hid (Below w.heap.size w (w.alloc (.cells #[.int .i64 k, .string s] 26))) := (Below.refl _ w).alloc (Nat.le_refl _) _
  have X0 : Hid (Bx (w.alloc (.cells #[.int .i64 k, .string s] 26)) w.heap.size 26 #[.int .i64 k, .string s]) := (show Hid _ from Bx.new w 26 #[.int .i64 k, .string s])
  unfold pgV at *
  go_enter Try.func11, Try.ntmps11
  generalize hwA : w.alloc (.cells #[.int .i64 k, .string s] 26) = wA at B0 X0
  have x0 := X0.out.cell 0
  have x1 := X0.out.cell 1
  go_wp2_with fail
  refine (hO _).mono ?_
  rintro e w1 ⟨rfl, hb1⟩
  have B1 : Hid (Below w.heap.size w w1) := (show Hid _ from B0.out.trans (hb1.mono B0.out.size))
  have X1 : Hid (Bx w1 w.heap.size 26 #[.int .i64 k, .string s]) := X0.out.kept hb1
  clear hb1 x0 x1 hO B0 X0 hwA
  cases hok : pgOk k s with
  | false =>
    have HE : Hid (shwP k s = ⟨#[]⟩) := by show _ = _; unfold shwP; rw [hok]; rfl
    go_wp2
    go_ret
    exact ⟨by rw [HE.out]; rfl, B1.out⟩
  | true =>
    have HE : Hid (shwP k s = shoP k s) := by show _ = _; unfold shwP; rw [if_pos hok]
    have hS := fun W => hS W (pg_kind hok)
    have x0 := X1.out.cell 0
    have x1 := X1.out.cell 1
    clear hok
    go_wp2_with fail
    refine (hS _).mono ?_
    rintro e w2 ⟨rfl, hb2⟩
    have B2 : Hid (Below w.heap.size w w2) := (show Hid _ from B1.out.trans (hb2.mono B1.out.size))
    clear hb2 B1 X1 x0 x1
    go_wp2
    go_ret
    exact ⟨by rw [HE.out]; rfl, B2.out⟩
end Go.Proofs.Ytkoikofaebfbjaa
