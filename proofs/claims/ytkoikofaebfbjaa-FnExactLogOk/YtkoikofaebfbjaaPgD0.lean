/-
  The laws' own helpers on purges.
-/
import Derived.Test.YtkoikofaebfbjaaPgC
namespace Go.Proofs.Ytkoikofaebfbjaa
open Go.RowKit Pg
set_option linter.unusedVariables false
set_option linter.unusedSimpArgs false

theorem szPg (k : Int) (s : ByteArray) (left : Int) (h0 : 0 ≤ left) (h1 : left ≤ 1048576) (w : World) (hs : s.size ≤ maxLen) :
    Calls Try.prog 7 #[pgV k s, .int .i64 left] w fun e w' => e = .returned (.int .i64 (if left - (s.size : Int) < 0 then -1 else left - (s.size : Int))) ∧ Below w.heap.size w w' := by
  have B0 : Hid (Below w.heap.size w (w.alloc (.cells #[.int .i64 k, .string s] 23))) := (Below.refl _ w).alloc (Nat.le_refl _) _
  unfold pgV
  unfold maxLen at hs
  have ew : IntKind.i64.wrap (left - (s.size : Int)) = left - (s.size : Int) := by rw [IntKind.wrap_i64]; omega
  by_cases hn : left - (s.size : Int) < 0
  · rw [if_pos hn]
    go_enter Try.func7, Try.ntmps7
    go_wp2
    go_ret
    exact ⟨rfl, B0.out⟩
  · rw [if_neg hn]
    go_enter Try.func7, Try.ntmps7
    go_wp2
    go_ret
    exact ⟨rfl, B0.out⟩
set_option maxRecDepth 100000 in
theorem toPg (k : Int) (s : ByteArray) (w : World) : Calls Try.prog 9 #[pgV k s] w fun e w' => e = .returned (pgV k s) ∧ Below w.heap.size w w' := by
  unfold pgV
  have B0 : Below w.heap.size w (((w.alloc (.cells #[.int .i64 k, .string s] 23)).alloc (.cells #[.int .i64 0, .string ⟨#[]⟩] 26)).alloc (.cells #[.int .i64 0, .string ⟨#[]⟩] 26)) := (((Below.refl _ w).alloc (Nat.le_refl _) _).alloc (by simp) _).alloc (by simp; omega) _
  have X0 := ((Bx.new w 23 #[.int .i64 k, .string s]).alloc (.cells #[.int .i64 0, .string ⟨#[]⟩] 26)).alloc (.cells #[.int .i64 0, .string ⟨#[]⟩] 26)
  have X1 := (Bx.new (w.alloc (.cells #[.int .i64 k, .string s] 23)) 26 #[.int .i64 0, .string ⟨#[]⟩]).alloc (.cells #[.int .i64 0, .string ⟨#[]⟩] 26)
  have X2 := Bx.new ((w.alloc (.cells #[.int .i64 k, .string s] 23)).alloc (.cells #[.int .i64 0, .string ⟨#[]⟩] 26)) 26 #[.int .i64 0, .string ⟨#[]⟩]
  rw [show (w.alloc (.cells #[.int .i64 k, .string s] 23)).heap.size = w.heap.size + 1 from by simp] at X1
  rw [show ((w.alloc (.cells #[.int .i64 k, .string s] 23)).alloc (.cells #[.int .i64 0, .string ⟨#[]⟩] 26)).heap.size = w.heap.size + 1 + 1 from by simp] at X2
  have HB : Hid _ := B0
  go_enter Try.func9, Try.ntmps9
  generalize hwA : ((w.alloc (.cells #[.int .i64 k, .string s] 23)).alloc (.cells #[.int .i64 0, .string ⟨#[]⟩] 26)).alloc (.cells #[.int .i64 0, .string ⟨#[]⟩] 26) = wA at B0 X0 X1 X2
  have a0 := X0.cell 0
  have a1 := X0.cell 1
  have b0 := X1.cell 0
  have b1 := X1.cell 1
  have c0 := X2.cell 0
  have c1 := X2.cell 1
  have fb0 := X1.free 0
  have fb1 := X1.free 1
  have fc0 := X2.free 0
  have fc1 := X2.free 1
  have HB2 : Hid (Below w.heap.size w wA) := B0
  clear X0 X1 X2 B0
  go_wp2
  refine bodyPost_ret (v := .agg #[.int .i64 k, .string s]) (by simp [results, Try.results9, go_sem, b0, b1, c0, c1]) rfl ⟨rfl, ?_⟩
  repeat (first | refine Below.setCell ?_ (by simp; omega) _ | refine Below.setCell ?_ (by simp) _)
  exact HB2.out
theorem eqPg (k : Int) (s : ByteArray) (w : World) : Calls Try.prog 15 #[pgV k s, pgV k s] w fun e w' => e = .returned (.bool true) ∧ Below w.heap.size w w' := by
  unfold pgV
  have B0 : Hid (Below w.heap.size w ((w.alloc (.cells #[.int .i64 k, .string s] 26)).alloc (.cells #[.int .i64 k, .string s] 26))) := ((Below.refl _ w).alloc (Nat.le_refl _) _).alloc (by simp) _
  go_enter Try.func15, Try.ntmps15
  go_wp2
  go_ret
  exact ⟨rfl, B0.out⟩
theorem pg_fit {s : ByteArray} (h : ¬ (if (1048576 : Int) - (s.size : Int) < 0 then (-1 : Int) else 1048576 - (s.size : Int)) < 0) : s.size ≤ 1048576 := by
  split at h <;> omega
theorem pastG {w w1 w2 : World} (h : Below w.heap.size w w1) (hb : Below w1.heap.size w1 w2) : Below w.heap.size w w2 := h.trans (hb.mono h.size)
end Go.Proofs.Ytkoikofaebfbjaa
