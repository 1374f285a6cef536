/-
  The specification's Perhaps and Both.
-/
import Derived.Test.YtdoolnaekmffbaaSkC
import Derived.Deep.RegionWith
namespace Go.Proofs.Ytdoolnaekmffbaa
open Go.RowKit Go.Sort Ow Sk
set_option linter.unusedVariables false
set_option linter.unusedSimpArgs false

set_option maxRecDepth 100000 in
set_option maxHeartbeats 2000000 in
theorem specPrh (n : Int) (v : Value) (l : List Int) (key : ByteArray) (w : World) (h : Sls intE w v l) (hk : key.size ≤ 1048576) :
    Calls Try.prog 23 #[skV n v, .string key] w fun e w' => e = .returned (.bool (prhB n l key)) ∧ Below w.heap.size w w' := by
  obtain ⟨a, cap, rfl, _⟩ := h.one
  have hS := fun W hW => specSko n (.slice a l.length cap) l W hW
  have hM := fun W hW => specMrk n (.slice a l.length cap) l key W hW hk
  have B0 : Hid (Below w.heap.size w (w.alloc (.cells #[.int .i64 n, .slice a l.length cap] 26))) := (Below.refl _ w).alloc (Nat.le_refl _) _
  have X0 : Hid (Bx (w.alloc (.cells #[.int .i64 n, .slice a l.length cap] 26)) w.heap.size 26 #[.int .i64 n, .slice a l.length cap]) := (show Hid _ from Bx.new w 26 _)
  have V0 : Hid (Sls intE (w.alloc (.cells #[.int .i64 n, .slice a l.length cap] 26)) (.slice a l.length cap) l) := h.kept B0.out
  have hfd : ∀ (q : Int) (u : Value) (W : World), (Instr.field 26 (.agg #[.int .i64 q, u]) 1).run Try.prog W = .ok u W := fun _ _ _ => by kernel_rfl
  unfold skV at *
  clear h
  go_enter Try.func23, Try.ntmps23
  generalize hwA : w.alloc (.cells #[.int .i64 n, .slice a l.length cap] 26) = wA at B0 X0 V0
  have x0 := X0.out.cell 0
  have x1 := X0.out.cell 1
  go_wp2_with fail
  refine (hS _ V0.out).mono ?_
  rintro e w1 ⟨rfl, hb1⟩
  have B1 : Hid (Below w.heap.size w w1) := (show Hid _ from pastK B0.out hb1)
  have X1 : Hid (Bx w1 w.heap.size 26 #[.int .i64 n, .slice a l.length cap]) := X0.out.kept hb1
  have V1 : Hid (Sls intE w1 (.slice a l.length cap) l) := V0.out.kept hb1
  clear hb1 x0 x1 hwA B0 X0 V0 hS
  cases hok : skOk n l with
  | false =>
    have HR : Hid (prhB n l key = false) := by show _ = _; unfold prhB; rw [hok]; rfl
    go_wp2
    go_ret
    exact ⟨congrArg (fun b => Ending.returned (.bool b)) HR.out.symm, B1.out⟩
  | true =>
    have HR : Hid (prhB n l key = (((mrkL n l key).length : Int) == (l.length : Int))) := by
      show _ = _
      unfold prhB
      rw [if_pos hok]
      by_cases e : (mrkL n l key).length = l.length
      · rw [decide_eq_true e, e]; simp
      · rw [decide_eq_false e]; symm; rw [beq_eq_false_iff_ne]; omega
    have x0 := X1.out.cell 0
    have x1 := X1.out.cell 1
    generalize mrkL n l key = L at hM HR
    generalize mrkQ n l = Q at hM
    have HX : Hid (∀ W, Below w1.heap.size w1 W → W.cell? ⟨w.heap.size, 0, none⟩ = some (.int .i64 n) ∧ W.cell? ⟨w.heap.size, 1, none⟩ = some (.slice a l.length cap)) := (show ∀ _, _ from fun W hW => ⟨(X1.out.kept hW).cell 0, (X1.out.kept hW).cell 1⟩)
    clear hok X1
    go_wp2_with fail
    go_region_with (go_at_call 21; refine (hM _ (by exact V1.out)).mono ?_; rintro e w2 ⟨u2, rfl, ho2, hb2⟩; obtain ⟨a2, c2, rfl, _⟩ := ho2.form; have hf2 := hfd Q (.slice a2 L.length c2); have hb2' : Below w1.heap.size w1 w2 := ⟨hb2.os, hb2.tape, hb2.output, hb2.size, hb2.block⟩; have y1 := (HX.out _ hb2').2; have y0 := (HX.out _ hb2').1; have B2 : Hid (Below w.heap.size w w2) := (show Hid _ from pastK B1.out hb2'); clear ho2 hb2 hb2')
    all_goals
      go_wp2
      go_ret
      exact ⟨congrArg (fun b => Ending.returned (.bool b)) HR.out.symm, B2.out⟩
end Go.Proofs.Ytdoolnaekmffbaa
