/-
  Drawn control, one and two: whatever the code.
-/
import Derived.Test.YtccnkmffadmfhaaGreatDoorCtlM
namespace Go.Proofs.YtccnkmffadmfhaaGreatDoor
open Go.RowKit Go.Sort
set_option linter.unusedVariables false
set_option linter.unusedSimpArgs false

set_option maxRecDepth 100000 in
set_option maxHeartbeats 2000000 in
theorem drawCok (sa : Option Addr) (sl sc : Nat) (w : World) (hc : Code8 w w.heap.size sa sl) (hl : sl ≤ 4096) :
    Calls Tryz.prog 16 #[.slice sa sl sc] w fun e w' => (∃ x : Ct, e = .returned (ctV x)) ∧ Below w.heap.size w w' := by
  have hN := born9 (.cells #[.int .i64 0, .int .i64 0, .int .i64 0, .bool false, .bool false, .bool false, .bool false] 25) sa sl sc w hc hl
  have b0 : Hid (Below w.heap.size w (w.alloc (.cells #[.int .i64 0, .int .i64 0, .int .i64 0, .bool false, .bool false, .bool false, .bool false] 25))) := (Below.refl _ w).alloc (Nat.le_refl _) _
  have Z0 : Hid (CtB (w.alloc (.cells #[.int .i64 0, .int .i64 0, .int .i64 0, .bool false, .bool false, .bool false, .bool false] 25)) w.heap.size ctZ) := CtB.born w ctZ 25
  clear hc
  go_enter Tryz.func16, Tryz.ntmps16
  go_wp2_with fail
  refine hN.mono ?_
  rintro e w1 ⟨rfl, hc1, hb1⟩
  have Z1 : Hid (CtB w1 w.heap.size ctZ) := Z0.out.kept (by simpa using hb1)
  have B1 : Hid (Below w.heap.size w w1) := b0.out.trans (hb1.mono (by omega))
  have z1 : w.heap.size + 1 < w1.heap.size := hc1.2.2.1
  have C1 : Hid (Cur w1 (w.heap.size + 1) sa sl sc) := hc1
  clear hN Z0 b0 hb1 hc1
  go_wp2_with fail
  refine (l9Draw (w.heap.size + 1) sa sl sc _ C1.out).mono ?_
  rintro e w2 ⟨⟨x, rfl⟩, c2, b2⟩
  have Z2 : Hid (CtB w2 w.heap.size ctZ) := Z1.out.bs b2 (by omega)
  have B2 : Hid (Below w.heap.size w w2) := B1.out.trans (b2.low (by omega) (by omega))
  clear c2 b2 Z1 B1 C1
  obtain ⟨xa, xs, xt, xns, xnc, xpr, xmu⟩ := x
  obtain ⟨z0, z1, z2, z3, z4, z5, z6⟩ := Z2.out.all
  have zf := Z2.out.fz
  have P1 := Z2.out.puts ⟨xa, xs, xt, xns, xnc, xpr, xmu⟩
  have HP : Hid _ := CtB.all P1
  have BP : Hid _ := putL_below (B := w.heap.size) (b := w.heap.size) (Nat.le_refl _) (ctE.c ⟨xa, xs, xt, xns, xnc, xpr, xmu⟩) 0 B2.out
  unfold ctZ at z0 z1 z2 z3 z4 z5 z6
  simp only at z0 z1 z2 z3 z4 z5 z6
  unfold ctV
  clear P1 Z2
  go_wp2
  obtain ⟨p0, p1, p2, p3, p4, p5, p6⟩ := HP.out
  rw [ctE_c] at p0 p1 p2 p3 p4 p5 p6
  have bp := BP.out
  rw [ctE_c] at bp
  simp only [putL, Nat.zero_add, Nat.reduceAdd] at p0 p1 p2 p3 p4 p5 p6 bp
  exact bodyPost_ret (v := ctV ⟨xa, xs, xt, xns, xnc, xpr, xmu⟩) (by unfold ctV; simp [results, Tryz.results16, go_sem, p0, p1, p2, p3, p4, p5, p6]) rfl ⟨⟨⟨xa, xs, xt, xns, xnc, xpr, xmu⟩, rfl⟩, bp⟩
set_option maxRecDepth 100000 in
set_option maxHeartbeats 2000000 in
theorem drawShC (sa : Option Addr) (sl sc : Nat) (w : World) (hc : Code8 w w.heap.size sa sl) (hl : sl ≤ 4096) :
    Calls Tryz.prog 5 #[.slice sa sl sc] w fun e w' => (∃ x : Ct, e = .returned (ctV x)) ∧ Below w.heap.size w w' := by
  have b0 : Hid (Below w.heap.size w (w.alloc (.cells #[.int .i64 0, .int .i64 0, .int .i64 0, .bool false, .bool false, .bool false, .bool false] 25))) := (Below.refl _ w).alloc (Nat.le_refl _) _
  have hD := drawCok sa sl sc (w.alloc (.cells #[.int .i64 0, .int .i64 0, .int .i64 0, .bool false, .bool false, .bool false, .bool false] 25)) (fun j hj => by
    obtain ⟨g, q, z, h1, h2, h3⟩ := (hc.kept b0.out (Nat.le_refl _)) j hj
    exact ⟨g, q, z, h1, Nat.lt_of_lt_of_le h2 b0.out.size, h3⟩) hl
  have Z0 : Hid (CtB (w.alloc (.cells #[.int .i64 0, .int .i64 0, .int .i64 0, .bool false, .bool false, .bool false, .bool false] 25)) w.heap.size ctZ) := CtB.born w ctZ 25
  clear hc
  go_enter Tryz.func5, Tryz.ntmps5
  go_wp2_with fail
  refine hD.mono ?_
  rintro e w2 ⟨⟨x, rfl⟩, b2⟩
  have Z2 : Hid (CtB w2 w.heap.size ctZ) := Z0.out.kept b2
  have B2 : Hid (Below w.heap.size w w2) := b0.out.trans (b2.mono (by simp))
  clear b2 Z0 b0 hD
  obtain ⟨xa, xs, xt, xns, xnc, xpr, xmu⟩ := x
  obtain ⟨z0, z1, z2, z3, z4, z5, z6⟩ := Z2.out.all
  have zf := Z2.out.fz
  have P1 := Z2.out.puts ⟨xa, xs, xt, xns, xnc, xpr, xmu⟩
  have HP : Hid _ := CtB.all P1
  have BP : Hid _ := putL_below (B := w.heap.size) (b := w.heap.size) (Nat.le_refl _) (ctE.c ⟨xa, xs, xt, xns, xnc, xpr, xmu⟩) 0 B2.out
  unfold ctZ at z0 z1 z2 z3 z4 z5 z6
  simp only at z0 z1 z2 z3 z4 z5 z6
  unfold ctV
  clear P1 Z2
  go_wp2
  obtain ⟨p0, p1, p2, p3, p4, p5, p6⟩ := HP.out
  rw [ctE_c] at p0 p1 p2 p3 p4 p5 p6
  have bp := BP.out
  rw [ctE_c] at bp
  simp only [putL, Nat.zero_add, Nat.reduceAdd] at p0 p1 p2 p3 p4 p5 p6 bp
  exact bodyPost_ret (v := ctV ⟨xa, xs, xt, xns, xnc, xpr, xmu⟩) (by unfold ctV; simp [results, Tryz.results5, go_sem, p0, p1, p2, p3, p4, p5, p6]) rfl ⟨⟨⟨xa, xs, xt, xns, xnc, xpr, xmu⟩, rfl⟩, bp⟩
end Go.Proofs.YtccnkmffadmfhaaGreatDoor
