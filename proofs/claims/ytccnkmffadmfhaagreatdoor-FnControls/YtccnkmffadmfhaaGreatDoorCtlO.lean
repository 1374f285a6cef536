/-
  Two drawn controls: whatever the code.
-/
import Derived.Test.YtccnkmffadmfhaaGreatDoorCtlN
namespace Go.Proofs.YtccnkmffadmfhaaGreatDoor
open Go.RowKit Go.Sort
set_option linter.unusedVariables false
set_option linter.unusedSimpArgs false

/-- All cells of two blocks stored, one behind the other. -/
theorem put_two {w : World} {b c : Nat} {x0 y0 : Ct} (hx : CtB w b x0) (hy : CtB w c y0) (hne : b ≠ c) (x y : Ct) : CtB (putL (putL w b (ctE.c x) 0) c (ctE.c y) 0) b x ∧ CtB (putL (putL w b (ctE.c x) 0) c (ctE.c y) 0) c y := by
  have h1 := hx.puts x
  generalize hW : putL w b (ctE.c x) 0 = W at h1 ⊢
  have e1 : W.heap[c]? = w.heap[c]? := by rw [← hW]; exact putL_block b _ 0 w c (Ne.symm hne)
  have e2 : W.heap.size = w.heap.size := by rw [← hW]; exact putL_size b _ 0 w
  have h2 : CtB W c y0 := hy.same e1 (Nat.le_of_eq e2.symm)
  have h3 := h2.puts y
  generalize hV : putL W c (ctE.c y) 0 = V at h3 ⊢
  have e3 : V.heap[b]? = W.heap[b]? := by rw [← hV]; exact putL_block c _ 0 W b hne
  have e4 : V.heap.size = W.heap.size := by rw [← hV]; exact putL_size c _ 0 W
  exact ⟨h1.same e3 (Nat.le_of_eq e4.symm), h3⟩
set_option maxRecDepth 100000 in
set_option maxHeartbeats 4000000 in
theorem drawTgt (sa : Option Addr) (sl sc : Nat) (w : World) (hc : Code8 w w.heap.size sa sl) (hl : sl ≤ 4096) :
    Calls Tryz.prog 9 #[.slice sa sl sc] w fun e w' => (∃ x y : Ct, e = .returned (.tuple #[ctV x, ctV y])) ∧ Below w.heap.size w w' := by
  have hN := born9b (.cells #[.int .i64 0, .int .i64 0, .int .i64 0, .bool false, .bool false, .bool false, .bool false] 25) (.cells #[.int .i64 0, .int .i64 0, .int .i64 0, .bool false, .bool false, .bool false, .bool false] 25) sa sl sc w hc hl
  have b0 : Hid (Below w.heap.size w ((w.alloc (.cells #[.int .i64 0, .int .i64 0, .int .i64 0, .bool false, .bool false, .bool false, .bool false] 25)).alloc (.cells #[.int .i64 0, .int .i64 0, .int .i64 0, .bool false, .bool false, .bool false, .bool false] 25))) := ((Below.refl _ w).alloc (Nat.le_refl _) _).alloc (by simp) _
  have Z0 : Hid (CtB ((w.alloc (.cells #[.int .i64 0, .int .i64 0, .int .i64 0, .bool false, .bool false, .bool false, .bool false] 25)).alloc (.cells #[.int .i64 0, .int .i64 0, .int .i64 0, .bool false, .bool false, .bool false, .bool false] 25)) w.heap.size ctZ) := (CtB.born w ctZ 25).alloc _
  have Y0 : Hid (CtB ((w.alloc (.cells #[.int .i64 0, .int .i64 0, .int .i64 0, .bool false, .bool false, .bool false, .bool false] 25)).alloc (.cells #[.int .i64 0, .int .i64 0, .int .i64 0, .bool false, .bool false, .bool false, .bool false] 25)) (w.heap.size + 1) ctZ) := by
    have := CtB.born (w.alloc (.cells #[.int .i64 0, .int .i64 0, .int .i64 0, .bool false, .bool false, .bool false, .bool false] 25)) ctZ 25
    simp only [World.size_alloc] at this
    exact this
  clear hc
  go_enter Tryz.func9, Tryz.ntmps9
  go_wp2_with fail
  refine hN.mono ?_
  rintro e w1 ⟨rfl, hc1, hb1⟩
  have Z1 : Hid (CtB w1 w.heap.size ctZ) := Z0.out.kept (by simpa using hb1)
  have Y1 : Hid (CtB w1 (w.heap.size + 1) ctZ) := Y0.out.kept (by simpa using hb1)
  have B1 : Hid (Below w.heap.size w w1) := b0.out.trans (hb1.mono (by omega))
  have z1 : w.heap.size + 1 + 1 < w1.heap.size := hc1.2.2.1
  have C1 : Hid (Cur w1 (w.heap.size + 1 + 1) sa sl sc) := hc1
  clear hN Z0 Y0 b0 hb1 hc1
  go_wp2_with fail
  refine (l9Draw (w.heap.size + 1 + 1) sa sl sc _ C1.out).mono ?_
  rintro e w2 ⟨⟨x, rfl⟩, c2, b2⟩
  obtain ⟨xa, xs, xt, xns, xnc, xpr, xmu⟩ := x
  have z2 : w.heap.size + 1 + 1 < w2.heap.size := c2.2.2.1
  have Z2 : Hid (CtB (w2.alloc (.cells #[.int .i64 xa, .int .i64 xs, .int .i64 xt, .bool xns, .bool xnc, .bool xpr, .bool xmu] 25)) w.heap.size ctZ) := (Z1.out.bs b2 (by omega)).alloc _
  have Y2 : Hid (CtB (w2.alloc (.cells #[.int .i64 xa, .int .i64 xs, .int .i64 xt, .bool xns, .bool xnc, .bool xpr, .bool xmu] 25)) (w.heap.size + 1) ctZ) := (Y1.out.bs b2 (by omega)).alloc _
  have X2 : Hid (CtB (w2.alloc (.cells #[.int .i64 xa, .int .i64 xs, .int .i64 xt, .bool xns, .bool xnc, .bool xpr, .bool xmu] 25)) w2.heap.size ⟨xa, xs, xt, xns, xnc, xpr, xmu⟩) := CtB.born w2 ⟨xa, xs, xt, xns, xnc, xpr, xmu⟩ 25
  have B2 : Hid (Below w.heap.size w (w2.alloc (.cells #[.int .i64 xa, .int .i64 xs, .int .i64 xt, .bool xns, .bool xnc, .bool xpr, .bool xmu] 25))) := (B1.out.trans (b2.low (by omega) (by omega))).alloc (by have := B1.out.size; omega) _
  have C2 : Hid (Cur (w2.alloc (.cells #[.int .i64 xa, .int .i64 xs, .int .i64 xt, .bool xns, .bool xnc, .bool xpr, .bool xmu] 25)) (w.heap.size + 1 + 1) sa sl sc) := c2.more9 _
  clear c2 b2 Z1 Y1 B1 C1
  unfold ctV
  go_wp2_with fail
  generalize w2.alloc (.cells #[.int .i64 xa, .int .i64 xs, .int .i64 xt, .bool xns, .bool xnc, .bool xpr, .bool xmu] 25) = wa at Z2 Y2 X2 B2 C2 ⊢
  obtain ⟨x0, x1, x2, x3, x4, x5, x6⟩ := X2.out.all
  simp only at x0 x1 x2 x3 x4 x5 x6
  have hD : Calls Tryz.prog 23 #[.pointer (some ⟨w.heap.size + 1 + 1, 0, Option.none⟩)] wa.drew fun e w3 => ∃ y : Ct, e = .returned (ctV y) ∧ CtB w3 w.heap.size ctZ ∧ CtB w3 (w.heap.size + 1) ctZ ∧ CtB w3 w2.heap.size ⟨xa, xs, xt, xns, xnc, xpr, xmu⟩ ∧ Below w.heap.size w w3 := by
    have k := l9Draw (w.heap.size + 1 + 1) sa sl sc wa.drew C2.out
    refine k.mono ?_
    rintro e w3 ⟨⟨y, rfl⟩, c3, b3⟩
    have b3' : Beside (w.heap.size + 1 + 1) wa w3 := b3
    exact ⟨y, rfl, Z2.out.bs b3' (by omega), Y2.out.bs b3' (by omega), X2.out.bs b3' (by omega), B2.out.trans (b3'.low (by omega) (by have := B2.out.size; omega))⟩
  unfold ctV at hD
  go_region_with (go_at_call 23; refine hD.mono ?_; rintro e w3 ⟨⟨ya, ys, yt, yns, ync, ypr, ymu⟩, rfl, k1, k2, k3, k4⟩; have Z3 : Hid (CtB w3 w.heap.size ctZ) := k1; have Y3 : Hid (CtB w3 (w.heap.size + 1) ctZ) := k2; have B3 : Hid (Below w.heap.size w w3) := k4; obtain ⟨x0, x1, x2, x3, x4, x5, x6⟩ := CtB.all k3; obtain ⟨z0, z1, z2, z3, z4, z5, z6⟩ := CtB.all k1; obtain ⟨y0, y1, y2, y3, y4, y5, y6⟩ := CtB.all k2; have zf := k1.fz; have yf := k2.fz; clear k1 k2 k3 k4)
  all_goals
    obtain ⟨P1, P2⟩ := put_two Z3.out Y3.out (by omega) ⟨xa, xs, xt, xns, xnc, xpr, xmu⟩ ⟨ya, ys, yt, yns, ync, ypr, ymu⟩
    have HP : Hid _ := CtB.all P1
    have HQ : Hid _ := CtB.all P2
    have BP : Hid _ := putL_below (B := w.heap.size) (b := w.heap.size + 1) (by omega) (ctE.c ⟨ya, ys, yt, yns, ync, ypr, ymu⟩) 0 (putL_below (B := w.heap.size) (b := w.heap.size) (Nat.le_refl _) (ctE.c ⟨xa, xs, xt, xns, xnc, xpr, xmu⟩) 0 B3.out)
    clear P1 P2 hD
    go_wp2
    obtain ⟨p0, p1, p2, p3, p4, p5, p6⟩ := HP.out
    obtain ⟨q0, q1, q2, q3, q4, q5, q6⟩ := HQ.out
    rw [ctE_c, ctE_c] at p0 p1 p2 p3 p4 p5 p6 q0 q1 q2 q3 q4 q5 q6
    have bp := BP.out
    rw [ctE_c, ctE_c] at bp
    simp only [putL, Nat.zero_add, Nat.reduceAdd] at p0 p1 p2 p3 p4 p5 p6 q0 q1 q2 q3 q4 q5 q6 bp
    exact bodyPost_ret (v := .tuple #[ctV ⟨xa, xs, xt, xns, xnc, xpr, xmu⟩, ctV ⟨ya, ys, yt, yns, ync, ypr, ymu⟩]) (by unfold ctV; simp [results, Tryz.results9, go_sem, p0, p1, p2, p3, p4, p5, p6, q0, q1, q2, q3, q4, q5, q6]) rfl ⟨⟨_, _, rfl⟩, bp⟩
end Go.Proofs.YtccnkmffadmfhaaGreatDoor
