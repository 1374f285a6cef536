/-
  Drawn states and texts: whatever the code, a small state and a short text.
-/
import Derived.Test.YtbdnfajdpajfpaaDrB
namespace Go.Proofs.Ytbdnfajdpajfpaa
open Go.RowKit
set_option linter.unusedVariables false

set_option maxHeartbeats 4000000 in
theorem drawEatAll (sa : Option Addr) (sl sc : Nat) (w : World) (hc : Code8 w w.heap.size sa sl) (hl : sl ≤ 4096) :
    Calls Try.prog 14 #[.slice sa sl sc] w fun e w' => (∃ (c : Ck) (t : ByteArray), e = .returned (.tuple #[ckV c, .string t]) ∧ Small c ∧ t.size ≤ 6002) ∧ Below w.heap.size w w' := by
  have hN := born5 sa sl sc w hc hl
  clear hc
  unfold ckV
  go_enter Try.func14, Try.ntmps14
  go_wp2_with fail
  refine hN.mono ?_
  rintro e w1 ⟨rfl, hc1, R1, B1⟩
  have hA := l5Any (w.heap.size + 1) sa sl sc w1 hc1
  unfold ckV at hA
  clear hN hc1
  go_wp2_with fail
  refine hA.mono ?_
  rintro e w2 ⟨⟨d, rfl, hsm⟩, hc2, hb2⟩
  have R2 : Hid (Four w2 w.heap.size zeroC) := R1.bs hb2 (by omega)
  have B2 : Hid (Below w.heap.size w w2) := B1.trans (hb2.low (by omega) B1.size)
  have hz2 : w.heap.size < w2.heap.size := R2.out.hi
  have hz2' : w.heap.size + 1 < w2.heap.size := hc2.2.2.1
  clear R1 B1 hb2 hA
  go_wp2_with fail
  refine (l1Once (w.heap.size + 1) sa sl sc 2 (by omega) (by omega) _ (hc2.more _)).mono ?_
  rintro e w3 ⟨tt, rfl, hc3, hb3⟩
  have R3 : Hid (Four w3 w.heap.size zeroC) := (R2.out.alloc _).bs hb3 (by omega)
  have X3 : Hid (Four w3 w2.heap.size d) := (Four.new w2 d).bs hb3 (by omega)
  have B3 : Hid (Below w.heap.size w w3) := (B2.out.alloc B2.out.size _).trans (hb3.low (by omega) (B2.out.alloc B2.out.size _).size)
  have C3 : Hid (Cur w3 (w.heap.size + 1) sa sl sc) := hc3
  clear R2 B2 hb3 hc2 hc3
  cases tt with
  | false =>
    have hq := l5Text (w.heap.size + 1) sa sl sc w3.drew C3.out
    have a0 := X3.out.c0
    have a1 := X3.out.c1
    have a2 := X3.out.c2
    have a3 := X3.out.c3
    go_wp2
    go_region_with (go_at_call 32; refine hq.mono ?_; rintro e w4 ⟨t, rfl, ht, hc4, hb4⟩; have X4 : Hid (Four w4 w2.heap.size d) := X3.out.drew.bs hb4 (by omega); have R4 : Hid (Four w4 w.heap.size zeroC) := R3.out.drew.bs hb4 (by omega); have B4 : Hid (Below w.heap.size w w4) := B3.out.trans ((show Beside (w.heap.size + 1) w3 w4 from hb4).low (by omega) B3.out.size); have hz4 : w.heap.size < w4.heap.size := R4.out.hi; have hy4 : w2.heap.size < w4.heap.size := X4.out.hi; have b0 := X4.out.c0; have b1 := X4.out.c1; have b2 := X4.out.c2; have b3 := X4.out.c3; have r0 := R4.out.c0; have r1 := R4.out.c1; have r2 := R4.out.c2; have r3 := R4.out.c3; have rf := R4.out.fz; clear hc4 hb4)
    all_goals
      go_wp2
      refine bodyPost_ret (v := .tuple #[.agg #[.int .i64 d.st, .int .i64 d.lf, .string d.dg, .string d.bd], .string t]) (by simp [results, Try.results14, go_sem, r0, r1, r2, r3]) rfl ⟨⟨d, t, rfl, hsm, ht⟩, ?_⟩
      repeat (refine Below.setCell ?_ (by simp) _)
      exact B4.out
  | true =>
    have X4 : Hid (Four ((((w3.setCell ⟨w2.heap.size, 0, none⟩ (.int .i64 1)).setCell ⟨w2.heap.size, 1, none⟩ (.int .i64 0)).setCell ⟨w2.heap.size, 2, none⟩ (.string ⟨#[]⟩)).setCell ⟨w2.heap.size, 3, none⟩ (.string ⟨#[]⟩)) w2.heap.size (ck0 ⟨#[]⟩)) := X3.out.put (ck0 ⟨#[]⟩)
    have R4 : Hid (Four ((((w3.setCell ⟨w2.heap.size, 0, none⟩ (.int .i64 1)).setCell ⟨w2.heap.size, 1, none⟩ (.int .i64 0)).setCell ⟨w2.heap.size, 2, none⟩ (.string ⟨#[]⟩)).setCell ⟨w2.heap.size, 3, none⟩ (.string ⟨#[]⟩)) w.heap.size zeroC) := (((R3.out.beside (by omega) _).beside (by omega) _).beside (by omega) _).beside (by omega) _
    have B4 : Hid (Below w.heap.size w ((((w3.setCell ⟨w2.heap.size, 0, none⟩ (.int .i64 1)).setCell ⟨w2.heap.size, 1, none⟩ (.int .i64 0)).setCell ⟨w2.heap.size, 2, none⟩ (.string ⟨#[]⟩)).setCell ⟨w2.heap.size, 3, none⟩ (.string ⟨#[]⟩))) := by
      repeat (refine Below.setCell ?_ (by show w.heap.size ≤ w2.heap.size; omega) _)
      exact B3.out
    have C4 : Hid (Cur ((((w3.setCell ⟨w2.heap.size, 0, none⟩ (.int .i64 1)).setCell ⟨w2.heap.size, 1, none⟩ (.int .i64 0)).setCell ⟨w2.heap.size, 2, none⟩ (.string ⟨#[]⟩)).setCell ⟨w2.heap.size, 3, none⟩ (.string ⟨#[]⟩)) (w.heap.size + 1) sa sl sc) := by
      repeat (refine Cur.far ?_ (by omega) _)
      exact C3.out
    have a0 := X3.out.c0
    have a1 := X3.out.c1
    have a2 := X3.out.c2
    have a3 := X3.out.c3
    have af := X3.out.fz
    go_wp2
    generalize ((((w3.setCell ⟨w2.heap.size, 0, none⟩ (.int .i64 1)).setCell ⟨w2.heap.size, 1, none⟩ (.int .i64 0)).setCell ⟨w2.heap.size, 2, none⟩ (.string ⟨#[]⟩)).setCell ⟨w2.heap.size, 3, none⟩ (.string ⟨#[]⟩)) = w4 at X4 R4 B4 C4 ⊢
    clear a0 a1 a2 a3 af X3 R3 B3 C3
    have hsk : Small (ck0 ⟨#[]⟩) := ⟨Nat.zero_le _, Nat.zero_le _⟩
    generalize ck0 ⟨#[]⟩ = q at X4 hsk
    have hq := l5Text (w.heap.size + 1) sa sl sc w4.drew C4.out
    have a0 := X4.out.c0
    have a1 := X4.out.c1
    have a2 := X4.out.c2
    have a3 := X4.out.c3
    go_region_with (go_at_call 32; refine hq.mono ?_; rintro e w5 ⟨t, rfl, ht, hc5, hb5⟩; have X5 : Hid (Four w5 w2.heap.size q) := X4.out.drew.bs hb5 (by omega); have R5 : Hid (Four w5 w.heap.size zeroC) := R4.out.drew.bs hb5 (by omega); have B5 : Hid (Below w.heap.size w w5) := B4.out.trans ((show Beside (w.heap.size + 1) w4 w5 from hb5).low (by omega) B4.out.size); have hz5 : w.heap.size < w5.heap.size := R5.out.hi; have hy5 : w2.heap.size < w5.heap.size := X5.out.hi; have b0 := X5.out.c0; have b1 := X5.out.c1; have b2 := X5.out.c2; have b3 := X5.out.c3; have r0 := R5.out.c0; have r1 := R5.out.c1; have r2 := R5.out.c2; have r3 := R5.out.c3; have rf := R5.out.fz; clear hc5 hb5)
    all_goals
      go_wp2
      refine bodyPost_ret (v := .tuple #[.agg #[.int .i64 q.st, .int .i64 q.lf, .string q.dg, .string q.bd], .string t]) (by simp [results, Try.results14, go_sem, r0, r1, r2, r3]) rfl ⟨⟨q, t, rfl, hsk, ht⟩, ?_⟩
      repeat (refine Below.setCell ?_ (by simp) _)
      exact B5.out
end Go.Proofs.Ytbdnfajdpajfpaa
