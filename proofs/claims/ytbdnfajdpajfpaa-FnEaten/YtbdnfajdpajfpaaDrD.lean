/-
  Drawn states and bytes: whatever the code, a small state.
-/
import Derived.Test.YtbdnfajdpajfpaaDrB
namespace Go.Proofs.Ytbdnfajdpajfpaa
open Go.RowKit
set_option linter.unusedVariables false

theorem pick7 (w : World) (v : Nat) (y : UInt8) (h1 : v < 7) : ∃ N : UInt8, (w.alloc (.cells #[.int .u8 13, .int .u8 10, .int .u8 48, .int .u8 97, .int .u8 70, .int .u8 120, .int .u8 (y.toNat : Int)] 5)).cell? ⟨w.heap.size, v, none⟩ = some (.int .u8 (N.toNat : Int)) ∧ (#[.int .u8 13, .int .u8 10, .int .u8 48, .int .u8 97, .int .u8 70, .int .u8 120, .int .u8 (y.toNat : Int)] : Array Value)[v]? = some (.int .u8 (N.toNat : Int)) := by
  rw [World.cell?_alloc_mark]
  rcases (show v = 0 ∨ v = 1 ∨ v = 2 ∨ v = 3 ∨ v = 4 ∨ v = 5 ∨ v = 6 by omega) with rfl | rfl | rfl | rfl | rfl | rfl | rfl
  · exact ⟨13, rfl, rfl⟩
  · exact ⟨10, rfl, rfl⟩
  · exact ⟨48, rfl, rfl⟩
  · exact ⟨97, rfl, rfl⟩
  · exact ⟨70, rfl, rfl⟩
  · exact ⟨120, rfl, rfl⟩
  · exact ⟨y, rfl, rfl⟩
theorem pick7c {b : Nat} {w w' : World} {y : UInt8} (v : Nat) (h1 : v < 7) (hb : Beside b (w.alloc (.cells #[.int .u8 13, .int .u8 10, .int .u8 48, .int .u8 97, .int .u8 70, .int .u8 120, .int .u8 (y.toNat : Int)] 5)) w') (hne : w.heap.size ≠ b) : ∃ N : UInt8, w'.cell? ⟨w.heap.size, v, none⟩ = some (.int .u8 (N.toNat : Int)) := by
  obtain ⟨N, h, _⟩ := pick7 w v y h1
  exact ⟨N, besideCell hb hne h⟩

set_option maxHeartbeats 4000000 in
theorem drawEat (sa : Option Addr) (sl sc : Nat) (w : World) (hc : Code8 w w.heap.size sa sl) (hl : sl ≤ 4096) :
    Calls Try.prog 9 #[.slice sa sl sc] w fun e w' => (∃ (c : Ck) (x : UInt8), e = .returned (.tuple #[ckV c, .int .u8 (x.toNat : Int)]) ∧ Small c) ∧ Below w.heap.size w w' := by
  have hN := born5 sa sl sc w hc hl
  clear hc
  unfold ckV
  go_enter Try.func9, Try.ntmps9
  go_wp2_with fail
  refine hN.mono ?_
  rintro e w1 ⟨rfl, hc1, R1, B1⟩
  have hA := l5Any (w.heap.size + 1) sa sl sc w1 hc1
  unfold ckV at hA
  clear hN hc1
  go_wp2_with fail
  refine hA.mono ?_
  rintro e w2 ⟨⟨d, rfl, hsm⟩, hc2, hb2⟩
  have R2 : Hid (Four w2 w.heap.size zeroC) := R1.bs hb2 (by omega)
  have B2 : Hid (Below w.heap.size w w2) := B1.trans (hb2.low (by omega) B1.size)
  have hz2 : w.heap.size < w2.heap.size := R2.out.hi
  have hz2' : w.heap.size + 1 < w2.heap.size := hc2.2.2.1
  have X2 : Hid (Four (w2.alloc (.cells #[.int .i64 d.st, .int .i64 d.lf, .string d.dg, .string d.bd] 25)).drew w2.heap.size d) := (Four.new w2 d).drew
  have R2' : Hid (Four (w2.alloc (.cells #[.int .i64 d.st, .int .i64 d.lf, .string d.dg, .string d.bd] 25)).drew w.heap.size zeroC) := (R2.out.alloc _).drew
  have HC : Hid (Cur (w2.alloc (.cells #[.int .i64 d.st, .int .i64 d.lf, .string d.dg, .string d.bd] 25)).drew (w.heap.size + 1) sa sl sc) := (hc2.more _).drew
  have HB : Hid (Below w.heap.size w (w2.alloc (.cells #[.int .i64 d.st, .int .i64 d.lf, .string d.dg, .string d.bd] 25)).drew) := by
    have q := B2.out.alloc B2.out.size (.cells #[.int .i64 d.st, .int .i64 d.lf, .string d.dg, .string d.bd] 25)
    exact ⟨q.os, q.tape, q.output, q.size, q.block⟩
  clear R1 B1 R2 B2 hc2 hb2 hA
  go_wp2
  go_region_with (first
    | (go_at_call 24; refine (l1Byte (w.heap.size + 1) sa sl sc _ HC.out).mono ?_; rintro e w3 ⟨x, rfl, hx0, hx1, hc3, hb3⟩; obtain ⟨y, rfl⟩ : ∃ y : UInt8, x = (y.toNat : Int) := ⟨UInt8.ofNat x.toNat, by simp [UInt8.toNat_ofNat']; omega⟩; have hwr : IntKind.u8.wrap (y.toNat : Int) = (y.toNat : Int) := (by rw [show IntKind.u8.wrap (y.toNat : Int) = (y.toNat : Int) % 256 from rfl]; omega); have X3 : Hid (Four w3 w2.heap.size d) := X2.out.bs hb3 (by omega); have R3 : Hid (Four w3 w.heap.size zeroC) := R2'.out.bs hb3 (by omega); have B3 : Hid (Below w.heap.size w w3) := HB.out.trans (hb3.low (by omega) HB.out.size); have HC3 : Hid (Cur w3 (w.heap.size + 1) sa sl sc) := hc3; have hz3 : w.heap.size < w3.heap.size := R3.out.hi; have hy3 : w2.heap.size < w3.heap.size := X3.out.hi; have a0 := X3.out.c0; have a1 := X3.out.c1; have a2 := X3.out.c2; have a3 := X3.out.c3; clear hc3 hb3)
    | (go_at_call 25; go_loud (first | (refine (l1Below (w.heap.size + 1) sa sl sc 7 (by omega) (by omega) _ HC3.out).mono ?_; rintro e w4 ⟨v, rfl, hv0, hv1, hc4, hb4⟩; have X4 : Hid (Four w4 w2.heap.size d) := X3.out.bs hb4 (by omega); have R4 : Hid (Four w4 w.heap.size zeroC) := R3.out.bs hb4 (by omega); have B4 : Hid (Below w.heap.size w w4) := B3.out.trans (hb4.low (by omega) B3.out.size); have hz4 : w.heap.size < w4.heap.size := R4.out.hi; have hy4 : w2.heap.size < w4.heap.size := X4.out.hi; have b0 := X4.out.c0; have b1 := X4.out.c1; have b2 := X4.out.c2; have b3 := X4.out.c3; have r0 := R4.out.c0; have r1 := R4.out.c1; have r2 := R4.out.c2; have r3 := R4.out.c3; have rf := R4.out.fz; clear hc4 hb4; obtain ⟨v, rfl⟩ := Int.eq_ofNat_of_zero_le hv0; obtain ⟨N, hcell, hN⟩ := pick7 w4 v y (by omega)) | (refine (l1Below (w.heap.size + 1) sa sl sc 7 (by omega) (by omega) _ (HC3.out.more _)).mono ?_; rintro e w4 ⟨v, rfl, hv0, hv1, hc4, hb4⟩; have X4 : Hid (Four w4 w2.heap.size d) := (X3.out.alloc _).bs hb4 (by omega); have R4 : Hid (Four w4 w.heap.size zeroC) := (R3.out.alloc _).bs hb4 (by omega); have B4 : Hid (Below w.heap.size w w4) := (B3.out.alloc B3.out.size _).trans (hb4.low (by omega) (B3.out.alloc B3.out.size _).size); obtain ⟨v, rfl⟩ := Int.eq_ofNat_of_zero_le hv0; obtain ⟨N, hcell⟩ := pick7c v (by omega) hb4 (by have := X3.out.hi; omega); have hz4 : w.heap.size < w4.heap.size := R4.out.hi; have hy4 : w2.heap.size < w4.heap.size := X4.out.hi; have b0 := X4.out.c0; have b1 := X4.out.c1; have b2 := X4.out.c2; have b3 := X4.out.c3; have r0 := R4.out.c0; have r1 := R4.out.c1; have r2 := R4.out.c2; have r3 := R4.out.c3; have rf := R4.out.fz; clear hc4 hb4))))
  all_goals
    go_wp2
    refine bodyPost_ret (v := .tuple #[.agg #[.int .i64 d.st, .int .i64 d.lf, .string d.dg, .string d.bd], .int .u8 (N.toNat : Int)]) (by simp [results, Try.results9, go_sem, r0, r1, r2, r3, hz4]) rfl ⟨⟨d, N, rfl, hsm⟩, ?_⟩
    repeat (first | refine Below.setCell ?_ (by simp) _ | refine Below.alloc ?_ (by simp [World.size_setCell]; omega) _)
    exact B4.out

end Go.Proofs.Ytbdnfajdpajfpaa
