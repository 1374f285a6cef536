/-
  Drawn control: whatever the code, some control.
-/
import Derived.Test.YtccnkmffadmfhaaGreatDoorCtlC
import Derived.Test.YtccnkmffadmfhaaGreatDoorDrT
namespace Go.Proofs.YtccnkmffadmfhaaGreatDoor
open Go.RowKit Go.Sort
set_option linter.unusedVariables false
set_option linter.unusedSimpArgs false

theorem BlkE.bs {α : Type} {E : Enc α} {w w' : World} {b k : Nat} {x : α} (h : BlkE E w k x) (hb : Beside b w w') (hne : k ≠ b) : BlkE E w' k x := h.same (hb.2.2.2.2 k h.hi hne) hb.2.2.2.1
theorem Cur.more9 {w : World} {b : Nat} {sa : Option Addr} {sl sc : Nat} (h : Cur w b sa sl sc) (o : Obj) : Cur (w.alloc o) b sa sl sc := h.kept ((Below.refl _ w).alloc (Nat.le_refl _) _) h.2.2.1
theorem Beside.more9 {g : Nat} {a w : World} (h : Beside g a w) (o : Obj) : Beside g a (w.alloc o) := h.below ((Below.refl _ w).alloc (Nat.le_refl _) _)
theorem fromZ9 (b : Nat) (sa : Option Addr) (sl sc : Nat) (lo hi : Int) (h1 : -1000 ≤ lo) (h2 : lo ≤ hi) (h3 : hi ≤ 1000) (w : World) (hc : Cur w b sa sl sc) :
    Calls Tryz.prog 42 #[.pointer (some ⟨b, 0, Option.none⟩), .int .i64 lo, .int .i64 hi] w fun e w' => ∃ x : Int, e = .returned (.int .i64 x) ∧ lo ≤ x ∧ x ≤ hi ∧ Cur w' b sa sl sc ∧ Beside b w w' := by
  have e1 : IntKind.i64.wrap (hi - lo) = hi - lo := by rw [IntKind.wrap_i64]; omega
  have e2 : IntKind.i64.wrap (hi - lo + 1) = hi - lo + 1 := by rw [IntKind.wrap_i64]; omega
  have hB := fun W hW => l1Below b sa sl sc (hi - lo + 1) (by omega) (by omega) W hW
  go_enter Tryz.func42, Tryz.ntmps42
  go_wp2_with fail
  refine (hB _ hc).mono ?_
  rintro e w1 ⟨x, rfl, hx0, hx1, hc1, hb1⟩
  have e3 : IntKind.i64.wrap (lo + x) = lo + x := by rw [IntKind.wrap_i64]; omega
  clear hB hc
  go_wp2
  go_ret
  exact ⟨_, rfl, by omega, by omega, hc1, hb1⟩
theorem specMax9 (a b : Int) (w : World) : Calls Tryz.prog 43 #[.int .i64 a, .int .i64 b] w fun e w' => e = .returned (.int .i64 (maxI a b)) ∧ w = w' := by
  unfold maxI
  by_cases h : b < a
  · rw [if_pos h]
    go_enter Tryz.func43, Tryz.ntmps43
    go_wp2
    go_ret
    exact ⟨rfl, rfl⟩
  · rw [if_neg h]
    go_enter Tryz.func43, Tryz.ntmps43
    go_wp2
    go_ret
    exact ⟨rfl, rfl⟩
def ctC9 (x : Ct) : Obj := .cells #[.int .i64 x.a, .int .i64 x.s, .int .i64 x.t, .bool x.ns, .bool x.nc, .bool x.pr, .bool x.mu] 25
theorem tabC9 (y : Nat) (hy : y < 4) : ∃ z : Int, (#[.int .i64 (-2), .int .i64 1000000000, .int .i64 1000000001, .int .i64 (-9223372036854775808)] : Array Value)[y]? = some (.int .i64 z) := by
  rcases (show y = 0 ∨ y = 1 ∨ y = 2 ∨ y = 3 by omega) with rfl | rfl | rfl | rfl <;> exact ⟨_, rfl⟩
set_option maxRecDepth 100000 in
set_option maxHeartbeats 4000000 in
theorem l9Draw (b : Nat) (sa : Option Addr) (sl sc : Nat) (w : World) (hc : Cur w b sa sl sc) :
    Calls Tryz.prog 23 #[.pointer (some ⟨b, 0, Option.none⟩)] w fun e w' => (∃ x : Ct, e = .returned (ctV x)) ∧ Cur w' b sa sl sc ∧ Beside b w w' := by
  have hbz : b < w.heap.size := hc.2.2.1
  have C0 : Hid (Cur (w.alloc (.cells #[.int .i64 0, .int .i64 0, .int .i64 0, .bool false, .bool false, .bool false, .bool false] 25)) b sa sl sc) := hc.more9 _
  have B0 : Hid (Beside b w (w.alloc (.cells #[.int .i64 0, .int .i64 0, .int .i64 0, .bool false, .bool false, .bool false, .bool false] 25))) := (Beside.refl b w).more9 _
  have Z0 : Hid (CtB (w.alloc (.cells #[.int .i64 0, .int .i64 0, .int .i64 0, .bool false, .bool false, .bool false, .bool false] 25)) w.heap.size ctZ) := CtB.born w ctZ 25
  clear hc
  go_enter Tryz.func23, Tryz.ntmps23
  go_wp2_with fail
  refine (fromZ9 b sa sl sc (-1) 40 (by decide) (by decide) (by decide) _ C0.out).mono ?_
  rintro e w1 ⟨a1, rfl, h10, h11, c1, b1⟩
  have C1 : Hid (Cur w1 b sa sl sc) := c1
  have B1 : Hid (Beside b w w1) := B0.out.trans b1
  have Z1 : Hid (CtB w1 w.heap.size ctZ) := Z0.out.bs b1 (by omega)
  clear c1 b1 C0 B0 Z0
  go_wp2_with fail
  refine (fromZ9 b sa sl sc (-1) 3 (by decide) (by decide) (by decide) _ C1.out).mono ?_
  rintro e w2 ⟨a2, rfl, h20, h21, c2, b2⟩
  have C2 : Hid (Cur w2 b sa sl sc) := c2
  have B2 : Hid (Beside b w w2) := B1.out.trans b2
  have Z2 : Hid (CtB w2 w.heap.size ctZ) := Z1.out.bs b2 (by omega)
  have e2 : IntKind.i64.wrap (a2 * 10) = a2 * 10 := by rw [IntKind.wrap_i64]; omega
  clear c2 b2 C1 B1 Z1
  go_wp2_with fail
  refine (fromZ9 b sa sl sc (-1) 20 (by decide) (by decide) (by decide) _ C2.out).mono ?_
  rintro e w3 ⟨a3, rfl, h30, h31, c3, b3⟩
  have C3 : Hid (Cur w3 b sa sl sc) := c3
  have B3 : Hid (Beside b w w3) := B2.out.trans b3
  have Z3 : Hid (CtB w3 w.heap.size ctZ) := Z2.out.bs b3 (by omega)
  clear c3 b3 C2 B2 Z2
  go_wp2_with fail
  refine (l1Once b sa sl sc 5 (by decide) (by decide) _ C3.out).mono ?_
  rintro e w4 ⟨f1, rfl, c4, b4⟩
  have C4 : Hid (Cur w4 b sa sl sc) := c4
  have B4 : Hid (Beside b w w4) := B3.out.trans b4
  have Z4 : Hid (CtB w4 w.heap.size ctZ) := Z3.out.bs b4 (by omega)
  clear c4 b4 C3 B3 Z3
  go_wp2_with fail
  refine (l1Once b sa sl sc 5 (by decide) (by decide) _ C4.out).mono ?_
  rintro e w5 ⟨f2, rfl, c5, b5⟩
  have C5 : Hid (Cur w5 b sa sl sc) := c5
  have B5 : Hid (Beside b w w5) := B4.out.trans b5
  have Z5 : Hid (CtB w5 w.heap.size ctZ) := Z4.out.bs b5 (by omega)
  clear c5 b5 C4 B4 Z4
  go_wp2_with fail
  refine (l1Once b sa sl sc 5 (by decide) (by decide) _ C5.out).mono ?_
  rintro e w6 ⟨f3, rfl, c6, b6⟩
  have C6 : Hid (Cur w6 b sa sl sc) := c6
  have B6 : Hid (Beside b w w6) := B5.out.trans b6
  have Z6 : Hid (CtB w6 w.heap.size ctZ) := Z5.out.bs b6 (by omega)
  clear c6 b6 C5 B5 Z5
  go_wp2_with fail
  refine (l1Once b sa sl sc 5 (by decide) (by decide) _ C6.out).mono ?_
  rintro e w7 ⟨f4, rfl, c7, b7⟩
  have hz7 : w.heap.size < w7.heap.size := (Z6.out.bs b7 (by omega)).hi
  have hmx := fun W => specMax9 (-1) (a2 * 10) W
  generalize maxI (-1) (a2 * 10) = mx at hmx
  have C7 : Hid (Cur (w7.alloc (.cells #[.int .i64 a1, .int .i64 mx, .int .i64 a3, .bool f1, .bool f2, .bool f3, .bool f4] 25)) b sa sl sc) := c7.more9 _
  have B7 : Hid (Beside b w (w7.alloc (.cells #[.int .i64 a1, .int .i64 mx, .int .i64 a3, .bool f1, .bool f2, .bool f3, .bool f4] 25))) := (B6.out.trans b7).more9 _
  have Z7 : Hid (CtB (w7.alloc (.cells #[.int .i64 a1, .int .i64 mx, .int .i64 a3, .bool f1, .bool f2, .bool f3, .bool f4] 25)) w.heap.size ctZ) := (Z6.out.bs b7 (by omega)).alloc _
  have X7 : Hid (CtB (w7.alloc (.cells #[.int .i64 a1, .int .i64 mx, .int .i64 a3, .bool f1, .bool f2, .bool f3, .bool f4] 25)) w7.heap.size ⟨a1, mx, a3, f1, f2, f3, f4⟩) := CtB.born w7 ⟨a1, mx, a3, f1, f2, f3, f4⟩ 25
  have hb7 : b < w7.heap.size := c7.2.2.1
  clear c7 b7 C6 B6 Z6
  go_wp2_with fail
  refine (hmx _).mono ?_
  rintro e wm ⟨rfl, rfl⟩
  clear hmx
  go_wp2_with fail
  refine (l1Once b sa sl sc 14 (by decide) (by decide) _ C7.out).mono ?_
  rintro e w8 ⟨tt, rfl, c8, b8⟩
  have C8 : Hid (Cur w8 b sa sl sc) := c8
  have B8 : Hid (Beside b w w8) := B7.out.trans b8
  have Z8 : Hid (CtB w8 w.heap.size ctZ) := Z7.out.bs b8 (by omega)
  have X8 : Hid (CtB w8 w7.heap.size ⟨a1, mx, a3, f1, f2, f3, f4⟩) := X7.out.bs b8 (by omega)
  clear c8 b8 C7 B7 Z7 X7
  cases tt with
  | false =>
    obtain ⟨x0, x1, x2, x3, x4, x5, x6⟩ := X8.out.all
    obtain ⟨z0, z1, z2, z3, z4, z5, z6⟩ := Z8.out.all
    have zf := Z8.out.fz
    have P1 := Z8.out.puts ⟨a1, mx, a3, f1, f2, f3, f4⟩
    have HP : Hid _ := CtB.all P1
    have BP : Hid (∀ W, Below w.heap.size w8 W → Cur W b sa sl sc ∧ Beside b w W) := fun W hW => ⟨C8.out.kept hW hbz, B8.out.grow hW (Nat.le_refl _)⟩
    have BQ : Hid _ := putL_below (B := w.heap.size) (b := w.heap.size) (Nat.le_refl _) (ctE.c ⟨a1, mx, a3, f1, f2, f3, f4⟩) 0 (Below.refl w.heap.size w8)
    unfold ctZ at z0 z1 z2 z3 z4 z5 z6
    simp only at x0 x1 x2 x3 x4 x5 x6 z0 z1 z2 z3 z4 z5 z6
    clear P1 X8 Z8 B8 C8
    go_wp2
    obtain ⟨p0, p1, p2, p3, p4, p5, p6⟩ := HP.out
    rw [ctE_c] at p0 p1 p2 p3 p4 p5 p6
    have bp := BQ.out
    rw [ctE_c] at bp
    simp only [putL, Nat.zero_add, Nat.reduceAdd] at p0 p1 p2 p3 p4 p5 p6 bp
    exact bodyPost_ret (v := ctV ⟨a1, mx, a3, f1, f2, f3, f4⟩) (by unfold ctV; simp [results, Tryz.results23, go_sem, p0, p1, p2, p3, p4, p5, p6]) rfl ⟨⟨_, rfl⟩, BP.out _ bp⟩
  | true =>
    go_wp2_with fail
    refine (l1Below b sa sl sc 4 (by decide) (by decide) _ (C8.out.more9 _)).mono ?_
    rintro e w9 ⟨y, rfl, hy0, hy1, c9, b9⟩
    obtain ⟨y, rfl⟩ := Int.eq_ofNat_of_zero_le hy0
    obtain ⟨z, hzC⟩ := tabC9 y (by omega)
    have hb8 : b < w8.heap.size := C8.out.2.2.1
    have hzw := besideCell b9 (g := w8.heap.size) (j := y) (v := .int .i64 z) (by omega) (by rw [World.cell?_alloc_mark]; exact hzC)
    have B9 : Hid (Beside b w w9) := (B8.out.more9 _).trans b9
    have Z9 : Hid (CtB w9 w.heap.size ctZ) := (Z8.out.alloc _).bs b9 (by omega)
    have X9 : Hid (CtB w9 w7.heap.size ⟨a1, mx, a3, f1, f2, f3, f4⟩) := (X8.out.alloc _).bs b9 (by omega)
    have xf := X9.out.fz
    have g0 := X9.out.all.1
    have bel : Below w.heap.size w9 (w9.setCell ⟨w7.heap.size, 0, Option.none⟩ (.int .i64 z)) := (Below.refl _ w9).setCell (show w.heap.size ≤ w7.heap.size by omega) _
    have CA : Hid (Cur (w9.setCell ⟨w7.heap.size, 0, Option.none⟩ (.int .i64 z)) b sa sl sc) := c9.kept bel hbz
    have BA : Hid (Beside b w (w9.setCell ⟨w7.heap.size, 0, Option.none⟩ (.int .i64 z))) := B9.out.grow bel (Nat.le_refl _)
    have ZA : Hid (CtB (w9.setCell ⟨w7.heap.size, 0, Option.none⟩ (.int .i64 z)) w.heap.size ctZ) := Z9.out.other _ _ (by show w.heap.size ≠ w7.heap.size; omega)
    have XA : Hid (CtB (w9.setCell ⟨w7.heap.size, 0, Option.none⟩ (.int .i64 z)) w7.heap.size ⟨z, mx, a3, f1, f2, f3, f4⟩) := X9.out.put (i := 0) (by decide) _ _ rfl
    clear bel c9 b9 B9 Z9 X9 C8 B8 Z8 X8 hzC
    obtain ⟨x0, x1, x2, x3, x4, x5, x6⟩ := XA.out.all
    obtain ⟨z0, z1, z2, z3, z4, z5, z6⟩ := ZA.out.all
    have zf := ZA.out.fz
    have P1 := ZA.out.puts ⟨z, mx, a3, f1, f2, f3, f4⟩
    have HP : Hid _ := CtB.all P1
    have BP : Hid (∀ W, Below w.heap.size (w9.setCell ⟨w7.heap.size, 0, Option.none⟩ (.int .i64 z)) W → Cur W b sa sl sc ∧ Beside b w W) := fun W hW => ⟨CA.out.kept hW hbz, BA.out.grow hW (Nat.le_refl _)⟩
    have BQ : Hid _ := putL_below (B := w.heap.size) (b := w.heap.size) (Nat.le_refl _) (ctE.c ⟨z, mx, a3, f1, f2, f3, f4⟩) 0 (Below.refl w.heap.size (w9.setCell ⟨w7.heap.size, 0, Option.none⟩ (.int .i64 z)))
    unfold ctZ at z0 z1 z2 z3 z4 z5 z6
    simp only at x0 x1 x2 x3 x4 x5 x6 z0 z1 z2 z3 z4 z5 z6
    clear P1 XA ZA BA CA
    go_wp2
    obtain ⟨p0, p1, p2, p3, p4, p5, p6⟩ := HP.out
    rw [ctE_c] at p0 p1 p2 p3 p4 p5 p6
    have bp := BQ.out
    rw [ctE_c] at bp
    simp only [putL, Nat.zero_add, Nat.reduceAdd] at p0 p1 p2 p3 p4 p5 p6 bp
    exact bodyPost_ret (v := ctV ⟨z, mx, a3, f1, f2, f3, f4⟩) (by unfold ctV; simp [results, Tryz.results23, go_sem, p0, p1, p2, p3, p4, p5, p6]) rfl ⟨⟨_, rfl⟩, BP.out _ bp⟩
end Go.Proofs.YtccnkmffadmfhaaGreatDoor
