/-
  Drawn cuts: whatever the code, a short text, a span of int64, and a small number.
-/
import Derived.Test.YtamfgjgmnnnjpaaDoorSpnL
import Derived.Test.YtamfgjgmnnnjpaaDoorSpnG
namespace Go.Proofs.YtamfgjgmnnnjpaaDoor
open Go.RowKit Go.Sort
set_option linter.unusedVariables false
set_option linter.unusedSimpArgs false

theorem SpBk.bs {w w' : World} {b k : Nat} {x : Sp} (h : SpBk w k x) (hb : Beside b w w') (hne : k ≠ b) : SpBk w' k x := by
  have e : w'.heap[k]? = w.heap[k]? := hb.2.2.2.2 k h.hi hne
  have q : ∀ j, w'.cell? ⟨k, j, Option.none⟩ = w.cell? ⟨k, j, Option.none⟩ := fun j => World.cell?_of_block (a := ⟨k, j, Option.none⟩) e
  exact ⟨(q 0).trans h.c0, (q 1).trans h.c1, fun j => (World.frozen?_of_block (a := ⟨k, j, Option.none⟩) e).trans (h.fz j), Nat.lt_of_lt_of_le h.hi hb.2.2.2.1⟩
theorem SpBk.put1 {w : World} {b : Nat} {y : Sp} (h : SpBk w b y) (c : Int) : SpBk (w.setCell ⟨b, 1, Option.none⟩ (.int .i64 c)) b (y.1, c) where
  c0 := by rw [World.cell?_setCell_other _ _ _ _ (by simp)]; exact h.c0
  c1 := World.cell?_setCell_same _ _ _ h.c1
  fz := fun k => by rw [World.frozen?_setCell]; exact h.fz k
  hi := by rw [World.size_setCell]; exact h.hi
theorem SpBk.other {w : World} {b k : Nat} {y : Sp} (h : SpBk w b y) (hne : b ≠ k) (j : Nat) (v : Value) : SpBk (w.setCell ⟨k, j, Option.none⟩ v) b y where
  c0 := by rw [World.cell?_setCell_other _ _ _ _ (by simp [hne])]; exact h.c0
  c1 := by rw [World.cell?_setCell_other _ _ _ _ (by simp [hne])]; exact h.c1
  fz := fun k => by rw [World.frozen?_setCell]; exact h.fz k
  hi := by rw [World.size_setCell]; exact h.hi
theorem born8 (o : Obj) (sa : Option Addr) (sl sc : Nat) (w : World) (hc : Code8 w w.heap.size sa sl) (hl : sl ≤ 4096) :
    Calls Tryd.prog 24 #[.slice sa sl sc] (w.alloc o) fun e w' => e = .returned (.pointer (some ⟨w.heap.size + 1, 0, Option.none⟩)) ∧ Cur w' (w.heap.size + 1) sa sl sc ∧ Below (w.heap.size + 1) (w.alloc o) w' := by
  have b0 : Below w.heap.size w (w.alloc o) := (Below.refl _ w).alloc (Nat.le_refl _) _
  have := l1New sa sl sc (w.alloc o) ((hc.kept b0 (Nat.le_refl _)).up8 b0.size) hl
  simp only [World.size_alloc] at this
  exact this
theorem tabC8 (y : Nat) (hy : y < 3) : ∃ z : Int, (#[.int .i64 4611686018427387904, .int .i64 (-9223372036854775808), .int .i64 9223372036854775807] : Array Value)[y]? = some (.int .i64 z) ∧ -9223372036854775808 ≤ z ∧ z ≤ 9223372036854775807 := by
  rcases (show y = 0 ∨ y = 1 ∨ y = 2 by omega) with rfl | rfl | rfl <;> exact ⟨_, rfl, by decide, by decide⟩
set_option maxRecDepth 100000 in
set_option maxHeartbeats 2000000 in
theorem drawCut (sa : Option Addr) (sl sc : Nat) (w : World) (hc : Code8 w w.heap.size sa sl) (hl : sl ≤ 4096) :
    Calls Tryd.prog 9 #[.slice sa sl sc] w fun e w' => (∃ (s : ByteArray) (x : Sp), e = .returned (.tuple #[.string s, spV x]) ∧ s.size ≤ 12 ∧ InR x) ∧ Below w.heap.size w w' := by
  have hN := born8 (.cells #[.int .i64 0, .int .i64 0] 30) sa sl sc w hc hl
  have R0 : Hid (SpBk (w.alloc (.cells #[.int .i64 0, .int .i64 0] 30)) w.heap.size (0, 0)) := SpBk.new w (0, 0) 30
  have b0 : Hid (Below w.heap.size w (w.alloc (.cells #[.int .i64 0, .int .i64 0] 30))) := (Below.refl _ w).alloc (Nat.le_refl _) _
  clear hc
  unfold spV
  go_enter Tryd.func9, Tryd.ntmps9
  go_wp2_with fail
  refine hN.mono ?_
  rintro e w1 ⟨rfl, hc1, hb1⟩
  have R1 : Hid (SpBk w1 w.heap.size (0, 0)) := R0.out.kept (by simpa using hb1)
  have B1 : Hid (Below w.heap.size w w1) := b0.out.trans (hb1.mono (by omega))
  have z1 : w.heap.size + 1 < w1.heap.size := hc1.2.2.1
  clear hN R0 b0 hb1
  go_wp2_with fail
  refine (l1DrawText (w.heap.size + 1) sa sl sc ⟨#[97, 98, 99, 100, 101, 102]⟩ 12 (by decide) (by decide) (by decide) _ hc1).mono ?_
  rintro e w2 ⟨t, rfl, ht, hc2, hb2⟩
  have R2 : Hid (SpBk w2 w.heap.size (0, 0)) := R1.out.bs hb2 (by omega)
  have T2 : Hid (Beside (w.heap.size + 1) w1 w2) := hb2
  clear hc1 hb2 R1
  go_wp2_with fail
  refine (l1FromZ (w.heap.size + 1) sa sl sc (-1) 8 (by decide) (by decide) (by decide) _ hc2).mono ?_
  rintro e w3 ⟨p, rfl, hp0, hp1, hc3, hb3⟩
  have R3 : Hid (SpBk w3 w.heap.size (0, 0)) := R2.out.bs hb3 (by omega)
  have T3 : Hid (Beside (w.heap.size + 1) w1 w3) := T2.out.trans hb3
  clear hc2 hb3 R2 T2
  go_wp2_with fail
  refine (l1FromZ (w.heap.size + 1) sa sl sc (-1) 5 (by decide) (by decide) (by decide) _ hc3).mono ?_
  rintro e w4 ⟨q, rfl, hq0, hq1, hc4, hb4⟩
  have ep : IntKind.i64.wrap (p + q) = p + q := by rw [IntKind.wrap_i64]; omega
  have R4 : Hid (SpBk (w4.alloc (.cells #[.int .i64 p, .int .i64 (p + q)] 30)) w.heap.size (0, 0)) := (R3.out.bs hb4 (by omega)).alloc _
  have S4 : Hid (SpBk (w4.alloc (.cells #[.int .i64 p, .int .i64 (p + q)] 30)) w4.heap.size (p, p + q)) := SpBk.new w4 (p, p + q) 30
  have T4 : Hid (Beside (w.heap.size + 1) w1 (w4.alloc (.cells #[.int .i64 p, .int .i64 (p + q)] 30))) := (T3.out.trans hb4).more8 _
  have C4 : Hid (Cur (w4.alloc (.cells #[.int .i64 p, .int .i64 (p + q)] 30)) (w.heap.size + 1) sa sl sc) := hc4.more8 _
  have z4 : w.heap.size + 1 < w4.heap.size := hc4.2.2.1
  clear hc3 hb4 R3 T3 hc4
  go_wp2_with fail
  refine (l1Once (w.heap.size + 1) sa sl sc 14 (by decide) (by decide) _ C4.out).mono ?_
  rintro e w5 ⟨tt, rfl, hc5, hb5⟩
  have R5 : Hid (SpBk w5 w.heap.size (0, 0)) := R4.out.bs hb5 (by omega)
  have S5 : Hid (SpBk w5 w4.heap.size (p, p + q)) := S4.out.bs hb5 (by omega)
  have T5 : Hid (Beside (w.heap.size + 1) w1 w5) := T4.out.trans hb5
  have C5 : Hid (Cur w5 (w.heap.size + 1) sa sl sc) := hc5
  clear hc5 hb5 R4 S4 T4 C4
  have fin : Hid (∀ W, Beside (w.heap.size + 1) w1 W → Below w.heap.size w W) := fun W h => B1.out.trans (h.low (by omega) (by omega))
  cases tt with
  | false =>
    have B5 : Hid (Below w.heap.size w w5) := fin.out w5 T5.out
    have r0 := R5.out.c0
    have r1 := R5.out.c1
    have rf := R5.out.fz
    have s0 := S5.out.c0
    have s1 := S5.out.c1
    have P5 := R5.out.put (p, p + q)
    have p0 := P5.c0
    have p1 := P5.c1
    have HP0 : Hid _ := p0
    have HP1 : Hid _ := p1
    clear p0 p1 P5 S5 R5 T5 C5
    go_wp2
    go_region
    all_goals
      have p0 := HP0.out
      have p1 := HP1.out
      go_wp2
      refine bodyPost_ret (v := .tuple #[.string t, .agg #[.int .i64 p, .int .i64 (p + q)]]) (by simp [results, Tryd.results9, go_sem, p0, p1]) rfl ⟨⟨t, (p, p + q), rfl, ht, ⟨⟨by show _ ≤ p; omega, by show p ≤ _; omega⟩, by show _ ≤ p + q; omega, by show p + q ≤ _; omega⟩⟩, ?_⟩
      repeat (first | refine Below.drew ?_ | refine Below.setCell ?_ (by simp <;> omega) _)
      exact B5.out
  | true =>
    go_wp2_with fail
    refine (l1Below (w.heap.size + 1) sa sl sc 3 (by decide) (by decide) _ (C5.out.more8 _)).mono ?_
    rintro e w6 ⟨y, rfl, hy0, hy1, hc6, hb6⟩
    obtain ⟨y, rfl⟩ := Int.eq_ofNat_of_zero_le hy0
    obtain ⟨z, hzC, hz1, hz2⟩ := tabC8 y (by omega)
    have z5 : w.heap.size + 1 < w5.heap.size := C5.out.2.2.1
    have hzw := besideCell hb6 (g := w5.heap.size) (j := y) (v := .int .i64 z) (by omega) (by rw [World.cell?_alloc_mark]; exact hzC)
    have R6 : Hid (SpBk w6 w.heap.size (0, 0)) := (R5.out.alloc _).bs hb6 (by omega)
    have S6 : Hid (SpBk w6 w4.heap.size (p, p + q)) := (S5.out.alloc _).bs hb6 (by omega)
    have T6 : Hid (Beside (w.heap.size + 1) w1 w6) := (T5.out.more8 _).trans hb6
    have B6 : Hid (Below w.heap.size w w6) := fin.out w6 T6.out
    have r0 := R6.out.c0
    have r1 := R6.out.c1
    have rf := R6.out.fz
    have s0 := S6.out.c0
    have s1 := S6.out.c1
    have sf := S6.out.fz
    have S7 := S6.out.put1 z
    have R7 := R6.out.other (k := w4.heap.size) (by omega) 1 (.int .i64 z)
    have P7 := R7.put (p, z)
    have HR : Hid _ := R7
    have HS : Hid _ := S7
    have HP : Hid _ := P7
    clear S7 R7 P7 S6 R6 T6 S5 R5 T5 C5 hc6 hb6 hzC
    go_wp2
    have q0 := HR.out.c0
    have q1 := HR.out.c1
    have qf := HR.out.fz
    have t0 := HS.out.c0
    have t1 := HS.out.c1
    simp only at t0 t1
    go_region
    all_goals
      have p0 := HP.out.c0
      have p1 := HP.out.c1
      simp only at p0 p1
      go_wp2
      refine bodyPost_ret (v := .tuple #[.string t, .agg #[.int .i64 p, .int .i64 z]]) (by simp [results, Tryd.results9, go_sem, p0, p1]) rfl ⟨by first | exact ⟨t, (p, z), rfl, ht, ⟨⟨by show _ ≤ p; omega, by show p ≤ _; omega⟩, hz1, hz2⟩⟩ | exact ⟨t, p, z, rfl, ht, ⟨⟨by show _ ≤ p; omega, by show p ≤ _; omega⟩, hz1, hz2⟩⟩, ?_⟩
      repeat (first | refine Below.drew ?_ | refine Below.setCell ?_ (by simp <;> omega) _)
      exact B6.out
set_option maxRecDepth 100000 in
set_option maxHeartbeats 2000000 in
theorem drawShw (sa : Option Addr) (sl sc : Nat) (w : World) (hc : Code8 w w.heap.size sa sl) (hl : sl ≤ 4096) :
    Calls Tryd.prog 10 #[.slice sa sl sc] w fun e w' => (∃ (x : Sp) (n : Int), e = .returned (.tuple #[spV x, .int .i64 n]) ∧ InR x ∧ -1 ≤ n ∧ n ≤ 14) ∧ Below w.heap.size w w' := by
  have hN := born8 (.cells #[.int .i64 0, .int .i64 0] 30) sa sl sc w hc hl
  have R0 : Hid (SpBk (w.alloc (.cells #[.int .i64 0, .int .i64 0] 30)) w.heap.size (0, 0)) := SpBk.new w (0, 0) 30
  have b0 : Hid (Below w.heap.size w (w.alloc (.cells #[.int .i64 0, .int .i64 0] 30))) := (Below.refl _ w).alloc (Nat.le_refl _) _
  have K0 : Hid (Code8 w w.heap.size sa sl) := hc
  clear hc
  unfold spV
  go_enter Tryd.func10, Tryd.ntmps10
  go_wp2_with fail
  refine hN.mono ?_
  rintro e w1 ⟨rfl, hc1, hb1⟩
  have R1 : Hid (SpBk w1 w.heap.size (0, 0)) := R0.out.kept (by simpa using hb1)
  have B1 : Hid (Below w.heap.size w w1) := b0.out.trans (hb1.mono (by omega))
  have C1 : Hid (Cur w1 (w.heap.size + 1) sa sl sc) := hc1
  have z1 : w.heap.size + 1 < w1.heap.size := hc1.2.2.1
  have hD := drawCut sa sl sc w1 ((K0.out.kept B1.out (Nat.le_refl _)).up8 B1.out.size) hl
  unfold spV at hD
  clear hN R0 b0 hb1 hc1 K0
  go_wp2_with fail
  refine hD.mono ?_
  rintro e w2 ⟨⟨t, x, rfl, ht, hx⟩, hb2⟩
  have R2 : Hid (SpBk (w2.alloc (.cells #[.int .i64 x.1, .int .i64 x.2] 30)) w.heap.size (0, 0)) := (R1.out.kept hb2).alloc _
  have S2 : Hid (SpBk (w2.alloc (.cells #[.int .i64 x.1, .int .i64 x.2] 30)) w2.heap.size x) := SpBk.new w2 x 30
  have B2' : Hid (Below w.heap.size w w2) := B1.out.trans (hb2.mono B1.out.size)
  have B2 : Hid (Below w.heap.size w (w2.alloc (.cells #[.int .i64 x.1, .int .i64 x.2] 30))) := B2'.out.alloc B2'.out.size _
  have C2 : Hid (Cur (w2.alloc (.cells #[.int .i64 x.1, .int .i64 x.2] 30)).drew (w.heap.size + 1) sa sl sc) := (C1.out.kept hb2 z1).more8 (.cells #[.int .i64 x.1, .int .i64 x.2] 30)
  have z2 : w.heap.size + 1 < w2.heap.size := Nat.lt_of_lt_of_le z1 hb2.size
  have x0 := S2.out.c0
  have x1 := S2.out.c1
  clear hD hb2 R1 B1 C1 B2'
  go_wp2
  go_region_with (go_at_call 34; refine (l1FromZ (w.heap.size + 1) sa sl sc (-1) 14 (by decide) (by decide) (by decide) _ C2.out).mono ?_; rintro e w3 ⟨n, rfl, hn0, hn1, hc3, hb3'⟩; have hb3 : Beside (w.heap.size + 1) (w2.alloc (.cells #[.int .i64 x.1, .int .i64 x.2] 30)) w3 := hb3'; clear hb3'; have R3 := R2.out.bs hb3 (by omega); have S3 := S2.out.bs hb3 (by omega); have r0 := R3.c0; have r1 := R3.c1; have rf := R3.fz; have s0 := S3.c0; have s1 := S3.c1; have B3 : Hid (Below w.heap.size w w3) := B2.out.trans (hb3.low (by omega) (by have := B2.out.size; omega)); have P3 := R3.put x; have HP : Hid _ := P3; clear P3 R3 S3 hb3)
  all_goals
    go_wp2
    have p0 := HP.out.c0
    have p1 := HP.out.c1
    refine bodyPost_ret (v := .tuple #[.agg #[.int .i64 x.1, .int .i64 x.2], .int .i64 n]) (by simp [results, Tryd.results10, go_sem, p0, p1]) rfl ⟨by first | exact ⟨x, n, rfl, hx, hn0, hn1⟩ | exact ⟨x.1, x.2, n, rfl, hx, hn0, hn1⟩, ?_⟩
    repeat (first | refine Below.drew ?_ | refine Below.setCell ?_ (by simp <;> omega) _)
    exact B3.out
end Go.Proofs.YtamfgjgmnnnjpaaDoor
