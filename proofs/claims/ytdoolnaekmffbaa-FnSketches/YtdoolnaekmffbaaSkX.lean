/-
  The draws of Marked and of Perhaps.
  The draws of NewSketch and of Marks.
  The draw of Both.
-/
import Derived.Test.YtdoolnaekmffbaaSkS
namespace Go.Proofs.Ytdoolnaekmffbaa
open Go.RowKit Go.Sort Ow Sk
set_option linter.unusedVariables false
set_option linter.unusedSimpArgs false

structure Df (w W : World) (sa : Option Addr) (sl sc : Nat) (m : Nat) (q : Int) (u : Value) (l : List Int) : Prop where
  cur : Cur W (w.heap.size + 1) sa sl sc
  low : Below w.heap.size w W
  r : Bx W w.heap.size 26 #[.int .i64 0, .slice none 0 0]
  bx : Bx W m 26 #[.int .i64 q, u]
  own : OwnsN W (w.heap.size + 2) u l
  ne : u.ownBlock ≠ some m
  mb : w.heap.size + 1 < m
theorem Df.beside {w W W' : World} {sa : Option Addr} {sl sc m : Nat} {q : Int} {u : Value} {l : List Int} (h : Df w W sa sl sc m q u l) (hc : Cur W' (w.heap.size + 1) sa sl sc) (hb : Beside (w.heap.size + 1) W W') : Df w W' sa sl sc m q u l := by
  have h1 := h.mb
  exact ⟨hc, h.low.trans (hb.low (by omega) h.low.size), h.r.bs hb (by omega), h.bx.bs hb (by omega), h.own.bsN hb (by omega), h.ne, h.mb⟩
theorem Df.below {w W W' : World} {sa : Option Addr} {sl sc m : Nat} {q : Int} {u : Value} {l : List Int} (h : Df w W sa sl sc m q u l) (hb : Below W.heap.size W W') : Df w W' sa sl sc m q u l :=
  ⟨h.cur.kept hb h.cur.2.2.1, h.low.trans (hb.mono h.low.size), h.r.kept hb, h.bx.kept hb, h.own.kept hb, h.ne, h.mb⟩
theorem Df.more {w W : World} {sa : Option Addr} {sl sc m : Nat} {q : Int} {u : Value} {l : List Int} (h : Df w W sa sl sc m q u l) (o : Obj) : Df w (W.alloc o) sa sl sc m q u l := h.below ((Below.refl _ W).alloc (Nat.le_refl _) _)
theorem Df.drew {w W : World} {sa : Option Addr} {sl sc m : Nat} {q : Int} {u : Value} {l : List Int} (h : Df w W sa sl sc m q u l) : Df w W.drew sa sl sc m q u l := h.below ⟨rfl, rfl, rfl, Nat.le_refl _, fun _ _ => rfl⟩
theorem Df.put {w W : World} {sa : Option Addr} {sl sc m : Nat} {q q' : Int} {u u' : Value} {l l' : List Int} (h : Df w W sa sl sc m q u l) (ho : OwnsN W (w.heap.size + 2) u' l') (hne : u'.ownBlock ≠ some m) : Df w ((W.setCell ⟨m, 0, none⟩ (.int .i64 q')).setCell ⟨m, 1, none⟩ u') sa sl sc m q' u' l' := by
  have h1 := h.mb
  have k : Below m W ((W.setCell ⟨m, 0, none⟩ (.int .i64 q')).setCell ⟨m, 1, none⟩ u') := ((Below.refl m W).setCell (p := ⟨m, 0, none⟩) (Nat.le_refl m) _).setCell (p := ⟨m, 1, none⟩) (Nat.le_refl m) _
  exact ⟨h.cur.kept k (by omega), h.low.trans (k.mono (by omega)), h.r.low k (by omega), h.bx.put2 _ _, (ho.other _ _ (fun k hk e => hne (by rw [hk]; exact congrArg some e))).other _ _ (fun k hk e => hne (by rw [hk]; exact congrArg some e)), hne, h.mb⟩
theorem Df.out {w W : World} {sa : Option Addr} {sl sc m : Nat} {q : Int} {u : Value} {l : List Int} (h : Df w W sa sl sc m q u l) (x : Value) : OwnsN ((W.setCell ⟨w.heap.size, 0, none⟩ x).setCell ⟨w.heap.size, 1, none⟩ u) w.heap.size u l ∧ Below w.heap.size w ((W.setCell ⟨w.heap.size, 0, none⟩ x).setCell ⟨w.heap.size, 1, none⟩ u) :=
  ⟨((h.own.other _ _ (fun k hk => by have := h.own.from k hk; show k ≠ w.heap.size; omega)).other _ _ (fun k hk => by have := h.own.from k hk; show k ≠ w.heap.size; omega)).low (by omega), (h.low.setCell (p := ⟨w.heap.size, 0, none⟩) (Nat.le_refl _) _).setCell (p := ⟨w.heap.size, 1, none⟩) (Nat.le_refl _) _⟩
/-- The code, one box made ahead. -/
theorem code_past {w : World} {sa : Option Addr} {sl : Nat} (hc : Code8 w w.heap.size sa sl) {W : World} (hb : Below w.heap.size w W) : Code8 W W.heap.size sa sl := by
  intro j hj
  obtain ⟨g, o, z, h1, h2, h3, h4⟩ := hc j hj
  exact ⟨g, o, z, h1, by have := hb.size; omega, (hb.cell (p := ⟨g, o + j, none⟩) h2).trans h3, h4⟩
set_option maxRecDepth 100000 in
set_option maxHeartbeats 4000000 in
theorem drawMrk (sa : Option Addr) (sl sc : Nat) (w : World) (hc : Code8 w w.heap.size sa sl) (hl : sl ≤ 4096) :
    Calls Try.prog 11 #[.slice sa sl sc] w fun e w' => (∃ q u l k, e = .returned (.tuple #[skV q u, .string k]) ∧ OwnsN w' w.heap.size u l ∧ l.length ≤ 513 ∧ k.size ≤ 26) ∧ Below w.heap.size w w' := by
  have hz0 : (w.alloc (.cells #[.int .i64 0, .slice none 0 0] 26)).heap.size = w.heap.size + 1 := by simp
  have B0 : Below w.heap.size w (w.alloc (.cells #[.int .i64 0, .slice none 0 0] 26)) := (Below.refl _ w).alloc (Nat.le_refl _) _
  have R0 := Bx.new w 26 #[.int .i64 0, .slice none 0 0]
  have hN := l1New sa sl sc (w.alloc (.cells #[.int .i64 0, .slice none 0 0] 26)) (code_past hc B0) hl
  have hA := fun b W hW => l14Sk b sa sl sc W hW
  rw [hz0] at hN
  unfold skV at *
  clear hc
  go_enter Try.func11, Try.ntmps11
  go_wp2_with fail
  refine hN.mono ?_
  rintro e w1 ⟨rfl, hc1, hb1⟩
  have R1 : Hid (Bx w1 w.heap.size 26 #[.int .i64 0, .slice none 0 0]) := R0.low hb1 (by omega)
  have B1 : Hid (Below w.heap.size w w1) := B0.trans (hb1.mono (by omega))
  have C1 : Hid (Cur w1 (w.heap.size + 1) sa sl sc) := hc1
  have hz1 : w.heap.size + 1 < w1.heap.size := hc1.2.2.1
  clear hN hc1 hb1 R0 B0 hz0
  go_wp2_with fail
  refine (hA _ _ C1.out).mono ?_
  rintro e w2 ⟨⟨q, u, l, rfl, ho2, hl5⟩, hc2, hb2⟩
  have hz2 : w1.heap.size ≤ w2.heap.size := hb2.2.2.2.1
  have hu2 := fun k hk => ho2.under k hk
  obtain ⟨a, c, rfl, _⟩ := ho2.form
  have D2 : Hid (Df w (w2.alloc (.cells #[.int .i64 q, .slice a l.length c] 26)) sa sl sc w2.heap.size q (.slice a l.length c) l) :=
    ⟨hc2.moreN _, (B1.out.trans (hb2.low (by omega) B1.out.size)).alloc (by omega) _, (R1.out.bs hb2 (by omega)).alloc _, Bx.new _ _ _, (ho2.alloc _).low (by omega), fun e => by have := hu2 _ e; omega, by omega⟩
  have hK := fun W hW => l13Key (w.heap.size + 1) sa sl sc W hW
  generalize hm : w2.heap.size = m at *
  have hmb := D2.out.mb
  clear R1 B1 C1 ho2 hc2 hb2 hA hu2
  go_wp2_with fail
  subst hm
  generalize hW : w2.alloc (.cells #[.int .i64 q, .slice a l.length c] 26) = W at D2 ⊢
  have D3 : Hid (Df w W.drew sa sl sc w2.heap.size q (.slice a l.length c) l) := D2.out.drew
  have z0 : W.cell? ⟨w2.heap.size, 0, none⟩ = _ := D2.out.bx.cell 0
  have z1 : W.cell? ⟨w2.heap.size, 1, none⟩ = _ := D2.out.bx.cell 1
  have hbW : w.heap.size + 1 < W.heap.size := D2.out.cur.2.2.1
  clear hW hz2
  generalize w2.heap.size = m at *
  go_region_law (go_simp; go_at_call 40; refine (hK _ (by first | with_reducible exact D3.out.cur)).mono ?_; rintro e wa ⟨⟨T, rfl, hT⟩, hca, hba⟩; have Da : Hid (Df w wa sa sl sc m q (.slice a l.length c) l) := D3.out.beside hca hba; have a0 := Da.out.bx.cell 0; have a1 := Da.out.bx.cell 1; have s0 := Da.out.r.cell 0; have s1 := Da.out.r.cell 1; have i0 := Da.out.r.free 0; have i1 := Da.out.r.free 1; clear hca hba)
  all_goals
    have HF : Hid _ := Da.out.out (.int .i64 q)
    clear Da D2 D3
    go_wp2
    refine bodyPost_ret (v := .tuple #[.agg #[.int .i64 q, .slice a l.length c], .string T]) (by simp [results, Try.results11, go_sem, s0, s1]) rfl ⟨⟨q, _, l, T, rfl, HF.out.1, by omega, hT⟩, HF.out.2⟩
set_option maxRecDepth 100000 in
set_option maxHeartbeats 4000000 in
theorem drawPrh (sa : Option Addr) (sl sc : Nat) (w : World) (hc : Code8 w w.heap.size sa sl) (hl : sl ≤ 4096) :
    Calls Try.prog 15 #[.slice sa sl sc] w fun e w' => (∃ q u l k, e = .returned (.tuple #[skV q u, .string k]) ∧ OwnsN w' w.heap.size u l ∧ l.length ≤ 513 ∧ k.size ≤ 26) ∧ Below w.heap.size w w' := by
  have hz0 : (w.alloc (.cells #[.int .i64 0, .slice none 0 0] 26)).heap.size = w.heap.size + 1 := by simp
  have B0 : Below w.heap.size w (w.alloc (.cells #[.int .i64 0, .slice none 0 0] 26)) := (Below.refl _ w).alloc (Nat.le_refl _) _
  have R0 := Bx.new w 26 #[.int .i64 0, .slice none 0 0]
  have hN := l1New sa sl sc (w.alloc (.cells #[.int .i64 0, .slice none 0 0] 26)) (code_past hc B0) hl
  have hA := fun b W hW => l14Sk b sa sl sc W hW
  rw [hz0] at hN
  unfold skV at *
  clear hc
  go_enter Try.func15, Try.ntmps15
  go_wp2_with fail
  refine hN.mono ?_
  rintro e w1 ⟨rfl, hc1, hb1⟩
  have R1 : Hid (Bx w1 w.heap.size 26 #[.int .i64 0, .slice none 0 0]) := R0.low hb1 (by omega)
  have B1 : Hid (Below w.heap.size w w1) := B0.trans (hb1.mono (by omega))
  have C1 : Hid (Cur w1 (w.heap.size + 1) sa sl sc) := hc1
  have hz1 : w.heap.size + 1 < w1.heap.size := hc1.2.2.1
  clear hN hc1 hb1 R0 B0 hz0
  go_wp2_with fail
  refine (hA _ _ C1.out).mono ?_
  rintro e w2 ⟨⟨q, u, l, rfl, ho2, hl5⟩, hc2, hb2⟩
  have hz2 : w1.heap.size ≤ w2.heap.size := hb2.2.2.2.1
  have hu2 := fun k hk => ho2.under k hk
  obtain ⟨a, c, rfl, _⟩ := ho2.form
  have D2 : Hid (Df w (w2.alloc (.cells #[.int .i64 q, .slice a l.length c] 26)) sa sl sc w2.heap.size q (.slice a l.length c) l) :=
    ⟨hc2.moreN _, (B1.out.trans (hb2.low (by omega) B1.out.size)).alloc (by omega) _, (R1.out.bs hb2 (by omega)).alloc _, Bx.new _ _ _, (ho2.alloc _).low (by omega), fun e => by have := hu2 _ e; omega, by omega⟩
  have hK := fun W hW => l13Key (w.heap.size + 1) sa sl sc W hW
  have hO := fun W hW => l1Once (w.heap.size + 1) sa sl sc 2 (by decide) (by decide) W hW
  clear R1 B1 C1 ho2 hc2 hb2 hA hu2
  go_wp2_with fail
  refine (hK _ D2.out.cur).mono ?_
  rintro e w3 ⟨⟨T, rfl, hT⟩, hc3, hb3⟩
  have D3 : Hid (Df w w3 sa sl sc w2.heap.size q (.slice a l.length c) l) := D2.out.beside hc3 hb3
  generalize w2.heap.size = m at *
  clear hc3 hb3 D2 hz2
  go_wp2_with fail
  refine (hO _ D3.out.cur).mono ?_
  rintro e w4 ⟨tt, rfl, hc4, hb4⟩
  have D4 : Hid (Df w w4 sa sl sc m q (.slice a l.length c) l) := D3.out.beside hc4 hb4
  clear hc4 hb4 D3
  have y0 := D4.out.bx.cell 0
  have y1 := D4.out.bx.cell 1
  cases tt with
  | false =>
    have HF : Hid _ := D4.out.out (.int .i64 q)
    have s0 := D4.out.r.cell 0
    have s1 := D4.out.r.cell 1
    have i0 := D4.out.r.free 0
    have i1 := D4.out.r.free 1
    clear D4
    go_wp2
    refine bodyPost_ret (v := .tuple #[.agg #[.int .i64 q, .slice a l.length c], .string T]) (by simp [results, Try.results15, go_sem, s0, s1]) rfl ⟨⟨q, _, l, T, rfl, HF.out.1, by omega, hT⟩, HF.out.2⟩
  | true =>
    have hS := specSko q (.slice a l.length c) l w4 D4.out.own.sls
    unfold skV at hS
    go_wp2_with fail
    refine hS.mono ?_
    rintro e w5 ⟨rfl, hb5⟩
    have D5 : Hid (Df w w5 sa sl sc m q (.slice a l.length c) l) := D4.out.below hb5
    clear y0 y1 hb5 D4 hS
    have y0 := D5.out.bx.cell 0
    have y1 := D5.out.bx.cell 1
    cases hok : skOk q l with
    | false =>
      have HF : Hid _ := D5.out.out (.int .i64 q)
      have s0 := D5.out.r.cell 0
      have s1 := D5.out.r.cell 1
      have i0 := D5.out.r.free 0
      have i1 := D5.out.r.free 1
      clear D5
      go_wp2
      refine bodyPost_ret (v := .tuple #[.agg #[.int .i64 q, .slice a l.length c], .string T]) (by simp [results, Try.results15, go_sem, s0, s1]) rfl ⟨⟨q, _, l, T, rfl, HF.out.1, by omega, hT⟩, HF.out.2⟩
    | true =>
      have hM := specMrk q (.slice a l.length c) l T w5 D5.out.own.sls (by omega)
      have hfw := mrkL_few q l T
      unfold skV at hM
      generalize mrkQ q l = Q' at hM
      generalize mrkL q l T = L' at hM hfw
      have hm5 := D5.out.bx.lt
      have hmb := D5.out.mb
      go_wp2_with fail
      refine hM.mono ?_
      rintro e w6 ⟨u', rfl, ho6, hb6⟩
      have hfr := fun k hk => ho6.from k hk
      obtain ⟨a', c', rfl, _⟩ := ho6.form
      have D6 : Hid (Df w w6 sa sl sc m q (.slice a l.length c) l) := D5.out.below hb6
      have D7 : Hid (Df w ((w6.setCell ⟨m, 0, none⟩ (.int .i64 Q')).setCell ⟨m, 1, none⟩ (.slice a' L'.length c')) sa sl sc m Q' (.slice a' L'.length c') L') := D6.out.put (ho6.low (by omega)) (fun e => by have := hfr _ e; omega)
      have HF : Hid _ := D7.out.out (.int .i64 Q')
      clear y0 y1 D5 hM hok ho6 hb6 hfr
      have y0 := D6.out.bx.cell 0
      have y1 := D6.out.bx.cell 1
      have f0 := D6.out.bx.free 0
      have f1 := D6.out.bx.free 1
      have s0 := D6.out.r.cell 0
      have s1 := D6.out.r.cell 1
      have i0 := D6.out.r.free 0
      have i1 := D6.out.r.free 1
      have hmw : w.heap.size ≠ m := by omega
      clear D6 D7
      go_wp2
      refine bodyPost_ret (v := .tuple #[.agg #[.int .i64 Q', .slice a' L'.length c'], .string T]) (by simp [results, Try.results15, go_sem, s0, s1, hmw]) rfl ⟨⟨Q', _, L', T, rfl, HF.out.1, by omega, hT⟩, HF.out.2⟩
end Go.Proofs.Ytdoolnaekmffbaa
namespace Go.Proofs.Ytdoolnaekmffbaa
open Go.RowKit Go.Sort Ow Sk Rw
set_option linter.unusedVariables false
set_option linter.unusedSimpArgs false

theorem drawNw (sa : Option Addr) (sl sc : Nat) (w : World) (hc : Code8 w w.heap.size sa sl) (hl : sl ≤ 4096) :
    Calls Try.prog 17 #[.slice sa sl sc] w fun e w' => (∃ n : Int, e = .returned (.int .i64 n)) ∧ Below w.heap.size w w' := by
  have hN := l1New sa sl sc w hc hl
  clear hc
  go_enter Try.func17, Try.ntmps17
  go_wp2_with fail
  refine hN.mono ?_
  rintro e w1 ⟨rfl, hc1, hb1⟩
  have HB1 : Hid (Below w.heap.size w w1) := hb1
  have C1 : Hid (Cur w1 w.heap.size sa sl sc) := hc1
  have Z1 : w.heap.size < w1.heap.size := hc1.2.2.1
  clear hc1 hN hb1
  go_wp2_with fail
  refine (l1Below w.heap.size sa sl sc 7 (by decide) (by decide) _ (C1.out.moreN _)).mono ?_
  rintro e w2 ⟨x, rfl, hx0, hx1, hc2, hb2⟩
  obtain ⟨x, rfl⟩ := Int.eq_ofNat_of_zero_le hx0
  obtain ⟨z, hz, _, _⟩ := tabIN hb2 (by omega) x (by simp; omega) rfl
  have B2 : Hid (Below w.heap.size w w2) := (show Hid _ from HB1.out.trans ((((Beside.refl _ w1).moreN _).trans hb2).low (Nat.le_refl _) (Nat.le_of_lt Z1)))
  clear hc2 hb2 C1 HB1
  go_wp2
  go_ret
  exact ⟨⟨z, rfl⟩, B2.out⟩
def frDm (b B : Nat) (sa : Option Addr) (sl sc : Nat) (t : Nat → Value) : Act := { tmps := #[.slice sa sl sc, undef, .int .i64 0, .string ⟨#[]⟩, .pointer (some ⟨b, 0, none⟩), .slice sa sl sc, .pointer (some ⟨b, 0, none⟩), t 7, t 8, t 9, t 10, t 11, t 12, t 13], defers := [] }
def dDm (i : Nat) : Nat := if i = 0 then 7 else if i = 1 then 8 else if i = 2 then 9 else if i = 3 then 10 else if i = 4 then 11 else if i = 5 then 12 else if i = 6 then 13 else i + 5000
def GDm (b B : Nat) (sa : Option Addr) (sl sc : Nat) (i : Nat) (x : World) (v : Value) : Prop := match i with
  | 0 => gTabI b [7, 8, 64, 512, 513] x v
  | 1 => v = .pointer (some ⟨b, 0, none⟩)
  | 2 => gNum 5 v
  | 3 => gPtI b [7, 8, 64, 512, 513] x v
  | 4 => gInt (0) (513) v
  | 5 => v = .pointer (some ⟨b, 0, none⟩)
  | 6 => gTxt 26 v
  | _ => True
theorem GDm.keep (b B : Nat) (sa : Option Addr) (sl sc : Nat) {x y : World} (hb : Beside b x y) (hB : b < B) (j : Nat) (v : Value) (hj : j < 7) (h : GDm b B sa sl sc j x v) : GDm b B sa sl sc j y v := by
  rcases (show j = 0 ∨ j = 1 ∨ j = 2 ∨ j = 3 ∨ j = 4 ∨ j = 5 ∨ j = 6 by omega) with rfl | rfl | rfl | rfl | rfl | rfl | rfl
  · exact gTabI.keep h hb
  · exact h
  · exact h
  · exact gPtI.keep h hb
  · exact h
  · exact h
  · exact h
theorem dDm_ne {i j : Nat} (hi : i < 7) (hj : j < 7) (h : j ≠ i) : dDm j ≠ dDm i := by
  rcases (show i = 0 ∨ i = 1 ∨ i = 2 ∨ i = 3 ∨ i = 4 ∨ i = 5 ∨ i = 6 by omega) with rfl | rfl | rfl | rfl | rfl | rfl | rfl <;> rcases (show j = 0 ∨ j = 1 ∨ j = 2 ∨ j = 3 ∨ j = 4 ∨ j = 5 ∨ j = 6 by omega) with rfl | rfl | rfl | rfl | rfl | rfl | rfl <;> first | (exact absurd rfl h) | decide
set_option maxRecDepth 100000 in
set_option maxHeartbeats 4000000 in
theorem drawMks (sa : Option Addr) (sl sc : Nat) (w : World) (hc : Code8 w w.heap.size sa sl) (hl : sl ≤ 4096) :
    Calls Try.prog 16 #[.slice sa sl sc] w fun e w' => (∃ (n : Int) (s : ByteArray), e = .returned (.tuple #[.int .i64 n, .string s]) ∧ s.size ≤ 26) ∧ Below w.heap.size w w' := by
  have hN := l1New sa sl sc w hc hl
  clear hc
  go_enter Try.func16, Try.ntmps16
  go_wp2_with fail
  refine hN.mono ?_
  rintro e w1 ⟨rfl, hc1, hb1⟩
  have HB1 : Hid (Below w.heap.size w w1) := hb1
  have hBb : w.heap.size < w1.heap.size := hc1.2.2.1
  have HZ : Hid (w.heap.size ≤ w.heap.size) := Nat.le_refl _
  go_upto_region 2 with fail
  obtain ⟨b, hb⟩ : ∃ b, b = w.heap.size := ⟨_, rfl⟩
  rw [← hb] at hc1 hBb ⊢
  have HBw : Hid (b = w.heap.size) := hb
  clear hb hb1 hN
  refine region_heads 7 mixed (by decide) (by kernel_rfl) (by kernel_rfl) (by kernel_rfl) (by kernel_rfl) (frDm b w1.heap.size sa sl sc) dDm (SCur b sa sl sc w1.drew) (GDm b w1.heap.size sa sl sc) (fun i j hi hj h => dDm_ne hi hj h) ?put (fun _ => undef) rfl ?hS ?step ?done
  case put =>
    intro i o hi ho t v
    rcases (show i = 0 ∨ i = 1 ∨ i = 2 ∨ i = 3 ∨ i = 4 ∨ i = 5 ∨ i = 6 by omega) with rfl | rfl | rfl | rfl | rfl | rfl | rfl
    all_goals
      obtain rfl := Option.some.inj ho
      rfl
  case step =>
    intro i o hi ho t x hS hdep K hK
    rcases (show i = 0 ∨ i = 1 ∨ i = 2 ∨ i = 3 ∨ i = 4 ∨ i = 5 ∨ i = 6 by omega) with rfl | rfl | rfl | rfl | rfl | rfl | rfl
    all_goals obtain rfl := Option.some.inj ho
    · have HK : Hid (K ((frDm b w1.heap.size sa sl sc t).put (some 7) (.slice (some ⟨x.heap.size, 0, none⟩) 5 5)) (x.alloc (.cells (List.map (Value.int .i64) [7, 8, 64, 512, 513]).toArray 2))) := hK _ _ (hS.more _) (fun j u hj hne h => GDm.keep b w1.heap.size sa sl sc (besAlloc b x _) hBb j u hj h) ⟨x.heap.size, rfl, newAt x _, (by have := hS.lt; omega)⟩
      unfold frDm
      go_simp
      exact HK.out
    · have HK : Hid (K ((frDm b w1.heap.size sa sl sc t).put (some 8) (.pointer (some ⟨b, 0, none⟩))) x) := hK _ _ hS (fun j u hj hne h => h) rfl
      unfold frDm
      go_simp
      exact HK.out
    · have e : t 8 = .pointer (some ⟨b, 0, none⟩) := hdep { on := 1, ground := Ground.data } (by simp) rfl
      exact step_below rfl 5 (by decide) (by decide) (.tmp 8) _ rfl e hS (fun v y k1 k2 k3 => hK v y k1 (fun j u hj hne h => GDm.keep b w1.heap.size sa sl sc k2 hBb j u hj h) k3)
    · have ga : gTabI b [7, 8, 64, 512, 513] x (t 7) := hdep { on := 0, ground := Ground.data } (by simp) rfl
      obtain ⟨g, ea, hT, hgb⟩ := ga
      have gc : gNum 5 (t 9) := hdep { on := 2, ground := Ground.data } (by simp) rfl
      obtain ⟨k, ec, hk⟩ := gc
      have hkI : (k : Int) < 5 := by omega
      have hk0 : ¬ (k : Int) < 0 := by omega
      have HK : Hid (K ((frDm b w1.heap.size sa sl sc t).put (some 10) (.pointer (some ⟨g, k, none⟩))) x) := hK _ _ hS (fun j u hj hne h => h) ⟨g, k, rfl, hk, hT, hgb⟩
      have h2 := HK.out
      unfold frDm at h2 ⊢
      go_simp
      simpa [Act.put, ea, ec, hkI] using h2
    · have ga : gPtI b [7, 8, 64, 512, 513] x (t 10) := hdep { on := 3, ground := Ground.data } (by simp) rfl
      obtain ⟨g, k, ea, hk, hT, hgb⟩ := ga
      obtain ⟨z, hz0, hz1, c0⟩ : ∃ z : Int, 0 ≤ z ∧ z ≤ 513 ∧ x.cell? ⟨g, k, none⟩ = some (.int .i64 z) := ⟨_, ((by decide : ∀ s ∈ ([7, 8, 64, 512, 513] : List Int), (0) ≤ s ∧ s ≤ 513) _ (List.getElem_mem hk)).1, ((by decide : ∀ s ∈ ([7, 8, 64, 512, 513] : List Int), (0) ≤ s ∧ s ≤ 513) _ (List.getElem_mem hk)).2, tabI_at hT hk⟩
      have HK : Hid (K ((frDm b w1.heap.size sa sl sc t).put (some 11) (.int .i64 z)) x) := hK _ _ hS (fun j u hj hne h => h) ⟨z, rfl, hz0, hz1⟩
      have h2 := HK.out
      unfold frDm at h2 ⊢
      go_simp
      simpa [Act.put, ea, c0] using h2
    · have HK : Hid (K ((frDm b w1.heap.size sa sl sc t).put (some 12) (.pointer (some ⟨b, 0, none⟩))) x) := hK _ _ hS (fun j u hj hne h => h) rfl
      unfold frDm
      go_simp
      exact HK.out
    · have e : t 12 = .pointer (some ⟨b, 0, none⟩) := hdep { on := 5, ground := Ground.data } (by simp) rfl
      exact step_draw1 rfl 40 (.tmp 12) _ rfl e hS (Go.Proofs.enters_of Try.func40 (by kernel_rfl) rfl) (fun x v => gTxt 26 v) ((l13Key b sa sl sc x hS.1).mono fun e y ⟨⟨s, h0, h1⟩, h2, h3⟩ => ⟨⟨_, h0, s, rfl, h1⟩, h2, h3⟩) (fun v y k1 k2 k3 => hK v y k1 (fun j u hj hne h => GDm.keep b w1.heap.size sa sl sc k2 hBb j u hj h) k3)
  case hS => exact ⟨hc1, Beside.refl _ _⟩
  case done =>
    intro t x hS hG
    have g4 : gInt 0 513 (t 11) := hG 4 (by decide)
    have g6 : gTxt 26 (t 13) := hG 6 (by decide)
    obtain ⟨z, e1, h1, _⟩ := g4
    obtain ⟨s, e2, h2⟩ := g6
    have S1 : Hid (Beside b w1 x) := (show Hid _ from ⟨hS.2.1, hS.2.2.1, hS.2.2.2.1, hS.2.2.2.2.1, hS.2.2.2.2.2⟩)
    have B1 : Hid (Below w.heap.size w x) := (show Hid _ from HB1.out.trans (S1.out.low (by have := HBw.out; omega) (by have := HBw.out; omega)))
    clear hG hS S1
    show wpList Try.prog _ _ [_, _] _ x
    unfold frDm
    rw [e1, e2]
    go_wp2
    go_ret2
    exact ⟨⟨z, s, rfl, h2⟩, B1.out⟩
end Go.Proofs.Ytdoolnaekmffbaa
namespace Go.Proofs.Ytdoolnaekmffbaa
open Go.RowKit Go.Sort Ow Sk
set_option linter.unusedVariables false
set_option linter.unusedSimpArgs false

theorem own_ne {W : World} {B : Nat} {u : Value} {l : List Int} {m : Nat} {vs : Array Value} (h : OwnsN W B u l) (hb : Bx W m 26 vs) : u.ownBlock ≠ some m := by
  rcases h.2 with ⟨rfl, _⟩ | ⟨g, cap, cur, rfl, _, hg, _⟩
  · simp [Value.ownBlock]
  · intro e
    simp [Value.ownBlock] at e
    subst e
    have := hg.symm.trans hb
    injection this with this
    injection this with _ this _
    exact absurd this (by decide)
structure Dg (w W : World) (sa : Option Addr) (sl sc m1 m2 : Nat) (q : Int) (u : Value) (l : List Int) (q2 : Int) (u2 : Value) (l2 : List Int) : Prop where
  cur : Cur W (w.heap.size + 2) sa sl sc
  low : Below w.heap.size w W
  r1 : Bx W w.heap.size 26 #[.int .i64 0, .slice none 0 0]
  r2 : Bx W (w.heap.size + 1) 26 #[.int .i64 0, .slice none 0 0]
  b1 : Bx W m1 26 #[.int .i64 q, u]
  b2 : Bx W m2 26 #[.int .i64 q2, u2]
  o1 : OwnsN W (w.heap.size + 3) u l
  o2 : OwnsN W (w.heap.size + 3) u2 l2
  mb1 : w.heap.size + 2 < m1
  mb2 : w.heap.size + 2 < m2
  ne : m1 ≠ m2
theorem Dg.beside {w W W' : World} {sa : Option Addr} {sl sc m1 m2 : Nat} {q : Int} {u : Value} {l : List Int} {q2 : Int} {u2 : Value} {l2 : List Int} (h : Dg w W sa sl sc m1 m2 q u l q2 u2 l2) (hc : Cur W' (w.heap.size + 2) sa sl sc) (hb : Beside (w.heap.size + 2) W W') : Dg w W' sa sl sc m1 m2 q u l q2 u2 l2 := by
  have h1 := h.mb1; have h2 := h.mb2
  exact ⟨hc, h.low.trans (hb.low (by omega) h.low.size), h.r1.bs hb (by omega), h.r2.bs hb (by omega), h.b1.bs hb (by omega), h.b2.bs hb (by omega), h.o1.bsN hb (by omega), h.o2.bsN hb (by omega), h.mb1, h.mb2, h.ne⟩
theorem Dg.below {w W W' : World} {sa : Option Addr} {sl sc m1 m2 : Nat} {q : Int} {u : Value} {l : List Int} {q2 : Int} {u2 : Value} {l2 : List Int} (h : Dg w W sa sl sc m1 m2 q u l q2 u2 l2) (hb : Below W.heap.size W W') : Dg w W' sa sl sc m1 m2 q u l q2 u2 l2 :=
  ⟨h.cur.kept hb h.cur.2.2.1, h.low.trans (hb.mono h.low.size), h.r1.kept hb, h.r2.kept hb, h.b1.kept hb, h.b2.kept hb, h.o1.kept hb, h.o2.kept hb, h.mb1, h.mb2, h.ne⟩
theorem Dg.drew {w W : World} {sa : Option Addr} {sl sc m1 m2 : Nat} {q : Int} {u : Value} {l : List Int} {q2 : Int} {u2 : Value} {l2 : List Int} (h : Dg w W sa sl sc m1 m2 q u l q2 u2 l2) : Dg w W.drew sa sl sc m1 m2 q u l q2 u2 l2 := h.below ⟨rfl, rfl, rfl, Nat.le_refl _, fun _ _ => rfl⟩
theorem Dg.put {w W : World} {sa : Option Addr} {sl sc m1 m2 : Nat} {q : Int} {u : Value} {l : List Int} {q2 : Int} {u2 : Value} {l2 : List Int} {q' : Int} {u' : Value} {l' : List Int} (h : Dg w W sa sl sc m1 m2 q u l q2 u2 l2) (ho : OwnsN W (w.heap.size + 3) u' l') : Dg w ((W.setCell ⟨m2, 0, none⟩ (.int .i64 q')).setCell ⟨m2, 1, none⟩ u') sa sl sc m1 m2 q u l q' u' l' := by
  have h1 := h.mb1; have h2 := h.mb2
  have hne := own_ne ho h.b2
  have hn1 := own_ne h.o1 h.b2
  have k : Below (w.heap.size + 3) W ((W.setCell ⟨m2, 0, none⟩ (.int .i64 q')).setCell ⟨m2, 1, none⟩ u') := ((Below.refl _ W).setCell (p := ⟨m2, 0, none⟩) (show _ ≤ m2 by omega) _).setCell (p := ⟨m2, 1, none⟩) (show _ ≤ m2 by omega) _
  exact ⟨h.cur.kept k (by omega), h.low.trans (k.mono (by omega)), h.r1.low k (by omega), h.r2.low k (by omega), (h.b1.other _ _ h.ne).other _ _ h.ne, h.b2.put2 _ _, (h.o1.other _ _ (fun k hk e => hn1 (by rw [hk]; exact congrArg some e))).other _ _ (fun k hk e => hn1 (by rw [hk]; exact congrArg some e)), (ho.other _ _ (fun k hk e => hne (by rw [hk]; exact congrArg some e))).other _ _ (fun k hk e => hne (by rw [hk]; exact congrArg some e)), h.mb1, h.mb2, h.ne⟩
theorem Dg.out {w W : World} {sa : Option Addr} {sl sc m1 m2 : Nat} {q : Int} {u : Value} {l : List Int} {q2 : Int} {u2 : Value} {l2 : List Int} (h : Dg w W sa sl sc m1 m2 q u l q2 u2 l2) (x y : Value) : OwnsN ((((W.setCell ⟨w.heap.size, 0, none⟩ x).setCell ⟨w.heap.size, 1, none⟩ u).setCell ⟨w.heap.size + 1, 0, none⟩ y).setCell ⟨w.heap.size + 1, 1, none⟩ u2) w.heap.size u l ∧ OwnsN ((((W.setCell ⟨w.heap.size, 0, none⟩ x).setCell ⟨w.heap.size, 1, none⟩ u).setCell ⟨w.heap.size + 1, 0, none⟩ y).setCell ⟨w.heap.size + 1, 1, none⟩ u2) w.heap.size u2 l2 ∧ Below w.heap.size w ((((W.setCell ⟨w.heap.size, 0, none⟩ x).setCell ⟨w.heap.size, 1, none⟩ u).setCell ⟨w.heap.size + 1, 0, none⟩ y).setCell ⟨w.heap.size + 1, 1, none⟩ u2) := by
  have f : ∀ (v : Value) (L : List Int), OwnsN W (w.heap.size + 3) v L → OwnsN ((((W.setCell ⟨w.heap.size, 0, none⟩ x).setCell ⟨w.heap.size, 1, none⟩ u).setCell ⟨w.heap.size + 1, 0, none⟩ y).setCell ⟨w.heap.size + 1, 1, none⟩ u2) w.heap.size v L := fun v L ho =>
    ((((ho.other _ _ (fun k hk => by have := ho.from k hk; show k ≠ w.heap.size; omega)).other _ _ (fun k hk => by have := ho.from k hk; show k ≠ w.heap.size; omega)).other _ _ (fun k hk => by have := ho.from k hk; show k ≠ w.heap.size + 1; omega)).other _ _ (fun k hk => by have := ho.from k hk; show k ≠ w.heap.size + 1; omega)).low (by omega)
  exact ⟨f _ _ h.o1, f _ _ h.o2, (((h.low.setCell (p := ⟨w.heap.size, 0, none⟩) (Nat.le_refl _) _).setCell (p := ⟨w.heap.size, 1, none⟩) (Nat.le_refl _) _).setCell (p := ⟨w.heap.size + 1, 0, none⟩) (Nat.le_succ _) _).setCell (p := ⟨w.heap.size + 1, 1, none⟩) (Nat.le_succ _) _⟩
set_option maxRecDepth 100000 in
set_option maxHeartbeats 4000000 in
theorem drawBth (sa : Option Addr) (sl sc : Nat) (w : World) (hc : Code8 w w.heap.size sa sl) (hl : sl ≤ 4096) :
    Calls Try.prog 13 #[.slice sa sl sc] w fun e w' => (∃ q u l q2 u2 l2, e = .returned (.tuple #[skV q u, skV q2 u2]) ∧ OwnsN w' w.heap.size u l ∧ l.length ≤ 513 ∧ OwnsN w' w.heap.size u2 l2 ∧ l2.length ≤ 513) ∧ Below w.heap.size w w' := by
  have hz0 : ((w.alloc (.cells #[.int .i64 0, .slice none 0 0] 26)).alloc (.cells #[.int .i64 0, .slice none 0 0] 26)).heap.size = w.heap.size + 2 := by simp
  have B0 : Below w.heap.size w ((w.alloc (.cells #[.int .i64 0, .slice none 0 0] 26)).alloc (.cells #[.int .i64 0, .slice none 0 0] 26)) := ((Below.refl _ w).alloc (Nat.le_refl _) _).alloc (by simp) _
  have R0 := (Bx.new w 26 #[.int .i64 0, .slice none 0 0]).alloc (.cells #[.int .i64 0, .slice none 0 0] 26)
  have P0 := Bx.new (w.alloc (.cells #[.int .i64 0, .slice none 0 0] 26)) 26 #[.int .i64 0, .slice none 0 0]
  rw [show (w.alloc (.cells #[.int .i64 0, .slice none 0 0] 26)).heap.size = w.heap.size + 1 from by simp] at P0
  have hN := l1New sa sl sc ((w.alloc (.cells #[.int .i64 0, .slice none 0 0] 26)).alloc (.cells #[.int .i64 0, .slice none 0 0] 26)) (code_past hc B0) hl
  have hA := fun b W hW => l14Sk b sa sl sc W hW
  rw [hz0] at hN
  unfold skV at *
  clear hc
  go_enter Try.func13, Try.ntmps13
  go_wp2_with fail
  refine hN.mono ?_
  rintro e w1 ⟨rfl, hc1, hb1⟩
  have R1 : Hid (Bx w1 w.heap.size 26 #[.int .i64 0, .slice none 0 0]) := R0.low hb1 (by omega)
  have P1 : Hid (Bx w1 (w.heap.size + 1) 26 #[.int .i64 0, .slice none 0 0]) := P0.low hb1 (by omega)
  have B1 : Hid (Below w.heap.size w w1) := B0.trans (hb1.mono (by omega))
  have C1 : Hid (Cur w1 (w.heap.size + 2) sa sl sc) := hc1
  have hz1 : w.heap.size + 2 < w1.heap.size := hc1.2.2.1
  clear hN hc1 hb1 R0 P0 B0 hz0
  go_wp2_with fail
  refine (hA _ _ C1.out).mono ?_
  rintro e w2 ⟨⟨q, u, l, rfl, ho2, hl5⟩, hc2, hb2⟩
  have hz2 : w1.heap.size ≤ w2.heap.size := hb2.2.2.2.1
  obtain ⟨a, c, rfl, _⟩ := ho2.form
  have R2 : Hid (Bx (w2.alloc (.cells #[.int .i64 q, .slice a l.length c] 26)) w.heap.size 26 #[.int .i64 0, .slice none 0 0]) := (R1.out.bs hb2 (by omega)).alloc _
  have P2 : Hid (Bx (w2.alloc (.cells #[.int .i64 q, .slice a l.length c] 26)) (w.heap.size + 1) 26 #[.int .i64 0, .slice none 0 0]) := (P1.out.bs hb2 (by omega)).alloc _
  have X2 : Hid (Bx (w2.alloc (.cells #[.int .i64 q, .slice a l.length c] 26)) w2.heap.size 26 #[.int .i64 q, .slice a l.length c]) := (show Hid _ from Bx.new _ _ _)
  have O2 : Hid (OwnsN (w2.alloc (.cells #[.int .i64 q, .slice a l.length c] 26)) (w.heap.size + 3) (.slice a l.length c) l) := (show Hid _ from (ho2.alloc _).low (by omega))
  have C2 : Hid (Cur (w2.alloc (.cells #[.int .i64 q, .slice a l.length c] 26)) (w.heap.size + 2) sa sl sc) := hc2.moreN _
  have B2 : Hid (Below w.heap.size w (w2.alloc (.cells #[.int .i64 q, .slice a l.length c] 26))) := (show Hid _ from (B1.out.trans (hb2.low (by omega) B1.out.size)).alloc (by omega) _)
  have hz3 : (w2.alloc (.cells #[.int .i64 q, .slice a l.length c] 26)).heap.size = w2.heap.size + 1 := by simp
  clear R1 P1 B1 C1 hb2 hc2 ho2
  go_wp2_with fail
  generalize hW3 : w2.alloc (.cells #[.int .i64 q, .slice a l.length c] 26) = w3 at R2 P2 X2 O2 C2 B2 hz3 ⊢
  refine (hA _ _ C2.out).mono ?_
  rintro e w4 ⟨⟨q2, u2, l2, rfl, ho4, hl52⟩, hc4, hb4⟩
  have hz4 : w3.heap.size ≤ w4.heap.size := hb4.2.2.2.1
  obtain ⟨a2, c2, rfl, _⟩ := ho4.form
  have D4 : Hid (Dg w (w4.alloc (.cells #[.int .i64 q2, .slice a2 l2.length c2] 26)) sa sl sc w2.heap.size w4.heap.size q (.slice a l.length c) l q2 (.slice a2 l2.length c2) l2) :=
    ⟨hc4.moreN _, (B2.out.trans (hb4.low (by omega) B2.out.size)).alloc (by omega) _, (R2.out.bs hb4 (by omega)).alloc _, (P2.out.bs hb4 (by omega)).alloc _, (X2.out.bs hb4 (by omega)).alloc _, Bx.new _ _ _, (O2.out.bsN hb4 (by omega)).alloc _, (ho4.alloc _).low (by omega), by omega, by omega, by omega⟩
  have hO := fun W hW => l1Once (w.heap.size + 2) sa sl sc 4 (by decide) (by decide) W hW
  have hBl := fun W hW => l1Below (w.heap.size + 2) sa sl sc 4 (by decide) (by decide) W hW
  have hKy := fun W hW => l13Key (w.heap.size + 2) sa sl sc W hW
  clear R2 P2 X2 O2 C2 B2 hc4 hb4 ho4 hA hW3
  go_wp2_with fail
  generalize w2.heap.size = m1 at *
  refine (hO _ D4.out.cur).mono ?_
  rintro e w5 ⟨tt, rfl, hc5, hb5⟩
  have D5 : Hid (Dg w w5 sa sl sc m1 w4.heap.size q (.slice a l.length c) l q2 (.slice a2 l2.length c2) l2) := D4.out.beside hc5 hb5
  generalize w4.heap.size = m2 at *
  clear hc5 hb5 D4 hz1 hz2 hz3 hz4 hO
  cases tt with
  | true =>
    have HF : Hid _ := D5.out.out (.int .i64 q) (.int .i64 q2)
    have z0 := D5.out.b1.cell 0
    have z1 := D5.out.b1.cell 1
    have z2 := D5.out.b2.cell 0
    have z3 := D5.out.b2.cell 1
    have r0 := D5.out.r1.cell 0
    have r1 := D5.out.r1.cell 1
    have r2 := D5.out.r2.cell 0
    have r3 := D5.out.r2.cell 1
    have g0 := D5.out.r1.free 0
    have g1 := D5.out.r1.free 1
    have g2 := D5.out.r2.free 0
    have g3 := D5.out.r2.free 1
    have hm1 := D5.out.mb1
    have hm2 := D5.out.mb2
    have e11 : m1 ≠ w.heap.size := by omega
    have e12 : m1 ≠ w.heap.size + 1 := by omega
    have e21 : m2 ≠ w.heap.size := by omega
    have e22 : m2 ≠ w.heap.size + 1 := by omega
    clear D5
    go_wp2_with fail
    go_region
    all_goals
      go_wp2
      refine bodyPost_ret (v := .tuple #[.agg #[.int .i64 q, .slice a l.length c], .agg #[.int .i64 q2, .slice a2 l2.length c2]]) (by simp [results, Try.results13, go_sem, r0, r1, r2, r3]) rfl ⟨⟨q, _, l, q2, _, l2, rfl, HF.out.1, by omega, HF.out.2.1, by omega⟩, HF.out.2.2.drew⟩
  | false =>
    have y0 := D5.out.b1.cell 0
    have y1 := D5.out.b1.cell 1
    have hS := specSko q (.slice a l.length c) l w5 D5.out.o1.sls
    unfold skV at hS
    go_wp2_with fail
    refine hS.mono ?_
    rintro e w6 ⟨rfl, hb6⟩
    have D6 : Hid (Dg w w6 sa sl sc m1 m2 q (.slice a l.length c) l q2 (.slice a2 l2.length c2) l2) := D5.out.below hb6
    clear y0 y1 hb6 D5 hS
    cases hok : skOk q l with
    | false =>
      have HF : Hid _ := D6.out.out (.int .i64 q) (.int .i64 q2)
      have z0 := D6.out.b1.cell 0
      have z1 := D6.out.b1.cell 1
      have z2 := D6.out.b2.cell 0
      have z3 := D6.out.b2.cell 1
      have r0 := D6.out.r1.cell 0
      have r1 := D6.out.r1.cell 1
      have r2 := D6.out.r2.cell 0
      have r3 := D6.out.r2.cell 1
      have g0 := D6.out.r1.free 0
      have g1 := D6.out.r1.free 1
      have g2 := D6.out.r2.free 0
      have g3 := D6.out.r2.free 1
      have hm1 := D6.out.mb1
      have hm2 := D6.out.mb2
      have e11 : m1 ≠ w.heap.size := by omega
      have e12 : m1 ≠ w.heap.size + 1 := by omega
      have e21 : m2 ≠ w.heap.size := by omega
      have e22 : m2 ≠ w.heap.size + 1 := by omega
      clear D6
      go_wp2_with fail
      go_region
      all_goals
        go_wp2
        refine bodyPost_ret (v := .tuple #[.agg #[.int .i64 q, .slice a l.length c], .agg #[.int .i64 q2, .slice a2 l2.length c2]]) (by simp [results, Try.results13, go_sem, r0, r1, r2, r3]) rfl ⟨⟨q, _, l, q2, _, l2, rfl, HF.out.1, by omega, HF.out.2.1, by omega⟩, HF.out.2.2.drew⟩
    | true =>
      have D7 : Hid (Dg w ((w6.setCell ⟨m2, 0, none⟩ (.int .i64 q)).setCell ⟨m2, 1, none⟩ (.slice none 0 0)) sa sl sc m1 m2 q (.slice a l.length c) l q (.slice none 0 0) []) := D6.out.put (OwnsE.none _ _)
      have z0 := D6.out.b1.cell 0
      have z2 := D6.out.b2.cell 0
      have z3 := D6.out.b2.cell 1
      have f2 := D6.out.b2.free 0
      have f3 := D6.out.b2.free 1
      clear D6 hok
      go_wp2_with fail
      generalize (w6.setCell ⟨m2, 0, none⟩ (.int .i64 q)).setCell ⟨m2, 1, none⟩ (.slice none 0 0) = w7 at D7 ⊢
      clear z0 z2 z3 f2 f3
      refine (hBl _ D7.out.cur).mono ?_
      rintro e w8 ⟨y, rfl, hy0, hy1, hc8, hb8⟩
      obtain ⟨y, rfl⟩ := Int.eq_ofNat_of_zero_le hy0
      have D8 : Hid (Dg w w8 sa sl sc m1 m2 q (.slice a l.length c) l q (.slice none 0 0) []) := D7.out.beside hc8 hb8
      clear hc8 hb8 D7 hl52
      go_wp2_with fail
      go_loopw [7] (fun n wr => ∃ (k : Nat) (q2 : Int) (a2 : Option Addr) (c2 : Nat) (l2 : List Int), n = .int .i64 k ∧ k ≤ 3 ∧ Hid (Dg w wr sa sl sc m1 m2 q (.slice a l.length c) l q2 (.slice a2 l2.length c2) l2) ∧ l2.length ≤ 512) (fun n _ => (intOf n).toNat)
      case atStart => exact ⟨y, q, none, 0, [], rfl, by omega, D8, by simp⟩
      case round =>
        clear D8
        obtain ⟨k, q2, a2, c2, l2, rfl, hk3, D3, hl52⟩ := hrel
        by_cases hk : 0 < k
        · have hpl := fun T => mrkL_few q2 l2 T
          have hsp := fun T W hW hT => specMrk q2 (.slice a2 l2.length c2) l2 T W hW hT
          unfold skV at hsp
          have D4 : Hid (Dg w wr.drew sa sl sc m1 m2 q (.slice a l.length c) l q2 (.slice a2 l2.length c2) l2) := D3.out.drew
          have y0 : wr.cell? ⟨m2, 0, none⟩ = some (.int .i64 q2) := D3.out.b2.cell 0
          have y1 : wr.cell? ⟨m2, 1, none⟩ = some (.slice a2 l2.length c2) := D3.out.b2.cell 1
          have yl : m2 < wr.heap.size := D3.out.b2.lt
          generalize mrkQ q2 l2 = Q' at hsp
          clear D3
          go_wp2_with fail
          go_region_with (first
            | (go_at_call 21; refine (hsp T _ (by with_reducible exact Da.out.o2.sls) (by omega)).mono ?_; rintro e wc ⟨u', rfl, ho, hbl⟩; have hp1 := hpl T; generalize mrkL q2 l2 T = L' at ho hp1; obtain ⟨a', c', rfl, _⟩ := ho.form; have Dc : Hid (Dg w wc sa sl sc m1 m2 q (.slice a l.length c) l q2 (.slice a2 l2.length c2) l2) := Da.out.below hbl; have DD : Hid (Dg w ((wc.setCell ⟨m2, 0, none⟩ (.int .i64 Q')).setCell ⟨m2, 1, none⟩ (.slice a' L'.length c')) sa sl sc m1 m2 q (.slice a l.length c) l Q' (.slice a' L'.length c') L') := Dc.out.put (ho.low (by have := Da.out.cur.2.2.1; omega)); have c0 := Dc.out.b2.cell 0; have c1 := Dc.out.b2.cell 1; have f0 := Dc.out.b2.free 0; have f1 := Dc.out.b2.free 1; have cl := Dc.out.b2.lt; clear ho hbl Dc)
            | (go_at_call 40; refine (hKy _ (by with_reducible exact D4.out.cur)).mono ?_; rintro e wa ⟨⟨T, rfl, hT⟩, hca, hba⟩; have Da : Hid (Dg w wa sa sl sc m1 m2 q (.slice a l.length c) l q2 (.slice a2 l2.length c2) l2) := D4.out.beside hca hba; have a0 := Da.out.b2.cell 0; have a1 := Da.out.b2.cell 1; have al := Da.out.b2.lt; clear hca hba))
          all_goals
            go_wp2
            go_roundw
            case rel => exact ⟨k - 1, Q', a', c', L', by go_num, by omega, DD, hp1⟩
            case measure => simp [intOf]; omega
        · have hnn : True := trivial
          have HF : Hid _ := D3.out.out (.int .i64 q) (.int .i64 q2)
          have z0 := D3.out.b1.cell 0
          have z1 := D3.out.b1.cell 1
          have z2 := D3.out.b2.cell 0
          have z3 := D3.out.b2.cell 1
          have r0 := D3.out.r1.cell 0
          have r1 := D3.out.r1.cell 1
          have r2 := D3.out.r2.cell 0
          have r3 := D3.out.r2.cell 1
          have g0 := D3.out.r1.free 0
          have g1 := D3.out.r1.free 1
          have g2 := D3.out.r2.free 0
          have g3 := D3.out.r2.free 1
          have hm1 := D3.out.mb1
          have hm2 := D3.out.mb2
          have e11 : m1 ≠ w.heap.size := by omega
          have e12 : m1 ≠ w.heap.size + 1 := by omega
          have e21 : m2 ≠ w.heap.size := by omega
          have e22 : m2 ≠ w.heap.size + 1 := by omega
          clear D3
          go_wp2_with fail
          go_region
          all_goals
            go_wp2
            refine bodyPost_ret (v := .tuple #[.agg #[.int .i64 q, .slice a l.length c], .agg #[.int .i64 q2, .slice a2 l2.length c2]]) (by simp [results, Try.results13, go_sem, r0, r1, r2, r3]) rfl ⟨⟨q, _, l, q2, _, l2, rfl, HF.out.1, by omega, HF.out.2.1, by omega⟩, HF.out.2.2.drew⟩
end Go.Proofs.Ytdoolnaekmffbaa
