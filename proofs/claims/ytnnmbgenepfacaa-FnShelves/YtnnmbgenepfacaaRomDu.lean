/-
  The draws of Place and of Used, given what the draw of a right shelf answers.
-/
import Derived.Test.YtnnmbgenepfacaaRomDa
namespace Go.Proofs.Ytnnmbgenepfacaa
open Go.RowKit Go.Sort Rom
set_option linter.unusedVariables false
set_option linter.unusedSimpArgs false

structure De (w W : World) (sa : Option Addr) (sl sc : Nat) (m : Nat) (q : Int) (u : Value) (l : List It) : Prop where
  cur : Cur W (w.heap.size + 1) sa sl sc
  low : Below w.heap.size w W
  r : TwoB W w.heap.size (.int .i64 0) (.slice none 0 0)
  bx : TwoB W m (.int .i64 q) u
  own : OwnsI8 W (w.heap.size + 2) u l
  mb : w.heap.size + 1 < m
theorem De.beside {w W W' : World} {sa : Option Addr} {sl sc m : Nat} {q : Int} {u : Value} {l : List It} (h : De w W sa sl sc m q u l) (hc : Cur W' (w.heap.size + 1) sa sl sc) (hb : Beside (w.heap.size + 1) W W') : De w W' sa sl sc m q u l := by
  have h1 := h.mb
  exact ⟨hc, h.low.trans (hb.low (by omega) h.low.size), h.r.bs hb (by omega), h.bx.bs hb (by omega), h.own.bsN hb (by omega), h.mb⟩
theorem De.below {w W W' : World} {sa : Option Addr} {sl sc m : Nat} {q : Int} {u : Value} {l : List It} (h : De w W sa sl sc m q u l) (hb : Below W.heap.size W W') : De w W' sa sl sc m q u l := by
  exact ⟨h.cur.kept hb h.cur.2.2.1, h.low.trans (hb.mono h.low.size), h.r.kept hb h.r.lt, h.bx.kept hb h.bx.lt, h.own.kept hb, h.mb⟩
theorem De.more {w W : World} {sa : Option Addr} {sl sc m : Nat} {q : Int} {u : Value} {l : List It} (h : De w W sa sl sc m q u l) (o : Obj) : De w (W.alloc o) sa sl sc m q u l := h.below ((Below.refl _ W).alloc (Nat.le_refl _) _)
theorem De.drew {w W : World} {sa : Option Addr} {sl sc m : Nat} {q : Int} {u : Value} {l : List It} (h : De w W sa sl sc m q u l) : De w W.drew sa sl sc m q u l := h.below ⟨rfl, rfl, rfl, Nat.le_refl _, fun _ _ => rfl⟩
theorem De.out {w W : World} {sa : Option Addr} {sl sc m : Nat} {q : Int} {u : Value} {l : List It} (h : De w W sa sl sc m q u l) (x : Value) : OwnsI8 ((W.setCell ⟨w.heap.size, 0, none⟩ x).setCell ⟨w.heap.size, 1, none⟩ u) w.heap.size u l ∧ Below w.heap.size w ((W.setCell ⟨w.heap.size, 0, none⟩ x).setCell ⟨w.heap.size, 1, none⟩ u) :=
  ⟨(h.own.two (fun k hk => by have := h.own.from k hk; omega) _ _).low (by omega), (h.low.setCell (p := ⟨w.heap.size, 0, none⟩) (Nat.le_refl _) _).setCell (p := ⟨w.heap.size, 1, none⟩) (Nat.le_refl _) _⟩
theorem tab4u (x : Nat) (hx : x < 4) : ∃ T : ByteArray, ([.string ⟨#[97]⟩, .string ⟨#[98]⟩, .string ⟨#[122]⟩, .string ⟨#[52, 57]⟩] : List Value)[x]? = some (.string T) ∧ (∀ W : World, (W.alloc (.cells #[.string ⟨#[97]⟩, .string ⟨#[98]⟩, .string ⟨#[122]⟩, .string ⟨#[52, 57]⟩] 9)).cell? ⟨W.heap.size, x, none⟩ = some (.string T)) ∧ T.size ≤ 19 := by
  rcases (show x = 0 ∨ x = 1 ∨ x = 2 ∨ x = 3 by omega) with rfl | rfl | rfl | rfl <;> exact ⟨_, rfl, fun W => by rw [World.cell?_alloc_mark]; rfl, by decide⟩
theorem tab4p (x : Nat) (hx : x < 4) : ∃ T : ByteArray, ([.string ⟨#[97]⟩, .string ⟨#[98]⟩, .string ⟨#[122]⟩, .string ⟨#[]⟩] : List Value)[x]? = some (.string T) ∧ (∀ W : World, (W.alloc (.cells #[.string ⟨#[97]⟩, .string ⟨#[98]⟩, .string ⟨#[122]⟩, .string ⟨#[]⟩] 9)).cell? ⟨W.heap.size, x, none⟩ = some (.string T)) ∧ T.size ≤ 19 := by
  rcases (show x = 0 ∨ x = 1 ∨ x = 2 ∨ x = 3 by omega) with rfl | rfl | rfl | rfl <;> exact ⟨_, rfl, fun W => by rw [World.cell?_alloc_mark]; rfl, by decide⟩
theorem tab5q (q : Int) (x : Nat) (hx : x < 5) : ∃ z : Int, ([.int .i64 0, .int .i64 (-1), .int .i64 q, .int .i64 4611686018427387904, .int .i64 (-9223372036854775808)] : List Value)[x]? = some (.int .i64 z) ∧ (∀ W : World, (W.alloc (.cells #[.int .i64 0, .int .i64 (-1), .int .i64 q, .int .i64 4611686018427387904, .int .i64 (-9223372036854775808)] 2)).cell? ⟨W.heap.size, x, none⟩ = some (.int .i64 z)) := by
  rcases (show x = 0 ∨ x = 1 ∨ x = 2 ∨ x = 3 ∨ x = 4 by omega) with rfl | rfl | rfl | rfl | rfl <;> exact ⟨_, rfl, fun W => by rw [World.cell?_alloc_mark]; rfl⟩
set_option maxRecDepth 100000 in
set_option maxHeartbeats 4000000 in
theorem drawUs (hS : ∀ (b : Nat) (sa : Option Addr) (sl sc : Nat) (w : World), Cur w b sa sl sc → Calls Try.prog 87 #[.pointer (some ⟨b, 0, Option.none⟩)] w fun e w' => (∃ q u l, e = .returned (shV q u) ∧ OwnsI8 w' w.heap.size u l ∧ l.length ≤ 50 ∧ ∀ x ∈ l, x.1.size ≤ 19) ∧ Cur w' b sa sl sc ∧ Beside b w w')
    (sa : Option Addr) (sl sc : Nat) (w : World) (hc : Code8 w w.heap.size sa sl) (hl : sl ≤ 4096) :
    Calls Try.prog 30 #[.slice sa sl sc] w fun e w' => (∃ q u l k, e = .returned (.tuple #[shV q u, .string k]) ∧ OwnsI8 w' w.heap.size u l ∧ l.length ≤ 51 ∧ (∀ x ∈ l, x.1.size ≤ 19) ∧ k.size ≤ 19) ∧ Below w.heap.size w w' := by
  have hA := l12Any hS
  have hz0 : (w.alloc (.cells #[.int .i64 0, .slice none 0 0] 34)).heap.size = w.heap.size + 1 := by simp
  have B0 : Below w.heap.size w (w.alloc (.cells #[.int .i64 0, .slice none 0 0] 34)) := (Below.refl _ w).alloc (Nat.le_refl _) _
  have R0 := TwoB.new w (.int .i64 0) (.slice none 0 0) 34
  have hN := l1New sa sl sc (w.alloc (.cells #[.int .i64 0, .slice none 0 0] 34)) (by
    intro j hj
    obtain ⟨g, o, z, h1, h2, h3, h4⟩ := hc j hj
    exact ⟨g, o, z, h1, by omega, (B0.cell (p := ⟨g, o + j, none⟩) h2).trans h3, h4⟩) hl
  rw [hz0] at hN
  unfold shV at *
  clear hc hS
  go_enter Try.func30, Try.ntmps30
  go_wp2_with fail
  refine hN.mono ?_
  rintro e w1 ⟨rfl, hc1, hb1⟩
  have R1 : Hid (TwoB w1 w.heap.size (.int .i64 0) (.slice none 0 0)) := R0.kept hb1 (by omega)
  have B1 : Hid (Below w.heap.size w w1) := B0.trans (hb1.mono (by omega))
  have C1 : Hid (Cur w1 (w.heap.size + 1) sa sl sc) := hc1
  have hz1 : w.heap.size + 1 < w1.heap.size := hc1.2.2.1
  clear hN hc1 hb1 R0 B0 hz0
  go_wp2_with fail
  refine (hA _ sa sl sc _ C1.out).mono ?_
  rintro e w2 ⟨⟨q, u, l, rfl, ho2, hl51, hs2⟩, hc2, hb2⟩
  have HS : Hid (∀ x ∈ l, x.1.size ≤ 19) := hs2
  have hz2 : w1.heap.size ≤ w2.heap.size := hb2.2.2.2.1
  obtain ⟨a, c, rfl, _⟩ := ho2.form
  have D2 : Hid (De w (w2.alloc (.cells #[.int .i64 q, .slice a l.length c] 34)) sa sl sc w2.heap.size q (.slice a l.length c) l) :=
    ⟨hc2.moreN _, (B1.out.trans (hb2.low (by omega) B1.out.size)).alloc (by omega) _, (R1.out.bs hb2 (by omega)).kept ((Below.refl _ w2).alloc (Nat.le_refl _) _) (by omega), TwoB.new _ _ _ _, (ho2.alloc _).low (by omega), by omega⟩
  generalize hm : w2.heap.size = m at *
  have hmb := D2.out.mb
  have D3 : Hid (De w (w2.alloc (.cells #[.int .i64 q, .slice a l.length c] 34)).drew sa sl sc m q (.slice a l.length c) l) := D2.out.drew
  have hB := fun W hW => l1Below (w.heap.size + 1) sa sl sc 4 (by decide) (by decide) W hW
  clear R1 B1 C1 hs2 ho2 hc2 hb2 hA
  go_wp2_with fail
  subst hm
  generalize hW : w2.alloc (.cells #[.int .i64 q, .slice a l.length c] 34) = W at D2 D3 ⊢
  obtain ⟨z0, z1, f0, f1, zl⟩ := D2.out.bx
  obtain ⟨r0, r1, g0, g1, rl⟩ := D2.out.r
  have hbW : w.heap.size + 1 < W.heap.size := D2.out.cur.2.2.1
  clear hW hz2
  generalize w2.heap.size = m at *
  go_region_law (go_simp; go_at_call 68; refine (hB _ (by first | with_reducible exact D3.out.cur | with_reducible exact (D2.out.more _).drew.cur)).mono ?_; rintro e wa ⟨x, rfl, hx0, hx1, hca, hba⟩; obtain ⟨x, rfl⟩ := Int.eq_ofNat_of_zero_le hx0; obtain ⟨T, hTl, hz, hTs⟩ := tab4u x (by omega); have Da' : De w wa sa sl sc m q (.slice a l.length c) l := (by first | with_reducible exact D3.out.beside hca hba | with_reducible exact (D2.out.more _).drew.beside hca hba); have Da : Hid (De w wa sa sl sc m q (.slice a l.length c) l) := Da'; clear Da'; have hTc := hz wa; (try (have hTi : wa.cell? ⟨W.heap.size, x, none⟩ = some (.string T) := besideCell (w := (W.alloc (.cells #[.string ⟨#[97]⟩, .string ⟨#[98]⟩, .string ⟨#[122]⟩, .string ⟨#[52, 57]⟩] 9)).drew) (by with_reducible exact hba) (by omega) (by exact hz W))); have a0 := Da.out.bx.c0; have a1 := Da.out.bx.c1; have al := Da.out.bx.lt; obtain ⟨s0, s1, i0, i1, sl0⟩ := Da.out.r; clear hca hba hz)
  all_goals
    have hfr : Hid (∀ k, (Value.slice a l.length c).ownBlock = some k → k ≠ w.heap.size) := (show ∀ _, _ from fun k hk => by have := Da.out.own.from k hk; omega)
    go_wp2
    refine bodyPost_ret (v := .tuple #[.agg #[.int .i64 q, .slice a l.length c], .string T]) (by simp [results, Try.results30, go_sem, s0, s1, sl0]) rfl ⟨⟨q, _, l, T, rfl, ?_, by omega, HS.out, hTs⟩, ?_⟩
    · refine OwnsE.low (B := w.heap.size + 2) ?_ (by omega)
      repeat (first | with_reducible refine OwnsE.alloc ?_ _ | with_reducible refine OwnsE.other ?_ _ _ hfr.out)
      exact Da.out.own
    · repeat (first | refine Below.setCell ?_ (by simp) _ | refine Below.alloc ?_ (by simp <;> omega) _)
      exact Da.out.low
end Go.Proofs.Ytnnmbgenepfacaa
