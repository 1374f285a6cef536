/-
  The draw of Place, given what the draw of a right shelf answers.
-/
import Derived.Test.YtnnmbgenepfacaaRomDu
namespace Go.Proofs.Ytnnmbgenepfacaa
open Go.RowKit Go.Sort Rom
set_option linter.unusedVariables false
set_option linter.unusedSimpArgs false
set_option maxRecDepth 100000 in
set_option maxHeartbeats 4000000 in
theorem drawPl (hS : ∀ (b : Nat) (sa : Option Addr) (sl sc : Nat) (w : World), Cur w b sa sl sc → Calls Try.prog 87 #[.pointer (some ⟨b, 0, Option.none⟩)] w fun e w' => (∃ q u l, e = .returned (shV q u) ∧ OwnsI8 w' w.heap.size u l ∧ l.length ≤ 50 ∧ ∀ x ∈ l, x.1.size ≤ 19) ∧ Cur w' b sa sl sc ∧ Beside b w w')
    (sa : Option Addr) (sl sc : Nat) (w : World) (hc : Code8 w w.heap.size sa sl) (hl : sl ≤ 4096) :
    Calls Try.prog 28 #[.slice sa sl sc] w fun e w' => (∃ q u l k n, e = .returned (.tuple #[shV q u, .string k, .int .i64 n]) ∧ OwnsI8 w' w.heap.size u l ∧ l.length ≤ 51 ∧ (∀ x ∈ l, x.1.size ≤ 19) ∧ k.size ≤ 19) ∧ Below w.heap.size w w' := by
  have hA := l12Any hS
  have hz0 : (w.alloc (.cells #[.int .i64 0, .slice none 0 0] 34)).heap.size = w.heap.size + 1 := by simp
  have B0 : Below w.heap.size w (w.alloc (.cells #[.int .i64 0, .slice none 0 0] 34)) := (Below.refl _ w).alloc (Nat.le_refl _) _
  have R0 := TwoB.new w (.int .i64 0) (.slice none 0 0) 34
  have hN := l1New sa sl sc (w.alloc (.cells #[.int .i64 0, .slice none 0 0] 34)) (by
    intro j hj
    obtain ⟨g, o, z, h1, h2, h3, h4⟩ := hc j hj
    exact ⟨g, o, z, h1, by omega, (B0.cell (p := ⟨g, o + j, none⟩) h2).trans h3, h4⟩) hl
  rw [hz0] at hN
  unfold shV at *
  clear hc hS
  go_enter Try.func28, Try.ntmps28
  go_wp2_with fail
  refine hN.mono ?_
  rintro e w1 ⟨rfl, hc1, hb1⟩
  have R1 : Hid (TwoB w1 w.heap.size (.int .i64 0) (.slice none 0 0)) := R0.kept hb1 (by omega)
  have B1 : Hid (Below w.heap.size w w1) := B0.trans (hb1.mono (by omega))
  have C1 : Hid (Cur w1 (w.heap.size + 1) sa sl sc) := hc1
  have hz1 : w.heap.size + 1 < w1.heap.size := hc1.2.2.1
  clear hN hc1 hb1 R0 B0 hz0
  go_wp2_with fail
  refine (hA _ sa sl sc _ C1.out).mono ?_
  rintro e w2 ⟨⟨q, u, l, rfl, ho2, hl51, hs2⟩, hc2, hb2⟩
  have HS : Hid (∀ x ∈ l, x.1.size ≤ 19) := hs2
  have hz2 : w1.heap.size ≤ w2.heap.size := hb2.2.2.2.1
  obtain ⟨a, c, rfl, _⟩ := ho2.form
  have D2 : Hid (De w (w2.alloc (.cells #[.int .i64 q, .slice a l.length c] 34)) sa sl sc w2.heap.size q (.slice a l.length c) l) :=
    ⟨hc2.moreN _, (B1.out.trans (hb2.low (by omega) B1.out.size)).alloc (by omega) _, (R1.out.bs hb2 (by omega)).kept ((Below.refl _ w2).alloc (Nat.le_refl _) _) (by omega), TwoB.new _ _ _ _, (ho2.alloc _).low (by omega), by omega⟩
  generalize hm : w2.heap.size = m at *
  have hmb := D2.out.mb
  clear R1 B1 C1 hs2 ho2 hc2 hb2 hA
  go_wp2_with fail
  subst hm
  refine (l1Below (w.heap.size + 1) sa sl sc 9 (by decide) (by decide) _ D2.out.cur).mono ?_
  rintro e w3 ⟨p, rfl, hp0, hp1, hc3, hb3⟩
  have ep : IntKind.i64.wrap (1 + p) = 1 + p := by rw [IntKind.wrap_i64]; omega
  have D3 : Hid (De w w3 sa sl sc w2.heap.size q (.slice a l.length c) l) := D2.out.beside hc3 hb3
  clear D2 hc3 hb3 hz2
  generalize w2.heap.size = m at *
  go_wp2_with fail
  refine (l1Once (w.heap.size + 1) sa sl sc 10 (by decide) (by decide) _ D3.out.cur).mono ?_
  rintro e w4 ⟨tt, rfl, hc4, hb4⟩
  have D4 : Hid (De w w4 sa sl sc m q (.slice a l.length c) l) := D3.out.beside hc4 hb4
  clear D3 hc4 hb4
  cases tt with
  | false =>
    have L3 : Hid (De w w4.drew sa sl sc m q (.slice a l.length c) l) := D4.out.drew
    obtain ⟨z0, z1, f0, f1, zl⟩ := D4.out.bx
    obtain ⟨r0, r1, g0, g1, rl⟩ := D4.out.r
    have hbW : w.heap.size + 1 < w4.heap.size := D4.out.cur.2.2.1
    have hB4 := fun W hW => l1Below (w.heap.size + 1) sa sl sc 4 (by decide) (by decide) W hW
    go_wp2_with fail
    go_region_law (go_simp; go_at_call 68; refine (hB4 _ (by first | with_reducible exact L3.out.cur | with_reducible exact (D4.out.more _).drew.cur)).mono ?_; rintro e wa ⟨x, rfl, hx0, hx1, hca, hba⟩; obtain ⟨x, rfl⟩ := Int.eq_ofNat_of_zero_le hx0; obtain ⟨T, hTl, hz, hTs⟩ := tab4p x (by omega); have Da' : De w wa sa sl sc m q (.slice a l.length c) l := (by first | with_reducible exact L3.out.beside hca hba | with_reducible exact (D4.out.more _).drew.beside hca hba); have Da : Hid (De w wa sa sl sc m q (.slice a l.length c) l) := Da'; clear Da'; have hTc := hz wa; (try (have hTi : wa.cell? ⟨w4.heap.size, x, none⟩ = some (.string T) := besideCell (w := (w4.alloc (.cells #[.string ⟨#[97]⟩, .string ⟨#[98]⟩, .string ⟨#[122]⟩, .string ⟨#[]⟩] 9)).drew) (by with_reducible exact hba) (by omega) (by exact hz w4))); have a0 := Da.out.bx.c0; have a1 := Da.out.bx.c1; have al := Da.out.bx.lt; obtain ⟨s0, s1, i0, i1, sl0⟩ := Da.out.r; clear hca hba hz)
    all_goals
      have hfr : Hid (∀ k, (Value.slice a l.length c).ownBlock = some k → k ≠ w.heap.size) := (show ∀ _, _ from fun k hk => by have := Da.out.own.from k hk; omega)
      go_wp2
      refine bodyPost_ret (v := .tuple #[.agg #[.int .i64 q, .slice a l.length c], .string T, .int .i64 (1 + p)]) (by simp [results, Try.results28, go_sem, s0, s1, sl0]) rfl ⟨⟨q, _, l, T, (1 + p), rfl, ?_, by omega, HS.out, hTs⟩, ?_⟩
      · refine OwnsE.low (B := w.heap.size + 2) ?_ (by omega)
        repeat (first | with_reducible refine OwnsE.alloc ?_ _ | with_reducible refine OwnsE.other ?_ _ _ hfr.out)
        exact Da.out.own
      · repeat (first | refine Below.setCell ?_ (by simp) _ | refine Below.alloc ?_ (by simp <;> omega) _)
        exact Da.out.low
  | true =>
    have D5 : Hid (De w w4.drew sa sl sc m q (.slice a l.length c) l) := D4.out.drew
    have hB5 := fun W hW => l1Below (w.heap.size + 1) sa sl sc 5 (by decide) (by decide) W hW
    obtain ⟨z0, z1, f0, f1, zl⟩ := D4.out.bx
    have hbW : w.heap.size + 1 < w4.heap.size := D4.out.cur.2.2.1
    go_wp2_with fail
    go_cut [7] from 7 to 23 (fun s wx => ∃ nn : Int, s = .int .i64 nn ∧ Hid (De w wx sa sl sc m q (.slice a l.length c) l))
    case first =>
      go_region_law (go_simp; go_at_call 68; refine (hB5 _ (by first | with_reducible exact D5.out.cur | with_reducible exact (D4.out.more _).drew.cur)).mono ?_; rintro e wa ⟨x, rfl, hx0, hx1, hca, hba⟩; obtain ⟨x, rfl⟩ := Int.eq_ofNat_of_zero_le hx0; obtain ⟨nn, hTl, hz⟩ := tab5q q x (by omega); have Da' : De w wa sa sl sc m q (.slice a l.length c) l := (by first | with_reducible exact D5.out.beside hca hba | with_reducible exact (D4.out.more _).drew.beside hca hba); have Da : Hid (De w wa sa sl sc m q (.slice a l.length c) l) := Da'; clear Da'; have hTc := hz wa; (try (have hTi : wa.cell? ⟨w4.heap.size, x, none⟩ = some (.int .i64 nn) := besideCell (w := (w4.alloc (.cells #[.int .i64 0, .int .i64 (-1), .int .i64 q, .int .i64 4611686018427387904, .int .i64 (-9223372036854775808)] 2)).drew) (by with_reducible exact hba) (by omega) (by exact hz w4))); have a0 := Da.out.bx.c0; have a1 := Da.out.bx.c1; have al := Da.out.bx.lt; clear hca hba hz)
      all_goals (try go_wp2_with fail)
      all_goals go_meet
      all_goals (first | exact ⟨nn, rfl, Da⟩ | exact ⟨nn, rfl, Da.out.more _⟩)
    case rest =>
      obtain ⟨nn, rfl, D6⟩ := hcut
      clear D4 D5 z0 z1 f0 f1 zl hbW hB5
      have L3 : Hid (De w wc.drew sa sl sc m q (.slice a l.length c) l) := D6.out.drew
      obtain ⟨z0, z1, f0, f1, zl⟩ := D6.out.bx
      obtain ⟨r0, r1, g0, g1, rl⟩ := D6.out.r
      have hbW : w.heap.size + 1 < wc.heap.size := D6.out.cur.2.2.1
      have hB4 := fun W hW => l1Below (w.heap.size + 1) sa sl sc 4 (by decide) (by decide) W hW
      go_wp2_with fail
      go_region_law (go_simp; go_at_call 68; refine (hB4 _ (by first | with_reducible exact L3.out.cur | with_reducible exact (D6.out.more _).drew.cur)).mono ?_; rintro e wa ⟨x, rfl, hx0, hx1, hca, hba⟩; obtain ⟨x, rfl⟩ := Int.eq_ofNat_of_zero_le hx0; obtain ⟨T, hTl, hz, hTs⟩ := tab4p x (by omega); have Da' : De w wa sa sl sc m q (.slice a l.length c) l := (by first | with_reducible exact L3.out.beside hca hba | with_reducible exact (D6.out.more _).drew.beside hca hba); have Da : Hid (De w wa sa sl sc m q (.slice a l.length c) l) := Da'; clear Da'; have hTc := hz wa; (try (have hTi : wa.cell? ⟨wc.heap.size, x, none⟩ = some (.string T) := besideCell (w := (wc.alloc (.cells #[.string ⟨#[97]⟩, .string ⟨#[98]⟩, .string ⟨#[122]⟩, .string ⟨#[]⟩] 9)).drew) (by with_reducible exact hba) (by omega) (by exact hz wc))); have a0 := Da.out.bx.c0; have a1 := Da.out.bx.c1; have al := Da.out.bx.lt; obtain ⟨s0, s1, i0, i1, sl0⟩ := Da.out.r; clear hca hba hz)
      all_goals
        have hfr : Hid (∀ k, (Value.slice a l.length c).ownBlock = some k → k ≠ w.heap.size) := (show ∀ _, _ from fun k hk => by have := Da.out.own.from k hk; omega)
        go_wp2
        refine bodyPost_ret (v := .tuple #[.agg #[.int .i64 q, .slice a l.length c], .string T, .int .i64 nn]) (by simp [results, Try.results28, go_sem, s0, s1, sl0]) rfl ⟨⟨q, _, l, T, nn, rfl, ?_, by omega, HS.out, hTs⟩, ?_⟩
        · refine OwnsE.low (B := w.heap.size + 2) ?_ (by omega)
          repeat (first | with_reducible refine OwnsE.alloc ?_ _ | with_reducible refine OwnsE.other ?_ _ _ hfr.out)
          exact Da.out.own
        · repeat (first | refine Below.setCell ?_ (by simp) _ | refine Below.alloc ?_ (by simp <;> omega) _)
          exact Da.out.low
end Go.Proofs.Ytnnmbgenepfacaa
