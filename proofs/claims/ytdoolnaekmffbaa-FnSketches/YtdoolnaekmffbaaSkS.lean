/-
  A drawn sketch: whatever the code.
-/
import Derived.Test.YtdoolnaekmffbaaSkR
namespace Go.Proofs.Ytdoolnaekmffbaa
open Go.RowKit Go.Sort Ow Sk
set_option linter.unusedVariables false
set_option linter.unusedSimpArgs false

set_option maxRecDepth 100000 in
set_option maxHeartbeats 4000000 in
theorem l14Sk (b : Nat) (sa : Option Addr) (sl sc : Nat) (w : World) (hc : Cur w b sa sl sc) :
    Calls Try.prog 39 #[.pointer (some ⟨b, 0, Option.none⟩)] w fun e w' => (∃ q u l, e = .returned (skV q u) ∧ OwnsN w' w.heap.size u l ∧ l.length ≤ 513) ∧ Cur w' b sa sl sc ∧ Beside b w w' := by
  have hbz : b < w.heap.size := hc.2.2.1
  have hN := fun n W => specNew n W
  have hKy := fun W hW => l13Key b sa sl sc W hW
  unfold skV at *
  have R0 := Bx.new w 26 #[.int .i64 0, .slice none 0 0]
  have B0 : Beside b w (w.alloc (.cells #[.int .i64 0, .slice none 0 0] 26)) := (Beside.refl b w).moreN _
  have C0 : Hid (Cur ((w.alloc (.cells #[.int .i64 0, .slice none 0 0] 26)).alloc (.cells #[.int .i64 8, .int .i64 16, .int .i64 64, .int .i64 512] 2)) b sa sl sc) := (hc.moreN _).moreN _
  go_enter Try.func39, Try.ntmps39
  go_wp2_with fail
  refine (l1Below b sa sl sc 4 (by decide) (by decide) _ C0.out).mono ?_
  rintro e w1 ⟨x, rfl, hx0, hx1, hc1, hb1⟩
  obtain ⟨x, rfl⟩ := Int.eq_ofNat_of_zero_le hx0
  obtain ⟨z, hz, hz2, hz3⟩ := tabIN (w := w.alloc (.cells #[.int .i64 0, .slice none 0 0] 26)) hb1 (by simp; omega) x (by simp; omega) rfl
  have hbs1 : Beside b w w1 := (B0.moreN _).trans hb1
  have R1 : Bx w1 w.heap.size 26 #[.int .i64 0, .slice none 0 0] := (R0.alloc _).bs hb1 (by omega)
  have hNz := hN z
  generalize szOk z = bz at hNz
  generalize (if bz = true then z else 0) = q0 at hNz
  have HR1 : Hid (Bx w1 w.heap.size 26 #[.int .i64 0, .slice none 0 0]) := R1
  have HB1 : Hid (Beside b w w1) := hbs1
  have HC1 : Hid (Cur w1 b sa sl sc) := hc1
  rw [show (w.alloc (.cells #[.int .i64 0, .slice none 0 0] 26)).heap.size = w.heap.size + 1 from by simp] at hz
  clear hN R0 B0 C0 hb1 hc1 R1 hbs1
  go_wp2_with fail
  refine (hNz _).mono ?_
  rintro e w2 ⟨rfl, hb2⟩
  have hz2' : w.heap.size < w2.heap.size := (HR1.out.kept hb2).lt
  have D1 : Hid (De w (w2.alloc (.cells #[.int .i64 q0, .slice none 0 0] 26)) b sa sl sc w2.heap.size q0 (.slice none 0 0) []) :=
    ⟨(HC1.out.kept hb2 HC1.out.2.2.1).moreN _, (HB1.out.below hb2).moreN _, (HR1.out.kept hb2).alloc _, Bx.new _ _ _, OwnsE.none _ _, (by simp [Value.ownBlock]), hz2', hbz⟩
  clear hb2 hc HR1 HB1 HC1 hNz hz
  go_wp2_with fail
  refine (l1Below b sa sl sc 6 (by decide) (by decide) _ D1.out.cur).mono ?_
  rintro e w3 ⟨y, rfl, hy0, hy1, hc3, hb3⟩
  obtain ⟨y, rfl⟩ := Int.eq_ofNat_of_zero_le hy0
  have D2 : Hid (De w w3 b sa sl sc w2.heap.size q0 (.slice none 0 0) []) := D1.out.beside hc3 hb3
  generalize w2.heap.size = m at *
  clear hc3 hb3 D1
  go_wp2_with fail
  go_loopw [5] (fun n wr => ∃ (k : Nat) (q : Int) (a : Option Addr) (c : Nat) (l : List Int), n = .int .i64 k ∧ k ≤ 5 ∧ Hid (De w wr b sa sl sc m q (.slice a l.length c) l) ∧ l.length ≤ 512) (fun n _ => (intOf n).toNat)
  case atStart => exact ⟨y, q0, none, 0, [], rfl, by omega, D2, by simp⟩
  case round =>
    clear D2
    obtain ⟨k, q, a, c, l, rfl, hk8, D3, hl5⟩ := hrel
    by_cases hk : 0 < k
    · have hpl := fun T => mrkL_few q l T
      have hsp := fun T W hW hT => specMrk q (.slice a l.length c) l T W hW hT
      unfold skV at hsp
      have D4 : Hid (De w wr.drew b sa sl sc m q (.slice a l.length c) l) := D3.out.drew
      have y0 : wr.cell? ⟨m, 0, none⟩ = some (.int .i64 q) := D3.out.bx.cell 0
      have y1 : wr.cell? ⟨m, 1, none⟩ = some (.slice a l.length c) := D3.out.bx.cell 1
      have yl : m < wr.heap.size := D3.out.bx.lt
      have hws : w.heap.size < wr.heap.size := D3.out.r.lt
      generalize mrkQ q l = Q' at hsp
      clear D3
      go_wp2_with fail
      go_region_with (first
        | (go_at_call 21; refine (hsp T _ (by with_reducible exact Da.out.own.sls) (by omega)).mono ?_; rintro e wc ⟨u', rfl, ho, hbl⟩; have hp1 := hpl T; generalize mrkL q l T = L' at ho hp1; have hfr := fun k hk => ho.from k hk; obtain ⟨a', c', rfl, _⟩ := ho.form; have Dc : Hid (De w wc b sa sl sc m q (.slice a l.length c) l) := Da.out.below hbl; have DD : Hid (De w ((wc.setCell ⟨m, 0, none⟩ (.int .i64 Q')).setCell ⟨m, 1, none⟩ (.slice a' L'.length c')) b sa sl sc m Q' (.slice a' L'.length c') L') := Dc.out.put (ho.low (by omega)) (fun e => by have := hfr _ e; omega); have c0 := Dc.out.bx.cell 0; have c1 := Dc.out.bx.cell 1; have f0 := Dc.out.bx.free 0; have f1 := Dc.out.bx.free 1; have cl := Dc.out.bx.lt; clear ho hbl Dc hfr)
        | (go_at_call 40; refine (hKy _ (by with_reducible exact D4.out.cur)).mono ?_; rintro e wa ⟨⟨T, rfl, hT⟩, hca, hba⟩; have Da : Hid (De w wa b sa sl sc m q (.slice a l.length c) l) := D4.out.beside hca hba; have a0 := Da.out.bx.cell 0; have a1 := Da.out.bx.cell 1; have al := Da.out.bx.lt; have aws : w.heap.size < wa.heap.size := Da.out.r.lt; clear hca hba))
      all_goals
        go_wp2
        go_roundw
        case rel => exact ⟨k - 1, Q', a', c', L', by go_num, by omega, DD, hp1⟩
        case measure => simp [intOf]; omega
    · go_wp2_with fail
      refine (l1Once b sa sl sc 12 (by decide) (by decide) _ D3.out.cur).mono ?_
      rintro e w4 ⟨tt, rfl, hc4, hb4⟩
      have D4 : Hid (De w w4 b sa sl sc m q (.slice a l.length c) l) := D3.out.beside hc4 hb4
      clear D3 hc4 hb4
      cases tt with
      | false =>
        have HF : Hid _ := D4.out.out (.int .i64 q)
        have z0 := D4.out.bx.cell 0
        have z1 := D4.out.bx.cell 1
        have r0 := D4.out.r.cell 0
        have r1 := D4.out.r.cell 1
        have g0 := D4.out.r.free 0
        have g1 := D4.out.r.free 1
        clear D4
        go_wp2
        refine bodyPost_ret (v := .agg #[.int .i64 q, .slice a l.length c]) (by simp [results, Try.results39, go_sem, z0, z1, r0, r1]) rfl ⟨⟨q, _, l, rfl, HF.out.1, by omega⟩, HF.out.2⟩
      | true =>
        go_wp2_with fail
        refine (l1Below b sa sl sc 3 (by decide) (by decide) _ D4.out.cur).mono ?_
        rintro e w5 ⟨y, rfl, hy0, hy1, hc5, hb5⟩
        obtain ⟨y, rfl⟩ := Int.eq_ofNat_of_zero_le hy0
        have D5 : Hid (De w w5 b sa sl sc m q (.slice a l.length c) l) := D4.out.beside hc5 hb5
        have hb5' : b < w5.heap.size := hc5.2.2.1
        have hmw : w.heap.size ≠ m := by have := D5.out.mb; omega
        clear hc5 hb5 D4
        rcases (show y = 0 ∨ y = 1 ∨ y = 2 by omega) with rfl | rfl | rfl
        · go_wp2_with fail
          refine (l1Below b sa sl sc 5 (by decide) (by decide) _ (D5.out.more _).cur).mono ?_
          rintro e w6 ⟨x, rfl, hx0, hx1, hc6, hb6⟩
          obtain ⟨x, rfl⟩ := Int.eq_ofNat_of_zero_le hx0
          obtain ⟨z, hz, hz2, hz3⟩ := tabIN hb6 (by omega) x (by simp; omega) rfl
          have D6 : Hid (De w w6 b sa sl sc m q (.slice a l.length c) l) := (D5.out.more _).beside hc6 hb6
          have D7 : Hid (De w (w6.setCell ⟨m, 0, none⟩ (.int .i64 z)) b sa sl sc m z (.slice a l.length c) l) := D6.out.setQ z
          have HF : Hid _ := D7.out.out (.int .i64 z)
          have z0 := D6.out.bx.cell 0
          have z1 := D6.out.bx.cell 1
          have f0 := D6.out.bx.free 0
          have f1 := D6.out.bx.free 1
          have r0 := D6.out.r.cell 0
          have r1 := D6.out.r.cell 1
          have g0 := D6.out.r.free 0
          have g1 := D6.out.r.free 1
          clear D5 D6 D7 hc6 hb6
          go_wp2
          refine bodyPost_ret (v := .agg #[.int .i64 z, .slice a l.length c]) (by simp [results, Try.results39, go_sem, z0, z1, r0, r1, hmw]) rfl ⟨⟨z, _, l, rfl, HF.out.1, by omega⟩, HF.out.2⟩
        · have D6 : Hid (De w w5.drew b sa sl sc m q (.slice a l.length c) l) := D5.out.drew
          have z0 : w5.cell? ⟨m, 0, none⟩ = some (.int .i64 q) := D5.out.bx.cell 0
          have z1 : w5.cell? ⟨m, 1, none⟩ = some (.slice a l.length c) := D5.out.bx.cell 1
          have zl := D5.out.bx.lt
          have hF := fun W hW => l1FromN b sa sl sc (-1) 70 (by decide) (by decide) (by decide) W hW
          have hmb := D5.out.mb
          clear D5
          go_wp2_with fail
          go_region_law (first
            | (refine step_pushK rfl (.tmp 40) (.tmp 43) rfl (w.heap.size + 1) (.slice a l.length c) l x (by simp [Act.eval, Act.put]) (by exact Da.out.own) (by simp [Act.eval, Act.put]) (by omega) (by first | omega | (simp; omega)) ?_; intro v4 w4 ho4 hg4 hat4; have hp1 : (l ++ [x]).length ≤ 513 := (by simp; omega); generalize l ++ [x] = L' at ho4 hp1; obtain ⟨T4, Dp⟩ : Bx w4 m 26 #[.int .i64 q, .slice a l.length c] ∧ De w (w4.setCell ⟨m, 1, none⟩ v4) b sa sl sc m q v4 L' := (by first | exact Da.out.push hg4 ho4 hat4 | exact (Da.out.more _).push hg4 ho4 hat4); obtain ⟨a4, c4, hv4, _⟩ := ho4.form; subst hv4; have DP : Hid (De w (w4.setCell ⟨m, 1, none⟩ (.slice a4 L'.length c4)) b sa sl sc m q (.slice a4 L'.length c4) L') := Dp; have y0 := T4.cell 0; have y1 := T4.cell 1; have h0 := T4.free 0; have h1 := T4.free 1; have yl := T4.lt; clear T4 ho4 hg4 hat4 Dp Da)
            | (go_simp; go_at_call 55; refine (hF _ (by with_reducible exact D6.out.cur)).mono ?_; rintro e wa ⟨x, rfl, hx0, hx1, hca, hba⟩; have Da : Hid (De w wa b sa sl sc m q (.slice a l.length c) l) := D6.out.beside hca hba; have a0 := Da.out.bx.cell 0; have a1 := Da.out.bx.cell 1; have al := Da.out.bx.lt; clear hca hba))
          all_goals
            have HF : Hid _ := DP.out.out (.int .i64 q)
            have r0 := DP.out.r.cell 0
            have r1 := DP.out.r.cell 1
            have g0 := DP.out.r.free 0
            have g1 := DP.out.r.free 1
            clear DP
            go_wp2
            refine bodyPost_ret (v := .agg #[.int .i64 q, .slice a4 L'.length c4]) (by simp [results, Try.results39, go_sem, r0, r1, hmw]) rfl ⟨⟨q, _, L', rfl, HF.out.1, by omega⟩, HF.out.2⟩
        · have D6 : Hid (De w (w5.alloc (.cells #[] 2)) b sa sl sc m q (.slice a l.length c) l) := D5.out.more _
          have O6 : Hid (OwnsN (w5.alloc (.cells #[] 2)) w5.heap.size (.slice (some ⟨w5.heap.size, 0, none⟩) 0 0) []) := (show Hid _ from OwnsE.born (E := intE) (ty := 2) w5)
          have hm5 := D5.out.bx.lt
          have hw5 := D5.out.r.lt
          have D7 : Hid (De w ((w5.alloc (.cells #[] 2)).setCell ⟨m, 1, none⟩ (.slice (some ⟨w5.heap.size, 0, none⟩) 0 0)) b sa sl sc m q (.slice (some ⟨w5.heap.size, 0, none⟩) 0 0) []) := D6.out.setU (O6.out.low (by omega)) (by simp [Value.ownBlock]; omega)
          have HF : Hid _ := D7.out.out (.int .i64 q)
          have z0 := D6.out.bx.cell 0
          have z1 := D6.out.bx.cell 1
          have f0 := D6.out.bx.free 0
          have f1 := D6.out.bx.free 1
          have r0 := D6.out.r.cell 0
          have r1 := D6.out.r.cell 1
          have g0 := D6.out.r.free 0
          have g1 := D6.out.r.free 1
          generalize hw6 : w5.alloc (.cells #[] 2) = w6 at *
          clear D5 D6 D7 O6
          go_wp2
          refine bodyPost_ret (v := .agg #[.int .i64 q, .slice (some ⟨w5.heap.size, 0, none⟩) 0 0]) (by simp [results, Try.results39, go_sem, z0, z1, r0, r1, hmw]) rfl ⟨⟨q, _, [], rfl, HF.out.1, by simp⟩, HF.out.2⟩
end Go.Proofs.Ytdoolnaekmffbaa
