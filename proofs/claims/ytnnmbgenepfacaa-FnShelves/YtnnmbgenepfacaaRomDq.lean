/-
  A drawn shelf: whatever the code.
-/
import Derived.Test.YtnnmbgenepfacaaRomDr
namespace Go.Proofs.Ytnnmbgenepfacaa
open Go.RowKit Go.Sort Rom
set_option linter.unusedVariables false
set_option linter.unusedSimpArgs false
set_option maxRecDepth 100000 in
set_option maxHeartbeats 4000000 in
theorem l12Sh (b : Nat) (sa : Option Addr) (sl sc : Nat) (w : World) (hc : Cur w b sa sl sc) :
    Calls Try.prog 87 #[.pointer (some ⟨b, 0, Option.none⟩)] w fun e w' => (∃ q u l, e = .returned (shV q u) ∧ OwnsI8 w' w.heap.size u l ∧ l.length ≤ 50 ∧ ∀ x ∈ l, x.1.size ≤ 19) ∧ Cur w' b sa sl sc ∧ Beside b w w' := by
  have hbz : b < w.heap.size := hc.2.2.1
  have hsp := fun q u l T n W hW h1 h2 h3 => spcPla q u l T n W hW h1 h2 h3
  unfold shV at *
  have R0 := TwoB.new w (.int .i64 0) (.slice none 0 0) 34
  have B0 : Beside b w (w.alloc (.cells #[.int .i64 0, .slice none 0 0] 34)) := (Beside.refl b w).moreN _
  have C0 : Hid (Cur (w.alloc (.cells #[.int .i64 0, .slice none 0 0] 34)) b sa sl sc) := hc.moreN _
  go_enter Try.func87, Try.ntmps87
  go_wp2_with fail
  refine (l1Below b sa sl sc 20 (by decide) (by decide) _ C0.out).mono ?_
  rintro e w1 ⟨x, rfl, hx0, hx1, hc1, hb1⟩
  have ex : IntKind.i64.wrap (5 + x) = 5 + x := by rw [IntKind.wrap_i64]; omega
  have hz1 : w.heap.size < w1.heap.size := (R0.bs hb1 (by omega)).lt
  have D1 : Hid (Dw w (w1.alloc (.cells #[.int .i64 (5 + x), .slice none 0 0] 34)) b sa sl sc w1.heap.size (5 + x) (.slice none 0 0) []) :=
    ⟨hc1.moreN _, (B0.trans hb1).moreN _, (R0.bs hb1 (by omega)).kept ((Below.refl _ w1).alloc (Nat.le_refl _) _) hz1, TwoB.new _ _ _ _, OwnsE.none _ _, hz1, hbz⟩
  clear hc1 hb1 hc R0 B0 C0
  go_wp2_with fail
  refine (l1Below b sa sl sc 9 (by decide) (by decide) _ D1.out.cur).mono ?_
  rintro e w2 ⟨y, rfl, hy0, hy1, hc2, hb2⟩
  obtain ⟨y, rfl⟩ := Int.eq_ofNat_of_zero_le hy0
  have D2 : Hid (Dw w w2 b sa sl sc w1.heap.size (5 + x) (.slice none 0 0) []) := D1.out.beside hc2 hb2
  generalize w1.heap.size = m at *
  clear hc2 hb2 D1
  go_wp2_with fail
  go_loopw [4] (fun n wr => ∃ (k : Nat) (q : Int) (a : Option Addr) (c : Nat) (l : List It), n = .int .i64 k ∧ k ≤ 8 ∧ Hid (Dw w wr b sa sl sc m q (.slice a l.length c) l) ∧ l.length ≤ 50 ∧ Hid (∀ x ∈ l, x.1.size ≤ 19)) (fun n _ => (intOf n).toNat)
  case atStart => exact ⟨y, 5 + x, none, 0, [], rfl, by omega, D2, by simp, (show Hid _ from fun x hx => by cases hx)⟩
  case round =>
    clear D2
    obtain ⟨k, q, a, c, l, rfl, hk8, D3, hl50, hs⟩ := hrel
    by_cases hk : 0 < k
    · have hpl := fun T n => plaL_few q l T n
      have hps := fun T n => plaL_short 19 q l T n hs.out
      have hsp := fun T n W hW h3 => hsp q (.slice a l.length c) l T n W hW (by omega) (fun x hx => Nat.le_trans (hs.out x hx) (by unfold maxLen; omega)) h3
      have D4 : Hid (Dw w wr.drew b sa sl sc m q (.slice a l.length c) l) := D3.out.drew
      have D6 : Hid (Dw w wr b sa sl sc m q (.slice a l.length c) l) := D3
      clear hs D3
      have hB5 := fun W hW => l1Below b sa sl sc 5 (by decide) (by decide) W hW
      have hB6 := fun W hW => l1Below b sa sl sc 6 (by decide) (by decide) W hW
      have y0 := D6.out.bx.c0
      have y1 := D6.out.bx.c1
      have yl : m < wr.heap.size := D4.out.bx.lt
      have hbr : b < wr.heap.size := D4.out.cur.2.2.1
      go_wp2_with fail
      go_region_with (first
        | (go_at_call 32; refine (hsp T (1 + x6) _ (by first | with_reducible exact Db.out.own.sls | with_reducible exact (Db.out.more _).own.sls) (Nat.le_trans hTs (by unfold maxLen; omega))).mono ?_; rintro e wc ⟨u', g', rfl, ho, _, hbl⟩; have hp1 := hpl T (1 + x6); have hp2 := hps T (1 + x6) hTs; generalize plaL q l T (1 + x6) = L' at ho hp1 hp2; obtain ⟨a', c', rfl, _⟩ := ho.form; have Dc' : Dw w wc b sa sl sc m q (.slice a l.length c) l := (by first | with_reducible exact Db.out.below hbl | with_reducible exact (Db.out.more _).below hbl); have Dc : Hid (Dw w wc b sa sl sc m q (.slice a l.length c) l) := Dc'; clear Dc'; generalize usdQ q l = Q'; have DD : Hid (Dw w ((wc.setCell ⟨m, 0, none⟩ (.int .i64 Q')).setCell ⟨m, 1, none⟩ (.slice a' L'.length c')) b sa sl sc m Q' (.slice a' L'.length c') L') := Dc.out.put (ho.low (by first | omega | (simp; omega))); have HP : Hid (∀ x ∈ L', x.1.size ≤ 19) := hp2; obtain ⟨c0, c1, f0, f1, cl⟩ := Dc.out.bx; clear ho hbl hp2 Dc)
        | (go_at_call 68; have hDa := Da.out.bb; clear hDa; refine (hB6 _ (by first | with_reducible exact Da.out.cur | with_reducible exact (Da.out.more _).cur)).mono ?_; rintro e wb ⟨x6, rfl, hx60, hx61, hcb, hbb⟩; have e6 : IntKind.i64.wrap (1 + x6) = 1 + x6 := (by rw [IntKind.wrap_i64]; omega); have Db' : Dw w wb b sa sl sc m q (.slice a l.length c) l := (by first | with_reducible exact Da.out.beside hcb hbb | with_reducible exact (Da.out.more _).beside hcb hbb); have Db : Hid (Dw w wb b sa sl sc m q (.slice a l.length c) l) := Db'; clear Db'; have hTd := HT.out wb; (try (have hTj : wb.cell? ⟨wr.heap.size, x5, none⟩ = some (.string T) := besideCell (w := wa) (by with_reducible exact hbb) (by omega) hTi)); (try (have hTk : wb.cell? ⟨wa.heap.size, x5, none⟩ = some (.string T) := besideCell (w := wa.alloc (.cells #[.string ⟨#[97]⟩, .string ⟨#[98]⟩, .string ⟨#[99]⟩, .string ⟨#[100]⟩, .string ⟨#[101]⟩] 9)) (by with_reducible exact hbb) (by omega) (HT.out wa))); have b0 := Db.out.bx.c0; have b1 := Db.out.bx.c1; have bl := Db.out.bx.lt; clear hcb hbb)
        | (go_at_call 68; refine (hB5 _ (by first | with_reducible exact D4.out.cur | with_reducible exact (D6.out.more _).drew.cur)).mono ?_; rintro e wa ⟨x5, rfl, hx50, hx51, hca, hba⟩; obtain ⟨x5, rfl⟩ := Int.eq_ofNat_of_zero_le hx50; obtain ⟨T, hT, hTs⟩ := tab5 x5 (by omega); have Da' : Dw w wa b sa sl sc m q (.slice a l.length c) l := (by first | with_reducible exact D4.out.beside hca hba | with_reducible exact (D6.out.more _).drew.beside hca hba); have Da : Hid (Dw w wa b sa sl sc m q (.slice a l.length c) l) := Da'; clear Da'; have hTc := hT wa; have HT : Hid (∀ W : World, (W.alloc (.cells #[.string ⟨#[97]⟩, .string ⟨#[98]⟩, .string ⟨#[99]⟩, .string ⟨#[100]⟩, .string ⟨#[101]⟩] 9)).cell? ⟨W.heap.size, x5, none⟩ = some (.string T)) := hT; (try (have hTi : wa.cell? ⟨wr.heap.size, x5, none⟩ = some (.string T) := besideCell (w := (wr.alloc (.cells #[.string ⟨#[97]⟩, .string ⟨#[98]⟩, .string ⟨#[99]⟩, .string ⟨#[100]⟩, .string ⟨#[101]⟩] 9)).drew) (by with_reducible exact hba) (by omega) (by exact hT wr))); have a0 := Da.out.bx.c0; have a1 := Da.out.bx.c1; have al := Da.out.bx.lt; have hbw : b < wa.heap.size := hca.2.2.1; clear hT hca hba))
      all_goals
        go_wp2
        go_roundw
        case rel => exact ⟨k - 1, Q', a', c', L', by go_num, by omega, DD, hp1, HP⟩
        case measure => simp [intOf]; omega
    · go_wp2_with fail
      refine (l1Once b sa sl sc 30 (by decide) (by decide) _ D3.out.cur).mono ?_
      rintro e w4 ⟨tt, rfl, hc4, hb4⟩
      have D4 : Hid (Dw w w4 b sa sl sc m q (.slice a l.length c) l) := D3.out.beside hc4 hb4
      clear D3 hc4 hb4
      cases tt with
      | false =>
        have D9 := D4.out.out (.int .i64 q)
        have HF : Hid _ := D9
        obtain ⟨z0, z1, _, _, zl⟩ := D4.out.bx
        obtain ⟨r0, r1, g0, g1, rl⟩ := D4.out.r
        clear D9 D4
        go_wp2
        refine bodyPost_ret (v := .agg #[.int .i64 q, .slice a l.length c]) (by simp [results, Try.results87, go_sem, z0, z1, r0, r1]) rfl ⟨⟨q, _, l, rfl, HF.out.1, by omega, hs.out⟩, HF.out.2⟩
      | true =>
        have D5 : Hid (Dw w ((w4.setCell ⟨m, 0, none⟩ (.int .i64 60)).setCell ⟨m, 1, none⟩ (.slice none 0 0)) b sa sl sc m 60 (.slice none 0 0) []) := D4.out.put (OwnsE.none _ _)
        obtain ⟨c0, c1, f0, f1, cl⟩ := D4.out.bx
        clear D4 hs
        go_wp2_with fail
        generalize ((w4.setCell ⟨m, 0, none⟩ (.int .i64 60)).setCell ⟨m, 1, none⟩ (.slice none 0 0)) = w5 at D5 ⊢
        go_loopw [5] (fun n wr => ∃ (k : Nat) (q : Int) (a : Option Addr) (c : Nat) (l : List It), n = .int .i64 k ∧ k ≤ 50 ∧ Hid (Dw w wr b sa sl sc m q (.slice a l.length c) l) ∧ l.length ≤ 50 ∧ Hid (∀ x ∈ l, x.1.size ≤ 19)) (fun n _ => 50 - (intOf n).toNat)
        case atStart => exact ⟨0, 60, none, 0, [], rfl, by omega, D5, by simp, (show Hid _ from fun x hx => by cases hx)⟩
        case round =>
          clear D5 c0 c1 f0 f1 cl hl50 hk8 hk
          obtain ⟨k, q, a, c, l, rfl, hk50, D3, hl50, hs⟩ := hrel
          by_cases hk : k < 50
          · have hpl := plaL_few q l (itoS k) 1
            have hps := plaL_short 19 q l (itoS k) 1 hs.out (itoS_size (by omega))
            have hsp := fun W hW => hsp q (.slice a l.length c) l (itoS k) 1 W hW (by omega) (fun x hx => Nat.le_trans (hs.out x hx) (by unfold maxLen; omega)) (Nat.le_trans (itoS_size (by omega)) (by unfold maxLen; omega))
            have D4 : Hid (Dw w wr.drew b sa sl sc m q (.slice a l.length c) l) := D3.out.drew
            have hI := fun W => specIntZ k W (by omega)
            generalize itoS k = T at hpl hps hsp hI
            generalize plaL q l T 1 = L' at hpl hps hsp
            generalize usdQ q l = Q' at hsp
            have HP : Hid (∀ x ∈ L', x.1.size ≤ 19) := hps
            clear hs D3 hps
            have y0 : wr.cell? ⟨m, 0, none⟩ = some (.int .i64 q) := D4.out.bx.c0
            have y1 : wr.cell? ⟨m, 1, none⟩ = some (.slice a l.length c) := D4.out.bx.c1
            have yl : m < wr.heap.size := D4.out.bx.lt
            go_wp2_with fail
            go_region_with (first
              | (go_at_call 98; refine (hI _).mono ?_; rintro e wa ⟨rfl, hba⟩; have Da : Hid (Dw w wa b sa sl sc m q (.slice a l.length c) l) := D4.out.below hba; have a0 := Da.out.bx.c0; have a1 := Da.out.bx.c1; have al := Da.out.bx.lt; clear hba)
              | (go_at_call 32; refine (hsp _ Da.out.own.sls).mono ?_; rintro e wc ⟨u', g', rfl, ho, _, hbl⟩; obtain ⟨a', c', rfl, _⟩ := ho.form; have Dc : Hid (Dw w wc b sa sl sc m q (.slice a l.length c) l) := Da.out.below hbl; have DD : Hid (Dw w ((wc.setCell ⟨m, 0, none⟩ (.int .i64 Q')).setCell ⟨m, 1, none⟩ (.slice a' L'.length c')) b sa sl sc m Q' (.slice a' L'.length c') L') := Dc.out.put (ho.low (by omega)); obtain ⟨c0, c1, f0, f1, cl⟩ := Dc.out.bx; clear ho hbl Dc))
            all_goals
              go_wp2
              go_roundw
              case rel => exact ⟨k + 1, Q', a', c', L', by go_num, by omega, DD, hpl, HP⟩
              case measure => simp [intOf]; omega
          · have D9 := D3.out.out (.int .i64 q)
            have HF : Hid _ := D9
            obtain ⟨z0, z1, _, _, zl⟩ := D3.out.bx
            obtain ⟨r0, r1, g0, g1, rl⟩ := D3.out.r
            clear D9 D3
            go_wp2
            refine bodyPost_ret (v := .agg #[.int .i64 q, .slice a l.length c]) (by simp [results, Try.results87, go_sem, z0, z1, r0, r1]) rfl ⟨⟨q, _, l, rfl, HF.out.1, by omega, hs.out⟩, HF.out.2⟩
end Go.Proofs.Ytnnmbgenepfacaa
