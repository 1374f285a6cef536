/-
  The specification's ReadResponse by its contract.
  The laws' own comparisons of requests and responses, by their contracts.
  The walks of the exact laws of reading messages, given what the program's own function answers.
-/
import Derived.Test.YtmgmphkncgochaaGreatDoorG22
import Derived.Test.YtmgmphkncgochaaGreatDoorG12
import Derived.Test.YtmgmphkncgochaaGreatDoorG09
import Derived.Test.YtmgmphkncgochaaGreatDoorG13
namespace Go.Proofs.YtmgmphkncgochaaGreatDoor
open Go.RowKit
set_option linter.unusedVariables false

theorem sta_no1 {g : List UInt8} (h : ¬ (txtL g).size = 3) : ¬ staOk g = true := by
  unfold staOk
  have e : (txtL g).size = g.length := by show g.toArray.size = _; simp
  rw [decide_eq_false (by omega)]
  simp
theorem sta_no2 {g : List UInt8} (h : numOk 10 15 (txtL g) = false) : ¬ staOk g = true := by
  unfold staOk; rw [h]; simp
theorem sta_no3 {g : List UInt8} (h : ¬ (200 ≤ numV 10 15 (txtL g) ∧ numV 10 15 (txtL g) ≤ 599)) : ¬ staOk g = true := by
  unfold staOk; rw [decide_eq_false h]; simp
theorem sta_yes {g : List UInt8} (h : (txtL g).size = 3) (h2 : numOk 10 15 (txtL g) = true) (h3 : 200 ≤ numV 10 15 (txtL g) ∧ numV 10 15 (txtL g) ≤ 599) : staOk g = true := by
  unfold staOk
  have e : (txtL g).size = g.length := by show g.toArray.size = _; simp
  rw [decide_eq_true (by omega), h2, decide_eq_true h3]
  rfl

set_option maxHeartbeats 4000000 in
theorem specRdRs (t : ByteArray) (w : World) (ht : t.size ≤ 1048576) :
    Calls Tryz.prog 29 #[.string t] w fun e w' => GivesS w w' e (rdRs t.data.toList) := by
  have htl : t.data.toList.length = t.size := by simp
  have hln := specLine t 0 (w.alloc (.cells #[.int .i64 0, .slice none 0 0, .string ⟨#[]⟩] 39)) (Nat.zero_le _) (by omega)
  rw [List.drop_zero, show ((0 : Nat) : Int) = 0 from rfl] at hln
  have R0 : Hid (RsB (w.alloc (.cells #[.int .i64 0, .slice none 0 0, .string ⟨#[]⟩] 39)) w.heap.size noS (.slice none 0 0)) := RsB.new w noS _ _
  have B0 : Hid (Below w.heap.size w (w.alloc (.cells #[.int .i64 0, .slice none 0 0, .string ⟨#[]⟩] 39))) := (Below.refl _ w).alloc (Nat.le_refl _) _
  cases hl : lnS t.data.toList with
  | none =>
    rw [hl, lineE_no] at hln
    have HP : Hid (rdRs t.data.toList = (1, noS, 0)) := rs_none hl
    generalize rdRs t.data.toList = P at HP ⊢
    clear hl htl
    go_enter Tryz.func29, Tryz.ntmps29
    go_wp2_with fail
    refine hln.mono ?_
    rintro e w1 ⟨rfl, rfl⟩
    go_wp2_with fail
    refine (specWords ⟨#[]⟩ _ (by decide)).mono ?_
    rintro e w2 ⟨u, rfl, ho, hb2⟩
    obtain ⟨g, cap, rfl⟩ := ho.len
    have R2 : Hid (RsB w2 w.heap.size noS (.slice none 0 0)) := R0.out.next hb2
    have B2 : Hid (Below w.heap.size w w2) := past6 B0.out hb2
    clear hln ho hb2 R0 B0
    have z0 := R2.out.c0
    have z1 := R2.out.c1
    have z2 := R2.out.c2
    have zf := R2.out.fz
    go_wp2
    refine bodyPost_ret (v := .tuple #[.agg #[.int .i64 0, .slice none 0 0, .string ⟨#[]⟩], .int .i64 0, .int .i64 1]) (by simp [results, Tryz.results29, go_sem, z0, z1, z2]) rfl (givesS_no HP.out ?_)
    repeat (refine Below.setCell ?_ (by simp) _)
    exact B2.out
  | some pr =>
    obtain ⟨x, r⟩ := pr
    rw [hl, lineE_at] at hln
    obtain ⟨hx1, hx2⟩ := lnS_rest hl
    rw [htl] at hx1 hx2
    have hxs : (⟨x.toArray⟩ : ByteArray).size ≤ 1048576 := by show x.toArray.size ≤ _; simp; omega
    obtain ⟨d, hd⟩ : ∃ d, d = t.size - r.length := ⟨_, rfl⟩
    have hdi : (t.size : Int) - (r.length : Int) = (d : Int) := by omega
    rw [hdi] at hln
    rw [← hd] at hx2
    have hdt : d ≤ t.size := by omega
    have hwo := fun w => specWords ⟨x.toArray⟩ w hxs
    simp only at hwo
    by_cases h3 : (wrdL x).length = 3
    · obtain ⟨v, g, o, hw3⟩ := three_of h3
      have hw3' : wrdS x = [txtL v, txtL g, txtL o] := by unfold wrdS; rw [hw3]; rfl
      rw [hw3'] at hwo
      have PL := fun hn => rs_line hl hw3 hn
      have PR := fun hn hk => rs_rest hl hw3 hn hk
      have PY := fun hn hk => rs_yes hl hw3 hn hk
      rw [htl] at PY
      have hres := fun b W => specRest t d b W hdt ht
      rw [hx2] at hres
      have hmz : (txtL g).size ≤ 1048576 ∧ (txtL o).size ≤ 1048576 := by
        have h1 := word_size hw3
        exact ⟨by have := h1 g (by simp); show g.toArray.size ≤ _; simp; omega, by have := h1 o (by simp); show o.toArray.size ≤ _; simp; omega⟩
      obtain ⟨zg, zo⟩ := hmz
      have S1 := @sta_no1 g
      have S2 := @sta_no2 g
      have S3 := @sta_no3 g
      have S4 := @sta_yes g
      generalize rdRs t.data.toList = P at PL PR PY ⊢
      generalize staOk g = sok at PL PR PY S1 S2 S3 S4
      generalize txtL v = tv at hwo PL PR PY
      generalize txtL g = tg at hwo PL PR PY zg S1 S2 S3 S4
      generalize txtL o = tw at hwo PL PR PY zo
      clear hl hw3 hw3' h3 htl hx1 hx2 hd hdi hxs
      have HPL : Hid _ := PL
      have HPR : Hid _ := PR
      have HPY : Hid _ := PY
      have HRS : Hid _ := hres
      have HS1 : Hid _ := S1
      have HS2 : Hid _ := S2
      have HS3 : Hid _ := S3
      have HS4 : Hid _ := S4
      clear PL PR PY hres S1 S2 S3 S4
      go_enter Tryz.func29, Tryz.ntmps29
      go_wp2_with fail
      refine hln.mono ?_
      rintro e w1 ⟨rfl, rfl⟩
      go_wp2_with fail
      refine (hwo _).mono ?_
      rintro e w2 ⟨u, rfl, ho, hb2⟩
      obtain ⟨gg, cap, rfl, hc3, hcm, hgB, hgw, c0, c1, c2⟩ := ho.three
      have R2 : Hid (RsB w2 w.heap.size noS (.slice none 0 0)) := R0.out.next hb2
      have B2 : Hid (Below w.heap.size w w2) := past6 B0.out hb2
      have hgne : w.heap.size < gg := by have := hgB; simp at this; omega
      clear hln ho hb2 R0 B0 hwo hgB
      by_cases hv : tv = hvS
      · obtain ⟨hvb1, hvb2⟩ := same_hv hv
        have HV : Hid (tv = hvS) := hv
        clear hv
        by_cases hg3 : tg.size = 3
        · have hg3b : ((tg.size : Int) != 3) = false := by simp; omega
          have HG3 : Hid (tg.size = 3) := hg3
          go_wp2_with fail
          refine (specTok tw _ (le_max zo)).mono ?_
          rintro e w3 ⟨rfl, hb3⟩
          have R3 : Hid (RsB w3 w.heap.size noS (.slice none 0 0)) := R2.out.next hb3
          have B3 : Hid (Below w.heap.size w w3) := past6 B2.out hb3
          have d0 := (hb3.cell (p := ⟨gg, 0, none⟩) hgw).trans c0
          have d1 := (hb3.cell (p := ⟨gg, 1, none⟩) hgw).trans c1
          have d2 := (hb3.cell (p := ⟨gg, 2, none⟩) hgw).trans c2
          have hgw3 : gg < w3.heap.size := Nat.lt_of_lt_of_le hgw hb3.size
          clear R2 B2 hb3 c0 c1 c2 hgw
          cases htk : tokB tw with
          | false =>
            have HP : Hid (P = (1, noS, 0)) := HPL.out (fun h => by rw [htk] at h; exact absurd h.2.2 (by decide))
            clear HPL HPR HPY HRS HS1 HS2 HS3 HS4
            have z0 := R3.out.c0
            have z1 := R3.out.c1
            have z2 := R3.out.c2
            have zf := R3.out.fz
            go_wp2
            refine bodyPost_ret (v := .tuple #[.agg #[.int .i64 0, .slice none 0 0, .string ⟨#[]⟩], .int .i64 0, .int .i64 1]) (by simp [results, Tryz.results29, go_sem, z0, z1, z2]) rfl (givesS_no HP.out ?_)
            repeat (refine Below.setCell ?_ (by simp) _)
            exact B3.out
          | true =>
            go_wp2_with fail
            refine (specDig tg _ (le_max zg)).mono ?_
            unfold numE
            rintro e w4 ⟨rfl, hb4'⟩
            have hb4 : Below w3.heap.size w3 w4 := by first | exact hb4' | (subst hb4'; exact Below.refl _ _) | (rw [← hb4']; exact Below.refl _ _)
            have R4 : Hid (RsB w4 w.heap.size noS (.slice none 0 0)) := R3.out.next hb4
            have B4 : Hid (Below w.heap.size w w4) := past6 B3.out hb4
            clear R3 B3 hb4 hb4' d0 d1 d2 hgw3
            cases hno : numOk 10 15 tg with
            | false =>
              have HP : Hid (P = (1, noS, 0)) := HPL.out (fun h => HS2.out hno h.2.1)
              clear HPL HPR HPY HRS HS1 HS2 HS3 HS4
              have z0 := R4.out.c0
              have z1 := R4.out.c1
              have z2 := R4.out.c2
              have zf := R4.out.fz
              go_wp2
              refine bodyPost_ret (v := .tuple #[.agg #[.int .i64 0, .slice none 0 0, .string ⟨#[]⟩], .int .i64 0, .int .i64 1]) (by simp [results, Tryz.results29, go_sem, z0, z1, z2]) rfl (givesS_no HP.out ?_)
              repeat (refine Below.setCell ?_ (by simp) _)
              exact B4.out
            | true =>
              go_wp2_with fail
              refine (specIn6 _ _ _ _).mono ?_
              rintro e w4' ⟨rfl, rfl⟩
              cases hin : decide (200 ≤ numV 10 15 tg ∧ numV 10 15 tg ≤ 599) with
              | false =>
                have HP : Hid (P = (1, noS, 0)) := HPL.out (fun h => HS3.out (of_decide_eq_false hin) h.2.1)
                clear HPL HPR HPY HRS HS1 HS2 HS3 HS4
                have z0 := R4.out.c0
                have z1 := R4.out.c1
                have z2 := R4.out.c2
                have zf := R4.out.fz
                go_wp2
                refine bodyPost_ret (v := .tuple #[.agg #[.int .i64 0, .slice none 0 0, .string ⟨#[]⟩], .int .i64 0, .int .i64 1]) (by simp [results, Tryz.results29, go_sem, z0, z1, z2]) rfl (givesS_no HP.out ?_)
                repeat (refine Below.setCell ?_ (by simp) _)
                exact B4.out
              | true =>
                have hall : tv = hvS ∧ sok = true ∧ tokB tw = true := ⟨HV.out, HS4.out HG3.out hno (of_decide_eq_true hin), htk⟩
                have HR1 : Hid _ := fun hk => HPR.out hall hk
                have HR2 : Hid _ := fun hk => HPY.out hall hk
                clear HPL HPR HPY hall HV HS1 HS2 HS3 HS4 hin hno
                generalize numV 10 15 tg = st at HR1 HR2 ⊢
                go_wp2_with fail
                refine (specBare _ _).mono ?_
                rintro e w4'' ⟨rfl, rfl⟩
                generalize bareB st = br at HR1 HR2 ⊢
                have hrs := HRS.out br
                generalize rstA r br = R at HR1 HR2 hrs
                clear HRS
                go_wp2_with fail
                refine (hrs _).mono ?_
                rintro e w5 ⟨u5, rfl, hF5, hb5⟩
                have R5 : Hid (RsB w5 w.heap.size noS (.slice none 0 0)) := R4.out.next hb5
                have B5 : Hid (Below w.heap.size w w5) := past6 B4.out hb5
                have hlt5 : w.heap.size < w4.heap.size := R4.out.hi
                obtain ⟨a5, cap5, rfl, _⟩ := hF5.form
                have F5 : Hid (HasF w5 w4.heap.size (.slice a5 R.l.length cap5) R.l) := hF5
                clear R4 B4 hb5 hrs hF5
                by_cases hk : R.k = 0
                · have HP := HR2.out hk
                  have HP' : Hid (P = (0, ⟨st, R.l, R.b⟩, (t.size : Int) - (R.r.length : Int))) := HP
                  have hrn : restN t R = (t.size : Int) - (R.r.length : Int) := by unfold restN; rw [if_pos hk]
                  rw [hrn, hk]
                  generalize (t.size : Int) - (R.r.length : Int) = N at HP' ⊢
                  clear HR1 HR2 HP hrn hk
                  have z0 := R5.out.c0
                  have z1 := R5.out.c1
                  have z2 := R5.out.c2
                  have zf := R5.out.fz
                  go_wp2
                  refine bodyPost_ret (v := .tuple #[.agg #[.int .i64 st, .slice a5 R.l.length cap5, .string R.b], .int .i64 N, .int .i64 0]) (by simp [results, Tryz.results29, go_sem, z0, z1, z2]) rfl ?_
                  rw [HP'.out]
                  refine ⟨_, rfl, ?_, ?_⟩
                  · refine HasF.low (B := w4.heap.size) ?_ (by omega)
                    repeat (refine HasF.far ?_ (by omega) _)
                    exact F5.out
                  · repeat (first | refine Below.setCell ?_ (by simp) _ | refine below_drew6 ?_)
                    exact B5.out
                · have HP := HR1.out hk
                  have HP' : Hid (P = (R.k, noS, 0)) := HP
                  have hrn : restN t R = 0 := by unfold restN; rw [if_neg hk]
                  have hkb : (R.k != 0) = true := by simpa using hk
                  rw [hrn]
                  generalize R.k = K at HP' hkb hk ⊢
                  clear HR1 HR2 HP hrn
                  have z0 := R5.out.c0
                  have z1 := R5.out.c1
                  have z2 := R5.out.c2
                  have zf := R5.out.fz
                  go_wp2
                  refine bodyPost_ret (v := .tuple #[.agg #[.int .i64 0, .slice none 0 0, .string ⟨#[]⟩], .int .i64 0, .int .i64 K]) (by simp [results, Tryz.results29, go_sem, z0, z1, z2]) rfl (givesS_no HP'.out ?_)
                  repeat (refine Below.setCell ?_ (by simp) _)
                  exact B5.out
        · have hg3b : ((tg.size : Int) != 3) = true := by simp; omega
          have hg3c : ¬ (tg.size : Int) = 3 := by omega
          have HP : Hid (P = (1, noS, 0)) := HPL.out (fun h => HS1.out hg3 h.2.1)
          clear HPL HPR HPY HRS HS1 HS2 HS3 HS4
          have z0 := R2.out.c0
          have z1 := R2.out.c1
          have z2 := R2.out.c2
          have zf := R2.out.fz
          go_wp2
          refine bodyPost_ret (v := .tuple #[.agg #[.int .i64 0, .slice none 0 0, .string ⟨#[]⟩], .int .i64 0, .int .i64 1]) (by simp [results, Tryz.results29, go_sem, z0, z1, z2]) rfl (givesS_no HP.out ?_)
          repeat (refine Below.setCell ?_ (by simp) _)
          exact B2.out
      · obtain ⟨hvb1, hvb2⟩ := diff_hv hv
        have HP : Hid (P = (1, noS, 0)) := HPL.out (fun h => hv h.1)
        clear HPL HPR HPY HRS hv HS1 HS2 HS3 HS4
        have z0 := R2.out.c0
        have z1 := R2.out.c1
        have z2 := R2.out.c2
        have zf := R2.out.fz
        go_wp2
        refine bodyPost_ret (v := .tuple #[.agg #[.int .i64 0, .slice none 0 0, .string ⟨#[]⟩], .int .i64 0, .int .i64 1]) (by simp [results, Tryz.results29, go_sem, z0, z1, z2]) rfl (givesS_no HP.out ?_)
        repeat (refine Below.setCell ?_ (by simp) _)
        exact B2.out
    · have HP : Hid (rdRs t.data.toList = (1, noS, 0)) := rs_words hl h3
      generalize rdRs t.data.toList = P at HP ⊢
      have h3' : ¬ (wrdS x).length = 3 := by rw [wrdS_len]; exact h3
      generalize wrdS x = ws at hwo h3'
      clear hl h3 htl hx1 hx2 hd hdi hxs
      go_enter Tryz.func29, Tryz.ntmps29
      go_wp2_with fail
      refine hln.mono ?_
      rintro e w1 ⟨rfl, rfl⟩
      go_wp2_with fail
      refine (hwo _).mono ?_
      rintro e w2 ⟨u, rfl, ho, hb2⟩
      obtain ⟨gg, cap, rfl⟩ := ho.len
      have R2 : Hid (RsB w2 w.heap.size noS (.slice none 0 0)) := R0.out.next hb2
      have B2 : Hid (Below w.heap.size w w2) := past6 B0.out hb2
      generalize ws.length = n3 at h3' ⊢
      have hne3 : ((n3 : Int) != 3) = true := by simp; omega
      have hne4 : ¬ (n3 : Int) = 3 := by omega
      clear hln ho hb2 R0 B0 hwo
      have z0 := R2.out.c0
      have z1 := R2.out.c1
      have z2 := R2.out.c2
      have zf := R2.out.fz
      go_wp2
      refine bodyPost_ret (v := .tuple #[.agg #[.int .i64 0, .slice none 0 0, .string ⟨#[]⟩], .int .i64 0, .int .i64 1]) (by simp [results, Tryz.results29, go_sem, z0, z1, z2]) rfl (givesS_no HP.out ?_)
      repeat (refine Below.setCell ?_ (by simp) _)
      exact B2.out
end Go.Proofs.YtmgmphkncgochaaGreatDoor
namespace Go.Proofs.YtmgmphkncgochaaGreatDoor
open Go.RowKit Go.Sort
set_option linter.unusedVariables false

set_option maxHeartbeats 1000000 in
theorem lawEqRq (r : Rq) (va vb : Value) (w : World) (ha : Fls w va r.l) (hb : Fls w vb r.l) (hl : r.l.length ≤ 1048576) :
    Calls Tryz.prog 30 #[rqV r va, rqV r vb] w fun e w' => e = .returned (.bool true) ∧ Below w.heap.size w w' := by
  have hfa := ha
  have hfb := hb
  obtain ⟨a, ca, rfl, _⟩ := hfa
  obtain ⟨b, cb, rfl, _⟩ := hfb
  unfold rqV
  have B0 : Below w.heap.size w ((w.alloc (.cells #[.string r.m, .string r.t, .slice a r.l.length ca, .string r.b] 26)).alloc (.cells #[.string r.m, .string r.t, .slice b r.l.length cb, .string r.b] 26)) := ((Below.refl _ w).alloc (Nat.le_refl _) _).alloc (by simp) _
  have hq := eqFS _ _ r.l _ (ha.kept B0) (hb.kept B0) hl
  have P0 : Hid (RqB ((w.alloc (.cells #[.string r.m, .string r.t, .slice a r.l.length ca, .string r.b] 26)).alloc (.cells #[.string r.m, .string r.t, .slice b r.l.length cb, .string r.b] 26)) w.heap.size r (.slice a r.l.length ca)) := (RqB.new w r _ _).alloc _
  have P1 : Hid (RqB ((w.alloc (.cells #[.string r.m, .string r.t, .slice a r.l.length ca, .string r.b] 26)).alloc (.cells #[.string r.m, .string r.t, .slice b r.l.length cb, .string r.b] 26)) (w.heap.size + 1) r (.slice b r.l.length cb)) := by
    have := RqB.new (w.alloc (.cells #[.string r.m, .string r.t, .slice a r.l.length ca, .string r.b] 26)) r (.slice b r.l.length cb) 26
    rw [show (w.alloc (.cells #[.string r.m, .string r.t, .slice a r.l.length ca, .string r.b] 26)).heap.size = w.heap.size + 1 by simp] at this
    exact this
  have HB : Hid _ := B0
  clear ha hb B0
  go_enter Tryz.func30, Tryz.ntmps30
  go_wp2_with fail
  refine hq.mono ?_
  rintro e w1 ⟨rfl, hg⟩
  have S0 : Hid (RqB w1 w.heap.size r (.slice a r.l.length ca)) := P0.out.next hg.low
  have S1 : Hid (RqB w1 (w.heap.size + 1) r (.slice b r.l.length cb)) := P1.out.next hg.low
  have B1 : Hid (Below w.heap.size w w1) := past6 HB.out hg.low
  have a3 := S0.out.c3
  have b3 := S1.out.c3
  clear P0 P1 HB hg hq S0 S1
  go_wp2
  go_ret
  exact ⟨rfl, B1.out⟩
set_option maxHeartbeats 1000000 in
theorem lawEqRs (r : Rs) (va vb : Value) (w : World) (ha : Fls w va r.l) (hb : Fls w vb r.l) (hl : r.l.length ≤ 1048576) :
    Calls Tryz.prog 33 #[rsV r va, rsV r vb] w fun e w' => e = .returned (.bool true) ∧ Below w.heap.size w w' := by
  have hfa := ha
  have hfb := hb
  obtain ⟨a, ca, rfl, _⟩ := hfa
  obtain ⟨b, cb, rfl, _⟩ := hfb
  unfold rsV
  have B0 : Below w.heap.size w ((w.alloc (.cells #[.int .i64 r.s, .slice a r.l.length ca, .string r.b] 39)).alloc (.cells #[.int .i64 r.s, .slice b r.l.length cb, .string r.b] 39)) := ((Below.refl _ w).alloc (Nat.le_refl _) _).alloc (by simp) _
  have hq := eqFS _ _ r.l _ (ha.kept B0) (hb.kept B0) hl
  have P0 : Hid (RsB ((w.alloc (.cells #[.int .i64 r.s, .slice a r.l.length ca, .string r.b] 39)).alloc (.cells #[.int .i64 r.s, .slice b r.l.length cb, .string r.b] 39)) w.heap.size r (.slice a r.l.length ca)) := (RsB.new w r _ _).alloc _
  have P1 : Hid (RsB ((w.alloc (.cells #[.int .i64 r.s, .slice a r.l.length ca, .string r.b] 39)).alloc (.cells #[.int .i64 r.s, .slice b r.l.length cb, .string r.b] 39)) (w.heap.size + 1) r (.slice b r.l.length cb)) := by
    have := RsB.new (w.alloc (.cells #[.int .i64 r.s, .slice a r.l.length ca, .string r.b] 39)) r (.slice b r.l.length cb) 39
    rw [show (w.alloc (.cells #[.int .i64 r.s, .slice a r.l.length ca, .string r.b] 39)).heap.size = w.heap.size + 1 by simp] at this
    exact this
  have HB : Hid _ := B0
  clear ha hb B0
  go_enter Tryz.func33, Tryz.ntmps33
  go_wp2_with fail
  refine hq.mono ?_
  rintro e w1 ⟨rfl, hg⟩
  have S0 : Hid (RsB w1 w.heap.size r (.slice a r.l.length ca)) := P0.out.next hg.low
  have S1 : Hid (RsB w1 (w.heap.size + 1) r (.slice b r.l.length cb)) := P1.out.next hg.low
  have B1 : Hid (Below w.heap.size w w1) := past6 HB.out hg.low
  have a2 := S0.out.c2
  have b2 := S1.out.c2
  clear P0 P1 HB hg hq S0 S1
  go_wp2
  go_ret
  exact ⟨rfl, B1.out⟩
end Go.Proofs.YtmgmphkncgochaaGreatDoor
namespace Go.Proofs.YtmgmphkncgochaaGreatDoor
open Go.RowKit Go.Sort
set_option linter.unusedVariables false

theorem grown_alloc6 {w w' : World} {o : Obj} {r : Option Nat} (h : (w.alloc o).grownBy w' r) : w.grownBy w' r := by
  refine ⟨h.os, h.tape, h.output, ?_, fun k hk hne => ?_⟩
  · have := h.size
    simp at this
    omega
  · rw [h.block k (by simp; omega) hne]
    exact Below.heap_alloc _ _ _ hk
theorem RqB.grown {w w' : World} {b : Nat} {r : Rq} {v : Value} {x : Option Nat} (h : RqB w b r v) (hg : w.grownBy w' x) (hne : some b ≠ x) : RqB w' b r v := by
  have e : w'.heap[b]? = w.heap[b]? := hg.block b h.hi hne
  have k : ∀ k, w'.cell? ⟨b, k, none⟩ = w.cell? ⟨b, k, none⟩ := fun k => World.cell?_of_block (a := ⟨b, k, none⟩) e
  exact ⟨(k 0).trans h.c0, (k 1).trans h.c1, (k 2).trans h.c2, (k 3).trans h.c3, fun j => (World.frozen?_of_block (a := ⟨b, j, none⟩) e).trans (h.fz j), Nat.lt_of_lt_of_le h.hi hg.size⟩
theorem RsB.grown {w w' : World} {b : Nat} {r : Rs} {v : Value} {x : Option Nat} (h : RsB w b r v) (hg : w.grownBy w' x) (hne : some b ≠ x) : RsB w' b r v := by
  have e : w'.heap[b]? = w.heap[b]? := hg.block b h.hi hne
  have k : ∀ k, w'.cell? ⟨b, k, none⟩ = w.cell? ⟨b, k, none⟩ := fun k => World.cell?_of_block (a := ⟨b, k, none⟩) e
  exact ⟨(k 0).trans h.c0, (k 1).trans h.c1, (k 2).trans h.c2, fun j => (World.frozen?_of_block (a := ⟨b, j, none⟩) e).trans (h.fz j), Nat.lt_of_lt_of_le h.hi hg.size⟩
theorem rs_fails {t : List UInt8} (h : (rdRs t).1 ≠ 0) : (rdRs t).2 = (noS, 0) := by
  unfold rdRs at h ⊢
  split
  · rfl
  · split
    · split
      · split
        · rename_i _ _ _ _ _ _ e1 _ e2 e3 e4
          simp_all
        · rfl
      · rfl
    · rfl
theorem rq_few (t : List UInt8) : (rdRq t).2.1.l.length ≤ 30 := by
  by_cases h : (rdRq t).1 = 0
  · exact (fldsOk_parts (ownB_parts (rqOk_parts (rq_right h).1).2.2.1).1).1
  · rw [rq_fails h]; exact Nat.zero_le _
theorem rs_few (t : List UInt8) : (rdRs t).2.1.l.length ≤ 30 := by
  by_cases h : (rdRs t).1 = 0
  · exact (fldsOk_parts (ownB_parts (rsOk_parts (rs_right h)).2.1).1).1
  · rw [rs_fails h]; exact Nat.zero_le _

set_option maxHeartbeats 1000000 in
theorem markRq (r : Rq) (v : Value) (B : Nat) (w : World) (h : HasF w B v r.l) (hl : r.l.length ≤ 1048576) :
    Calls Tryz.prog 31 #[rqV r v, .int .i64 1] w fun e w' => e = .returned (.int .i64 (1 + 2 * (r.l.length : Int))) ∧ HasF w' B v (marksF r.l.length) ∧ w.grownBy w' v.ownBlock := by
  obtain ⟨a, cap, rfl, _⟩ := h.form
  unfold rqV
  have hm := markFS _ r.l B (w.alloc (.cells #[.string r.m, .string r.t, .slice a r.l.length cap, .string r.b] 26)) (h.kept ((Below.refl _ w).alloc (Nat.le_refl _) _)) hl
  clear h
  go_enter Tryz.func31, Tryz.ntmps31
  go_wp2_with (go_at_call 84; refine hm.mono ?_; rintro e w1 ⟨rfl, h1, h2⟩)
  go_ret
  exact ⟨rfl, h1, grown_alloc6 h2⟩
set_option maxHeartbeats 1000000 in
theorem heldRq (r : Rq) (v : Value) (n : Nat) (B : Nat) (w : World) (h : HasF w B v (marksF n)) (hl : n ≤ 1048576) :
    Calls Tryz.prog 32 #[rqV r v, .int .i64 1] w fun e w' => e = .returned (.int .i64 (1 + 2 * (n : Int))) ∧ Below w.heap.size w w' := by
  have hml := marksF_length n
  obtain ⟨a, cap, rfl, _⟩ := h.form
  unfold rqV
  have B0 : Hid (Below w.heap.size w (w.alloc (.cells #[.string r.m, .string r.t, .slice a (marksF n).length cap, .string r.b] 26))) := (Below.refl _ w).alloc (Nat.le_refl _) _
  have hm := heldFS _ n B (w.alloc (.cells #[.string r.m, .string r.t, .slice a (marksF n).length cap, .string r.b] 26)) (h.kept ((Below.refl _ w).alloc (Nat.le_refl _) _)) hl
  rw [hml] at hm ⊢
  rw [hml] at B0
  clear h hml
  have hnn : ¬ (1 + 2 * (n : Int)) < 0 := by omega
  go_enter Tryz.func32, Tryz.ntmps32
  go_wp2_with (go_at_call 85; refine hm.mono ?_; rintro e w1 ⟨rfl, h2⟩)
  go_ret
  exact ⟨rfl, past6 B0.out h2.low⟩
set_option maxHeartbeats 4000000 in
theorem walkRdRq (X : World → Prop) (hX : ∀ w w', X w → Below w.heap.size w w' → X w')
    (hi : ∀ (t : ByteArray) (w : World), X w → t.size ≤ 1048576 → Calls Tryz.prog 13 #[.string t] w fun e w' => GivesQ w w' e (rdRq t.data.toList))
    (t : ByteArray) (w : World) (ht : t.size ≤ maxLen) (hx : X w) :
    Calls Tryz.prog 5 #[.string t] w fun e w' => e = .returned (.bool true) ∧ Below w.heap.size w w' := by
  unfold maxLen at ht
  by_cases hbig : 1048576 < t.size
  · go_enter Tryz.func5, Tryz.ntmps5
    go_wp2
    go_ret
    exact ⟨rfl, Below.refl _ _⟩
  · have hs : t.size ≤ 1048576 := by omega
    have cs : Hid (∀ W, Calls Tryz.prog 17 #[.string t] W fun e w' => GivesQ W w' e (rdRq t.data.toList)) := fun W => specRdRq t W hs
    have ci : Hid (∀ W, Below w.heap.size w W → Calls Tryz.prog 13 #[.string t] W fun e w' => GivesQ W w' e (rdRq t.data.toList)) := fun W hb => hi t W (hX w W hx hb) hs
    have hfew := rq_few t.data.toList
    unfold GivesQ at cs ci
    generalize rdRq t.data.toList = P at cs ci hfew
    obtain ⟨K, q, N⟩ := P
    simp only at cs ci hfew
    have hlen : q.l.length ≤ 1048576 := by omega
    have heq : Hid (∀ (W : World) (u u' : Value), Fls W u q.l → Fls W u' q.l → Calls Tryz.prog 30 #[rqV q u, rqV q u'] W fun e w' => e = .returned (.bool true) ∧ Below W.heap.size W w') := fun W u u' F F' => lawEqRq q u u' W F F' hlen
    have hmk : Hid (∀ (W : World) (v : Value) (B : Nat), HasF W B v q.l → Calls Tryz.prog 31 #[rqV q v, .int .i64 1] W fun e w' => e = .returned (.int .i64 (1 + 2 * (q.l.length : Int))) ∧ HasF w' B v (marksF q.l.length) ∧ W.grownBy w' v.ownBlock) := fun W v B F => markRq q v B W F hlen
    have hhd : Hid (∀ (W : World) (v : Value) (B : Nat), HasF W B v (marksF q.l.length) → Calls Tryz.prog 32 #[rqV q v, .int .i64 1] W fun e w' => e = .returned (.int .i64 (1 + 2 * (q.l.length : Int))) ∧ Below W.heap.size W w') := fun W v B F => heldRq q v q.l.length B W F hlen
    unfold rqV at cs ci heq hmk hhd
    clear hi hX hx hbig
    have hpos : ¬ (1 + 2 * (q.l.length : Int)) < 0 := by omega
    go_enter Tryz.func5, Tryz.ntmps5
    go_wp2_with fail
    refine (cs.out _).mono ?_
    rintro e x1 ⟨u1, rfl, p1, hb1⟩
    have B1 : Hid (Below w.heap.size w (x1.alloc (.cells #[.string q.m, .string q.t, u1, .string q.b] 26))) := hb1.alloc hb1.size _
    have P1' := p1.kept ((Below.refl _ x1).alloc (Nat.le_refl _) (.cells #[.string q.m, .string q.t, u1, .string q.b] 26))
    have LEW : Hid (w.heap.size ≤ x1.heap.size) := hb1.size
    have D1 : Hid (∀ k, u1.ownBlock = some k → k < x1.heap.size) := p1.under
    have K1' : RqB (x1.alloc (.cells #[.string q.m, .string q.t, u1, .string q.b] 26)) x1.heap.size q u1 := RqB.new x1 q u1 _
    obtain ⟨a1, cap1, rfl, _⟩ := p1.form
    have P1 : Hid (HasF (x1.alloc (.cells #[.string q.m, .string q.t, .slice a1 q.l.length cap1, .string q.b] 26)) w.heap.size (.slice a1 q.l.length cap1) q.l) := P1'
    have K1 : Hid (RqB (x1.alloc (.cells #[.string q.m, .string q.t, .slice a1 q.l.length cap1, .string q.b] 26)) x1.heap.size q (.slice a1 q.l.length cap1)) := K1'
    clear p1 hb1 P1' K1' cs
    go_wp2_with fail
    refine (ci.out _ B1.out).mono ?_
    rintro e x2 ⟨u2, rfl, p2, hb2⟩
    have B2' : Hid (Below w.heap.size w x2) := past6 B1.out hb2
    have al2 : Hid (Below x2.heap.size x2 (x2.alloc (.cells #[.string q.m, .string q.t, u2, .string q.b] 26))) := (Below.refl _ x2).alloc (Nat.le_refl _) _
    have B2 : Hid (Below w.heap.size w (x2.alloc (.cells #[.string q.m, .string q.t, u2, .string q.b] 26))) := past6 B2'.out al2.out
    have P2 : Hid (HasF (x2.alloc (.cells #[.string q.m, .string q.t, u2, .string q.b] 26)) w.heap.size (.slice a1 q.l.length cap1) q.l) := (P1.out.kept hb2).kept al2.out
    have K2 : Hid (RqB (x2.alloc (.cells #[.string q.m, .string q.t, u2, .string q.b] 26)) x1.heap.size q (.slice a1 q.l.length cap1)) := (K1.out.next hb2).alloc _
    have Q2' := p2.kept al2.out
    have J2' : RqB (x2.alloc (.cells #[.string q.m, .string q.t, u2, .string q.b] 26)) x2.heap.size q u2 := RqB.new x2 q u2 _
    have U2 : Hid (∀ k, u2.ownBlock = some k → k < x2.heap.size) := p2.under
    have L2 : Hid (∀ k, u2.ownBlock = some k → x1.heap.size < k) := fun k hk => by have := p2.from k hk; simp at this; omega
    have lt2 : Hid (x1.heap.size < x2.heap.size) := by have := hb2.size; simp at this; show x1.heap.size < x2.heap.size; omega
    obtain ⟨a2, cap2, rfl, _⟩ := p2.form
    have Q2 : Hid (HasF (x2.alloc (.cells #[.string q.m, .string q.t, .slice a2 q.l.length cap2, .string q.b] 26)) (x1.alloc (.cells #[.string q.m, .string q.t, .slice a1 q.l.length cap1, .string q.b] 26)).heap.size (.slice a2 q.l.length cap2) q.l) := Q2'
    have J2 : Hid (RqB (x2.alloc (.cells #[.string q.m, .string q.t, .slice a2 q.l.length cap2, .string q.b] 26)) x2.heap.size q (.slice a2 q.l.length cap2)) := J2'
    clear p2 hb2 Q2' J2' al2 B2' B1 P1 K1
    have k0 := K2.out.c0
    have k1 := K2.out.c1
    have k2 := K2.out.c2
    have k3 := K2.out.c3
    have j0 := J2.out.c0
    have j1 := J2.out.c1
    have j2 := J2.out.c2
    have j3 := J2.out.c3
    have lt2' := lt2.out
    go_wp2_with fail
    refine (heq.out _ _ _ Q2.out.fls P2.out.fls).mono ?_
    rintro e x3 ⟨rfl, hb3⟩
    have B3 : Hid (Below w.heap.size w x3) := past6 B2.out hb3
    have P3 : Hid (HasF x3 w.heap.size (.slice a1 q.l.length cap1) q.l) := P2.out.kept hb3
    have Q3 : Hid (HasF x3 (x1.alloc (.cells #[.string q.m, .string q.t, .slice a1 q.l.length cap1, .string q.b] 26)).heap.size (.slice a2 q.l.length cap2) q.l) := Q2.out.kept hb3
    have K3 : Hid (RqB x3 x1.heap.size q (.slice a1 q.l.length cap1)) := K2.out.next hb3
    have J3 : Hid (RqB x3 x2.heap.size q (.slice a2 q.l.length cap2)) := J2.out.next hb3
    clear B2 P2 Q2 K2 J2 hb3 k0 k1 k2 k3 j0 j1 j2 j3
    have j0 := J3.out.c0
    have j1 := J3.out.c1
    have j2 := J3.out.c2
    have j3 := J3.out.c3
    go_wp2_with fail
    refine (hmk.out _ _ _ Q3.out).mono ?_
    rintro e x4 ⟨rfl, q4, hg4⟩
    have B4 : Hid (Below w.heap.size w x4) := B3.out.grown hg4 B3.out.size (fun j hj => Nat.le_of_lt (Nat.lt_of_le_of_lt LEW.out (L2.out j hj)))
    have P4 : Hid (HasF x4 w.heap.size (.slice a1 q.l.length cap1) q.l) := P3.out.grown hg4 (fun k hk e => by have h1 := D1.out k hk; have h2 := L2.out k e.symm; omega)
    have Q4 : Hid (HasF x4 (x1.alloc (.cells #[.string q.m, .string q.t, .slice a1 q.l.length cap1, .string q.b] 26)).heap.size (.slice a2 q.l.length cap2) (marksF q.l.length)) := q4
    have K4 : Hid (RqB x4 x1.heap.size q (.slice a1 q.l.length cap1)) := K3.out.grown hg4 (fun e => by have := L2.out _ e.symm; omega)
    have J4 : Hid (RqB x4 x2.heap.size q (.slice a2 q.l.length cap2)) := J3.out.grown hg4 (fun e => by have := U2.out _ e.symm; omega)
    clear B3 P3 Q3 K3 J3 hg4 q4 j0 j1 j2 j3
    have j0 := J4.out.c0
    have j1 := J4.out.c1
    have j2 := J4.out.c2
    have j3 := J4.out.c3
    go_wp2_with fail
    refine (hhd.out _ _ _ Q4.out).mono ?_
    rintro e x5 ⟨rfl, hb5⟩
    have B5 : Hid (Below w.heap.size w x5) := past6 B4.out hb5
    have P5 : Hid (HasF x5 w.heap.size (.slice a1 q.l.length cap1) q.l) := P4.out.kept hb5
    have Q5 : Hid (HasF x5 (x1.alloc (.cells #[.string q.m, .string q.t, .slice a1 q.l.length cap1, .string q.b] 26)).heap.size (.slice a2 q.l.length cap2) (marksF q.l.length)) := Q4.out.kept hb5
    have K5 : Hid (RqB x5 x1.heap.size q (.slice a1 q.l.length cap1)) := K4.out.next hb5
    have J5 : Hid (RqB x5 x2.heap.size q (.slice a2 q.l.length cap2)) := J4.out.next hb5
    clear B4 P4 Q4 K4 J4 hb5 j0 j1 j2 j3
    go_wp2_with fail
    refine (ci.out _ B5.out).mono ?_
    rintro e x6 ⟨u6, rfl, p6, hb6⟩
    have B6' : Hid (Below w.heap.size w x6) := past6 B5.out hb6
    have al6 : Hid (Below x6.heap.size x6 (x6.alloc (.cells #[.string q.m, .string q.t, u6, .string q.b] 26))) := (Below.refl _ x6).alloc (Nat.le_refl _) _
    have B6 : Hid (Below w.heap.size w (x6.alloc (.cells #[.string q.m, .string q.t, u6, .string q.b] 26))) := past6 B6'.out al6.out
    have P6 : Hid (HasF (x6.alloc (.cells #[.string q.m, .string q.t, u6, .string q.b] 26)) w.heap.size (.slice a1 q.l.length cap1) q.l) := (P5.out.kept hb6).kept al6.out
    have Q6 : Hid (HasF (x6.alloc (.cells #[.string q.m, .string q.t, u6, .string q.b] 26)) (x1.alloc (.cells #[.string q.m, .string q.t, .slice a1 q.l.length cap1, .string q.b] 26)).heap.size (.slice a2 q.l.length cap2) (marksF q.l.length)) := (Q5.out.kept hb6).kept al6.out
    have K6 : Hid (RqB (x6.alloc (.cells #[.string q.m, .string q.t, u6, .string q.b] 26)) x1.heap.size q (.slice a1 q.l.length cap1)) := (K5.out.next hb6).alloc _
    have J6 : Hid (RqB (x6.alloc (.cells #[.string q.m, .string q.t, u6, .string q.b] 26)) x2.heap.size q (.slice a2 q.l.length cap2)) := (J5.out.next hb6).alloc _
    have T6' := (p6.kept al6.out).fls
    have lt6 : x1.heap.size < x6.heap.size := (K5.out.next hb6).hi
    have lt6' : x2.heap.size < x6.heap.size := (J5.out.next hb6).hi
    have K6c := K5.out.next hb6
    have J6c := J5.out.next hb6
    obtain ⟨a6, cap6, rfl, _⟩ := p6.form
    have T6 : Hid (Fls (x6.alloc (.cells #[.string q.m, .string q.t, .slice a6 q.l.length cap6, .string q.b] 26)) (.slice a6 q.l.length cap6) q.l) := T6'
    clear p6 hb6 T6' al6 B6' B5 P5 Q5 K5 J5 ci
    have k0 := K6c.c0
    have k1 := K6c.c1
    have k2 := K6c.c2
    have k3 := K6c.c3
    clear K6c J6c
    go_wp2_with fail
    refine (heq.out _ _ _ T6.out P6.out.fls).mono ?_
    rintro e x7 ⟨rfl, hb7⟩
    have B7 : Hid (Below w.heap.size w x7) := past6 B6.out hb7
    have Q7 : Hid (HasF x7 (x1.alloc (.cells #[.string q.m, .string q.t, .slice a1 q.l.length cap1, .string q.b] 26)).heap.size (.slice a2 q.l.length cap2) (marksF q.l.length)) := Q6.out.kept hb7
    have J7 : Hid (RqB x7 x2.heap.size q (.slice a2 q.l.length cap2)) := J6.out.next hb7
    clear B6 P6 Q6 K6 J6 T6 hb7 k0 k1 k2 k3
    have j0 := J7.out.c0
    have j1 := J7.out.c1
    have j2 := J7.out.c2
    have j3 := J7.out.c3
    go_wp2_with (go_at_call 32; refine (hhd.out _ _ _ Q7.out).mono ?_; rintro e x8 ⟨rfl, hb8⟩)
    go_ret
    exact ⟨rfl, past6 B7.out hb8⟩

set_option maxHeartbeats 1000000 in
theorem markRs (r : Rs) (v : Value) (B : Nat) (w : World) (h : HasF w B v r.l) (hl : r.l.length ≤ 1048576) :
    Calls Tryz.prog 34 #[rsV r v, .int .i64 1] w fun e w' => e = .returned (.int .i64 (1 + 2 * (r.l.length : Int))) ∧ HasF w' B v (marksF r.l.length) ∧ w.grownBy w' v.ownBlock := by
  obtain ⟨a, cap, rfl, _⟩ := h.form
  unfold rsV
  have hm := markFS _ r.l B (w.alloc (.cells #[.int .i64 r.s, .slice a r.l.length cap, .string r.b] 39)) (h.kept ((Below.refl _ w).alloc (Nat.le_refl _) _)) hl
  clear h
  go_enter Tryz.func34, Tryz.ntmps34
  go_wp2_with (go_at_call 84; refine hm.mono ?_; rintro e w1 ⟨rfl, h1, h2⟩)
  go_ret
  exact ⟨rfl, h1, grown_alloc6 h2⟩
set_option maxHeartbeats 1000000 in
theorem heldRs (r : Rs) (v : Value) (n : Nat) (B : Nat) (w : World) (h : HasF w B v (marksF n)) (hl : n ≤ 1048576) :
    Calls Tryz.prog 35 #[rsV r v, .int .i64 1] w fun e w' => e = .returned (.int .i64 (1 + 2 * (n : Int))) ∧ Below w.heap.size w w' := by
  have hml := marksF_length n
  obtain ⟨a, cap, rfl, _⟩ := h.form
  unfold rsV
  have B0 : Hid (Below w.heap.size w (w.alloc (.cells #[.int .i64 r.s, .slice a (marksF n).length cap, .string r.b] 39))) := (Below.refl _ w).alloc (Nat.le_refl _) _
  have hm := heldFS _ n B (w.alloc (.cells #[.int .i64 r.s, .slice a (marksF n).length cap, .string r.b] 39)) (h.kept ((Below.refl _ w).alloc (Nat.le_refl _) _)) hl
  rw [hml] at hm ⊢
  rw [hml] at B0
  clear h hml
  have hnn : ¬ (1 + 2 * (n : Int)) < 0 := by omega
  go_enter Tryz.func35, Tryz.ntmps35
  go_wp2_with (go_at_call 85; refine hm.mono ?_; rintro e w1 ⟨rfl, h2⟩)
  go_ret
  exact ⟨rfl, past6 B0.out h2.low⟩
set_option maxHeartbeats 4000000 in
theorem walkRdRs (X : World → Prop) (hX : ∀ w w', X w → Below w.heap.size w w' → X w')
    (hi : ∀ (t : ByteArray) (w : World), X w → t.size ≤ 1048576 → Calls Tryz.prog 26 #[.string t] w fun e w' => GivesS w w' e (rdRs t.data.toList))
    (t : ByteArray) (w : World) (ht : t.size ≤ maxLen) (hx : X w) :
    Calls Tryz.prog 6 #[.string t] w fun e w' => e = .returned (.bool true) ∧ Below w.heap.size w w' := by
  unfold maxLen at ht
  by_cases hbig : 1048576 < t.size
  · go_enter Tryz.func6, Tryz.ntmps6
    go_wp2
    go_ret
    exact ⟨rfl, Below.refl _ _⟩
  · have hs : t.size ≤ 1048576 := by omega
    have cs : Hid (∀ W, Calls Tryz.prog 29 #[.string t] W fun e w' => GivesS W w' e (rdRs t.data.toList)) := fun W => specRdRs t W hs
    have ci : Hid (∀ W, Below w.heap.size w W → Calls Tryz.prog 26 #[.string t] W fun e w' => GivesS W w' e (rdRs t.data.toList)) := fun W hb => hi t W (hX w W hx hb) hs
    have hfew := rs_few t.data.toList
    unfold GivesS at cs ci
    generalize rdRs t.data.toList = P at cs ci hfew
    obtain ⟨K, q, N⟩ := P
    simp only at cs ci hfew
    have hlen : q.l.length ≤ 1048576 := by omega
    have heq : Hid (∀ (W : World) (u u' : Value), Fls W u q.l → Fls W u' q.l → Calls Tryz.prog 33 #[rsV q u, rsV q u'] W fun e w' => e = .returned (.bool true) ∧ Below W.heap.size W w') := fun W u u' F F' => lawEqRs q u u' W F F' hlen
    have hmk : Hid (∀ (W : World) (v : Value) (B : Nat), HasF W B v q.l → Calls Tryz.prog 34 #[rsV q v, .int .i64 1] W fun e w' => e = .returned (.int .i64 (1 + 2 * (q.l.length : Int))) ∧ HasF w' B v (marksF q.l.length) ∧ W.grownBy w' v.ownBlock) := fun W v B F => markRs q v B W F hlen
    have hhd : Hid (∀ (W : World) (v : Value) (B : Nat), HasF W B v (marksF q.l.length) → Calls Tryz.prog 35 #[rsV q v, .int .i64 1] W fun e w' => e = .returned (.int .i64 (1 + 2 * (q.l.length : Int))) ∧ Below W.heap.size W w') := fun W v B F => heldRs q v q.l.length B W F hlen
    unfold rsV at cs ci heq hmk hhd
    clear hi hX hx hbig
    have hpos : ¬ (1 + 2 * (q.l.length : Int)) < 0 := by omega
    go_enter Tryz.func6, Tryz.ntmps6
    go_wp2_with fail
    refine (cs.out _).mono ?_
    rintro e x1 ⟨u1, rfl, p1, hb1⟩
    have B1 : Hid (Below w.heap.size w (x1.alloc (.cells #[.int .i64 q.s, u1, .string q.b] 39))) := hb1.alloc hb1.size _
    have P1' := p1.kept ((Below.refl _ x1).alloc (Nat.le_refl _) (.cells #[.int .i64 q.s, u1, .string q.b] 39))
    have LEW : Hid (w.heap.size ≤ x1.heap.size) := hb1.size
    have D1 : Hid (∀ k, u1.ownBlock = some k → k < x1.heap.size) := p1.under
    have K1' : RsB (x1.alloc (.cells #[.int .i64 q.s, u1, .string q.b] 39)) x1.heap.size q u1 := RsB.new x1 q u1 _
    obtain ⟨a1, cap1, rfl, _⟩ := p1.form
    have P1 : Hid (HasF (x1.alloc (.cells #[.int .i64 q.s, .slice a1 q.l.length cap1, .string q.b] 39)) w.heap.size (.slice a1 q.l.length cap1) q.l) := P1'
    have K1 : Hid (RsB (x1.alloc (.cells #[.int .i64 q.s, .slice a1 q.l.length cap1, .string q.b] 39)) x1.heap.size q (.slice a1 q.l.length cap1)) := K1'
    clear p1 hb1 P1' K1' cs
    go_wp2_with fail
    refine (ci.out _ B1.out).mono ?_
    rintro e x2 ⟨u2, rfl, p2, hb2⟩
    have B2' : Hid (Below w.heap.size w x2) := past6 B1.out hb2
    have al2 : Hid (Below x2.heap.size x2 (x2.alloc (.cells #[.int .i64 q.s, u2, .string q.b] 39))) := (Below.refl _ x2).alloc (Nat.le_refl _) _
    have B2 : Hid (Below w.heap.size w (x2.alloc (.cells #[.int .i64 q.s, u2, .string q.b] 39))) := past6 B2'.out al2.out
    have P2 : Hid (HasF (x2.alloc (.cells #[.int .i64 q.s, u2, .string q.b] 39)) w.heap.size (.slice a1 q.l.length cap1) q.l) := (P1.out.kept hb2).kept al2.out
    have K2 : Hid (RsB (x2.alloc (.cells #[.int .i64 q.s, u2, .string q.b] 39)) x1.heap.size q (.slice a1 q.l.length cap1)) := (K1.out.next hb2).alloc _
    have Q2' := p2.kept al2.out
    have J2' : RsB (x2.alloc (.cells #[.int .i64 q.s, u2, .string q.b] 39)) x2.heap.size q u2 := RsB.new x2 q u2 _
    have U2 : Hid (∀ k, u2.ownBlock = some k → k < x2.heap.size) := p2.under
    have L2 : Hid (∀ k, u2.ownBlock = some k → x1.heap.size < k) := fun k hk => by have := p2.from k hk; simp at this; omega
    have lt2 : Hid (x1.heap.size < x2.heap.size) := by have := hb2.size; simp at this; show x1.heap.size < x2.heap.size; omega
    obtain ⟨a2, cap2, rfl, _⟩ := p2.form
    have Q2 : Hid (HasF (x2.alloc (.cells #[.int .i64 q.s, .slice a2 q.l.length cap2, .string q.b] 39)) (x1.alloc (.cells #[.int .i64 q.s, .slice a1 q.l.length cap1, .string q.b] 39)).heap.size (.slice a2 q.l.length cap2) q.l) := Q2'
    have J2 : Hid (RsB (x2.alloc (.cells #[.int .i64 q.s, .slice a2 q.l.length cap2, .string q.b] 39)) x2.heap.size q (.slice a2 q.l.length cap2)) := J2'
    clear p2 hb2 Q2' J2' al2 B2' B1 P1 K1
    have k0 := K2.out.c0
    have k1 := K2.out.c1
    have k2 := K2.out.c2
    have j0 := J2.out.c0
    have j1 := J2.out.c1
    have j2 := J2.out.c2
    have lt2' := lt2.out
    go_wp2_with fail
    refine (heq.out _ _ _ Q2.out.fls P2.out.fls).mono ?_
    rintro e x3 ⟨rfl, hb3⟩
    have B3 : Hid (Below w.heap.size w x3) := past6 B2.out hb3
    have P3 : Hid (HasF x3 w.heap.size (.slice a1 q.l.length cap1) q.l) := P2.out.kept hb3
    have Q3 : Hid (HasF x3 (x1.alloc (.cells #[.int .i64 q.s, .slice a1 q.l.length cap1, .string q.b] 39)).heap.size (.slice a2 q.l.length cap2) q.l) := Q2.out.kept hb3
    have K3 : Hid (RsB x3 x1.heap.size q (.slice a1 q.l.length cap1)) := K2.out.next hb3
    have J3 : Hid (RsB x3 x2.heap.size q (.slice a2 q.l.length cap2)) := J2.out.next hb3
    clear B2 P2 Q2 K2 J2 hb3 k0 k1 k2 j0 j1 j2
    have j0 := J3.out.c0
    have j1 := J3.out.c1
    have j2 := J3.out.c2
    go_wp2_with fail
    refine (hmk.out _ _ _ Q3.out).mono ?_
    rintro e x4 ⟨rfl, q4, hg4⟩
    have B4 : Hid (Below w.heap.size w x4) := B3.out.grown hg4 B3.out.size (fun j hj => Nat.le_of_lt (Nat.lt_of_le_of_lt LEW.out (L2.out j hj)))
    have P4 : Hid (HasF x4 w.heap.size (.slice a1 q.l.length cap1) q.l) := P3.out.grown hg4 (fun k hk e => by have h1 := D1.out k hk; have h2 := L2.out k e.symm; omega)
    have Q4 : Hid (HasF x4 (x1.alloc (.cells #[.int .i64 q.s, .slice a1 q.l.length cap1, .string q.b] 39)).heap.size (.slice a2 q.l.length cap2) (marksF q.l.length)) := q4
    have K4 : Hid (RsB x4 x1.heap.size q (.slice a1 q.l.length cap1)) := K3.out.grown hg4 (fun e => by have := L2.out _ e.symm; omega)
    have J4 : Hid (RsB x4 x2.heap.size q (.slice a2 q.l.length cap2)) := J3.out.grown hg4 (fun e => by have := U2.out _ e.symm; omega)
    clear B3 P3 Q3 K3 J3 hg4 q4 j0 j1 j2
    have j0 := J4.out.c0
    have j1 := J4.out.c1
    have j2 := J4.out.c2
    go_wp2_with fail
    refine (hhd.out _ _ _ Q4.out).mono ?_
    rintro e x5 ⟨rfl, hb5⟩
    have B5 : Hid (Below w.heap.size w x5) := past6 B4.out hb5
    have P5 : Hid (HasF x5 w.heap.size (.slice a1 q.l.length cap1) q.l) := P4.out.kept hb5
    have Q5 : Hid (HasF x5 (x1.alloc (.cells #[.int .i64 q.s, .slice a1 q.l.length cap1, .string q.b] 39)).heap.size (.slice a2 q.l.length cap2) (marksF q.l.length)) := Q4.out.kept hb5
    have K5 : Hid (RsB x5 x1.heap.size q (.slice a1 q.l.length cap1)) := K4.out.next hb5
    have J5 : Hid (RsB x5 x2.heap.size q (.slice a2 q.l.length cap2)) := J4.out.next hb5
    clear B4 P4 Q4 K4 J4 hb5 j0 j1 j2
    go_wp2_with fail
    refine (ci.out _ B5.out).mono ?_
    rintro e x6 ⟨u6, rfl, p6, hb6⟩
    have B6' : Hid (Below w.heap.size w x6) := past6 B5.out hb6
    have al6 : Hid (Below x6.heap.size x6 (x6.alloc (.cells #[.int .i64 q.s, u6, .string q.b] 39))) := (Below.refl _ x6).alloc (Nat.le_refl _) _
    have B6 : Hid (Below w.heap.size w (x6.alloc (.cells #[.int .i64 q.s, u6, .string q.b] 39))) := past6 B6'.out al6.out
    have P6 : Hid (HasF (x6.alloc (.cells #[.int .i64 q.s, u6, .string q.b] 39)) w.heap.size (.slice a1 q.l.length cap1) q.l) := (P5.out.kept hb6).kept al6.out
    have Q6 : Hid (HasF (x6.alloc (.cells #[.int .i64 q.s, u6, .string q.b] 39)) (x1.alloc (.cells #[.int .i64 q.s, .slice a1 q.l.length cap1, .string q.b] 39)).heap.size (.slice a2 q.l.length cap2) (marksF q.l.length)) := (Q5.out.kept hb6).kept al6.out
    have K6 : Hid (RsB (x6.alloc (.cells #[.int .i64 q.s, u6, .string q.b] 39)) x1.heap.size q (.slice a1 q.l.length cap1)) := (K5.out.next hb6).alloc _
    have J6 : Hid (RsB (x6.alloc (.cells #[.int .i64 q.s, u6, .string q.b] 39)) x2.heap.size q (.slice a2 q.l.length cap2)) := (J5.out.next hb6).alloc _
    have T6' := (p6.kept al6.out).fls
    have lt6 : x1.heap.size < x6.heap.size := (K5.out.next hb6).hi
    have lt6' : x2.heap.size < x6.heap.size := (J5.out.next hb6).hi
    have K6c := K5.out.next hb6
    have J6c := J5.out.next hb6
    obtain ⟨a6, cap6, rfl, _⟩ := p6.form
    have T6 : Hid (Fls (x6.alloc (.cells #[.int .i64 q.s, .slice a6 q.l.length cap6, .string q.b] 39)) (.slice a6 q.l.length cap6) q.l) := T6'
    clear p6 hb6 T6' al6 B6' B5 P5 Q5 K5 J5 ci
    have k0 := K6c.c0
    have k1 := K6c.c1
    have k2 := K6c.c2
    clear K6c J6c
    go_wp2_with fail
    refine (heq.out _ _ _ T6.out P6.out.fls).mono ?_
    rintro e x7 ⟨rfl, hb7⟩
    have B7 : Hid (Below w.heap.size w x7) := past6 B6.out hb7
    have Q7 : Hid (HasF x7 (x1.alloc (.cells #[.int .i64 q.s, .slice a1 q.l.length cap1, .string q.b] 39)).heap.size (.slice a2 q.l.length cap2) (marksF q.l.length)) := Q6.out.kept hb7
    have J7 : Hid (RsB x7 x2.heap.size q (.slice a2 q.l.length cap2)) := J6.out.next hb7
    clear B6 P6 Q6 K6 J6 T6 hb7 k0 k1 k2
    have j0 := J7.out.c0
    have j1 := J7.out.c1
    have j2 := J7.out.c2
    go_wp2_with (go_at_call 35; refine (hhd.out _ _ _ Q7.out).mono ?_; rintro e x8 ⟨rfl, hb8⟩)
    go_ret
    exact ⟨rfl, past6 B7.out hb8⟩
end Go.Proofs.YtmgmphkncgochaaGreatDoor
