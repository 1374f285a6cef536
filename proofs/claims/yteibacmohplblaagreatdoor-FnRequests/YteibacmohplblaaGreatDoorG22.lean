/-
  The specification's ReadRequest and ReadResponse by their contracts.
  The specification's ReadResponse by its contract.
  The laws' own comparisons of requests and responses, by their contracts.
-/
import Derived.Test.YteibacmohplblaaGreatDoorG21
import Derived.Test.YteibacmohplblaaGreatDoorG12
import Derived.Test.YteibacmohplblaaGreatDoorG09
namespace Go.Proofs.YteibacmohplblaaGreatDoor
open Go.RowKit
set_option linter.unusedVariables false

theorem rq_none {t : List UInt8} (h : lnS t = none) : rdRq t = (1, noQ, 0) := by unfold rdRq; rw [h]
theorem rq_words {t x r : List UInt8} (h : lnS t = some (x, r)) (hw : ¬ (wrdL x).length = 3) : rdRq t = (1, noQ, 0) := by
  unfold rdRq; rw [h]; simp only
  split
  · rename_i e; rw [e] at hw; exact absurd rfl hw
  · rfl
theorem rq_line {t x r m g v : List UInt8} (h : lnS t = some (x, r)) (hw : wrdL x = [m, g, v]) (hn : ¬ (metB (txtL m) = true ∧ tarB (txtL g) = true ∧ txtL v = hvS)) : rdRq t = (1, noQ, 0) := by
  unfold rdRq; rw [h]; simp only; rw [hw]; simp only; rw [if_neg hn]
theorem rq_rest {t x r m g v : List UInt8} (h : lnS t = some (x, r)) (hw : wrdL x = [m, g, v]) (hn : metB (txtL m) = true ∧ tarB (txtL g) = true ∧ txtL v = hvS) (hk : ¬ (rstA r false).k = 0) : rdRq t = ((rstA r false).k, noQ, 0) := by
  unfold rdRq; rw [h]; simp only; rw [hw]; simp only; rw [if_pos hn, if_neg hk]
theorem rq_yes {t x r m g v : List UInt8} (h : lnS t = some (x, r)) (hw : wrdL x = [m, g, v]) (hn : metB (txtL m) = true ∧ tarB (txtL g) = true ∧ txtL v = hvS) (hk : (rstA r false).k = 0) : rdRq t = (0, ⟨txtL m, txtL g, (rstA r false).l, (rstA r false).b⟩, (t.length : Int) - ((rstA r false).r.length : Int)) := by
  unfold rdRq; rw [h]; simp only; rw [hw]; simp only; rw [if_pos hn, if_pos hk]
theorem rs_none {t : List UInt8} (h : lnS t = none) : rdRs t = (1, noS, 0) := by unfold rdRs; rw [h]
theorem rs_words {t x r : List UInt8} (h : lnS t = some (x, r)) (hw : ¬ (wrdL x).length = 3) : rdRs t = (1, noS, 0) := by
  unfold rdRs; rw [h]; simp only
  split
  · rename_i e; rw [e] at hw; exact absurd rfl hw
  · rfl
theorem rs_line {t x r v g o : List UInt8} (h : lnS t = some (x, r)) (hw : wrdL x = [v, g, o]) (hn : ¬ (txtL v = hvS ∧ staOk g = true ∧ tokB (txtL o) = true)) : rdRs t = (1, noS, 0) := by
  unfold rdRs; rw [h]; simp only; rw [hw]; simp only; rw [if_neg hn]
theorem rs_rest {t x r v g o : List UInt8} (h : lnS t = some (x, r)) (hw : wrdL x = [v, g, o]) (hn : txtL v = hvS ∧ staOk g = true ∧ tokB (txtL o) = true) (hk : ¬ (rstA r (bareB (numV 10 15 (txtL g)))).k = 0) : rdRs t = ((rstA r (bareB (numV 10 15 (txtL g)))).k, noS, 0) := by
  unfold rdRs; rw [h]; simp only; rw [hw]; simp only; rw [if_pos hn, if_neg hk]
theorem rs_yes {t x r v g o : List UInt8} (h : lnS t = some (x, r)) (hw : wrdL x = [v, g, o]) (hn : txtL v = hvS ∧ staOk g = true ∧ tokB (txtL o) = true) (hk : (rstA r (bareB (numV 10 15 (txtL g)))).k = 0) : rdRs t = (0, ⟨numV 10 15 (txtL g), (rstA r (bareB (numV 10 15 (txtL g)))).l, (rstA r (bareB (numV 10 15 (txtL g)))).b⟩, (t.length : Int) - ((rstA r (bareB (numV 10 15 (txtL g)))).r.length : Int)) := by
  unfold rdRs; rw [h]; simp only; rw [hw]; simp only; rw [if_pos hn, if_pos hk]
theorem lnS_rest {t x r : List UInt8} (h : lnS t = some (x, r)) : x.length + r.length + 2 = t.length ∧ t.drop (t.length - r.length) = r := by
  have hl := lnC_length (lnS_some h).1
  have e : t.length = x.length + r.length + 2 := by rw [hl]; simp; omega
  refine ⟨e.symm, ?_⟩
  have e2 : t.length - r.length = (x ++ [13, 10]).length := by rw [e, List.length_append]; simp; omega
  rw [e2, hl, List.drop_left]
theorem hv_list : hvS.toList = [72, 84, 84, 80, 47, 49, 46, 49] := by rw [ByteArray.toList_eq]; rfl
theorem same_hv {y : ByteArray} (h : y = hvS) : (y.toList == [72, 84, 84, 80, 47, 49, 46, 49]) = true ∧ (y.toList != [72, 84, 84, 80, 47, 49, 46, 49]) = false := by
  have := same_yes h
  rw [hv_list] at this
  exact ⟨this, by show (!(y.toList == _)) = false; rw [this]; rfl⟩
theorem diff_hv {y : ByteArray} (h : ¬ y = hvS) : (y.toList == [72, 84, 84, 80, 47, 49, 46, 49]) = false ∧ (y.toList != [72, 84, 84, 80, 47, 49, 46, 49]) = true := by
  have := same_no h
  rw [hv_list] at this
  exact ⟨this, by show (!(y.toList == _)) = true; rw [this]; rfl⟩
/-- Three words in a row. -/
theorem OwnsS.three {w : World} {B : Nat} {u : Value} {a b c : ByteArray} (h : OwnsS w B u [a, b, c]) : ∃ g cap, u = .slice (some ⟨g, 0, none⟩) 3 cap ∧ 3 ≤ cap ∧ cap ≤ maxLen ∧ B ≤ g ∧ g < w.heap.size ∧ w.cell? ⟨g, 0, none⟩ = some (.string a) ∧ w.cell? ⟨g, 1, none⟩ = some (.string b) ∧ w.cell? ⟨g, 2, none⟩ = some (.string c) := by
  rcases h.2.2 with ⟨_, h0⟩ | ⟨g, cap, cur, hv, hb, hg, hc, hm, hz, ht⟩
  · simp at h0
  · have key : ∀ j u, ([a, b, c].map Value.string)[j]? = some u → w.cell? ⟨g, j, none⟩ = some u := by
      intro j u hu
      have hj : j < 3 := by
        have := (List.getElem?_eq_some_iff.1 hu).1
        simpa using this
      rw [cell_of_row w g j _ _ _ hg]
      rw [← ht, List.getElem?_take] at hu
      split at hu
      · simpa using hu
      · cases hu
    exact ⟨g, cap, hv, hc, hm, hb, (Array.getElem?_eq_some_iff.1 hg).1, key 0 _ rfl, key 1 _ rfl, key 2 _ rfl⟩
theorem OwnsS.len {w : World} {B : Nat} {u : Value} {l : List ByteArray} (h : OwnsS w B u l) : ∃ g cap, u = .slice (some ⟨g, 0, none⟩) l.length cap := by
  obtain ⟨⟨g, cap, hv, _⟩, _⟩ := h
  exact ⟨g, cap, hv⟩
theorem wrdS_len (x : List UInt8) : (wrdS x).length = (wrdL x).length := by unfold wrdS; simp
theorem three_of {x : List UInt8} (h : (wrdL x).length = 3) : ∃ a b c, wrdL x = [a, b, c] := by
  match wrdL x, h with
  | [a, b, c], _ => exact ⟨a, b, c, rfl⟩
theorem lineE_no (t : ByteArray) : lineE t none = .tuple #[.string ⟨#[]⟩, .int .i64 0, .bool false] := rfl
theorem lineE_at (t : ByteArray) (x r : List UInt8) : lineE t (some (x, r)) = .tuple #[.string ⟨x.toArray⟩, .int .i64 ((t.size : Int) - (r.length : Int)), .bool true] := rfl
def GivesQ (w w' : World) (e : Ending) (p : Int × Rq × Int) : Prop := ∃ u, e = .returned (.tuple #[rqV p.2.1 u, .int .i64 p.2.2, .int .i64 p.1]) ∧ HasF w' w.heap.size u p.2.1.l ∧ Below w.heap.size w w'
def GivesS (w w' : World) (e : Ending) (p : Int × Rs × Int) : Prop := ∃ u, e = .returned (.tuple #[rsV p.2.1 u, .int .i64 p.2.2, .int .i64 p.1]) ∧ HasF w' w.heap.size u p.2.1.l ∧ Below w.heap.size w w'
theorem givesQ_no {w w1 : World} {p : Int × Rq × Int} {k : Int} (h : p = (k, noQ, 0)) (hb : Below w.heap.size w w1) : GivesQ w w1 (.returned (.tuple #[.agg #[.string ⟨#[]⟩, .string ⟨#[]⟩, .slice none 0 0, .string ⟨#[]⟩], .int .i64 0, .int .i64 k])) p := by
  subst h
  exact ⟨.slice none 0 0, rfl, .inl ⟨rfl, rfl⟩, hb⟩
theorem givesS_no {w w1 : World} {p : Int × Rs × Int} {k : Int} (h : p = (k, noS, 0)) (hb : Below w.heap.size w w1) : GivesS w w1 (.returned (.tuple #[.agg #[.int .i64 0, .slice none 0 0, .string ⟨#[]⟩], .int .i64 0, .int .i64 k])) p := by
  subst h
  exact ⟨.slice none 0 0, rfl, .inl ⟨rfl, rfl⟩, hb⟩
theorem HasF.far {w : World} {B b k : Nat} {v : Value} {l : List Fl} (h : HasF w B v l) (hb : b < B) (x : Value) : HasF (w.setCell ⟨b, k, none⟩ x) B v l := by
  rcases h with h0 | ⟨g, cap, cur, hv, hbg, hg, rest⟩
  · exact .inl h0
  · exact .inr ⟨g, cap, cur, hv, hbg, by rw [Below.heap_setCell _ _ _ _ (by show g ≠ b; omega)]; exact hg, rest⟩
theorem below_drew6 {n : Nat} {w w' : World} (h : Below n w w') : Below n w w'.drew := ⟨h.os, h.tape, h.output, h.size, h.block⟩
theorem HasF.drew {w : World} {B : Nat} {v : Value} {l : List Fl} (h : HasF w B v l) : HasF w.drew B v l := h
theorem wrdL_mem : ∀ {x y : List UInt8}, y ∈ wrdL x → y.length ≤ x.length
  | [], y, h => by
    simp [wrdL] at h
    rw [h]
    exact Nat.le_refl _
  | c :: r, y, h => by
    rw [wrdL_cons] at h
    split at h
    · rcases List.mem_cons.1 h with rfl | h
      · exact Nat.zero_le _
      · have := wrdL_mem h
        rw [List.length_cons]; omega
    · split at h
      · rename_i z zs e
        have ih : ∀ y ∈ wrdL r, y.length ≤ r.length := fun y hy => wrdL_mem hy
        rw [e] at ih
        rcases List.mem_cons.1 h with rfl | h
        · have := ih z (by simp)
          rw [List.length_cons, List.length_cons]; omega
        · have := ih y (by simp [h])
          rw [List.length_cons]; omega
      · simp at h
        rw [h]
        simp
theorem word_size {x m g v : List UInt8} (h : wrdL x = [m, g, v]) : ∀ y ∈ [m, g, v], y.length ≤ x.length := by
  rw [← h]
  exact fun y hy => wrdL_mem hy

set_option maxHeartbeats 4000000 in
theorem specRdRq (t : ByteArray) (w : World) (ht : t.size ≤ 1048576) :
    Calls Tryz.prog 17 #[.string t] w fun e w' => GivesQ w w' e (rdRq t.data.toList) := by
  have htl : t.data.toList.length = t.size := by simp
  have hln := specLine t 0 (w.alloc (.cells #[.string ⟨#[]⟩, .string ⟨#[]⟩, .slice none 0 0, .string ⟨#[]⟩] 26)) (Nat.zero_le _) (by omega)
  rw [List.drop_zero, show ((0 : Nat) : Int) = 0 from rfl] at hln
  have R0 : Hid (RqB (w.alloc (.cells #[.string ⟨#[]⟩, .string ⟨#[]⟩, .slice none 0 0, .string ⟨#[]⟩] 26)) w.heap.size noQ (.slice none 0 0)) := RqB.new w noQ _ _
  have B0 : Hid (Below w.heap.size w (w.alloc (.cells #[.string ⟨#[]⟩, .string ⟨#[]⟩, .slice none 0 0, .string ⟨#[]⟩] 26))) := (Below.refl _ w).alloc (Nat.le_refl _) _
  cases hl : lnS t.data.toList with
  | none =>
    rw [hl, lineE_no] at hln
    have HP : Hid (rdRq t.data.toList = (1, noQ, 0)) := rq_none hl
    generalize rdRq t.data.toList = P at HP ⊢
    clear hl htl
    go_enter Tryz.func17, Tryz.ntmps17
    go_wp2_with fail
    refine hln.mono ?_
    rintro e w1 ⟨rfl, rfl⟩
    go_wp2_with fail
    refine (specWords ⟨#[]⟩ _ (by decide)).mono ?_
    rintro e w2 ⟨u, rfl, ho, hb2⟩
    obtain ⟨g, cap, rfl⟩ := ho.len
    have R2 : Hid (RqB w2 w.heap.size noQ (.slice none 0 0)) := R0.out.next hb2
    have B2 : Hid (Below w.heap.size w w2) := past6 B0.out hb2
    clear hln ho hb2 R0 B0
    have z0 := R2.out.c0
    have z1 := R2.out.c1
    have z2 := R2.out.c2
    have z3 := R2.out.c3
    have zf := R2.out.fz
    go_wp2
    refine bodyPost_ret (v := .tuple #[.agg #[.string ⟨#[]⟩, .string ⟨#[]⟩, .slice none 0 0, .string ⟨#[]⟩], .int .i64 0, .int .i64 1]) (by simp [results, Tryz.results17, go_sem, z0, z1, z2, z3]) rfl (givesQ_no HP.out ?_)
    repeat (refine Below.setCell ?_ (by simp) _)
    exact B2.out
  | some pr =>
    obtain ⟨x, r⟩ := pr
    rw [hl, lineE_at] at hln
    obtain ⟨hx1, hx2⟩ := lnS_rest hl
    rw [htl] at hx1 hx2
    have hxs : (⟨x.toArray⟩ : ByteArray).size ≤ 1048576 := by show x.toArray.size ≤ _; simp; omega
    obtain ⟨d, hd⟩ : ∃ d, d = t.size - r.length := ⟨_, rfl⟩
    have hdi : (t.size : Int) - (r.length : Int) = (d : Int) := by omega
    rw [hdi] at hln
    rw [← hd] at hx2
    have hdt : d ≤ t.size := by omega
    have hwo := fun w => specWords ⟨x.toArray⟩ w hxs
    simp only at hwo
    have hres := fun W => specRest t d false W hdt ht
    rw [hx2] at hres
    by_cases h3 : (wrdL x).length = 3
    · obtain ⟨m, g, v, hw3⟩ := three_of h3
      have hw3' : wrdS x = [txtL m, txtL g, txtL v] := by unfold wrdS; rw [hw3]; rfl
      rw [hw3'] at hwo
      have PL := fun hn => rq_line hl hw3 hn
      have PR := fun hn hk => rq_rest hl hw3 hn hk
      have PY := fun hn hk => rq_yes hl hw3 hn hk
      rw [htl] at PY
      have hmz : (txtL m).size ≤ 1048576 ∧ (txtL g).size ≤ 1048576 := by
        have h1 := word_size hw3
        exact ⟨by have := h1 m (by simp); show m.toArray.size ≤ _; simp; omega, by have := h1 g (by simp); show g.toArray.size ≤ _; simp; omega⟩
      obtain ⟨zm, zg⟩ := hmz
      generalize rdRq t.data.toList = P at PL PR PY ⊢
      generalize rstA r false = R at PR PY hres
      generalize txtL m = tm at hwo PL PR PY zm
      generalize txtL g = tg at hwo PL PR PY zg
      generalize txtL v = tv at hwo PL PR PY
      clear hl hw3 hw3' h3 htl hx1 hx2 hd hdi hxs
      have HPL : Hid _ := PL
      have HPR : Hid _ := PR
      have HPY : Hid _ := PY
      have HRS : Hid _ := hres
      clear PL PR PY hres
      go_enter Tryz.func17, Tryz.ntmps17
      go_wp2_with fail
      refine hln.mono ?_
      rintro e w1 ⟨rfl, rfl⟩
      go_wp2_with fail
      refine (hwo _).mono ?_
      rintro e w2 ⟨u, rfl, ho, hb2⟩
      obtain ⟨gg, cap, rfl, hc3, hcm, hgB, hgw, c0, c1, c2⟩ := ho.three
      have R2 : Hid (RqB w2 w.heap.size noQ (.slice none 0 0)) := R0.out.next hb2
      have B2 : Hid (Below w.heap.size w w2) := past6 B0.out hb2
      have hgne : w.heap.size < gg := by have := hgB; simp at this; omega
      clear hln ho hb2 R0 B0 hwo hgB
      go_wp2_with fail
      refine (specMet tm _ (le_max zm)).mono ?_
      rintro e w3 ⟨rfl, hb3⟩
      have R3 : Hid (RqB w3 w.heap.size noQ (.slice none 0 0)) := R2.out.next hb3
      have B3 : Hid (Below w.heap.size w w3) := past6 B2.out hb3
      have d0 := (hb3.cell (p := ⟨gg, 0, none⟩) hgw).trans c0
      have d1 := (hb3.cell (p := ⟨gg, 1, none⟩) hgw).trans c1
      have d2 := (hb3.cell (p := ⟨gg, 2, none⟩) hgw).trans c2
      have hgw3 : gg < w3.heap.size := Nat.lt_of_lt_of_le hgw hb3.size
      clear R2 B2 hb3 c0 c1 c2 hgw
      cases hmm : metB tm with
      | false =>
        have HP : Hid (P = (1, noQ, 0)) := HPL.out (fun h => by rw [hmm] at h; exact absurd h.1 (by decide))
        clear HPL HPR HPY HRS
        have z0 := R3.out.c0
        have z1 := R3.out.c1
        have z2 := R3.out.c2
        have z3 := R3.out.c3
        have zf := R3.out.fz
        go_wp2
        refine bodyPost_ret (v := .tuple #[.agg #[.string ⟨#[]⟩, .string ⟨#[]⟩, .slice none 0 0, .string ⟨#[]⟩], .int .i64 0, .int .i64 1]) (by simp [results, Tryz.results17, go_sem, z0, z1, z2, z3]) rfl (givesQ_no HP.out ?_)
        repeat (refine Below.setCell ?_ (by simp) _)
        exact B3.out
      | true =>
        go_wp2_with fail
        refine (specTar tg _ (le_max zg)).mono ?_
        rintro e w4 ⟨rfl, hb4⟩
        have R4 : Hid (RqB w4 w.heap.size noQ (.slice none 0 0)) := R3.out.next hb4
        have B4 : Hid (Below w.heap.size w w4) := past6 B3.out hb4
        have c0 := (hb4.cell (p := ⟨gg, 0, none⟩) hgw3).trans d0
        have c1 := (hb4.cell (p := ⟨gg, 1, none⟩) hgw3).trans d1
        have c2 := (hb4.cell (p := ⟨gg, 2, none⟩) hgw3).trans d2
        have hgw4 : gg < w4.heap.size := Nat.lt_of_lt_of_le hgw3 hb4.size
        clear R3 B3 hb4 d0 d1 d2 hgw3
        cases htt : tarB tg with
        | false =>
          have HP : Hid (P = (1, noQ, 0)) := HPL.out (fun h => by rw [htt] at h; exact absurd h.2.1 (by decide))
          clear HPL HPR HPY HRS
          have z0 := R4.out.c0
          have z1 := R4.out.c1
          have z2 := R4.out.c2
          have z3 := R4.out.c3
          have zf := R4.out.fz
          go_wp2
          refine bodyPost_ret (v := .tuple #[.agg #[.string ⟨#[]⟩, .string ⟨#[]⟩, .slice none 0 0, .string ⟨#[]⟩], .int .i64 0, .int .i64 1]) (by simp [results, Tryz.results17, go_sem, z0, z1, z2, z3]) rfl (givesQ_no HP.out ?_)
          repeat (refine Below.setCell ?_ (by simp) _)
          exact B4.out
        | true =>
          by_cases hv : tv = hvS
          · have hvb := same_hv hv
            obtain ⟨hvb1, hvb2⟩ := hvb
            have hall : metB tm = true ∧ tarB tg = true ∧ tv = hvS := ⟨hmm, htt, hv⟩
            have HR1 : Hid _ := fun hk => HPR.out hall hk
            have HR2 : Hid _ := fun hk => HPY.out hall hk
            clear HPL HPR HPY hall hv
            go_wp2_with fail
            refine (HRS.out _).mono ?_
            rintro e w5 ⟨u5, rfl, hF5, hb5⟩
            have R5 : Hid (RqB w5 w.heap.size noQ (.slice none 0 0)) := R4.out.next hb5
            have B5 : Hid (Below w.heap.size w w5) := past6 B4.out hb5
            have d0 := (hb5.cell (p := ⟨gg, 0, none⟩) hgw4).trans c0
            have d1 := (hb5.cell (p := ⟨gg, 1, none⟩) hgw4).trans c1
            have hlt5 : w.heap.size < w4.heap.size := R4.out.hi
            obtain ⟨a5, cap5, rfl, _⟩ := hF5.form
            have F5 : Hid (HasF w5 w4.heap.size (.slice a5 R.l.length cap5) R.l) := hF5
            clear R4 B4 hb5 c0 c1 c2 HRS hF5
            by_cases hk : R.k = 0
            · have HP := HR2.out hk
              have HP' : Hid (P = (0, ⟨tm, tg, R.l, R.b⟩, (t.size : Int) - (R.r.length : Int))) := HP
              have hrn : restN t R = (t.size : Int) - (R.r.length : Int) := by unfold restN; rw [if_pos hk]
              rw [hrn, hk]
              generalize (t.size : Int) - (R.r.length : Int) = N at HP' ⊢
              clear HR1 HR2 HP hrn hk
              have z0 := R5.out.c0
              have z1 := R5.out.c1
              have z2 := R5.out.c2
              have z3 := R5.out.c3
              have zf := R5.out.fz
              have hnn : w.heap.size ≠ gg := by omega
              go_wp2
              go_region
              all_goals
                go_wp2
                refine bodyPost_ret (v := .tuple #[.agg #[.string tm, .string tg, .slice a5 R.l.length cap5, .string R.b], .int .i64 N, .int .i64 0]) (by simp [results, Tryz.results17, go_sem, z0, z1, z2, z3]) rfl ?_
                rw [HP'.out]
                refine ⟨_, rfl, ?_, ?_⟩
                · refine HasF.low (B := w4.heap.size) ?_ (by omega)
                  repeat (refine HasF.far ?_ (by omega) _)
                  exact F5.out
                · repeat (first | refine Below.setCell ?_ (by simp) _ | refine below_drew6 ?_)
                  exact B5.out
            · have HP := HR1.out hk
              have HP' : Hid (P = (R.k, noQ, 0)) := HP
              have hrn : restN t R = 0 := by unfold restN; rw [if_neg hk]
              have hkb : (R.k != 0) = true := by simpa using hk
              rw [hrn]
              generalize R.k = K at HP' hkb hk ⊢
              clear HR1 HR2 HP hrn
              have z0 := R5.out.c0
              have z1 := R5.out.c1
              have z2 := R5.out.c2
              have z3 := R5.out.c3
              have zf := R5.out.fz
              go_wp2
              refine bodyPost_ret (v := .tuple #[.agg #[.string ⟨#[]⟩, .string ⟨#[]⟩, .slice none 0 0, .string ⟨#[]⟩], .int .i64 0, .int .i64 K]) (by simp [results, Tryz.results17, go_sem, z0, z1, z2, z3]) rfl (givesQ_no HP'.out ?_)
              repeat (refine Below.setCell ?_ (by simp) _)
              exact B5.out
          · obtain ⟨hvb1, hvb2⟩ := diff_hv hv
            have HP : Hid (P = (1, noQ, 0)) := HPL.out (fun h => hv h.2.2)
            clear HPL HPR HPY HRS hv
            have z0 := R4.out.c0
            have z1 := R4.out.c1
            have z2 := R4.out.c2
            have z3 := R4.out.c3
            have zf := R4.out.fz
            go_wp2
            refine bodyPost_ret (v := .tuple #[.agg #[.string ⟨#[]⟩, .string ⟨#[]⟩, .slice none 0 0, .string ⟨#[]⟩], .int .i64 0, .int .i64 1]) (by simp [results, Tryz.results17, go_sem, z0, z1, z2, z3]) rfl (givesQ_no HP.out ?_)
            repeat (refine Below.setCell ?_ (by simp) _)
            exact B4.out
    · have HP : Hid (rdRq t.data.toList = (1, noQ, 0)) := rq_words hl h3
      generalize rdRq t.data.toList = P at HP ⊢
      have h3' : ¬ (wrdS x).length = 3 := by rw [wrdS_len]; exact h3
      generalize wrdS x = ws at hwo h3'
      clear hl h3 htl hx1 hx2 hd hdi hxs hres
      go_enter Tryz.func17, Tryz.ntmps17
      go_wp2_with fail
      refine hln.mono ?_
      rintro e w1 ⟨rfl, rfl⟩
      go_wp2_with fail
      refine (hwo _).mono ?_
      rintro e w2 ⟨u, rfl, ho, hb2⟩
      obtain ⟨gg, cap, rfl⟩ := ho.len
      have R2 : Hid (RqB w2 w.heap.size noQ (.slice none 0 0)) := R0.out.next hb2
      have B2 : Hid (Below w.heap.size w w2) := past6 B0.out hb2
      generalize ws.length = n3 at h3' ⊢
      have hne3 : ((n3 : Int) != 3) = true := by simp; omega
      have hne4 : ¬ (n3 : Int) = 3 := by omega
      clear hln ho hb2 R0 B0 hwo
      have z0 := R2.out.c0
      have z1 := R2.out.c1
      have z2 := R2.out.c2
      have z3 := R2.out.c3
      have zf := R2.out.fz
      go_wp2
      refine bodyPost_ret (v := .tuple #[.agg #[.string ⟨#[]⟩, .string ⟨#[]⟩, .slice none 0 0, .string ⟨#[]⟩], .int .i64 0, .int .i64 1]) (by simp [results, Tryz.results17, go_sem, z0, z1, z2, z3]) rfl (givesQ_no HP.out ?_)
      repeat (refine Below.setCell ?_ (by simp) _)
      exact B2.out
end Go.Proofs.YteibacmohplblaaGreatDoor
namespace Go.Proofs.YteibacmohplblaaGreatDoor
open Go.RowKit
set_option linter.unusedVariables false

theorem sta_no1 {g : List UInt8} (h : ¬ (txtL g).size = 3) : ¬ staOk g = true := by
  unfold staOk
  have e : (txtL g).size = g.length := by show g.toArray.size = _; simp
  rw [decide_eq_false (by omega)]
  simp
theorem sta_no2 {g : List UInt8} (h : numOk 10 15 (txtL g) = false) : ¬ staOk g = true := by
  unfold staOk; rw [h]; simp
theorem sta_no3 {g : List UInt8} (h : ¬ (200 ≤ numV 10 15 (txtL g) ∧ numV 10 15 (txtL g) ≤ 599)) : ¬ staOk g = true := by
  unfold staOk; rw [decide_eq_false h]; simp
theorem sta_yes {g : List UInt8} (h : (txtL g).size = 3) (h2 : numOk 10 15 (txtL g) = true) (h3 : 200 ≤ numV 10 15 (txtL g) ∧ numV 10 15 (txtL g) ≤ 599) : staOk g = true := by
  unfold staOk
  have e : (txtL g).size = g.length := by show g.toArray.size = _; simp
  rw [decide_eq_true (by omega), h2, decide_eq_true h3]
  rfl

set_option maxHeartbeats 4000000 in
theorem specRdRs (t : ByteArray) (w : World) (ht : t.size ≤ 1048576) :
    Calls Tryz.prog 29 #[.string t] w fun e w' => GivesS w w' e (rdRs t.data.toList) := by
  have htl : t.data.toList.length = t.size := by simp
  have hln := specLine t 0 (w.alloc (.cells #[.int .i64 0, .slice none 0 0, .string ⟨#[]⟩] 39)) (Nat.zero_le _) (by omega)
  rw [List.drop_zero, show ((0 : Nat) : Int) = 0 from rfl] at hln
  have R0 : Hid (RsB (w.alloc (.cells #[.int .i64 0, .slice none 0 0, .string ⟨#[]⟩] 39)) w.heap.size noS (.slice none 0 0)) := RsB.new w noS _ _
  have B0 : Hid (Below w.heap.size w (w.alloc (.cells #[.int .i64 0, .slice none 0 0, .string ⟨#[]⟩] 39))) := (Below.refl _ w).alloc (Nat.le_refl _) _
  cases hl : lnS t.data.toList with
  | none =>
    rw [hl, lineE_no] at hln
    have HP : Hid (rdRs t.data.toList = (1, noS, 0)) := rs_none hl
    generalize rdRs t.data.toList = P at HP ⊢
    clear hl htl
    go_enter Tryz.func29, Tryz.ntmps29
    go_wp2_with fail
    refine hln.mono ?_
    rintro e w1 ⟨rfl, rfl⟩
    go_wp2_with fail
    refine (specWords ⟨#[]⟩ _ (by decide)).mono ?_
    rintro e w2 ⟨u, rfl, ho, hb2⟩
    obtain ⟨g, cap, rfl⟩ := ho.len
    have R2 : Hid (RsB w2 w.heap.size noS (.slice none 0 0)) := R0.out.next hb2
    have B2 : Hid (Below w.heap.size w w2) := past6 B0.out hb2
    clear hln ho hb2 R0 B0
    have z0 := R2.out.c0
    have z1 := R2.out.c1
    have z2 := R2.out.c2
    have zf := R2.out.fz
    go_wp2
    refine bodyPost_ret (v := .tuple #[.agg #[.int .i64 0, .slice none 0 0, .string ⟨#[]⟩], .int .i64 0, .int .i64 1]) (by simp [results, Tryz.results29, go_sem, z0, z1, z2]) rfl (givesS_no HP.out ?_)
    repeat (refine Below.setCell ?_ (by simp) _)
    exact B2.out
  | some pr =>
    obtain ⟨x, r⟩ := pr
    rw [hl, lineE_at] at hln
    obtain ⟨hx1, hx2⟩ := lnS_rest hl
    rw [htl] at hx1 hx2
    have hxs : (⟨x.toArray⟩ : ByteArray).size ≤ 1048576 := by show x.toArray.size ≤ _; simp; omega
    obtain ⟨d, hd⟩ : ∃ d, d = t.size - r.length := ⟨_, rfl⟩
    have hdi : (t.size : Int) - (r.length : Int) = (d : Int) := by omega
    rw [hdi] at hln
    rw [← hd] at hx2
    have hdt : d ≤ t.size := by omega
    have hwo := fun w => specWords ⟨x.toArray⟩ w hxs
    simp only at hwo
    by_cases h3 : (wrdL x).length = 3
    · obtain ⟨v, g, o, hw3⟩ := three_of h3
      have hw3' : wrdS x = [txtL v, txtL g, txtL o] := by unfold wrdS; rw [hw3]; rfl
      rw [hw3'] at hwo
      have PL := fun hn => rs_line hl hw3 hn
      have PR := fun hn hk => rs_rest hl hw3 hn hk
      have PY := fun hn hk => rs_yes hl hw3 hn hk
      rw [htl] at PY
      have hres := fun b W => specRest t d b W hdt ht
      rw [hx2] at hres
      have hmz : (txtL g).size ≤ 1048576 ∧ (txtL o).size ≤ 1048576 := by
        have h1 := word_size hw3
        exact ⟨by have := h1 g (by simp); show g.toArray.size ≤ _; simp; omega, by have := h1 o (by simp); show o.toArray.size ≤ _; simp; omega⟩
      obtain ⟨zg, zo⟩ := hmz
      have S1 := @sta_no1 g
      have S2 := @sta_no2 g
      have S3 := @sta_no3 g
      have S4 := @sta_yes g
      generalize rdRs t.data.toList = P at PL PR PY ⊢
      generalize staOk g = sok at PL PR PY S1 S2 S3 S4
      generalize txtL v = tv at hwo PL PR PY
      generalize txtL g = tg at hwo PL PR PY zg S1 S2 S3 S4
      generalize txtL o = tw at hwo PL PR PY zo
      clear hl hw3 hw3' h3 htl hx1 hx2 hd hdi hxs
      have HPL : Hid _ := PL
      have HPR : Hid _ := PR
      have HPY : Hid _ := PY
      have HRS : Hid _ := hres
      have HS1 : Hid _ := S1
      have HS2 : Hid _ := S2
      have HS3 : Hid _ := S3
      have HS4 : Hid _ := S4
      clear PL PR PY hres S1 S2 S3 S4
      go_enter Tryz.func29, Tryz.ntmps29
      go_wp2_with fail
      refine hln.mono ?_
      rintro e w1 ⟨rfl, rfl⟩
      go_wp2_with fail
      refine (hwo _).mono ?_
      rintro e w2 ⟨u, rfl, ho, hb2⟩
      obtain ⟨gg, cap, rfl, hc3, hcm, hgB, hgw, c0, c1, c2⟩ := ho.three
      have R2 : Hid (RsB w2 w.heap.size noS (.slice none 0 0)) := R0.out.next hb2
      have B2 : Hid (Below w.heap.size w w2) := past6 B0.out hb2
      have hgne : w.heap.size < gg := by have := hgB; simp at this; omega
      clear hln ho hb2 R0 B0 hwo hgB
      by_cases hv : tv = hvS
      · obtain ⟨hvb1, hvb2⟩ := same_hv hv
        have HV : Hid (tv = hvS) := hv
        clear hv
        by_cases hg3 : tg.size = 3
        · have hg3b : ((tg.size : Int) != 3) = false := by simp; omega
          have HG3 : Hid (tg.size = 3) := hg3
          go_wp2_with fail
          refine (specTok tw _ (le_max zo)).mono ?_
          rintro e w3 ⟨rfl, hb3⟩
          have R3 : Hid (RsB w3 w.heap.size noS (.slice none 0 0)) := R2.out.next hb3
          have B3 : Hid (Below w.heap.size w w3) := past6 B2.out hb3
          have d0 := (hb3.cell (p := ⟨gg, 0, none⟩) hgw).trans c0
          have d1 := (hb3.cell (p := ⟨gg, 1, none⟩) hgw).trans c1
          have d2 := (hb3.cell (p := ⟨gg, 2, none⟩) hgw).trans c2
          have hgw3 : gg < w3.heap.size := Nat.lt_of_lt_of_le hgw hb3.size
          clear R2 B2 hb3 c0 c1 c2 hgw
          cases htk : tokB tw with
          | false =>
            have HP : Hid (P = (1, noS, 0)) := HPL.out (fun h => by rw [htk] at h; exact absurd h.2.2 (by decide))
            clear HPL HPR HPY HRS HS1 HS2 HS3 HS4
            have z0 := R3.out.c0
            have z1 := R3.out.c1
            have z2 := R3.out.c2
            have zf := R3.out.fz
            go_wp2
            refine bodyPost_ret (v := .tuple #[.agg #[.int .i64 0, .slice none 0 0, .string ⟨#[]⟩], .int .i64 0, .int .i64 1]) (by simp [results, Tryz.results29, go_sem, z0, z1, z2]) rfl (givesS_no HP.out ?_)
            repeat (refine Below.setCell ?_ (by simp) _)
            exact B3.out
          | true =>
            go_wp2_with fail
            refine (specDig tg _ (le_max zg)).mono ?_
            unfold numE
            rintro e w4 ⟨rfl, hb4'⟩
            have hb4 : Below w3.heap.size w3 w4 := by first | exact hb4' | (subst hb4'; exact Below.refl _ _) | (rw [← hb4']; exact Below.refl _ _)
            have R4 : Hid (RsB w4 w.heap.size noS (.slice none 0 0)) := R3.out.next hb4
            have B4 : Hid (Below w.heap.size w w4) := past6 B3.out hb4
            clear R3 B3 hb4 hb4' d0 d1 d2 hgw3
            cases hno : numOk 10 15 tg with
            | false =>
              have HP : Hid (P = (1, noS, 0)) := HPL.out (fun h => HS2.out hno h.2.1)
              clear HPL HPR HPY HRS HS1 HS2 HS3 HS4
              have z0 := R4.out.c0
              have z1 := R4.out.c1
              have z2 := R4.out.c2
              have zf := R4.out.fz
              go_wp2
              refine bodyPost_ret (v := .tuple #[.agg #[.int .i64 0, .slice none 0 0, .string ⟨#[]⟩], .int .i64 0, .int .i64 1]) (by simp [results, Tryz.results29, go_sem, z0, z1, z2]) rfl (givesS_no HP.out ?_)
              repeat (refine Below.setCell ?_ (by simp) _)
              exact B4.out
            | true =>
              go_wp2_with fail
              refine (specIn6 _ _ _ _).mono ?_
              rintro e w4' ⟨rfl, rfl⟩
              cases hin : decide (200 ≤ numV 10 15 tg ∧ numV 10 15 tg ≤ 599) with
              | false =>
                have HP : Hid (P = (1, noS, 0)) := HPL.out (fun h => HS3.out (of_decide_eq_false hin) h.2.1)
                clear HPL HPR HPY HRS HS1 HS2 HS3 HS4
                have z0 := R4.out.c0
                have z1 := R4.out.c1
                have z2 := R4.out.c2
                have zf := R4.out.fz
                go_wp2
                refine bodyPost_ret (v := .tuple #[.agg #[.int .i64 0, .slice none 0 0, .string ⟨#[]⟩], .int .i64 0, .int .i64 1]) (by simp [results, Tryz.results29, go_sem, z0, z1, z2]) rfl (givesS_no HP.out ?_)
                repeat (refine Below.setCell ?_ (by simp) _)
                exact B4.out
              | true =>
                have hall : tv = hvS ∧ sok = true ∧ tokB tw = true := ⟨HV.out, HS4.out HG3.out hno (of_decide_eq_true hin), htk⟩
                have HR1 : Hid _ := fun hk => HPR.out hall hk
                have HR2 : Hid _ := fun hk => HPY.out hall hk
                clear HPL HPR HPY hall HV HS1 HS2 HS3 HS4 hin hno
                generalize numV 10 15 tg = st at HR1 HR2 ⊢
                go_wp2_with fail
                refine (specBare _ _).mono ?_
                rintro e w4'' ⟨rfl, rfl⟩
                generalize bareB st = br at HR1 HR2 ⊢
                have hrs := HRS.out br
                generalize rstA r br = R at HR1 HR2 hrs
                clear HRS
                go_wp2_with fail
                refine (hrs _).mono ?_
                rintro e w5 ⟨u5, rfl, hF5, hb5⟩
                have R5 : Hid (RsB w5 w.heap.size noS (.slice none 0 0)) := R4.out.next hb5
                have B5 : Hid (Below w.heap.size w w5) := past6 B4.out hb5
                have hlt5 : w.heap.size < w4.heap.size := R4.out.hi
                obtain ⟨a5, cap5, rfl, _⟩ := hF5.form
                have F5 : Hid (HasF w5 w4.heap.size (.slice a5 R.l.length cap5) R.l) := hF5
                clear R4 B4 hb5 hrs hF5
                by_cases hk : R.k = 0
                · have HP := HR2.out hk
                  have HP' : Hid (P = (0, ⟨st, R.l, R.b⟩, (t.size : Int) - (R.r.length : Int))) := HP
                  have hrn : restN t R = (t.size : Int) - (R.r.length : Int) := by unfold restN; rw [if_pos hk]
                  rw [hrn, hk]
                  generalize (t.size : Int) - (R.r.length : Int) = N at HP' ⊢
                  clear HR1 HR2 HP hrn hk
                  have z0 := R5.out.c0
                  have z1 := R5.out.c1
                  have z2 := R5.out.c2
                  have zf := R5.out.fz
                  go_wp2
                  refine bodyPost_ret (v := .tuple #[.agg #[.int .i64 st, .slice a5 R.l.length cap5, .string R.b], .int .i64 N, .int .i64 0]) (by simp [results, Tryz.results29, go_sem, z0, z1, z2]) rfl ?_
                  rw [HP'.out]
                  refine ⟨_, rfl, ?_, ?_⟩
                  · refine HasF.low (B := w4.heap.size) ?_ (by omega)
                    repeat (refine HasF.far ?_ (by omega) _)
                    exact F5.out
                  · repeat (first | refine Below.setCell ?_ (by simp) _ | refine below_drew6 ?_)
                    exact B5.out
                · have HP := HR1.out hk
                  have HP' : Hid (P = (R.k, noS, 0)) := HP
                  have hrn : restN t R = 0 := by unfold restN; rw [if_neg hk]
                  have hkb : (R.k != 0) = true := by simpa using hk
                  rw [hrn]
                  generalize R.k = K at HP' hkb hk ⊢
                  clear HR1 HR2 HP hrn
                  have z0 := R5.out.c0
                  have z1 := R5.out.c1
                  have z2 := R5.out.c2
                  have zf := R5.out.fz
                  go_wp2
                  refine bodyPost_ret (v := .tuple #[.agg #[.int .i64 0, .slice none 0 0, .string ⟨#[]⟩], .int .i64 0, .int .i64 K]) (by simp [results, Tryz.results29, go_sem, z0, z1, z2]) rfl (givesS_no HP'.out ?_)
                  repeat (refine Below.setCell ?_ (by simp) _)
                  exact B5.out
        · have hg3b : ((tg.size : Int) != 3) = true := by simp; omega
          have hg3c : ¬ (tg.size : Int) = 3 := by omega
          have HP : Hid (P = (1, noS, 0)) := HPL.out (fun h => HS1.out hg3 h.2.1)
          clear HPL HPR HPY HRS HS1 HS2 HS3 HS4
          have z0 := R2.out.c0
          have z1 := R2.out.c1
          have z2 := R2.out.c2
          have zf := R2.out.fz
          go_wp2
          refine bodyPost_ret (v := .tuple #[.agg #[.int .i64 0, .slice none 0 0, .string ⟨#[]⟩], .int .i64 0, .int .i64 1]) (by simp [results, Tryz.results29, go_sem, z0, z1, z2]) rfl (givesS_no HP.out ?_)
          repeat (refine Below.setCell ?_ (by simp) _)
          exact B2.out
      · obtain ⟨hvb1, hvb2⟩ := diff_hv hv
        have HP : Hid (P = (1, noS, 0)) := HPL.out (fun h => hv h.1)
        clear HPL HPR HPY HRS hv HS1 HS2 HS3 HS4
        have z0 := R2.out.c0
        have z1 := R2.out.c1
        have z2 := R2.out.c2
        have zf := R2.out.fz
        go_wp2
        refine bodyPost_ret (v := .tuple #[.agg #[.int .i64 0, .slice none 0 0, .string ⟨#[]⟩], .int .i64 0, .int .i64 1]) (by simp [results, Tryz.results29, go_sem, z0, z1, z2]) rfl (givesS_no HP.out ?_)
        repeat (refine Below.setCell ?_ (by simp) _)
        exact B2.out
    · have HP : Hid (rdRs t.data.toList = (1, noS, 0)) := rs_words hl h3
      generalize rdRs t.data.toList = P at HP ⊢
      have h3' : ¬ (wrdS x).length = 3 := by rw [wrdS_len]; exact h3
      generalize wrdS x = ws at hwo h3'
      clear hl h3 htl hx1 hx2 hd hdi hxs
      go_enter Tryz.func29, Tryz.ntmps29
      go_wp2_with fail
      refine hln.mono ?_
      rintro e w1 ⟨rfl, rfl⟩
      go_wp2_with fail
      refine (hwo _).mono ?_
      rintro e w2 ⟨u, rfl, ho, hb2⟩
      obtain ⟨gg, cap, rfl⟩ := ho.len
      have R2 : Hid (RsB w2 w.heap.size noS (.slice none 0 0)) := R0.out.next hb2
      have B2 : Hid (Below w.heap.size w w2) := past6 B0.out hb2
      generalize ws.length = n3 at h3' ⊢
      have hne3 : ((n3 : Int) != 3) = true := by simp; omega
      have hne4 : ¬ (n3 : Int) = 3 := by omega
      clear hln ho hb2 R0 B0 hwo
      have z0 := R2.out.c0
      have z1 := R2.out.c1
      have z2 := R2.out.c2
      have zf := R2.out.fz
      go_wp2
      refine bodyPost_ret (v := .tuple #[.agg #[.int .i64 0, .slice none 0 0, .string ⟨#[]⟩], .int .i64 0, .int .i64 1]) (by simp [results, Tryz.results29, go_sem, z0, z1, z2]) rfl (givesS_no HP.out ?_)
      repeat (refine Below.setCell ?_ (by simp) _)
      exact B2.out
end Go.Proofs.YteibacmohplblaaGreatDoor
namespace Go.Proofs.YteibacmohplblaaGreatDoor
open Go.RowKit Go.Sort
set_option linter.unusedVariables false

set_option maxHeartbeats 1000000 in
theorem lawEqRq (r : Rq) (va vb : Value) (w : World) (ha : Fls w va r.l) (hb : Fls w vb r.l) (hl : r.l.length ≤ 1048576) :
    Calls Tryz.prog 30 #[rqV r va, rqV r vb] w fun e w' => e = .returned (.bool true) ∧ Below w.heap.size w w' := by
  have hfa := ha
  have hfb := hb
  obtain ⟨a, ca, rfl, _⟩ := hfa
  obtain ⟨b, cb, rfl, _⟩ := hfb
  unfold rqV
  have B0 : Below w.heap.size w ((w.alloc (.cells #[.string r.m, .string r.t, .slice a r.l.length ca, .string r.b] 26)).alloc (.cells #[.string r.m, .string r.t, .slice b r.l.length cb, .string r.b] 26)) := ((Below.refl _ w).alloc (Nat.le_refl _) _).alloc (by simp) _
  have hq := eqFS _ _ r.l _ (ha.kept B0) (hb.kept B0) hl
  have P0 : Hid (RqB ((w.alloc (.cells #[.string r.m, .string r.t, .slice a r.l.length ca, .string r.b] 26)).alloc (.cells #[.string r.m, .string r.t, .slice b r.l.length cb, .string r.b] 26)) w.heap.size r (.slice a r.l.length ca)) := (RqB.new w r _ _).alloc _
  have P1 : Hid (RqB ((w.alloc (.cells #[.string r.m, .string r.t, .slice a r.l.length ca, .string r.b] 26)).alloc (.cells #[.string r.m, .string r.t, .slice b r.l.length cb, .string r.b] 26)) (w.heap.size + 1) r (.slice b r.l.length cb)) := by
    have := RqB.new (w.alloc (.cells #[.string r.m, .string r.t, .slice a r.l.length ca, .string r.b] 26)) r (.slice b r.l.length cb) 26
    rw [show (w.alloc (.cells #[.string r.m, .string r.t, .slice a r.l.length ca, .string r.b] 26)).heap.size = w.heap.size + 1 by simp] at this
    exact this
  have HB : Hid _ := B0
  clear ha hb B0
  go_enter Tryz.func30, Tryz.ntmps30
  go_wp2_with fail
  refine hq.mono ?_
  rintro e w1 ⟨rfl, hg⟩
  have S0 : Hid (RqB w1 w.heap.size r (.slice a r.l.length ca)) := P0.out.next hg.low
  have S1 : Hid (RqB w1 (w.heap.size + 1) r (.slice b r.l.length cb)) := P1.out.next hg.low
  have B1 : Hid (Below w.heap.size w w1) := past6 HB.out hg.low
  have a3 := S0.out.c3
  have b3 := S1.out.c3
  clear P0 P1 HB hg hq S0 S1
  go_wp2
  go_ret
  exact ⟨rfl, B1.out⟩
set_option maxHeartbeats 1000000 in
theorem lawEqRs (r : Rs) (va vb : Value) (w : World) (ha : Fls w va r.l) (hb : Fls w vb r.l) (hl : r.l.length ≤ 1048576) :
    Calls Tryz.prog 33 #[rsV r va, rsV r vb] w fun e w' => e = .returned (.bool true) ∧ Below w.heap.size w w' := by
  have hfa := ha
  have hfb := hb
  obtain ⟨a, ca, rfl, _⟩ := hfa
  obtain ⟨b, cb, rfl, _⟩ := hfb
  unfold rsV
  have B0 : Below w.heap.size w ((w.alloc (.cells #[.int .i64 r.s, .slice a r.l.length ca, .string r.b] 39)).alloc (.cells #[.int .i64 r.s, .slice b r.l.length cb, .string r.b] 39)) := ((Below.refl _ w).alloc (Nat.le_refl _) _).alloc (by simp) _
  have hq := eqFS _ _ r.l _ (ha.kept B0) (hb.kept B0) hl
  have P0 : Hid (RsB ((w.alloc (.cells #[.int .i64 r.s, .slice a r.l.length ca, .string r.b] 39)).alloc (.cells #[.int .i64 r.s, .slice b r.l.length cb, .string r.b] 39)) w.heap.size r (.slice a r.l.length ca)) := (RsB.new w r _ _).alloc _
  have P1 : Hid (RsB ((w.alloc (.cells #[.int .i64 r.s, .slice a r.l.length ca, .string r.b] 39)).alloc (.cells #[.int .i64 r.s, .slice b r.l.length cb, .string r.b] 39)) (w.heap.size + 1) r (.slice b r.l.length cb)) := by
    have := RsB.new (w.alloc (.cells #[.int .i64 r.s, .slice a r.l.length ca, .string r.b] 39)) r (.slice b r.l.length cb) 39
    rw [show (w.alloc (.cells #[.int .i64 r.s, .slice a r.l.length ca, .string r.b] 39)).heap.size = w.heap.size + 1 by simp] at this
    exact this
  have HB : Hid _ := B0
  clear ha hb B0
  go_enter Tryz.func33, Tryz.ntmps33
  go_wp2_with fail
  refine hq.mono ?_
  rintro e w1 ⟨rfl, hg⟩
  have S0 : Hid (RsB w1 w.heap.size r (.slice a r.l.length ca)) := P0.out.next hg.low
  have S1 : Hid (RsB w1 (w.heap.size + 1) r (.slice b r.l.length cb)) := P1.out.next hg.low
  have B1 : Hid (Below w.heap.size w w1) := past6 HB.out hg.low
  have a2 := S0.out.c2
  have b2 := S1.out.c2
  clear P0 P1 HB hg hq S0 S1
  go_wp2
  go_ret
  exact ⟨rfl, B1.out⟩
end Go.Proofs.YteibacmohplblaaGreatDoor
