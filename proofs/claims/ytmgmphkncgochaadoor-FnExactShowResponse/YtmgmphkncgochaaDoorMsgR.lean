/-
  Plain facts on messages: a response is read from what it is shown as, and of no part of it; what is read is right.
-/
import Derived.Test.YtmgmphkncgochaaDoorMsgQ
namespace Go.Proofs.YtmgmphkncgochaaDoor
open Go.RowKit

theorem dec_three {n : Nat} (h : 100 ≤ n) (h2 : n ≤ 999) : (decS n).data.toList.length = 3 := by
  rw [decS_list, numF_step 7 n (by omega), numF_step 6 (n / 10) (by omega), numF_small 6 (n / 10 / 10) (by omega)]
  simp
theorem sta_dec {s : Int} (h : 200 ≤ s ∧ s ≤ 599) : staOk (decS s.toNat).data.toList = true ∧ numV 10 15 (txtL (decS s.toNat).data.toList) = s := by
  have hd := dec_back (n := s.toNat) (by omega)
  have hs : ((s.toNat : Nat) : Int) = s := Int.toNat_of_nonneg (by omega)
  rw [txt_list]
  refine ⟨?_, by rw [hd.2, hs]⟩
  unfold staOk
  rw [txt_list, dec_three (by omega) (by omega), hd.1, hd.2, hs]
  simp [h.1, h.2]
theorem word_tok (s : Int) : tokB (wordS s) = true := by
  unfold wordS
  split <;> decide +kernel
theorem tellR {s : Int} {b : ByteArray} (h : bareB s = true → b.size = 0) (hb : (!bareB s) = false) : b.size = 0 := h (by simpa using hb)
/-- A response is read from what it is shown as, whatever stands behind it. -/
theorem rs_back {r : Rs} (h : 0 < (shRs r).size) (t : List UInt8) : rdRs ((shRs r).data.toList ++ t) = (0, r, ((shRs r).size : Int)) ∧ rsOk r = true := by
  have hok : rsOk r = true := by
    cases e : rsOk r with
    | true => rfl
    | false => unfold shRs at h; rw [e, if_neg (by decide)] at h; exact absurd h (by decide)
  have e : shRs r = msgA (lineR r.s) r.l r.b (!bareB r.s) := by unfold shRs; rw [if_pos hok]
  rw [e] at h ⊢
  have hl := msgA_room h
  have hsz : ((msgA (lineR r.s) r.l r.b (!bareB r.s)).size : Int) = ((msgA (lineR r.s) r.l r.b (!bareB r.s)).data.toList.length : Int) := by simp
  rw [hsz, msgA_list hl]
  obtain ⟨h1, h3, h4, h5⟩ := rsOk_parts hok
  obtain ⟨hw, hcl⟩ := lineR_words h1
  obtain ⟨hs1, hs2⟩ := sta_dec h1
  rw [txt_list] at hs2
  have hr := rst_show (bare := bareB r.s) t h3 h4 hl (tellR h5) (fun x => by rw [x]; rfl)
  refine ⟨?_, hok⟩
  unfold rdRs
  rw [List.append_assoc, lnS_clean _ hcl]
  simp only [hw, hs2, hr, hs1, txt_list, word_tok, and_self, if_true, List.length_append]
  simp
  omega
theorem rs_cut {r : Rs} (h : 0 < (shRs r).size) {k : Nat} (hk : k < (shRs r).size) : (rdRs ((shRs r).data.toList.take k)).1 ≠ 0 ∧ (rdRs ((shRs r).data.toList.take k)).2.2 = 0 := by
  have hok : rsOk r = true := (rs_back h []).2
  have e : shRs r = msgA (lineR r.s) r.l r.b (!bareB r.s) := by unfold shRs; rw [if_pos hok]
  rw [e] at h hk ⊢
  have hl := msgA_room h
  have hsz : (msgA (lineR r.s) r.l r.b (!bareB r.s)).size = (msgA (lineR r.s) r.l r.b (!bareB r.s)).data.toList.length := by simp
  rw [hsz, msgA_list hl] at hk
  rw [msgA_list hl]
  obtain ⟨h1, h3, h4, h5⟩ := rsOk_parts hok
  obtain ⟨hw, hcl⟩ := lineR_words h1
  obtain ⟨hs1, hs2⟩ := sta_dec h1
  rw [txt_list] at hs2
  by_cases hk1 : k < (lineR r.s).data.toList.length + 2
  · unfold rdRs
    rw [lnS_part hcl _ hk1]
    exact ⟨by show (1 : Int) ≠ 0; decide, rfl⟩
  · obtain ⟨j, rfl⟩ : ∃ j, k = ((lineR r.s).data.toList ++ [13, 10]).length + j := ⟨k - ((lineR r.s).data.toList ++ [13, 10]).length, by rw [List.length_append]; simp at hk1 ⊢; omega⟩
    rw [List.take_length_add_append]
    have hq : ((lineR r.s).data.toList ++ [13, 10] ++ tailL r.l r.b (!bareB r.s)).length = ((lineR r.s).data.toList ++ [13, 10]).length + (tailL r.l r.b (!bareB r.s)).length := List.length_append
    have hr := rst_cut (bare := bareB r.s) (k := j) h3 h4 hl (tellR h5) (fun x => by rw [x]; rfl) (by rw [hq] at hk; omega)
    unfold rdRs
    rw [lnS_clean _ hcl]
    simp only [hw, hs2, hs1, txt_list, word_tok, and_self, if_true, if_neg hr]
    exact ⟨hr, trivial⟩

/-! ### What is read is right -/
theorem frm_long {l : List Fl} (h : (frm l).1 = 1) : 0 ≤ (frm l).2 ∧ (frm l).2 ≤ 4000 := by
  unfold frm at h ⊢
  split at h
  · rename_i h0
    rw [if_pos h0]
    split at h
    · rename_i h1
      rw [if_pos h1]
      split at h
      · cases h
      · rename_i h2
        rw [if_neg h2]
        split at h
        · rename_i h3
          rw [if_pos h3]
          refine ⟨?_, h3.2⟩
          show 0 ≤ numV 10 15 (getF l clS).1
          rw [num_yes h3.1]
          have hk := h3.1
          unfold numOk at hk
          rw [Bool.and_eq_true] at hk
          have h1 := of_decide_eq_true hk.1
          have e : (getF l clS).1.data.toList.take (getF l clS).1.size = (getF l clS).1.data.toList := List.take_of_length_le (by simp)
          have := numL_bd 10 (by decide) (getF l clS).1 (getF l clS).1.size (Nat.le_refl _) (by rw [e]; exact hk.2)
          rw [e] at this
          exact this.1
        · cases h
    · split at h
      · split at h <;> cases h
      · cases h
  · cases h
theorem woB_ok {l : List Fl} (h : fldsOk l = true) : ownB (woB l) = true := by
  unfold woB
  refine ownB_mk (fldsOk_filter (fldsOk_filter h _) _) (fun f hf => ?_) (fun f hf => wo_mem hf)
  unfold wo at hf
  exact wo_mem (l := l) (List.mem_filter.1 hf).1
theorem un_small (q : List UInt8) : (unF q).bd.size ≤ 4000 := by
  obtain ⟨_, ⟨b1, _⟩, _, e1, _⟩ := ok_fin (ok_ck0 (bd := ⟨#[]⟩) (by show 0 ≤ 4000; omega)) q
  unfold unF
  omega
theorem rdA_rest {t : List UInt8} {l : List Fl} {q : List UInt8} (h : rdA t = some (l, q)) : q.length + 2 ≤ t.length := rdN_rest 31 [] t h
/-- The three ways a rest is read well. -/
theorem rst_right {t : List UInt8} {bare : Bool} (h : (rstA t bare).k = 0) : ownB (rstA t bare).l = true ∧ (rstA t bare).b.size ≤ 4000 ∧ (bare = true → (rstA t bare).b.size = 0) ∧ (rstA t bare).r.length ≤ t.length := by
  unfold rstA at h ⊢
  cases e : rdA t with
  | none => rw [e] at h; exact absurd h (by show ¬ (2 : Int) = 0; decide)
  | some p =>
    obtain ⟨l, q⟩ := p
    rw [e] at h
    have hq := rdA_rest e
    have hok := rdA_ok e
    simp only at h ⊢
    by_cases h3 : (frm l).1 = 3
    · rw [if_pos h3] at h; exact absurd h (by show ¬ (3 : Int) = 0; decide)
    · rw [if_neg h3] at h ⊢
      by_cases h0 : bare = true ∨ (frm l).1 = 0
      · rw [if_pos h0]
        exact ⟨woB_ok hok, Nat.zero_le _, fun _ => rfl, by show q.length ≤ t.length; omega⟩
      · rw [if_neg h0] at h ⊢
        have hbf : bare = true → False := fun x => h0 (.inl x)
        by_cases h1 : (frm l).1 = 1
        · rw [if_pos h1] at h ⊢
          by_cases h2 : (frm l).2 ≤ (q.length : Int)
          · rw [if_pos h2]
            have := frm_long h1
            refine ⟨woB_ok hok, ?_, fun x => (hbf x).elim, ?_⟩
            · show ((q.take (frm l).2.toNat).toArray).size ≤ 4000
              simp
              omega
            · show (q.drop (frm l).2.toNat).length ≤ t.length
              rw [List.length_drop]; omega
          · rw [if_neg h2] at h; exact absurd h (by show ¬ (4 : Int) = 0; decide)
        · rw [if_neg h1] at h ⊢
          by_cases h2 : (unF q).st = 8
          · rw [if_pos h2]
            refine ⟨woB_ok hok, un_small q, fun x => (hbf x).elim, ?_⟩
            show (q.drop (unN q)).length ≤ t.length
            rw [List.length_drop]; omega
          · rw [if_neg h2] at h; exact absurd h (by show ¬ (4 : Int) = 0; decide)
theorem rq_right {t : List UInt8} (h : (rdRq t).1 = 0) : rqOk (rdRq t).2.1 = true ∧ 0 < (rdRq t).2.2 := by
  unfold rdRq at h ⊢
  cases e : lnS t with
  | none => rw [e] at h; exact absurd h (by show ¬ (1 : Int) = 0; decide)
  | some p =>
    obtain ⟨x, r⟩ := p
    rw [e] at h
    have hlen := congrArg List.length (lnC_length (lnS_some e).1)
    simp at hlen
    simp only at h ⊢
    split at h
    · rename_i m g v hw
      by_cases hc : metB (txtL m) = true ∧ tarB (txtL g) = true ∧ txtL v = hvS
      · rw [if_pos hc] at h ⊢
        by_cases hk : (rstA r false).k = 0
        · rw [if_pos hk]
          obtain ⟨a1, a2, _, a4⟩ := rst_right hk
          refine ⟨?_, by show (0 : Int) < (t.length : Int) - ((rstA r false).r.length : Int); omega⟩
          show rqOk ⟨txtL m, txtL g, (rstA r false).l, (rstA r false).b⟩ = true
          unfold rqOk
          simp only
          rw [hc.1, hc.2.1, a1, decide_eq_true a2]
          rfl
        · rw [if_neg hk] at h; exact absurd h hk
      · rw [if_neg hc] at h; exact absurd h (by show ¬ (1 : Int) = 0; decide)
    · exact absurd h (by show ¬ (1 : Int) = 0; decide)
theorem rs_right {t : List UInt8} (h : (rdRs t).1 = 0) : rsOk (rdRs t).2.1 = true := by
  unfold rdRs at h ⊢
  cases e : lnS t with
  | none => rw [e] at h; exact absurd h (by show ¬ (1 : Int) = 0; decide)
  | some p =>
    obtain ⟨x, r⟩ := p
    rw [e] at h
    simp only at h ⊢
    split at h
    · rename_i v g o hw
      by_cases hc : txtL v = hvS ∧ staOk g = true ∧ tokB (txtL o) = true
      · rw [if_pos hc] at h ⊢
        by_cases hk : (rstA r (bareB (numV 10 15 (txtL g)))).k = 0
        · rw [if_pos hk]
          obtain ⟨a1, a2, a3, _⟩ := rst_right hk
          have hs := hc.2.1
          unfold staOk at hs
          rw [Bool.and_eq_true, Bool.and_eq_true] at hs
          show rsOk ⟨numV 10 15 (txtL g), (rstA r (bareB (numV 10 15 (txtL g)))).l, (rstA r (bareB (numV 10 15 (txtL g)))).b⟩ = true
          unfold rsOk
          simp only
          rw [hs.2.2, a1, decide_eq_true a2]
          cases hb : bareB (numV 10 15 (txtL g)) with
          | false => rfl
          | true => rw [hb] at a3; simp [a3 rfl]
        · rw [if_neg hk] at h; exact absurd h hk
      · rw [if_neg hc] at h; exact absurd h (by show ¬ (1 : Int) = 0; decide)
    · exact absurd h (by show ¬ (1 : Int) = 0; decide)
theorem rq_fails {t : List UInt8} (h : (rdRq t).1 ≠ 0) : (rdRq t).2 = (noQ, 0) := by
  unfold rdRq at h ⊢
  split
  · rfl
  · split
    · split
      · split
        · rename_i _ _ _ _ _ _ e1 _ e2 e3 e4
          simp_all
        · rfl
      · rfl
    · rfl
end Go.Proofs.YtmgmphkncgochaaDoor
