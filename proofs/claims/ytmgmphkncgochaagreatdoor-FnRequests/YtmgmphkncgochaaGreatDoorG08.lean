/-
  Plain facts on messages: a message is read from what it is shown as, whatever stands behind it, and of no part of it; what is read is right.
  Plain facts on messages: a response is read from what it is shown as, and of no part of it; what is read is right.
  The specification's words of a line, by their contract.
-/
import Derived.Test.YtmgmphkncgochaaGreatDoorG07
import Derived.Test.YtmgmphkncgochaaGreatDoorG04
namespace Go.Proofs.YtmgmphkncgochaaGreatDoor
open Go.RowKit

/-! ### Words -/
theorem wrdL_cons (c : UInt8) (r : List UInt8) : wrdL (c :: r) = if c = 32 then [] :: wrdL r else match wrdL r with
    | x :: xs => (c :: x) :: xs
    | [] => [[c]] := rfl
theorem wrdL_one : ∀ {x : List UInt8}, (∀ c ∈ x, c ≠ 32) → wrdL x = [x]
  | [], _ => rfl
  | c :: r, h => by
    have h1 := h c (by simp)
    have ih := wrdL_one (x := r) fun d hd => h d (by simp [hd])
    rw [wrdL_cons, if_neg h1, ih]
theorem wrdL_app : ∀ {x : List UInt8} (y : List UInt8), (∀ c ∈ x, c ≠ 32) → wrdL (x ++ 32 :: y) = x :: wrdL y
  | [], y, _ => by simp [wrdL]
  | c :: r, y, h => by
    have h1 := h c (by simp)
    have ih := wrdL_app (x := r) y fun d hd => h d (by simp [hd])
    show wrdL (c :: (r ++ 32 :: y)) = _
    rw [wrdL_cons, if_neg h1, ih]
theorem wrdL_three {a b c : List UInt8} (ha : ∀ x ∈ a, x ≠ 32) (hb : ∀ x ∈ b, x ≠ 32) (hc : ∀ x ∈ c, x ≠ 32) : wrdL (a ++ 32 :: (b ++ 32 :: c)) = [a, b, c] := by
  rw [wrdL_app _ ha, wrdL_app _ hb, wrdL_one hc]

/-! ### Lines -/
theorem lnS_clean : ∀ {x : List UInt8} (r : List UInt8), clean x → lnS (x ++ [13, 10] ++ r) = some (x, r)
  | [], r, _ => by simp [lnS]
  | c :: t, r, h => by
    have h1 := h c (by simp)
    have ih := lnS_clean (x := t) r (fun b hb => h b (by simp [hb]))
    show lnS (c :: (t ++ [13, 10] ++ r)) = _
    rw [lnS_more h1.1 h1.2, ih]
    rfl
theorem lnS_open : ∀ {x : List UInt8}, clean x → lnS x = none
  | [], _ => rfl
  | c :: t, h => by
    have h1 := h c (by simp)
    rw [lnS_more h1.1 h1.2, lnS_open (x := t) (fun b hb => h b (by simp [hb]))]
    rfl
theorem lnS_open1 : ∀ {x : List UInt8}, clean x → lnS (x ++ [13]) = none
  | [], _ => rfl
  | c :: t, h => by
    have h1 := h c (by simp)
    show lnS (c :: (t ++ [13])) = _
    rw [lnS_more h1.1 h1.2, lnS_open1 (x := t) (fun b hb => h b (by simp [hb]))]
    rfl
theorem clean_take {x : List UInt8} (h : clean x) (k : Nat) : clean (x.take k) := fun c hc => h c (List.mem_of_mem_take hc)
/-- A part of a line and its end has no end. -/
theorem lnS_part {x : List UInt8} (h : clean x) (r : List UInt8) {k : Nat} (hk : k < x.length + 2) : lnS ((x ++ [13, 10] ++ r).take k) = none := by
  by_cases h1 : k ≤ x.length
  · rw [List.append_assoc, List.take_append_of_le_length h1]
    exact lnS_open (clean_take h k)
  · obtain rfl : k = x.length + 1 := by omega
    have e : (x ++ [13, 10] ++ r).take (x.length + 1) = x ++ [13] := by
      rw [List.append_assoc, List.take_append]
      simp
      exact List.take_of_length_le (by omega)
    rw [e]
    exact lnS_open1 h
theorem lnC_part {x : List UInt8} (h : clean x) (r : List UInt8) {k : Nat} (hk : k < x.length + 2) : lnC ((x ++ [13, 10] ++ r).take k) = none := by
  by_cases h1 : k ≤ x.length
  · rw [List.append_assoc, List.take_append_of_le_length h1]
    exact lnC_open (clean_take h k)
  · obtain rfl : k = x.length + 1 := by omega
    have e : (x ++ [13, 10] ++ r).take (x.length + 1) = x ++ [13] := by
      rw [List.append_assoc, List.take_append]
      simp
      exact List.take_of_length_le (by omega)
    rw [e]
    clear hk h1 e
    induction x with
    | nil => rfl
    | cons c t ih =>
      have h1 := h c (by simp)
      have ih' := ih fun b hb => h b (by simp [hb])
      cases t with
      | nil =>
        show lnC [c, 13] = none
        simp [lnC]
      | cons d t =>
        show lnC (c :: d :: (t ++ [13])) = none
        unfold lnC
        rw [if_neg (fun e => h1.1 e.1)]
        have e : lnC (d :: (t ++ [13])) = none := ih'
        rw [e]
        rfl
/-- A part of shown fields and their end is not read. -/
theorem rd_cut : ∀ (l : List Fl) (n : Nat) (out : List Fl) (t : List UInt8) (k : Nat), (∀ f ∈ l, fldOk f = true) → out.length + l.length ≤ 30 → n + out.length = 31 → k < (showL l).length + 2 → rdN n out ((showL l ++ [13, 10] ++ t).take k) = none
  | [], n, out, t, k, _, h2, h3, hk => by
    obtain ⟨n, rfl⟩ : ∃ m, n = m + 1 := ⟨n - 1, by simp at h2; omega⟩
    refine rdN_none ?_
    exact lnC_part (x := []) (fun _ h => by cases h) t hk
  | f :: l, n, out, t, k, h1, h2, h3, hk => by
    obtain ⟨n, rfl⟩ : ∃ m, n = m + 1 := ⟨n - 1, by simp at h2; omega⟩
    have hf := h1 f (by simp)
    have hcl := lineF_clean hf
    have e : showL (f :: l) = lineF f ++ [13, 10] ++ showL l := by simp [showL, showF_line]
    rw [List.length_cons] at h2
    have e2 : showL (f :: l) ++ [13, 10] ++ t = lineF f ++ [13, 10] ++ (showL l ++ [13, 10] ++ t) := by rw [e]; simp
    rw [e2]
    by_cases hk1 : k < (lineF f).length + 2
    · exact rdN_none (lnC_part hcl _ hk1)
    · obtain ⟨j, rfl⟩ : ∃ j, k = (lineF f ++ [13, 10]).length + j := ⟨k - (lineF f ++ [13, 10]).length, by rw [List.length_append]; simp; omega⟩
      rw [List.take_length_add_append, rdN_more (lnC_clean _ hcl) (lineF_ne f) (lineF_read hf) (by omega)]
      refine rd_cut l n (out ++ [f]) t j (fun g hg => h1 g (by simp [hg])) (by rw [List.length_append, List.length_singleton]; omega) (by rw [List.length_append, List.length_singleton]; omega) ?_
      have hq : (lineF f ++ [13, 10] ++ showL l).length = (lineF f ++ [13, 10]).length + (showL l).length := List.length_append
      rw [e, hq] at hk
      omega
theorem rdA_cut {l : List Fl} (h : fldsOk l = true) (t : List UInt8) {k : Nat} (hk : k < (showL l).length + 2) : rdA ((showL l ++ [13, 10] ++ t).take k) = none := by
  obtain ⟨h1, h2⟩ := fldsOk_parts h
  exact rd_cut l 31 [] t k h2 (by simpa using h1) rfl hk

/-! ### Fields of a message -/
theorem getF_snoc (l : List Fl) (f : Fl) (n : ByteArray) : getF (l ++ [f]) n = gStep n (getF l n) f := by unfold getF; rw [List.foldl_append]; rfl
theorem gStep_stays {n : ByteArray} {p : ByteArray × Bool} {f : Fl} (h : p.2 = true) : (gStep n p f).2 = true := by
  unfold gStep; split
  · rfl
  · exact h
theorem getF_lost : ∀ {l : List Fl} {n : ByteArray}, (getF l n).2 = false → ∀ f ∈ l, ¬ lowS f.1 = lowS n := by
  intro l n h
  have key : ∀ (l : List Fl) (p : ByteArray × Bool), (l.foldl (gStep n) p).2 = false → p.2 = false ∧ ∀ f ∈ l, ¬ lowS f.1 = lowS n := by
    intro l
    induction l with
    | nil => intro p hp; exact ⟨hp, fun _ h => by cases h⟩
    | cons f l ih =>
      intro p hp
      obtain ⟨h1, h2⟩ := ih (gStep n p f) hp
      have hn : ¬ lowS f.1 = lowS n := fun e => by
        unfold gStep at h1
        rw [if_pos e] at h1
        cases h1
      rw [gStep_no hn] at h1
      exact ⟨h1, fun g hg => by rcases List.mem_cons.1 hg with rfl | hg; exact hn; exact h2 g hg⟩
  exact (key l _ h).2
theorem getF_gone {l : List Fl} {n : ByteArray} (h : ∀ f ∈ l, ¬ lowS f.1 = lowS n) : getF l n = (⟨#[]⟩, false) := getF_none h _
theorem cl_te : ¬ lowS clS = lowS teS := by decide +kernel
theorem te_cl : ¬ lowS teS = lowS clS := by decide +kernel
theorem ownB_parts {l : List Fl} (h : ownB l = true) : fldsOk l = true ∧ (∀ f ∈ l, ¬ lowS f.1 = lowS clS) ∧ ∀ f ∈ l, ¬ lowS f.1 = lowS teS := by
  unfold ownB at h
  rw [Bool.and_eq_true, Bool.and_eq_true] at h
  exact ⟨h.1, getF_lost (by simpa using h.2.1), getF_lost (by simpa using h.2.2)⟩
theorem ownB_mk {l : List Fl} (h : fldsOk l = true) (h1 : ∀ f ∈ l, ¬ lowS f.1 = lowS clS) (h2 : ∀ f ∈ l, ¬ lowS f.1 = lowS teS) : ownB l = true := by
  unfold ownB
  rw [h, getF_gone h1, getF_gone h2]
  rfl
theorem frm_none {l : List Fl} (h : ownB l = true) : frm l = (0, 0) := by
  obtain ⟨h0, h1, h2⟩ := ownB_parts h
  unfold frm
  rw [if_pos h0, getF_gone h1, getF_gone h2]
  simp
theorem tok_cl : tokB clS = true := by decide +kernel
theorem dec_vis {n : Nat} (hn : n ≤ 100000000) : visB (decS n) = true := by
  have hz := decS_size n
  have hb := dec_bytes hn
  unfold visB
  rw [decide_eq_true (by omega)]
  unfold allB
  rw [Bool.true_and, List.all_eq_true]
  intro c hc
  have := hb c hc
  exact visN_yes (.inl (by omega))
theorem ltr_id : ∀ {l : List UInt8}, (∀ c ∈ l, blank c = false) → ltr l = l
  | [], _ => rfl
  | c :: l, h => ltr_no l (h c (by simp))
theorem rtr_id {l : List UInt8} (h : ∀ c ∈ l, blank c = false) : rtr l = l := by
  have := ltr_id (l := l.reverse) fun c hc => h c (by simpa using hc)
  unfold ltr at this
  unfold rtr
  rw [this, List.reverse_reverse]
theorem trim_id {s : ByteArray} (h : ∀ c ∈ s.data.toList, blank c = false) : trimB s = s := by
  unfold trimB
  rw [ltr_id h, rtr_id h]
theorem dec_blank {c : UInt8} (h : 48 ≤ c.toNat) : blank c = false := by
  cases e : blank c with
  | false => rfl
  | true =>
    unfold blank at e
    simp at e
    rcases e with rfl | rfl <;> simp at h
theorem dec_fld {n : Nat} (hn : n ≤ 100000000) : fldOk (clS, decS n) = true := by
  unfold fldOk
  rw [tok_cl, dec_vis hn, decide_eq_true (trim_id fun c hc => dec_blank (dec_bytes hn c hc).1)]
  rfl
theorem fldsOk_snoc {l : List Fl} {f : Fl} (h : fldsOk l = true) (hf : fldOk f = true) (hl : (l ++ [f]).length ≤ 30) : fldsOk (l ++ [f]) = true := by
  refine fldsOk_mk hl fun g hg => ?_
  rcases List.mem_append.1 hg with hg | hg
  · exact (fldsOk_parts h).2 g hg
  · simp at hg; subst hg; exact hf
theorem frm_tell {l : List Fl} {n : Nat} (h : ownB l = true) (hl : (l ++ [(clS, decS n)]).length ≤ 30) (hn : n ≤ 4000) : frm (l ++ [(clS, decS n)]) = (1, (n : Int)) := by
  obtain ⟨h0, h1, h2⟩ := ownB_parts h
  have hd := dec_back (n := n) (by omega)
  have e1 : getF (l ++ [(clS, decS n)]) clS = (decS n, true) := by
    rw [getF_snoc, getF_gone h1, gStep_first (f := (clS, decS n)) rfl]
    exact congrArg (·, true) (ba_ext (by rw [add_list]; simp))
  have e2 : getF (l ++ [(clS, decS n)]) teS = (⟨#[]⟩, false) := by rw [getF_snoc, getF_gone h2, gStep_no cl_te]
  unfold frm
  rw [if_pos (fldsOk_snoc h0 (dec_fld (by omega)) hl), e1, e2]
  simp [hd.1, hd.2]
  omega
theorem keep_all {l : List Fl} {n : ByteArray} (h : ∀ f ∈ l, ¬ lowS f.1 = lowS n) : wo l n = l := by
  unfold wo
  exact List.filter_eq_self.2 fun f hf => keepB_yes (h f hf)
theorem woB_own {l : List Fl} (h : ownB l = true) : woB l = l := by
  obtain ⟨_, h1, h2⟩ := ownB_parts h
  unfold woB
  rw [keep_all h1, keep_all h2]
theorem woB_tell {l : List Fl} {x : ByteArray} (h : ownB l = true) : woB (l ++ [(clS, x)]) = l := by
  obtain ⟨_, h1, h2⟩ := ownB_parts h
  unfold woB
  have e : wo (l ++ [(clS, x)]) clS = l := by
    unfold wo
    rw [List.filter_append, List.filter_cons_of_neg (by rw [keepB_no (f := (clS, x)) rfl]; simp)]
    have := keep_all h1
    unfold wo at this
    rw [this]
    simp
  rw [e, keep_all h2]
/-- What is behind a first line. -/
def tailL (l : List Fl) (b : ByteArray) (tell : Bool) : List UInt8 := showL (addL l b tell) ++ [13, 10] ++ b.data.toList
theorem addL_ok {l : List Fl} {b : ByteArray} {tell : Bool} (h : ownB l = true) (hb : b.size ≤ 4000) (hl : (addL l b tell).length ≤ 30) : fldsOk (addL l b tell) = true := by
  cases tell with
  | false => exact (ownB_parts h).1
  | true => exact fldsOk_snoc (ownB_parts h).1 (dec_fld (by omega)) hl
theorem void_list {b : ByteArray} (h : b.size = 0) : b.data.toList = [] := by
  apply List.eq_nil_of_length_eq_zero
  have : b.data.toList.length = b.size := by simp
  omega
theorem void_is {b : ByteArray} (h : b.size = 0) : (⟨#[]⟩ : ByteArray) = b := ba_ext (by rw [void_list h])
theorem rst_show {l : List Fl} {b : ByteArray} {tell bare : Bool} (t : List UInt8) (h : ownB l = true) (hb : b.size ≤ 4000) (hl : (addL l b tell).length ≤ 30) (ht : tell = false → b.size = 0) (hbr : bare = true → tell = false) : rstA (tailL l b tell ++ t) bare = ⟨0, l, b, t⟩ := by
  have e : rdA (tailL l b tell ++ t) = some (addL l b tell, b.data.toList ++ t) := by
    unfold tailL
    rw [List.append_assoc]
    exact rdA_show (addL_ok h hb hl) _
  unfold rstA
  rw [e]
  cases tell with
  | false =>
    have e1 : addL l b false = l := rfl
    have h0 := ht rfl
    simp only [e1, frm_none h]
    rw [if_neg (by decide), if_pos (.inr trivial), woB_own h, void_list h0, void_is h0]
    rfl
  | true =>
    have e1 : addL l b true = l ++ [(clS, decS b.size)] := rfl
    rw [e1] at hl ⊢
    have hbf : bare = false := by cases bare with
      | false => rfl
      | true => have := hbr rfl; cases this
    have hz : b.data.toList.length = b.size := by simp
    simp only [frm_tell h hl hb, woB_tell h, hbf]
    rw [if_neg (by decide), if_neg (by simp), if_pos trivial, if_pos (by rw [List.length_append, hz]; omega), Int.toNat_natCast, ← hz, List.take_left, List.drop_left]
theorem rst_cut {l : List Fl} {b : ByteArray} {tell bare : Bool} {k : Nat} (h : ownB l = true) (hb : b.size ≤ 4000) (hl : (addL l b tell).length ≤ 30) (ht : tell = false → b.size = 0) (hbr : bare = true → tell = false) (hk : k < (tailL l b tell).length) : (rstA ((tailL l b tell).take k) bare).k ≠ 0 := by
  have hz : b.data.toList.length = b.size := by simp
  have hlen : (tailL l b tell).length = (showL (addL l b tell)).length + 2 + b.size := by unfold tailL; rw [List.length_append, List.length_append, hz]; rfl
  by_cases hk1 : k < (showL (addL l b tell)).length + 2
  · have e : rdA ((tailL l b tell).take k) = none := rdA_cut (addL_ok h hb hl) _ hk1
    unfold rstA
    rw [e]
    show (2 : Int) ≠ 0
    decide
  · cases tell with
    | false => have := ht rfl; omega
    | true =>
      have e1 : addL l b true = l ++ [(clS, decS b.size)] := rfl
      have hbf : bare = false := by cases bare with
        | false => rfl
        | true => have := hbr rfl; cases this
      obtain ⟨j, rfl⟩ : ∃ j, k = (showL (addL l b true) ++ [13, 10]).length + j := ⟨k - (showL (addL l b true) ++ [13, 10]).length, by rw [List.length_append]; simp; omega⟩
      have e : rdA ((tailL l b true).take ((showL (addL l b true) ++ [13, 10]).length + j)) = some (addL l b true, b.data.toList.take j) := by
        unfold tailL
        rw [List.take_length_add_append]
        exact rdA_show (addL_ok h hb hl) _
      unfold rstA
      rw [e]
      have hj : j < b.size := by rw [List.length_append] at hk; simp at hk; omega
      have hj2 : (b.data.toList.take j).length = j := by rw [List.length_take]; omega
      rw [e1] at hl
      simp only [e1, frm_tell h hl hb, hbf]
      rw [if_neg (by decide), if_neg (by simp), if_pos trivial, if_neg (by rw [hj2]; omega)]
      show (4 : Int) ≠ 0
      decide

/-! ### First lines -/
theorem cap_bytes {s : ByteArray} (h : metB s = true) {c : UInt8} (hc : c ∈ s.data.toList) : c ≠ 13 ∧ c ≠ 10 ∧ c ≠ 32 := by
  unfold metB at h
  rw [Bool.and_eq_true] at h
  have := of_decide_eq_true (allB_at h.1 hc)
  refine ⟨?_, ?_, ?_⟩ <;> (rintro rfl; simp at this)
theorem tar_bytes {s : ByteArray} (h : tarB s = true) {c : UInt8} (hc : c ∈ s.data.toList) : c ≠ 13 ∧ c ≠ 10 ∧ c ≠ 32 := by
  unfold tarB at h
  rw [Bool.and_eq_true] at h
  have := of_decide_eq_true (allB_at h.2 hc)
  refine ⟨?_, ?_, ?_⟩ <;> (rintro rfl; simp at this)
theorem hv_bytes : ∀ c ∈ hvS.data.toList, c ≠ 13 ∧ c ≠ 10 ∧ c ≠ 32 := by decide
theorem word_bytes (s : Int) : ∀ c ∈ (wordS s).data.toList, c ≠ 13 ∧ c ≠ 10 ∧ c ≠ 32 := by
  unfold wordS
  split <;> decide
theorem dec_sep {n : Nat} (hn : n ≤ 100000000) : ∀ c ∈ (decS n).data.toList, c ≠ 13 ∧ c ≠ 10 ∧ c ≠ 32 := by
  intro c hc
  have := (dec_bytes hn c hc).1
  refine ⟨?_, ?_, ?_⟩ <;> (rintro rfl; simp at this)
theorem rqOk_parts {r : Rq} (h : rqOk r = true) : metB r.m = true ∧ tarB r.t = true ∧ ownB r.l = true ∧ r.b.size ≤ 4000 := by
  unfold rqOk at h
  rw [Bool.and_eq_true, Bool.and_eq_true, Bool.and_eq_true] at h
  exact ⟨h.1, h.2.1, h.2.2.1, of_decide_eq_true h.2.2.2⟩
theorem rsOk_parts {r : Rs} (h : rsOk r = true) : (200 ≤ r.s ∧ r.s ≤ 599) ∧ ownB r.l = true ∧ r.b.size ≤ 4000 ∧ (bareB r.s = true → r.b.size = 0) := by
  unfold rsOk at h
  rw [Bool.and_eq_true, Bool.and_eq_true, Bool.and_eq_true] at h
  refine ⟨of_decide_eq_true h.1, h.2.1, of_decide_eq_true h.2.2.1, fun hb => ?_⟩
  have := h.2.2.2
  rw [hb] at this
  simpa using this
theorem lineQ_list (r : Rq) : (lineQ r).data.toList = r.m.data.toList ++ 32 :: (r.t.data.toList ++ 32 :: hvS.data.toList) := by
  unfold lineQ; rw [add_list, add_list, add_list]; simp [hvS]
theorem lineR_list (s : Int) : (lineR s).data.toList = hvS.data.toList ++ 32 :: ((decS s.toNat).data.toList ++ 32 :: (wordS s).data.toList) := by
  unfold lineR; rw [add_list, add_list, add_list]; simp [hvS]
theorem lineQ_words {r : Rq} (h : rqOk r = true) : wrdL (lineQ r).data.toList = [r.m.data.toList, r.t.data.toList, hvS.data.toList] ∧ clean (lineQ r).data.toList := by
  obtain ⟨h1, h2, _, _⟩ := rqOk_parts h
  rw [lineQ_list]
  refine ⟨wrdL_three (fun c hc => (cap_bytes h1 hc).2.2) (fun c hc => (tar_bytes h2 hc).2.2) (fun c hc => (hv_bytes c hc).2.2), fun c hc => ?_⟩
  simp only [List.mem_append, List.mem_cons] at hc
  rcases hc with hc | rfl | hc | rfl | hc
  · exact ⟨(cap_bytes h1 hc).1, (cap_bytes h1 hc).2.1⟩
  · decide
  · exact ⟨(tar_bytes h2 hc).1, (tar_bytes h2 hc).2.1⟩
  · decide
  · exact ⟨(hv_bytes c hc).1, (hv_bytes c hc).2.1⟩
theorem lineR_words {s : Int} (h : 200 ≤ s ∧ s ≤ 599) : wrdL (lineR s).data.toList = [hvS.data.toList, (decS s.toNat).data.toList, (wordS s).data.toList] ∧ clean (lineR s).data.toList := by
  have hn : s.toNat ≤ 100000000 := by omega
  rw [lineR_list]
  refine ⟨wrdL_three (fun c hc => (hv_bytes c hc).2.2) (fun c hc => (dec_sep hn c hc).2.2) (fun c hc => (word_bytes s c hc).2.2), fun c hc => ?_⟩
  simp only [List.mem_append, List.mem_cons] at hc
  rcases hc with hc | rfl | hc | rfl | hc
  · exact ⟨(hv_bytes c hc).1, (hv_bytes c hc).2.1⟩
  · decide
  · exact ⟨(dec_sep hn c hc).1, (dec_sep hn c hc).2.1⟩
  · decide
  · exact ⟨(word_bytes s c hc).1, (word_bytes s c hc).2.1⟩
theorem txt_list (s : ByteArray) : txtL s.data.toList = s := by cases s; simp [txtL]
theorem msg_tail (first : List UInt8) (l : List Fl) (b : ByteArray) (tell : Bool) : msgL first (addL l b tell) b = first ++ [13, 10] ++ tailL l b tell := by unfold msgL tailL; simp
theorem msgA_list {first : ByteArray} {l : List Fl} {b : ByteArray} {tell : Bool} (h : (addL l b tell).length ≤ 30) : (msgA first l b tell).data.toList = first.data.toList ++ [13, 10] ++ tailL l b tell := by
  unfold msgA; rw [if_pos h, ← msg_tail]
theorem msgA_room {first : ByteArray} {l : List Fl} {b : ByteArray} {tell : Bool} (h : 0 < (msgA first l b tell).size) : (addL l b tell).length ≤ 30 := by
  by_cases h1 : (addL l b tell).length ≤ 30
  · exact h1
  · unfold msgA at h; rw [if_neg h1] at h; exact absurd h (by decide)
theorem tellQ {b : ByteArray} (h : decide (b.size ≠ 0) = false) : b.size = 0 := by simpa using h

/-- A request is read from what it is shown as, whatever stands behind it. -/
theorem rq_back {r : Rq} (h : 0 < (shRq r).size) (t : List UInt8) : rdRq ((shRq r).data.toList ++ t) = (0, r, ((shRq r).size : Int)) ∧ rqOk r = true := by
  have hok : rqOk r = true := by
    cases e : rqOk r with
    | true => rfl
    | false => unfold shRq at h; rw [e, if_neg (by decide)] at h; exact absurd h (by decide)
  have e : shRq r = msgA (lineQ r) r.l r.b (decide (r.b.size ≠ 0)) := by unfold shRq; rw [if_pos hok]
  rw [e] at h ⊢
  have hl := msgA_room h
  have hsz : ((msgA (lineQ r) r.l r.b (decide (r.b.size ≠ 0))).size : Int) = ((msgA (lineQ r) r.l r.b (decide (r.b.size ≠ 0))).data.toList.length : Int) := by simp
  rw [hsz, msgA_list hl]
  obtain ⟨h1, h2, h3, h4⟩ := rqOk_parts hok
  obtain ⟨hw, hcl⟩ := lineQ_words hok
  have hr := rst_show (bare := false) t h3 h4 hl tellQ (fun x => by cases x)
  refine ⟨?_, hok⟩
  unfold rdRq
  rw [List.append_assoc, lnS_clean _ hcl]
  simp only [hw, hr, txt_list, h1, h2, and_self, if_true, List.length_append]
  simp
  omega
theorem rq_cut {r : Rq} (h : 0 < (shRq r).size) {k : Nat} (hk : k < (shRq r).size) : (rdRq ((shRq r).data.toList.take k)).1 ≠ 0 ∧ (rdRq ((shRq r).data.toList.take k)).2.2 = 0 := by
  have hok : rqOk r = true := (rq_back h []).2
  have e : shRq r = msgA (lineQ r) r.l r.b (decide (r.b.size ≠ 0)) := by unfold shRq; rw [if_pos hok]
  rw [e] at h hk ⊢
  have hl := msgA_room h
  have hsz : (msgA (lineQ r) r.l r.b (decide (r.b.size ≠ 0))).size = (msgA (lineQ r) r.l r.b (decide (r.b.size ≠ 0))).data.toList.length := by simp
  rw [hsz, msgA_list hl] at hk
  rw [msgA_list hl]
  obtain ⟨h1, h2, h3, h4⟩ := rqOk_parts hok
  obtain ⟨hw, hcl⟩ := lineQ_words hok
  by_cases hk1 : k < (lineQ r).data.toList.length + 2
  · unfold rdRq
    rw [lnS_part hcl _ hk1]
    exact ⟨by show (1 : Int) ≠ 0; decide, rfl⟩
  · obtain ⟨j, rfl⟩ : ∃ j, k = ((lineQ r).data.toList ++ [13, 10]).length + j := ⟨k - ((lineQ r).data.toList ++ [13, 10]).length, by rw [List.length_append]; simp at hk1 ⊢; omega⟩
    rw [List.take_length_add_append]
    have hq : ((lineQ r).data.toList ++ [13, 10] ++ tailL r.l r.b (decide (r.b.size ≠ 0))).length = ((lineQ r).data.toList ++ [13, 10]).length + (tailL r.l r.b (decide (r.b.size ≠ 0))).length := List.length_append
    have hr := rst_cut (bare := false) (k := j) h3 h4 hl tellQ (fun x => by cases x) (by rw [hq] at hk; omega)
    unfold rdRq
    rw [lnS_clean _ hcl]
    simp only [hw, txt_list, h1, h2, and_self, if_true, if_neg hr]
    exact ⟨hr, trivial⟩
end Go.Proofs.YtmgmphkncgochaaGreatDoor
namespace Go.Proofs.YtmgmphkncgochaaGreatDoor
open Go.RowKit

theorem dec_three {n : Nat} (h : 100 ≤ n) (h2 : n ≤ 999) : (decS n).data.toList.length = 3 := by
  rw [decS_list, numF_step 7 n (by omega), numF_step 6 (n / 10) (by omega), numF_small 6 (n / 10 / 10) (by omega)]
  simp
theorem sta_dec {s : Int} (h : 200 ≤ s ∧ s ≤ 599) : staOk (decS s.toNat).data.toList = true ∧ numV 10 15 (txtL (decS s.toNat).data.toList) = s := by
  have hd := dec_back (n := s.toNat) (by omega)
  have hs : ((s.toNat : Nat) : Int) = s := Int.toNat_of_nonneg (by omega)
  rw [txt_list]
  refine ⟨?_, by rw [hd.2, hs]⟩
  unfold staOk
  rw [txt_list, dec_three (by omega) (by omega), hd.1, hd.2, hs]
  simp [h.1, h.2]
theorem word_tok (s : Int) : tokB (wordS s) = true := by
  unfold wordS
  split <;> decide +kernel
theorem tellR {s : Int} {b : ByteArray} (h : bareB s = true → b.size = 0) (hb : (!bareB s) = false) : b.size = 0 := h (by simpa using hb)
/-- A response is read from what it is shown as, whatever stands behind it. -/
theorem rs_back {r : Rs} (h : 0 < (shRs r).size) (t : List UInt8) : rdRs ((shRs r).data.toList ++ t) = (0, r, ((shRs r).size : Int)) ∧ rsOk r = true := by
  have hok : rsOk r = true := by
    cases e : rsOk r with
    | true => rfl
    | false => unfold shRs at h; rw [e, if_neg (by decide)] at h; exact absurd h (by decide)
  have e : shRs r = msgA (lineR r.s) r.l r.b (!bareB r.s) := by unfold shRs; rw [if_pos hok]
  rw [e] at h ⊢
  have hl := msgA_room h
  have hsz : ((msgA (lineR r.s) r.l r.b (!bareB r.s)).size : Int) = ((msgA (lineR r.s) r.l r.b (!bareB r.s)).data.toList.length : Int) := by simp
  rw [hsz, msgA_list hl]
  obtain ⟨h1, h3, h4, h5⟩ := rsOk_parts hok
  obtain ⟨hw, hcl⟩ := lineR_words h1
  obtain ⟨hs1, hs2⟩ := sta_dec h1
  rw [txt_list] at hs2
  have hr := rst_show (bare := bareB r.s) t h3 h4 hl (tellR h5) (fun x => by rw [x]; rfl)
  refine ⟨?_, hok⟩
  unfold rdRs
  rw [List.append_assoc, lnS_clean _ hcl]
  simp only [hw, hs2, hr, hs1, txt_list, word_tok, and_self, if_true, List.length_append]
  simp
  omega
theorem rs_cut {r : Rs} (h : 0 < (shRs r).size) {k : Nat} (hk : k < (shRs r).size) : (rdRs ((shRs r).data.toList.take k)).1 ≠ 0 ∧ (rdRs ((shRs r).data.toList.take k)).2.2 = 0 := by
  have hok : rsOk r = true := (rs_back h []).2
  have e : shRs r = msgA (lineR r.s) r.l r.b (!bareB r.s) := by unfold shRs; rw [if_pos hok]
  rw [e] at h hk ⊢
  have hl := msgA_room h
  have hsz : (msgA (lineR r.s) r.l r.b (!bareB r.s)).size = (msgA (lineR r.s) r.l r.b (!bareB r.s)).data.toList.length := by simp
  rw [hsz, msgA_list hl] at hk
  rw [msgA_list hl]
  obtain ⟨h1, h3, h4, h5⟩ := rsOk_parts hok
  obtain ⟨hw, hcl⟩ := lineR_words h1
  obtain ⟨hs1, hs2⟩ := sta_dec h1
  rw [txt_list] at hs2
  by_cases hk1 : k < (lineR r.s).data.toList.length + 2
  · unfold rdRs
    rw [lnS_part hcl _ hk1]
    exact ⟨by show (1 : Int) ≠ 0; decide, rfl⟩
  · obtain ⟨j, rfl⟩ : ∃ j, k = ((lineR r.s).data.toList ++ [13, 10]).length + j := ⟨k - ((lineR r.s).data.toList ++ [13, 10]).length, by rw [List.length_append]; simp at hk1 ⊢; omega⟩
    rw [List.take_length_add_append]
    have hq : ((lineR r.s).data.toList ++ [13, 10] ++ tailL r.l r.b (!bareB r.s)).length = ((lineR r.s).data.toList ++ [13, 10]).length + (tailL r.l r.b (!bareB r.s)).length := List.length_append
    have hr := rst_cut (bare := bareB r.s) (k := j) h3 h4 hl (tellR h5) (fun x => by rw [x]; rfl) (by rw [hq] at hk; omega)
    unfold rdRs
    rw [lnS_clean _ hcl]
    simp only [hw, hs2, hs1, txt_list, word_tok, and_self, if_true, if_neg hr]
    exact ⟨hr, trivial⟩

/-! ### What is read is right -/
theorem frm_long {l : List Fl} (h : (frm l).1 = 1) : 0 ≤ (frm l).2 ∧ (frm l).2 ≤ 4000 := by
  unfold frm at h ⊢
  split at h
  · rename_i h0
    rw [if_pos h0]
    split at h
    · rename_i h1
      rw [if_pos h1]
      split at h
      · cases h
      · rename_i h2
        rw [if_neg h2]
        split at h
        · rename_i h3
          rw [if_pos h3]
          refine ⟨?_, h3.2⟩
          show 0 ≤ numV 10 15 (getF l clS).1
          rw [num_yes h3.1]
          have hk := h3.1
          unfold numOk at hk
          rw [Bool.and_eq_true] at hk
          have h1 := of_decide_eq_true hk.1
          have e : (getF l clS).1.data.toList.take (getF l clS).1.size = (getF l clS).1.data.toList := List.take_of_length_le (by simp)
          have := numL_bd 10 (by decide) (getF l clS).1 (getF l clS).1.size (Nat.le_refl _) (by rw [e]; exact hk.2)
          rw [e] at this
          exact this.1
        · cases h
    · split at h
      · split at h <;> cases h
      · cases h
  · cases h
theorem woB_ok {l : List Fl} (h : fldsOk l = true) : ownB (woB l) = true := by
  unfold woB
  refine ownB_mk (fldsOk_filter (fldsOk_filter h _) _) (fun f hf => ?_) (fun f hf => wo_mem hf)
  unfold wo at hf
  exact wo_mem (l := l) (List.mem_filter.1 hf).1
theorem un_small (q : List UInt8) : (unF q).bd.size ≤ 4000 := by
  obtain ⟨_, ⟨b1, _⟩, _, e1, _⟩ := ok_fin (ok_ck0 (bd := ⟨#[]⟩) (by show 0 ≤ 4000; omega)) q
  unfold unF
  omega
theorem rdA_rest {t : List UInt8} {l : List Fl} {q : List UInt8} (h : rdA t = some (l, q)) : q.length + 2 ≤ t.length := rdN_rest 31 [] t h
/-- The three ways a rest is read well. -/
theorem rst_right {t : List UInt8} {bare : Bool} (h : (rstA t bare).k = 0) : ownB (rstA t bare).l = true ∧ (rstA t bare).b.size ≤ 4000 ∧ (bare = true → (rstA t bare).b.size = 0) ∧ (rstA t bare).r.length ≤ t.length := by
  unfold rstA at h ⊢
  cases e : rdA t with
  | none => rw [e] at h; exact absurd h (by show ¬ (2 : Int) = 0; decide)
  | some p =>
    obtain ⟨l, q⟩ := p
    rw [e] at h
    have hq := rdA_rest e
    have hok := rdA_ok e
    simp only at h ⊢
    by_cases h3 : (frm l).1 = 3
    · rw [if_pos h3] at h; exact absurd h (by show ¬ (3 : Int) = 0; decide)
    · rw [if_neg h3] at h ⊢
      by_cases h0 : bare = true ∨ (frm l).1 = 0
      · rw [if_pos h0]
        exact ⟨woB_ok hok, Nat.zero_le _, fun _ => rfl, by show q.length ≤ t.length; omega⟩
      · rw [if_neg h0] at h ⊢
        have hbf : bare = true → False := fun x => h0 (.inl x)
        by_cases h1 : (frm l).1 = 1
        · rw [if_pos h1] at h ⊢
          by_cases h2 : (frm l).2 ≤ (q.length : Int)
          · rw [if_pos h2]
            have := frm_long h1
            refine ⟨woB_ok hok, ?_, fun x => (hbf x).elim, ?_⟩
            · show ((q.take (frm l).2.toNat).toArray).size ≤ 4000
              simp
              omega
            · show (q.drop (frm l).2.toNat).length ≤ t.length
              rw [List.length_drop]; omega
          · rw [if_neg h2] at h; exact absurd h (by show ¬ (4 : Int) = 0; decide)
        · rw [if_neg h1] at h ⊢
          by_cases h2 : (unF q).st = 8
          · rw [if_pos h2]
            refine ⟨woB_ok hok, un_small q, fun x => (hbf x).elim, ?_⟩
            show (q.drop (unN q)).length ≤ t.length
            rw [List.length_drop]; omega
          · rw [if_neg h2] at h; exact absurd h (by show ¬ (4 : Int) = 0; decide)
theorem rq_right {t : List UInt8} (h : (rdRq t).1 = 0) : rqOk (rdRq t).2.1 = true ∧ 0 < (rdRq t).2.2 := by
  unfold rdRq at h ⊢
  cases e : lnS t with
  | none => rw [e] at h; exact absurd h (by show ¬ (1 : Int) = 0; decide)
  | some p =>
    obtain ⟨x, r⟩ := p
    rw [e] at h
    have hlen := congrArg List.length (lnC_length (lnS_some e).1)
    simp at hlen
    simp only at h ⊢
    split at h
    · rename_i m g v hw
      by_cases hc : metB (txtL m) = true ∧ tarB (txtL g) = true ∧ txtL v = hvS
      · rw [if_pos hc] at h ⊢
        by_cases hk : (rstA r false).k = 0
        · rw [if_pos hk]
          obtain ⟨a1, a2, _, a4⟩ := rst_right hk
          refine ⟨?_, by show (0 : Int) < (t.length : Int) - ((rstA r false).r.length : Int); omega⟩
          show rqOk ⟨txtL m, txtL g, (rstA r false).l, (rstA r false).b⟩ = true
          unfold rqOk
          simp only
          rw [hc.1, hc.2.1, a1, decide_eq_true a2]
          rfl
        · rw [if_neg hk] at h; exact absurd h hk
      · rw [if_neg hc] at h; exact absurd h (by show ¬ (1 : Int) = 0; decide)
    · exact absurd h (by show ¬ (1 : Int) = 0; decide)
theorem rs_right {t : List UInt8} (h : (rdRs t).1 = 0) : rsOk (rdRs t).2.1 = true := by
  unfold rdRs at h ⊢
  cases e : lnS t with
  | none => rw [e] at h; exact absurd h (by show ¬ (1 : Int) = 0; decide)
  | some p =>
    obtain ⟨x, r⟩ := p
    rw [e] at h
    simp only at h ⊢
    split at h
    · rename_i v g o hw
      by_cases hc : txtL v = hvS ∧ staOk g = true ∧ tokB (txtL o) = true
      · rw [if_pos hc] at h ⊢
        by_cases hk : (rstA r (bareB (numV 10 15 (txtL g)))).k = 0
        · rw [if_pos hk]
          obtain ⟨a1, a2, a3, _⟩ := rst_right hk
          have hs := hc.2.1
          unfold staOk at hs
          rw [Bool.and_eq_true, Bool.and_eq_true] at hs
          show rsOk ⟨numV 10 15 (txtL g), (rstA r (bareB (numV 10 15 (txtL g)))).l, (rstA r (bareB (numV 10 15 (txtL g)))).b⟩ = true
          unfold rsOk
          simp only
          rw [hs.2.2, a1, decide_eq_true a2]
          cases hb : bareB (numV 10 15 (txtL g)) with
          | false => rfl
          | true => rw [hb] at a3; simp [a3 rfl]
        · rw [if_neg hk] at h; exact absurd h hk
      · rw [if_neg hc] at h; exact absurd h (by show ¬ (1 : Int) = 0; decide)
    · exact absurd h (by show ¬ (1 : Int) = 0; decide)
theorem rq_fails {t : List UInt8} (h : (rdRq t).1 ≠ 0) : (rdRq t).2 = (noQ, 0) := by
  unfold rdRq at h ⊢
  split
  · rfl
  · split
    · split
      · split
        · rename_i _ _ _ _ _ _ e1 _ e2 e3 e4
          simp_all
        · rfl
      · rfl
    · rfl
end Go.Proofs.YtmgmphkncgochaaGreatDoor
namespace Go.Proofs.YtmgmphkncgochaaGreatDoor
open Go.RowKit
set_option linter.unusedVariables false

def wrdS (l : List UInt8) : List ByteArray := (wrdL l).map txtL
/-- The words found so far: k bytes looked at, the next word begins at f. -/
def WrdAt (l : List UInt8) (k f : Nat) (ws : List ByteArray) : Prop :=
  (k ≤ l.length ∧ f ≤ k ∧ ws.length ≤ f ∧ (∀ c ∈ (l.drop f).take (k - f), c ≠ 32) ∧ wrdS l = ws ++ wrdS (l.drop f)) ∨ (k = l.length + 1 ∧ ws.length ≤ k ∧ wrdS l = ws)
theorem WrdAt.start (l : List UInt8) : WrdAt l 0 0 [] := .inl ⟨Nat.zero_le _, Nat.le_refl _, Nat.le_refl _, fun c hc => by simp at hc, by simp⟩
theorem WrdAt.space {l : List UInt8} {k f : Nat} {ws : List ByteArray} (h : WrdAt l k f ws) (hk : k < l.length) (h32 : l[k] = 32) : WrdAt l (k + 1) (k + 1) (ws ++ [txtL ((l.drop f).take (k - f))]) := by
  rcases h with ⟨h1, h2, h0, h3, h4⟩ | ⟨h1, _⟩
  · refine .inl ⟨by omega, Nat.le_refl _, by rw [List.length_append, List.length_singleton]; omega, fun c hc => by simp at hc, ?_⟩
    have e : l.drop f = (l.drop f).take (k - f) ++ 32 :: l.drop (k + 1) := by
      have e1 : (l.drop f).drop (k - f) = l.drop k := by rw [List.drop_drop]; congr 1; omega
      rw [← h32, ← List.drop_eq_getElem_cons hk, ← e1, List.take_append_drop]
    rw [h4]
    conv => lhs; rw [show wrdS (l.drop f) = wrdS ((l.drop f).take (k - f) ++ 32 :: l.drop (k + 1)) from congrArg wrdS e]
    unfold wrdS
    rw [wrdL_app _ h3]
    simp
  · omega
theorem WrdAt.more {l : List UInt8} {k f : Nat} {ws : List ByteArray} (h : WrdAt l k f ws) (hk : k < l.length) (h32 : l[k] ≠ 32) : WrdAt l (k + 1) f ws := by
  rcases h with ⟨h1, h2, h0, h3, h4⟩ | ⟨h1, _⟩
  · refine .inl ⟨by omega, by omega, h0, fun c hc => ?_, h4⟩
    have hl : k - f < (l.drop f).length := by rw [List.length_drop]; omega
    rw [show k + 1 - f = k - f + 1 by omega, List.take_succ_eq_append_getElem hl] at hc
    rcases List.mem_append.1 hc with hc | hc
    · exact h3 c hc
    · simp at hc
      rw [hc]
      have : l[f + (k - f)]'(by omega) = l[k] := by congr 1; omega
      rw [this]
      exact h32
  · omega
theorem WrdAt.last {l : List UInt8} {f : Nat} {ws : List ByteArray} (h : WrdAt l l.length f ws) : WrdAt l (l.length + 1) (l.length + 1) (ws ++ [txtL ((l.drop f).take (l.length - f))]) := by
  rcases h with ⟨h1, h2, h0, h3, h4⟩ | ⟨h1, _⟩
  · refine .inr ⟨rfl, by rw [List.length_append, List.length_singleton]; omega, ?_⟩
    have e : (l.drop f).take (l.length - f) = l.drop f := List.take_of_length_le (by rw [List.length_drop]; omega)
    rw [e] at h3 ⊢
    rw [h4]
    unfold wrdS
    rw [wrdL_one h3]
    rfl
  · omega
theorem WrdAt.from {l : List UInt8} {k f : Nat} {ws : List ByteArray} (h : WrdAt l k f ws) (hk : k ≤ l.length) : f ≤ k := by
  rcases h with ⟨h1, h2, _⟩ | ⟨h1, _⟩
  · exact h2
  · omega
theorem WrdAt.few {l : List UInt8} {k f : Nat} {ws : List ByteArray} (h : WrdAt l k f ws) : ws.length ≤ l.length + 1 := by
  rcases h with ⟨h1, h2, h0, _⟩ | ⟨h1, h2, _⟩ <;> omega
theorem WrdAt.all {l : List UInt8} {f : Nat} {ws : List ByteArray} (h : WrdAt l (l.length + 1) f ws) : ws = wrdS l := by
  rcases h with ⟨h1, _⟩ | ⟨_, _, h2⟩
  · omega
  · exact h2.symm
theorem cut_of (s : ByteArray) (f k : Nat) : txtL ((s.data.toList.drop f).take (k - f)) = s.extract f k := by
  refine ba_ext ?_
  show (s.data.toList.drop f).take (k - f) = _
  rw [ByteArray.data_extract, Array.toList_extract, List.extract_eq_take_drop]

set_option maxHeartbeats 1000000 in
theorem specWords (s : ByteArray) (w : World) (hs : s.size ≤ 1048576) :
    Calls Tryz.prog 60 #[.string s] w fun e w' => ∃ u, e = .returned u ∧ OwnsS w' w.heap.size u (wrdS s.data.toList) ∧ Below w.heap.size w w' := by
  have hsl : s.data.toList.length = s.size := by simp
  have HSL : Hid (s.data.toList.length = s.size) := hsl
  go_enter Tryz.func60, Tryz.ntmps60
  go_wp2
  go_loopw [3, 4, 5] (fun a b i wr => ∃ (k f : Nat) (ws : List ByteArray), i = .int .i64 k ∧ b = .int .i64 f ∧ k ≤ s.size + 1 ∧ f ≤ s.size + 1 ∧ Hid (WrdAt s.data.toList k f ws) ∧ OwnsS wr w.heap.size a ws ∧ Hid (Below w.heap.size w wr)) (fun _ _ i _ => s.size + 1 - (intOf i).toNat)
  case atStart => exact ⟨0, 0, [], rfl, rfl, Nat.zero_le _, Nat.zero_le _, WrdAt.start _, OwnsS.born w, (Below.refl _ w).alloc (Nat.le_refl _) _⟩
  case round =>
    obtain ⟨k, f, ws, rfl, rfl, hk, hf, hw, ho, hb⟩ := hrel
    have hfew := hw.out.few
    rw [hsl] at hfew
    clear hsl
    by_cases hend : k ≤ s.size
    · have hfk := hw.out.from (by rw [HSL.out]; exact hend)
      by_cases hlt : k < s.size
      · have hne : ((k : Int) == (s.size : Int)) = false := by simp; omega
        by_cases h32 : (s[k].toNat : Int) = 32
        · have HN : Hid (WrdAt s.data.toList (k + 1) (k + 1) (ws ++ [s.extract f k])) := by
            have := hw.out.space (by rw [HSL.out]; exact hlt) (show s[k] = 32 from UInt8.toNat_inj.1 (by rw [show (32 : UInt8).toNat = 32 from rfl]; omega))
            rw [cut_of] at this
            exact this
          go_wp2_with (at_builtin; refine wpList_pushS _ rfl (.tmp 23) (.tmp 28) rfl w.heap.size _ ws (s.extract f k) rfl ho rfl (by omega) hb.out.size ?_; intro v2 w2 ho2 hg2; have B2 : Hid (Below w.heap.size w w2) := hb.out.grown hg2 hb.out.size (OwnsS.from ho); clear hg2)
          go_roundw
          case rel => exact ⟨k + 1, k + 1, _, by go_num, by go_num, by omega, by omega, HN, ho2, B2⟩
          case measure => simp [intOf]; omega
        · have HN : Hid (WrdAt s.data.toList (k + 1) f ws) := hw.out.more (by rw [HSL.out]; exact hlt) (show s[k] ≠ 32 from fun e => h32 (by rw [e]; rfl))
          have h32b : ((s[k].toNat : Int) == 32) = false := by simpa using h32
          go_wp2
          go_roundw
          case rel => exact ⟨k + 1, f, ws, by go_num, rfl, by omega, hf, HN, ho, hb⟩
          case measure => simp [intOf]; omega
      · obtain rfl : k = s.size := by omega
        have HN : Hid (WrdAt s.data.toList (s.size + 1) (s.size + 1) (ws ++ [s.extract f s.size])) := by
          have := hw.out
          rw [← HSL.out] at this
          have := this.last
          rw [HSL.out, cut_of] at this
          exact this
        go_wp2_with (at_builtin; refine wpList_pushS _ rfl (.tmp 23) (.tmp 28) rfl w.heap.size _ ws (s.extract f s.size) rfl ho rfl (by omega) hb.out.size ?_; intro v2 w2 ho2 hg2; have B2 : Hid (Below w.heap.size w w2) := hb.out.grown hg2 hb.out.size (OwnsS.from ho); clear hg2)
        go_roundw
        case rel => exact ⟨s.size + 1, s.size + 1, _, by go_num, by go_num, by omega, by omega, HN, ho2, B2⟩
        case measure => simp [intOf] <;> omega
    · obtain rfl : k = s.size + 1 := by omega
      have HW : Hid (ws = wrdS s.data.toList) := by
        have := hw.out
        rw [← HSL.out] at this
        exact this.all
      have hgt : ¬ (((s.size + 1 : Nat) : Int) ≤ (s.size : Int)) := by omega
      go_wp2
      go_ret
      refine ⟨_, rfl, ?_, hb.out⟩
      rw [← HW.out]
      exact ho
end Go.Proofs.YtmgmphkncgochaaGreatDoor
