/-
  Plain facts on reading fields: the line up to the first line end, what a line tells, and all lines up to an empty one.
  Plain facts: fields are read from what they are shown as, of no part of it; a field that is set is got; what has hops is gone for good.
  Plain facts on digits: the value of a digit, the number that a list of digits is, and how great it is.
-/
import Derived.Test.YtmgmphkncgochaaGreatDoorG05
import Derived.Test.YtmgmphkncgochaaGreatDoorG01
namespace Go.Proofs.YtmgmphkncgochaaGreatDoor
open Go.RowKit

/-- The line up to the first line end, and what is behind that. -/
def lnC : List UInt8 → Option (List UInt8 × List UInt8)
  | [] => none
  | [_] => none
  | c :: d :: r => if c = 13 ∧ d = 10 then some ([], r) else (lnC (d :: r)).map fun p => (c :: p.1, p.2)
/-- .. where no other byte 13 or 10 comes ahead of it. -/
def lnS : List UInt8 → Option (List UInt8 × List UInt8)
  | [] => none
  | [_] => none
  | c :: d :: r => if c = 10 then none else if c = 13 then (if d = 10 then some ([], r) else none) else (lnS (d :: r)).map fun p => (c :: p.1, p.2)
def clean (l : List UInt8) : Prop := ∀ c ∈ l, c ≠ 13 ∧ c ≠ 10
theorem lnS_some : ∀ {l x r : List UInt8}, lnS l = some (x, r) → lnC l = some (x, r) ∧ clean x
  | [], _, _, h => by simp [lnS] at h
  | [_], _, _, h => by simp [lnS] at h
  | c :: d :: t, x, r, h => by
    unfold lnS at h
    unfold lnC
    by_cases h1 : c = 10
    · simp [h1] at h
    by_cases h2 : c = 13
    · by_cases h3 : d = 10
      · simp [h2, h3] at h
        obtain ⟨rfl, rfl⟩ := h
        simp [h2, h3, clean]
      · simp [h2, h3] at h
    · simp only [h1, h2, if_false, false_and, Option.map_eq_some_iff] at h ⊢
      obtain ⟨⟨y, q⟩, hq, he⟩ := h
      injection he with e1 e2
      subst e1 e2
      obtain ⟨g1, g2⟩ := lnS_some hq
      refine ⟨⟨(y, q), g1, rfl⟩, ?_⟩
      intro b hb
      rcases List.mem_cons.1 hb with rfl | hb
      · exact ⟨h2, h1⟩
      · exact g2 b hb
theorem lnS_none : ∀ {l x r : List UInt8}, lnS l = none → lnC l = some (x, r) → ∃ c ∈ x, c = 13 ∨ c = 10
  | [], _, _, _, h => by simp [lnC] at h
  | [_], _, _, _, h => by simp [lnC] at h
  | c :: d :: t, x, r, h, hc => by
    unfold lnS at h
    unfold lnC at hc
    by_cases h0 : c = 13 ∧ d = 10
    · obtain ⟨rfl, rfl⟩ := h0
      simp at h
    · rw [if_neg h0, Option.map_eq_some_iff] at hc
      obtain ⟨⟨y, q⟩, hq, he⟩ := hc
      injection he with e1 e2
      subst e1 e2
      by_cases h1 : c = 10
      · exact ⟨c, by simp, Or.inr h1⟩
      by_cases h2 : c = 13
      · exact ⟨c, by simp, Or.inl h2⟩
      · simp only [h1, h2, if_false, Option.map_eq_none_iff] at h
        obtain ⟨b, hb, hh⟩ := lnS_none h hq
        exact ⟨b, by simp [hb], hh⟩
theorem lnC_length : ∀ {l x r : List UInt8}, lnC l = some (x, r) → l = x ++ [13, 10] ++ r
  | [], _, _, h => by simp [lnC] at h
  | [_], _, _, h => by simp [lnC] at h
  | c :: d :: t, x, r, h => by
    unfold lnC at h
    by_cases h0 : c = 13 ∧ d = 10
    · obtain ⟨rfl, rfl⟩ := h0
      simp at h
      obtain ⟨rfl, rfl⟩ := h
      rfl
    · rw [if_neg h0, Option.map_eq_some_iff] at h
      obtain ⟨⟨y, q⟩, hq, he⟩ := h
      injection he with e1 e2
      subst e1 e2
      rw [lnC_length hq]
      rfl
/-- A line that is clean is found. -/
theorem lnC_clean : ∀ {x : List UInt8} (r : List UInt8), clean x → lnC (x ++ [13, 10] ++ r) = some (x, r)
  | [], r, _ => by simp [lnC]
  | [c], r, h => by
    have := (h c (by simp)).1
    simp [lnC, this]
  | c :: d :: t, r, h => by
    have h1 := (h c (by simp)).1
    have ih := lnC_clean (x := d :: t) r (fun b hb => h b (by simp [hb]))
    show lnC (c :: d :: (t ++ [13, 10] ++ r)) = _
    unfold lnC
    rw [if_neg (fun e => h1 e.1)]
    have e : lnC (d :: (t ++ [13, 10] ++ r)) = some (d :: t, r) := ih
    rw [e]
    rfl
theorem lnC_open : ∀ {x : List UInt8}, clean x → lnC x = none
  | [], _ => rfl
  | [_], _ => rfl
  | c :: d :: t, h => by
    unfold lnC
    rw [if_neg (fun e => (h c (by simp)).1 e.1), lnC_open (x := d :: t) (fun b hb => h b (by simp [hb]))]
    rfl
/-- How the line grows byte by byte. -/
theorem lnS_ten {c : UInt8} {r : List UInt8} (h : c = 10) : lnS (c :: r) = none := by
  cases r with
  | nil => rfl
  | cons d r => simp [lnS, h]
theorem lnS_end {c d : UInt8} {r : List UInt8} (h : c = 13) (h2 : d = 10) : lnS (c :: d :: r) = some ([], r) := by simp [lnS, h, h2]
theorem lnS_lone {c : UInt8} {r : List UInt8} (h : c = 13) (h2 : ∀ d t, r = d :: t → d ≠ 10) : lnS (c :: r) = none := by
  cases r with
  | nil => rfl
  | cons d r => simp [lnS, h, h2 d r rfl]
theorem lnS_more {c : UInt8} {r : List UInt8} (h : c ≠ 13) (h2 : c ≠ 10) : lnS (c :: r) = (lnS r).map fun p => (c :: p.1, p.2) := by
  cases r with
  | nil => rfl
  | cons d r => simp [lnS, h, h2]

/-! ### What a line tells -/
def colL : List UInt8 → Option (List UInt8 × List UInt8)
  | [] => none
  | c :: r => if c = 58 then some ([], r) else (colL r).map fun p => (c :: p.1, p.2)
def fldT (a b : List UInt8) : Fl := (⟨a.toArray⟩, trimB ⟨b.toArray⟩)
def rdF (x : List UInt8) : Option Fl := match colL x with
  | none => none
  | some (a, b) => if fldOk (fldT a b) = true then some (fldT a b) else none
theorem rdF_col {x : List UInt8} (h : colL x = none) : rdF x = none := by unfold rdF; rw [h]
theorem rdF_no {x a b : List UInt8} (h : colL x = some (a, b)) (h2 : fldOk (fldT a b) = false) : rdF x = none := by unfold rdF; rw [h]; simp [h2]
theorem rdF_yes {x a b : List UInt8} (h : colL x = some (a, b)) (h2 : fldOk (fldT a b) = true) : rdF x = some (fldT a b) := by unfold rdF; rw [h]; simp [h2]
theorem colL_is : ∀ {x a b : List UInt8}, colL x = some (a, b) → x = a ++ [58] ++ b ∧ ∀ c ∈ a, c ≠ 58
  | [], _, _, h => by simp [colL] at h
  | c :: r, a, b, h => by
    unfold colL at h
    by_cases h0 : c = 58
    · simp [h0] at h
      obtain ⟨rfl, rfl⟩ := h
      simp [h0]
    · rw [if_neg h0, Option.map_eq_some_iff] at h
      obtain ⟨⟨y, q⟩, hq, he⟩ := h
      injection he with e1 e2
      subst e1 e2
      obtain ⟨g1, g2⟩ := colL_is hq
      refine ⟨by rw [g1]; simp, fun b hb => ?_⟩
      rcases List.mem_cons.1 hb with rfl | hb
      · exact h0
      · exact g2 b hb
theorem colL_at : ∀ {a : List UInt8} (b : List UInt8), (∀ c ∈ a, c ≠ 58) → colL (a ++ [58] ++ b) = some (a, b)
  | [], b, _ => by simp [colL]
  | c :: r, b, h => by
    show colL (c :: (r ++ [58] ++ b)) = _
    unfold colL
    rw [if_neg (h c (by simp)), colL_at b (fun d hd => h d (by simp [hd]))]
    rfl
theorem colL_none : ∀ {x : List UInt8}, (∀ c ∈ x, c ≠ 58) → colL x = none
  | [], _ => rfl
  | c :: r, h => by
    unfold colL
    rw [if_neg (h c (by simp)), colL_none (fun d hd => h d (by simp [hd]))]
    rfl
theorem trim_mem {l : List UInt8} {c : UInt8} (hb : blank c = false) (h : c ∈ l) : c ∈ rtr (ltr l) := by
  have h1 : ∀ (l : List UInt8), c ∈ l → c ∈ ltr l := by
    intro l
    induction l with
    | nil => intro h; cases h
    | cons d l ih =>
      intro h
      cases hd : blank d with
      | true =>
        rw [ltr_yes _ hd]
        rcases List.mem_cons.1 h with rfl | h
        · rw [hb] at hd; cases hd
        · exact ih h
      | false => rw [ltr_no _ hd]; exact h
  have h2 : c ∈ (ltr l).reverse.dropWhile blank := h1 (ltr l).reverse (List.mem_reverse.2 (h1 l h))
  exact List.mem_reverse.2 h2
theorem allB_mem {p : Int → Bool} {l : List UInt8} {c : UInt8} (h : c ∈ l) (hp : p (c.toNat : Int) = false) : allB p l = false := by
  cases e : allB p l with
  | false => rfl
  | true =>
    have := List.all_eq_true.1 e c h
    rw [hp] at this; cases this
/-- A line with a byte 13 or 10 tells nothing. -/
theorem rdF_dirty {x : List UInt8} (h : ∃ c ∈ x, c = 13 ∨ c = 10) : rdF x = none := by
  obtain ⟨c, hc, hh⟩ := h
  cases e : colL x with
  | none => exact rdF_col e
  | some p =>
    obtain ⟨a, b⟩ := p
    refine rdF_no e ?_
    obtain ⟨g1, _⟩ := colL_is e
    have hc58 : c ≠ 58 := by rcases hh with rfl | rfl <;> decide
    have htok : tokN (c.toNat : Int) = false := by rcases hh with rfl | rfl <;> decide
    have hvis : visN (c.toNat : Int) = false := by rcases hh with rfl | rfl <;> decide
    have hbl : blank c = false := by rcases hh with rfl | rfl <;> decide
    rw [g1] at hc
    rcases List.mem_append.1 hc with hc | hc
    · rcases List.mem_append.1 hc with hc | hc
      · refine (fldOk_tok ?_).symm
        show tokB ⟨a.toArray⟩ = false
        unfold tokB
        rw [allB_mem (l := a) hc htok, Bool.and_false]
      · exact absurd (List.mem_singleton.1 hc) hc58
    · have hv : visB (fldT a b).2 = false := by
        show visB (trimB ⟨b.toArray⟩) = false
        unfold visB
        have : c ∈ rtr (ltr b) := trim_mem hbl hc
        rw [show allB visN (trimB ⟨b.toArray⟩).data.toList = false from allB_mem (l := rtr (ltr b)) this hvis, Bool.and_false]
      cases ht : tokB (fldT a b).1 with
      | false => exact (fldOk_tok ht).symm
      | true => exact (fldOk_vis ht hv).symm

/-! ### All lines -/
def rdN : Nat → List Fl → List UInt8 → Option (List Fl × List UInt8)
  | 0, _, _ => none
  | n + 1, out, l => match lnC l with
    | none => none
    | some (x, r) => if x = [] then some (out, r) else match rdF x with
      | none => none
      | some f => if 30 ≤ out.length then none else rdN n (out ++ [f]) r
def rdA (l : List UInt8) : Option (List Fl × List UInt8) := rdN 31 [] l
theorem rdN_none {n : Nat} {out : List Fl} {l : List UInt8} (h : lnC l = none) : rdN (n + 1) out l = none := by unfold rdN; rw [h]
theorem rdN_void {n : Nat} {out : List Fl} {l r : List UInt8} (h : lnC l = some ([], r)) : rdN (n + 1) out l = some (out, r) := by unfold rdN; rw [h]; simp
theorem rdN_no {n : Nat} {out : List Fl} {l x r : List UInt8} (h : lnC l = some (x, r)) (hx : x ≠ []) (hf : rdF x = none) : rdN (n + 1) out l = none := by unfold rdN; rw [h]; simp [hx, hf]
theorem rdN_many {n : Nat} {out : List Fl} {l x r : List UInt8} (h : lnC l = some (x, r)) (hx : x ≠ []) (ho : 30 ≤ out.length) : rdN (n + 1) out l = none := by
  unfold rdN; rw [h]; simp only [hx, if_false]
  cases rdF x with
  | none => rfl
  | some f => simp [ho]
theorem rdN_more {n : Nat} {out : List Fl} {l x r : List UInt8} {f : Fl} (h : lnC l = some (x, r)) (hx : x ≠ []) (hf : rdF x = some f) (ho : ¬ 30 ≤ out.length) : rdN (n + 1) out l = rdN n (out ++ [f]) r := by
  rw [rdN, h]; simp [hx, hf, ho]
theorem rdN_lnS {n : Nat} {out : List Fl} {l : List UInt8} (h : lnS l = none) : rdN (n + 1) out l = none := by
  cases e : lnC l with
  | none => exact rdN_none e
  | some p =>
    obtain ⟨x, r⟩ := p
    have hd := lnS_none h e
    refine rdN_no e ?_ (rdF_dirty hd)
    rintro rfl
    obtain ⟨c, hc, _⟩ := hd
    cases hc
end Go.Proofs.YtmgmphkncgochaaGreatDoor
namespace Go.Proofs.YtmgmphkncgochaaGreatDoor
open Go.RowKit

theorem mk_data (s : ByteArray) : (⟨s.data.toList.toArray⟩ : ByteArray) = s := by cases s; simp
theorem allB_at {p : Int → Bool} {l : List UInt8} (h : allB p l = true) {c : UInt8} (hc : c ∈ l) : p (c.toNat : Int) = true := List.all_eq_true.1 h c hc
theorem tok_bytes {s : ByteArray} (h : tokB s = true) {c : UInt8} (hc : c ∈ s.data.toList) : c ≠ 13 ∧ c ≠ 10 ∧ c ≠ 58 := by
  unfold tokB at h
  rw [Bool.and_eq_true] at h
  have := allB_at h.2 hc
  refine ⟨?_, ?_, ?_⟩ <;> (rintro rfl; revert this; decide)
theorem vis_bytes {s : ByteArray} (h : visB s = true) {c : UInt8} (hc : c ∈ s.data.toList) : c ≠ 13 ∧ c ≠ 10 := by
  unfold visB at h
  rw [Bool.and_eq_true] at h
  have := allB_at h.2 hc
  refine ⟨?_, ?_⟩ <;> (rintro rfl; revert this; decide)
def lineF (f : Fl) : List UInt8 := f.1.data.toList ++ [58] ++ (32 :: f.2.data.toList)
theorem showF_line (f : Fl) : showF f = lineF f ++ [13, 10] := by simp [showF, lineF]
theorem lineF_clean {f : Fl} (h : fldOk f = true) : clean (lineF f) := by
  obtain ⟨h1, h2, _⟩ := fldOk_parts h
  intro c hc
  rcases List.mem_append.1 hc with hc | hc
  · rcases List.mem_append.1 hc with hc | hc
    · exact ⟨(tok_bytes h1 hc).1, (tok_bytes h1 hc).2.1⟩
    · rw [List.mem_singleton.1 hc]; decide
  · rcases List.mem_cons.1 hc with rfl | hc
    · decide
    · exact vis_bytes h2 hc
theorem lineF_ne (f : Fl) : lineF f ≠ [] := by simp [lineF]
theorem lineF_read {f : Fl} (h : fldOk f = true) : rdF (lineF f) = some f := by
  obtain ⟨h1, _, h3⟩ := fldOk_parts h
  have e : colL (lineF f) = some (f.1.data.toList, 32 :: f.2.data.toList) := colL_at _ fun c hc => (tok_bytes h1 hc).2.2
  have et : fldT f.1.data.toList (32 :: f.2.data.toList) = f := by
    unfold fldT
    rw [mk_data]
    have : trimB ⟨(32 :: f.2.data.toList).toArray⟩ = f.2 := by
      refine Eq.trans ?_ h3
      unfold trimB
      rw [ltr_yes _ (by decide)]
    rw [this]
  rw [rdF_yes e (by rw [et]; exact h), et]
theorem rd_show : ∀ (l : List Fl) (n : Nat) (out : List Fl) (t : List UInt8), (∀ f ∈ l, fldOk f = true) → out.length + l.length ≤ 30 → n + out.length = 31 → rdN n out (showL l ++ [13, 10] ++ t) = some (out ++ l, t)
  | [], n, out, t, _, h2, h3 => by
    obtain ⟨m, rfl⟩ : ∃ m, n = m + 1 := ⟨n - 1, by simp at h2; omega⟩
    rw [rdN_void (r := t) (by simp [showL, lnC])]
    simp
  | f :: l, n, out, t, h1, h2, h3 => by
    simp only [List.length_cons] at h2
    obtain ⟨m, rfl⟩ : ∃ m, n = m + 1 := ⟨n - 1, by omega⟩
    have hf := h1 f (by simp)
    have e : showL (f :: l) ++ [13, 10] ++ t = lineF f ++ [13, 10] ++ (showL l ++ [13, 10] ++ t) := by
      simp [showL, showF_line]
    rw [e, rdN_more (lnC_clean _ (lineF_clean hf)) (lineF_ne f) (lineF_read hf) (by omega), rd_show l m (out ++ [f]) t (fun g hg => h1 g (by simp [hg])) (by simp; omega) (by simp; omega)]
    simp
theorem rd_part : ∀ (l : List Fl) (n : Nat) (out : List Fl) (e : List UInt8), e = [] ∨ e = [13] → (∀ f ∈ l, fldOk f = true) → out.length + l.length ≤ 30 → n + out.length = 31 → rdN n out (showL l ++ e) = none
  | [], n, out, e, he, _, h2, h3 => by
    obtain ⟨m, rfl⟩ : ∃ m, n = m + 1 := ⟨n - 1, by simp at h2; omega⟩
    refine rdN_none ?_
    rcases he with rfl | rfl <;> simp [showL, lnC]
  | f :: l, n, out, e, he, h1, h2, h3 => by
    simp only [List.length_cons] at h2
    obtain ⟨m, rfl⟩ : ∃ m, n = m + 1 := ⟨n - 1, by omega⟩
    have hf := h1 f (by simp)
    have ee : showL (f :: l) ++ e = lineF f ++ [13, 10] ++ (showL l ++ e) := by
      simp [showL, showF_line]
    rw [ee, rdN_more (lnC_clean _ (lineF_clean hf)) (lineF_ne f) (lineF_read hf) (by omega)]
    exact rd_part l m (out ++ [f]) e he (fun g hg => h1 g (by simp [hg])) (by simp; omega) (by simp; omega)
theorem rdA_show {l : List Fl} (h : fldsOk l = true) (t : List UInt8) : rdA (showL l ++ [13, 10] ++ t) = some (l, t) := by
  obtain ⟨h1, h2⟩ := fldsOk_parts h
  have := rd_show l 31 [] t h2 (by simpa using h1) rfl
  rwa [List.nil_append] at this
theorem rdA_part {l : List Fl} (h : fldsOk l = true) {e : List UInt8} (he : e = [] ∨ e = [13]) : rdA (showL l ++ e) = none := by
  obtain ⟨h1, h2⟩ := fldsOk_parts h
  exact rd_part l 31 [] e he h2 (by simpa using h1) rfl
/-- What is read is right. -/
theorem rdF_ok {x : List UInt8} {f : Fl} (h : rdF x = some f) : fldOk f = true := by
  unfold rdF at h
  split at h
  · cases h
  · split at h
    · injection h with h; subst h; assumption
    · cases h
theorem rdN_ok : ∀ (n : Nat) (out : List Fl) (l : List UInt8) {o : List Fl} {r : List UInt8}, (∀ f ∈ out, fldOk f = true) → out.length ≤ 30 → rdN n out l = some (o, r) → (∀ f ∈ o, fldOk f = true) ∧ o.length ≤ 30
  | 0, _, _, _, _, _, _, h => by simp [rdN] at h
  | n + 1, out, l, o, r, h1, h2, h => by
    unfold rdN at h
    split at h
    · cases h
    · split at h
      · injection h with h; injection h with e1 e2; subst e1 e2; exact ⟨h1, h2⟩
      · split at h
        · cases h
        · rename_i f hf
          split at h
          · cases h
          · refine rdN_ok n _ _ ?_ ?_ h
            · intro g hg
              rcases List.mem_append.1 hg with hg | hg
              · exact h1 g hg
              · rw [List.mem_singleton.1 hg]; exact rdF_ok hf
            · simp; omega
theorem rdA_ok {l : List UInt8} {o : List Fl} {r : List UInt8} (h : rdA l = some (o, r)) : fldsOk o = true := by
  obtain ⟨h1, h2⟩ := rdN_ok 31 [] l (by simp) (by simp) h
  exact fldsOk_mk h2 h1
theorem rdN_rest : ∀ (n : Nat) (out : List Fl) (l : List UInt8) {o : List Fl} {r : List UInt8}, rdN n out l = some (o, r) → r.length + 2 ≤ l.length
  | 0, _, _, _, _, h => by simp [rdN] at h
  | n + 1, out, l, o, r, h => by
    unfold rdN at h
    split at h
    · cases h
    · rename_i x q hq
      have hl := congrArg List.length (lnC_length hq)
      simp at hl
      split at h
      · injection h with h; injection h with e1 e2; subst e1 e2; omega
      · split at h
        · cases h
        · split at h
          · cases h
          · have := rdN_rest n _ _ h
            omega

/-! ### A field that is set is got -/
theorem lowB_again (c : UInt8) : lowB (lowB c) = lowB c := by
  by_cases h : 65 ≤ c.toNat ∧ c.toNat ≤ 90
  · have e := lowB_yes h
    refine lowB_no ?_
    omega
  · rw [lowB_no h, lowB_no h]
theorem lowS_again (s : ByteArray) : lowS (lowS s) = lowS s := by
  unfold lowS
  simp only [List.map_map]
  congr 2
  refine List.map_congr_left fun c _ => lowB_again c
theorem wo_mem {l : List Fl} {n : ByteArray} {f : Fl} (h : f ∈ wo l n) : ¬ lowS f.1 = lowS n := by
  have := (List.mem_filter.1 h).2
  unfold keepB at this
  simpa using this
theorem withA_ok (l : List Fl) (n v : ByteArray) : fldsOk (withA l n v) = true := by
  unfold withA
  split
  · rename_i h
    obtain ⟨h1, h2, h3⟩ := h
    refine fldsOk_mk (by simp; omega) fun f hf => ?_
    rcases List.mem_append.1 hf with hf | hf
    · exact (fldsOk_parts (fldsOk_filter h1 _)).2 f hf
    · rw [List.mem_singleton.1 hf]; exact h2
  · rfl
theorem withA_ne {l : List Fl} {n v : ByteArray} (h : withA l n v ≠ []) : fldOk (n, v) = true ∧ withA l n v = wo l n ++ [(n, v)] ∧ (wo l n).length < 30 := by
  unfold withA at h ⊢
  split at h
  · rename_i hh
    rw [if_pos hh]
    exact ⟨hh.2.1, rfl, hh.2.2⟩
  · exact absurd rfl h
theorem wo_with {l : List Fl} {n v : ByteArray} : wo (wo l n ++ [(n, v)]) n = wo l n := by
  unfold wo
  rw [List.filter_append, List.filter_filter]
  have e : [(n, v)].filter (keepB n) = [] := by simp [keepB]
  rw [e, List.append_nil]
  congr 1
  funext f
  simp
theorem get_with {l : List Fl} {n v : ByteArray} (h : withA l n v ≠ []) : getA (withA l n v) (lowS n) = (v, true) := by
  obtain ⟨h1, h2, _⟩ := withA_ne h
  have hok := withA_ok l n v
  rw [← getA_yes _ hok, h2]
  unfold getF
  rw [List.foldl_append, getF_none (l := wo l n) (fun f hf => by rw [lowS_again]; exact wo_mem hf)]
  show gStep (lowS n) (⟨#[]⟩, false) (n, v) = _
  rw [gStep_first (by rw [lowS_again])]
  show (_ ++ v, true) = _
  congr 1
theorem with_with {l : List Fl} {n v : ByteArray} (h : withA l n v ≠ []) : withA (withA l n v) n v = withA l n v := by
  obtain ⟨h1, h2, h3⟩ := withA_ne h
  have hok := withA_ok l n v
  rw [← withA_yes hok h1 (by rw [h2, wo_with]; exact h3)]
  rw [h2, wo_with]
theorem without_with {l : List Fl} {n v : ByteArray} (h : withA l n v ≠ []) : (woA (withA l n v) n).length + 1 = (withA l n v).length := by
  obtain ⟨h1, h2, h3⟩ := withA_ne h
  have hok := withA_ok l n v
  rw [← woA_yes hok (fldOk_parts h1).1, h2, wo_with]
  simp

/-! ### What has hops -/
theorem hopA_ok (l : List Fl) : fldsOk (hopA l) = true := by
  unfold hopA
  split
  · rename_i h; exact fldsOk_filter h _
  · rfl
theorem hopA_mem {l : List Fl} {f : Fl} (h : f ∈ hopA l) {n : ByteArray} (hn : n ∈ hopN) : ¬ lowS f.1 = lowS n := by
  unfold hopA at h
  split at h
  · have := (List.mem_filter.1 h).2
    have := List.all_eq_true.1 this n (List.mem_append_left _ hn)
    unfold keepB at this
    simpa using this
  · cases h
theorem hop_get (l : List Fl) {n : ByteArray} (hn : ∃ m ∈ hopN, lowS m = lowS n) : getA (hopA l) n = (⟨#[]⟩, false) := by
  obtain ⟨m, hm, e⟩ := hn
  rw [← getA_yes n (hopA_ok l)]
  exact getF_none (fun f hf => by rw [← e]; exact hopA_mem hf hm) _
theorem itemsA_void : itemsA ⟨#[]⟩ = [] := by
  have e : visB ⟨#[]⟩ = true := by decide
  rw [← itemsA_yes e]
  unfold itemsT
  show itemsOf (partsF [] false []) = []
  rw [partsF_nil, itemsOf_one]
  refine one_no ?_
  show ¬ 0 < (trimB ⟨#[]⟩).size
  decide
theorem hop_hop (l : List Fl) : hopA (hopA l) = hopA l := by
  have hok := hopA_ok l
  have e := hop_get l (n := conn) ⟨conn, by simp [hopN], rfl⟩
  rw [← getA_yes _ hok] at e
  rw [← hopA_yes hok]
  have en : hopNs (hopA l) = hopN := by
    unfold hopNs
    rw [e, itemsA_void, List.append_nil]
  rw [en, List.filter_eq_self]
  intro f hf
  refine List.all_eq_true.2 fun n hn => ?_
  exact keepB_yes (hopA_mem hf hn)
end Go.Proofs.YtmgmphkncgochaaGreatDoor
namespace Go.Proofs.YtmgmphkncgochaaGreatDoor
open Go.RowKit

/-- The value of a digit (decimal or hexadecimal), -1 where it is none. -/
def digV (r : Int) : Int := if 48 ≤ r ∧ r ≤ 57 then r - 48 else if 97 ≤ r ∧ r ≤ 102 then r - 97 + 10 else if 65 ≤ r ∧ r ≤ 70 then r - 65 + 10 else -1
theorem digV_d {r : Int} (h : 48 ≤ r ∧ r ≤ 57) : digV r = r - 48 := by unfold digV; rw [if_pos h]
theorem digV_a {r : Int} (h : 97 ≤ r ∧ r ≤ 102) : digV r = r - 97 + 10 := by unfold digV; rw [if_neg (by omega), if_pos h]
theorem digV_A {r : Int} (h : 65 ≤ r ∧ r ≤ 70) : digV r = r - 65 + 10 := by unfold digV; rw [if_neg (by omega), if_neg (by omega), if_pos h]
theorem digV_no {r : Int} (h : ¬ (48 ≤ r ∧ r ≤ 57)) (h' : ¬ (97 ≤ r ∧ r ≤ 102)) (h'' : ¬ (65 ≤ r ∧ r ≤ 70)) : digV r = -1 := by unfold digV; rw [if_neg h, if_neg h', if_neg h'']
theorem digV_bd (r : Int) : -1 ≤ digV r ∧ digV r ≤ 15 := by
  unfold digV; split
  · omega
  · split
    · omega
    · split <;> omega
theorem digV_high {r : Int} (h : 128 ≤ r) : digV r = -1 := digV_no (by omega) (by omega) (by omega)
theorem digV_ten {r : Int} : (0 ≤ digV r ∧ digV r < 10) ↔ (48 ≤ r ∧ r ≤ 57) := by
  unfold digV; split
  · omega
  · split
    · omega
    · split <;> omega

/-- A digit at base b. -/
def digN (b : Int) (r : Int) : Bool := decide (0 ≤ digV r ∧ digV r < b)
theorem digN_yes {b r : Int} (h : 0 ≤ digV r) (h' : digV r < b) : digN b r = true := decide_eq_true ⟨h, h'⟩
theorem digN_no {b r : Int} (h : ¬ (0 ≤ digV r ∧ digV r < b)) : digN b r = false := decide_eq_false h

/-- The number that the digits are. -/
def numL (b : Int) (l : List UInt8) : Int := l.foldl (fun n c => n * b + digV (c.toNat : Int)) 0
theorem numL_snoc (b : Int) (l : List UInt8) (c : UInt8) : numL b (l ++ [c]) = numL b l * b + digV (c.toNat : Int) := by
  unfold numL; rw [List.foldl_append]; rfl
theorem numL_step {b : Int} {s : ByteArray} {k : Nat} {n : Int} (hk : k < s.size) (h : n = numL b (s.data.toList.take k)) : n * b + digV (s[k].toNat : Int) = numL b (s.data.toList.take (k + 1)) := by
  rw [take_snoc s k hk, numL_snoc, h]

theorem allB_before {p : Int → Bool} {s : ByteArray} {k : Nat} (hk : k < s.size) (h : allB p (s.data.toList.take (k + 1)) = true) : allB p (s.data.toList.take k) = true ∧ p (s[k].toNat : Int) = true := by
  rw [take_snoc s k hk] at h
  unfold allB at *
  rw [List.all_append, Bool.and_eq_true] at h
  exact ⟨h.1, by have := h.2; simpa using this⟩
theorem numL_bd (b : Int) (hb : 1 ≤ b) (s : ByteArray) : ∀ k, k ≤ s.size → allB (digN b) (s.data.toList.take k) = true → 0 ≤ numL b (s.data.toList.take k) ∧ numL b (s.data.toList.take k) < b ^ k := by
  intro k
  induction k with
  | zero => intro _ _; exact ⟨Int.le_refl 0, by show (0 : Int) < b ^ 0; rw [Int.pow_zero]; decide⟩
  | succ k ih =>
    intro hk ha
    obtain ⟨h1, h2⟩ := allB_before (by omega) ha
    obtain ⟨g0, g1⟩ := ih (by omega) h1
    have hd := of_decide_eq_true h2
    rw [← numL_step (by omega) rfl, Int.pow_succ]
    have m1 := Int.mul_nonneg g0 (show 0 ≤ b by omega)
    have m2 := Int.mul_le_mul_of_nonneg_right (show numL b (s.data.toList.take k) + 1 ≤ b ^ k by omega) (show 0 ≤ b by omega)
    rw [Int.add_mul, Int.one_mul] at m2
    omega
theorem pow_le10 : ∀ k : Nat, k ≤ 15 → (10 : Int) ^ k ≤ 1000000000000000 := by
  intro k hk
  have h : ∀ j : Fin 16, (10 : Int) ^ j.val ≤ 1000000000000000 := by decide
  exact h ⟨k, by omega⟩
theorem pow_le16 : ∀ k : Nat, k ≤ 13 → (16 : Int) ^ k ≤ 4503599627370496 := by
  intro k hk
  have h : ∀ j : Fin 14, (16 : Int) ^ j.val ≤ 4503599627370496 := by decide
  exact h ⟨k, by omega⟩
theorem num_bound10 {s : ByteArray} {k : Nat} (hk : k ≤ 15) (hs : k ≤ s.size) (h : allB (digN 10) (s.data.toList.take k) = true) : 0 ≤ numL 10 (s.data.toList.take k) ∧ numL 10 (s.data.toList.take k) ≤ 1000000000000000 := by
  have h1 := numL_bd 10 (by decide) s k hs h
  have h2 := pow_le10 k hk
  omega
theorem num_bound16 {s : ByteArray} {k : Nat} (hk : k ≤ 13) (hs : k ≤ s.size) (h : allB (digN 16) (s.data.toList.take k) = true) : 0 ≤ numL 16 (s.data.toList.take k) ∧ numL 16 (s.data.toList.take k) ≤ 4503599627370496 := by
  have h1 := numL_bd 16 (by decide) s k hs h
  have h2 := pow_le16 k hk
  omega

/-- What is read: whether it is a number of at most m digits at base b, and which. -/
def numOk (b : Int) (m : Nat) (s : ByteArray) : Bool := decide (1 ≤ s.size ∧ s.size ≤ m) && allB (digN b) s.data.toList
def numV (b : Int) (m : Nat) (s : ByteArray) : Int := if numOk b m s = true then numL b s.data.toList else 0
theorem num_no {b : Int} {m : Nat} {s : ByteArray} (h : numOk b m s = false) : numV b m s = 0 := by unfold numV; rw [h]; rfl
theorem num_yes {b : Int} {m : Nat} {s : ByteArray} (h : numOk b m s = true) : numV b m s = numL b s.data.toList := by unfold numV; rw [h]; rfl
theorem numOk_out {b : Int} {m : Nat} {s : ByteArray} (h : s.size < 1 ∨ m < s.size) : numOk b m s = false := by
  have e : decide (1 ≤ s.size ∧ s.size ≤ m) = false := decide_eq_false (by omega)
  unfold numOk; rw [e]; rfl
theorem numOk_in {b : Int} {m : Nat} {s : ByteArray} {x : Bool} (h1 : 1 ≤ s.size) (h2 : s.size ≤ m) (h : x = allB (digN b) s.data.toList) : numOk b m s = x := by
  have e : decide (1 ≤ s.size ∧ s.size ≤ m) = true := decide_eq_true ⟨h1, h2⟩
  unfold numOk; rw [e, h]; rfl
/-- The answer of a reading. -/
def numE (b : Int) (m : Nat) (s : ByteArray) : Value := .tuple #[.int .i64 (numV b m s), .bool (numOk b m s)]
theorem numE_no {b : Int} {m : Nat} {s : ByteArray} (h : numOk b m s = false) : Ending.returned (.tuple #[.int .i64 0, .bool false]) = .returned (numE b m s) := by
  unfold numE; rw [num_no h, h]
theorem numE_yes {b : Int} {m : Nat} {s : ByteArray} {n : Int} (h : numOk b m s = true) (hn : n = numL b s.data.toList) : Ending.returned (.tuple #[.int .i64 n, .bool true]) = .returned (numE b m s) := by
  unfold numE; rw [num_yes h, h, hn]
end Go.Proofs.YtmgmphkncgochaaGreatDoor
