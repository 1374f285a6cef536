/-
  Plain facts on reading fields: the line up to the first line end, what a line tells, and all lines up to an empty one.
-/
import Derived.Test.YtkoikofaebfbjaaFldP
namespace Go.Proofs.Ytkoikofaebfbjaa
open Go.RowKit

/-- The line up to the first line end, and what is behind that. -/
def lnC : List UInt8 → Option (List UInt8 × List UInt8)
  | [] => none
  | [_] => none
  | c :: d :: r => if c = 13 ∧ d = 10 then some ([], r) else (lnC (d :: r)).map fun p => (c :: p.1, p.2)
/-- .. where no other byte 13 or 10 comes ahead of it. -/
def lnS : List UInt8 → Option (List UInt8 × List UInt8)
  | [] => none
  | [_] => none
  | c :: d :: r => if c = 10 then none else if c = 13 then (if d = 10 then some ([], r) else none) else (lnS (d :: r)).map fun p => (c :: p.1, p.2)
def clean (l : List UInt8) : Prop := ∀ c ∈ l, c ≠ 13 ∧ c ≠ 10
theorem lnS_some : ∀ {l x r : List UInt8}, lnS l = some (x, r) → lnC l = some (x, r) ∧ clean x
  | [], _, _, h => by simp [lnS] at h
  | [_], _, _, h => by simp [lnS] at h
  | c :: d :: t, x, r, h => by
    unfold lnS at h
    unfold lnC
    by_cases h1 : c = 10
    · simp [h1] at h
    by_cases h2 : c = 13
    · by_cases h3 : d = 10
      · simp [h2, h3] at h
        obtain ⟨rfl, rfl⟩ := h
        simp [h2, h3, clean]
      · simp [h2, h3] at h
    · simp only [h1, h2, if_false, false_and, Option.map_eq_some_iff] at h ⊢
      obtain ⟨⟨y, q⟩, hq, he⟩ := h
      injection he with e1 e2
      subst e1 e2
      obtain ⟨g1, g2⟩ := lnS_some hq
      refine ⟨⟨(y, q), g1, rfl⟩, ?_⟩
      intro b hb
      rcases List.mem_cons.1 hb with rfl | hb
      · exact ⟨h2, h1⟩
      · exact g2 b hb
theorem lnS_none : ∀ {l x r : List UInt8}, lnS l = none → lnC l = some (x, r) → ∃ c ∈ x, c = 13 ∨ c = 10
  | [], _, _, _, h => by simp [lnC] at h
  | [_], _, _, _, h => by simp [lnC] at h
  | c :: d :: t, x, r, h, hc => by
    unfold lnS at h
    unfold lnC at hc
    by_cases h0 : c = 13 ∧ d = 10
    · obtain ⟨rfl, rfl⟩ := h0
      simp at h
    · rw [if_neg h0, Option.map_eq_some_iff] at hc
      obtain ⟨⟨y, q⟩, hq, he⟩ := hc
      injection he with e1 e2
      subst e1 e2
      by_cases h1 : c = 10
      · exact ⟨c, by simp, Or.inr h1⟩
      by_cases h2 : c = 13
      · exact ⟨c, by simp, Or.inl h2⟩
      · simp only [h1, h2, if_false, Option.map_eq_none_iff] at h
        obtain ⟨b, hb, hh⟩ := lnS_none h hq
        exact ⟨b, by simp [hb], hh⟩
theorem lnC_length : ∀ {l x r : List UInt8}, lnC l = some (x, r) → l = x ++ [13, 10] ++ r
  | [], _, _, h => by simp [lnC] at h
  | [_], _, _, h => by simp [lnC] at h
  | c :: d :: t, x, r, h => by
    unfold lnC at h
    by_cases h0 : c = 13 ∧ d = 10
    · obtain ⟨rfl, rfl⟩ := h0
      simp at h
      obtain ⟨rfl, rfl⟩ := h
      rfl
    · rw [if_neg h0, Option.map_eq_some_iff] at h
      obtain ⟨⟨y, q⟩, hq, he⟩ := h
      injection he with e1 e2
      subst e1 e2
      rw [lnC_length hq]
      rfl
/-- A line that is clean is found. -/
theorem lnC_clean : ∀ {x : List UInt8} (r : List UInt8), clean x → lnC (x ++ [13, 10] ++ r) = some (x, r)
  | [], r, _ => by simp [lnC]
  | [c], r, h => by
    have := (h c (by simp)).1
    simp [lnC, this]
  | c :: d :: t, r, h => by
    have h1 := (h c (by simp)).1
    have ih := lnC_clean (x := d :: t) r (fun b hb => h b (by simp [hb]))
    show lnC (c :: d :: (t ++ [13, 10] ++ r)) = _
    unfold lnC
    rw [if_neg (fun e => h1 e.1)]
    have e : lnC (d :: (t ++ [13, 10] ++ r)) = some (d :: t, r) := ih
    rw [e]
    rfl
theorem lnC_open : ∀ {x : List UInt8}, clean x → lnC x = none
  | [], _ => rfl
  | [_], _ => rfl
  | c :: d :: t, h => by
    unfold lnC
    rw [if_neg (fun e => (h c (by simp)).1 e.1), lnC_open (x := d :: t) (fun b hb => h b (by simp [hb]))]
    rfl
/-- How the line grows byte by byte. -/
theorem lnS_ten {c : UInt8} {r : List UInt8} (h : c = 10) : lnS (c :: r) = none := by
  cases r with
  | nil => rfl
  | cons d r => simp [lnS, h]
theorem lnS_end {c d : UInt8} {r : List UInt8} (h : c = 13) (h2 : d = 10) : lnS (c :: d :: r) = some ([], r) := by simp [lnS, h, h2]
theorem lnS_lone {c : UInt8} {r : List UInt8} (h : c = 13) (h2 : ∀ d t, r = d :: t → d ≠ 10) : lnS (c :: r) = none := by
  cases r with
  | nil => rfl
  | cons d r => simp [lnS, h, h2 d r rfl]
theorem lnS_more {c : UInt8} {r : List UInt8} (h : c ≠ 13) (h2 : c ≠ 10) : lnS (c :: r) = (lnS r).map fun p => (c :: p.1, p.2) := by
  cases r with
  | nil => rfl
  | cons d r => simp [lnS, h, h2]

/-! ### What a line tells -/
def colL : List UInt8 → Option (List UInt8 × List UInt8)
  | [] => none
  | c :: r => if c = 58 then some ([], r) else (colL r).map fun p => (c :: p.1, p.2)
def fldT (a b : List UInt8) : Fl := (⟨a.toArray⟩, trimB ⟨b.toArray⟩)
def rdF (x : List UInt8) : Option Fl := match colL x with
  | none => none
  | some (a, b) => if fldOk (fldT a b) = true then some (fldT a b) else none
theorem rdF_col {x : List UInt8} (h : colL x = none) : rdF x = none := by unfold rdF; rw [h]
theorem rdF_no {x a b : List UInt8} (h : colL x = some (a, b)) (h2 : fldOk (fldT a b) = false) : rdF x = none := by unfold rdF; rw [h]; simp [h2]
theorem rdF_yes {x a b : List UInt8} (h : colL x = some (a, b)) (h2 : fldOk (fldT a b) = true) : rdF x = some (fldT a b) := by unfold rdF; rw [h]; simp [h2]
theorem colL_is : ∀ {x a b : List UInt8}, colL x = some (a, b) → x = a ++ [58] ++ b ∧ ∀ c ∈ a, c ≠ 58
  | [], _, _, h => by simp [colL] at h
  | c :: r, a, b, h => by
    unfold colL at h
    by_cases h0 : c = 58
    · simp [h0] at h
      obtain ⟨rfl, rfl⟩ := h
      simp [h0]
    · rw [if_neg h0, Option.map_eq_some_iff] at h
      obtain ⟨⟨y, q⟩, hq, he⟩ := h
      injection he with e1 e2
      subst e1 e2
      obtain ⟨g1, g2⟩ := colL_is hq
      refine ⟨by rw [g1]; simp, fun b hb => ?_⟩
      rcases List.mem_cons.1 hb with rfl | hb
      · exact h0
      · exact g2 b hb
theorem colL_at : ∀ {a : List UInt8} (b : List UInt8), (∀ c ∈ a, c ≠ 58) → colL (a ++ [58] ++ b) = some (a, b)
  | [], b, _ => by simp [colL]
  | c :: r, b, h => by
    show colL (c :: (r ++ [58] ++ b)) = _
    unfold colL
    rw [if_neg (h c (by simp)), colL_at b (fun d hd => h d (by simp [hd]))]
    rfl
theorem colL_none : ∀ {x : List UInt8}, (∀ c ∈ x, c ≠ 58) → colL x = none
  | [], _ => rfl
  | c :: r, h => by
    unfold colL
    rw [if_neg (h c (by simp)), colL_none (fun d hd => h d (by simp [hd]))]
    rfl
theorem trim_mem {l : List UInt8} {c : UInt8} (hb : blank c = false) (h : c ∈ l) : c ∈ rtr (ltr l) := by
  have h1 : ∀ (l : List UInt8), c ∈ l → c ∈ ltr l := by
    intro l
    induction l with
    | nil => intro h; cases h
    | cons d l ih =>
      intro h
      cases hd : blank d with
      | true =>
        rw [ltr_yes _ hd]
        rcases List.mem_cons.1 h with rfl | h
        · rw [hb] at hd; cases hd
        · exact ih h
      | false => rw [ltr_no _ hd]; exact h
  have h2 : c ∈ (ltr l).reverse.dropWhile blank := h1 (ltr l).reverse (List.mem_reverse.2 (h1 l h))
  exact List.mem_reverse.2 h2
theorem allB_mem {p : Int → Bool} {l : List UInt8} {c : UInt8} (h : c ∈ l) (hp : p (c.toNat : Int) = false) : allB p l = false := by
  cases e : allB p l with
  | false => rfl
  | true =>
    have := List.all_eq_true.1 e c h
    rw [hp] at this; cases this
/-- A line with a byte 13 or 10 tells nothing. -/
theorem rdF_dirty {x : List UInt8} (h : ∃ c ∈ x, c = 13 ∨ c = 10) : rdF x = none := by
  obtain ⟨c, hc, hh⟩ := h
  cases e : colL x with
  | none => exact rdF_col e
  | some p =>
    obtain ⟨a, b⟩ := p
    refine rdF_no e ?_
    obtain ⟨g1, _⟩ := colL_is e
    have hc58 : c ≠ 58 := by rcases hh with rfl | rfl <;> decide
    have htok : tokN (c.toNat : Int) = false := by rcases hh with rfl | rfl <;> decide
    have hvis : visN (c.toNat : Int) = false := by rcases hh with rfl | rfl <;> decide
    have hbl : blank c = false := by rcases hh with rfl | rfl <;> decide
    rw [g1] at hc
    rcases List.mem_append.1 hc with hc | hc
    · rcases List.mem_append.1 hc with hc | hc
      · refine (fldOk_tok ?_).symm
        show tokB ⟨a.toArray⟩ = false
        unfold tokB
        rw [allB_mem (l := a) hc htok, Bool.and_false]
      · exact absurd (List.mem_singleton.1 hc) hc58
    · have hv : visB (fldT a b).2 = false := by
        show visB (trimB ⟨b.toArray⟩) = false
        unfold visB
        have : c ∈ rtr (ltr b) := trim_mem hbl hc
        rw [show allB visN (trimB ⟨b.toArray⟩).data.toList = false from allB_mem (l := rtr (ltr b)) this hvis, Bool.and_false]
      cases ht : tokB (fldT a b).1 with
      | false => exact (fldOk_tok ht).symm
      | true => exact (fldOk_vis ht hv).symm

/-! ### All lines -/
def rdN : Nat → List Fl → List UInt8 → Option (List Fl × List UInt8)
  | 0, _, _ => none
  | n + 1, out, l => match lnC l with
    | none => none
    | some (x, r) => if x = [] then some (out, r) else match rdF x with
      | none => none
      | some f => if 30 ≤ out.length then none else rdN n (out ++ [f]) r
def rdA (l : List UInt8) : Option (List Fl × List UInt8) := rdN 31 [] l
theorem rdN_none {n : Nat} {out : List Fl} {l : List UInt8} (h : lnC l = none) : rdN (n + 1) out l = none := by unfold rdN; rw [h]
theorem rdN_void {n : Nat} {out : List Fl} {l r : List UInt8} (h : lnC l = some ([], r)) : rdN (n + 1) out l = some (out, r) := by unfold rdN; rw [h]; simp
theorem rdN_no {n : Nat} {out : List Fl} {l x r : List UInt8} (h : lnC l = some (x, r)) (hx : x ≠ []) (hf : rdF x = none) : rdN (n + 1) out l = none := by unfold rdN; rw [h]; simp [hx, hf]
theorem rdN_many {n : Nat} {out : List Fl} {l x r : List UInt8} (h : lnC l = some (x, r)) (hx : x ≠ []) (ho : 30 ≤ out.length) : rdN (n + 1) out l = none := by
  unfold rdN; rw [h]; simp only [hx, if_false]
  cases rdF x with
  | none => rfl
  | some f => simp [ho]
theorem rdN_more {n : Nat} {out : List Fl} {l x r : List UInt8} {f : Fl} (h : lnC l = some (x, r)) (hx : x ≠ []) (hf : rdF x = some f) (ho : ¬ 30 ≤ out.length) : rdN (n + 1) out l = rdN n (out ++ [f]) r := by
  rw [rdN, h]; simp [hx, hf, ho]
theorem rdN_lnS {n : Nat} {out : List Fl} {l : List UInt8} (h : lnS l = none) : rdN (n + 1) out l = none := by
  cases e : lnC l with
  | none => exact rdN_none e
  | some p =>
    obtain ⟨x, r⟩ := p
    have hd := lnS_none h e
    refine rdN_no e ?_ (rdF_dirty hd)
    rintro rfl
    obtain ⟨c, hc, _⟩ := hd
    cases hc
end Go.Proofs.Ytkoikofaebfbjaa
