/-
  Purges as plain data: what is right, what is shown and read, what one hits, what a log bars.
-/
import Derived.Test.YtkoikofaebfbjaaPolP0
import Derived.Test.YtkoikofaebfbjaaItm
namespace Go.Proofs.Ytkoikofaebfbjaa.Pg
open Go.RowKit
set_option linter.unusedVariables false

def kyW : ByteArray := ⟨#[107, 101, 121, 32]⟩
def tgW : ByteArray := ⟨#[116, 97, 103, 32]⟩
def bgW : ByteArray := ⟨#[98, 101, 103, 105, 110, 32]⟩
def alW : ByteArray := ⟨#[97, 108, 108]⟩
def txOk (s : ByteArray) : Bool := decide (1 ≤ s.size ∧ s.size ≤ 200) && allB keyN s.data.toList
def pgOk (k : Int) (s : ByteArray) : Bool := if k = 4 then decide (s.size = 0) else decide (1 ≤ k ∧ k ≤ 3) && txOk s
def wrd (k : Int) : ByteArray := if k = 1 then kyW else if k = 2 then tgW else bgW
def shoP (k : Int) (s : ByteArray) : ByteArray := if k = 4 then alW else wrd k ++ s
def shwP (k : Int) (s : ByteArray) : ByteArray := if pgOk k s = true then shoP k s else ⟨#[]⟩
/-- The text begins with the word, and more stands behind it. -/
def preB (p s : ByteArray) : Bool := decide (p.size < s.size) && decide (s.extract 0 p.size = p)
def rdP (s : ByteArray) : Int × ByteArray :=
  if preB bgW s = true then (3, s.extract 6 s.size) else if preB tgW s = true then (2, s.extract 4 s.size) else if preB kyW s = true then (1, s.extract 4 s.size) else (4, ⟨#[]⟩)
def rdB (s : ByteArray) : Bool := decide (shwP (rdP s).1 (rdP s).2 = s)
def rdV (s : ByteArray) : Int × ByteArray := if rdB s = true then rdP s else (0, ⟨#[]⟩)
theorem ext_l (s : ByteArray) (a b : Nat) : (s.extract a b).data.toList = (s.data.toList.take b).drop a := by
  simp [ByteArray.data_extract, List.drop_take]
theorem ba_ext {a b : ByteArray} (h : a.data.toList = b.data.toList) : a = b := ByteArray.ext (Array.toList_inj.1 h)
theorem pre_app (p t : ByteArray) (h : 0 < t.size) : preB p (p ++ t) = true := by
  unfold preB
  rw [Bool.and_eq_true, decide_eq_true_eq, decide_eq_true_eq, ByteArray.size_append]
  refine ⟨by omega, ba_ext ?_⟩
  rw [ext_l]
  have e : p.size = p.data.toList.length := by simp
  rw [e]
  simp
theorem rest_app (p t : ByteArray) (n : Nat) (hn : n = p.size) : (p ++ t).extract n (p ++ t).size = t := by
  refine ba_ext ?_
  rw [ext_l]
  have e : n = p.data.toList.length := by rw [hn]; simp
  have e2 : (p ++ t).size = (p ++ t).data.toList.length := by simp
  rw [e2, List.take_length, e]
  simp
theorem pre_parts {p s : ByteArray} (h : preB p s = true) : s = p ++ s.extract p.size s.size ∧ p.size < s.size := by
  unfold preB at h
  rw [Bool.and_eq_true, decide_eq_true_eq, decide_eq_true_eq] at h
  refine ⟨ba_ext ?_, h.1⟩
  have h2 := congrArg (fun x : ByteArray => x.data.toList) h.2
  simp only [ext_l, List.drop_zero] at h2
  have e2 : s.size = s.data.toList.length := by simp
  rw [ByteArray.data_append, Array.toList_append, ext_l, e2, List.take_length]
  have h3 : p.data.toList = s.data.toList.take p.size := h2.symm
  rw [h3]
  simp
/-- What is shown of a right one is read as it is. -/
theorem rd_sho {k : Int} {t : ByteArray} (h : pgOk k t = true) : rdP (shoP k t) = (k, t) := by
  unfold pgOk at h
  by_cases h4 : k = 4
  · subst h4
    rw [if_pos rfl, decide_eq_true_eq] at h
    have : t = ⟨#[]⟩ := ba_ext (by have := Array.eq_empty_of_size_eq_zero (show t.data.size = 0 from h); simp [this])
    subst this
    rfl
  · rw [if_neg h4, Bool.and_eq_true, decide_eq_true_eq] at h
    have ht : 0 < t.size := by have := h.2; unfold txOk at this; rw [Bool.and_eq_true, decide_eq_true_eq] at this; omega
    have hsz : ∀ p : ByteArray, (p ++ t).size = p.size + t.size := fun p => ByteArray.size_append
    have first : ∀ (p q : ByteArray) (c d : UInt8), p.data.toList.head? = some c → q.data.toList.head? = some d → c ≠ d → preB q (p ++ t) = false := fun p q c d hp hq hne => by
      cases e : preB q (p ++ t) with
      | false => rfl
      | true =>
        have h1 := (pre_parts e).1
        have h2 := congrArg (fun x : ByteArray => x.data.toList.head?) h1
        simp only [ByteArray.data_append, Array.toList_append] at h2
        obtain ⟨ps, hps⟩ : ∃ ps, p.data.toList = c :: ps := by
          cases hp2 : p.data.toList with
          | nil => rw [hp2] at hp; cases hp
          | cons x xs => rw [hp2] at hp; simp at hp; exact ⟨xs, by rw [hp]⟩
        obtain ⟨qs, hqs⟩ : ∃ qs, q.data.toList = d :: qs := by
          cases hq2 : q.data.toList with
          | nil => rw [hq2] at hq; cases hq
          | cons x xs => rw [hq2] at hq; simp at hq; exact ⟨xs, by rw [hq]⟩
        rw [hps, hqs] at h2
        simp at h2
        exact absurd h2 hne
    unfold shoP
    rw [if_neg h4]
    rcases (show k = 1 ∨ k = 2 ∨ k = 3 by omega) with rfl | rfl | rfl
    · have w1 : wrd 1 = kyW := rfl
      rw [w1]
      unfold rdP
      rw [first kyW bgW 107 98 rfl rfl (by decide), first kyW tgW 107 116 rfl rfl (by decide), pre_app kyW t ht, rest_app kyW t 4 rfl]
      rfl
    · have w1 : wrd 2 = tgW := rfl
      rw [w1]
      unfold rdP
      rw [first tgW bgW 116 98 rfl rfl (by decide), pre_app tgW t ht, rest_app tgW t 4 rfl]
      rfl
    · have w1 : wrd 3 = bgW := rfl
      rw [w1]
      unfold rdP
      rw [pre_app bgW t ht, rest_app bgW t 6 rfl]
      rfl
theorem sho_pos {k : Int} {t : ByteArray} : 0 < (shoP k t).size := by
  unfold shoP
  split
  · decide
  · rw [ByteArray.size_append]
    have : 0 < (wrd k).size := by unfold wrd; split; decide; split; decide; decide
    omega
theorem rd_shw {k : Int} {t : ByteArray} (h : pgOk k t = true) : rdB (shwP k t) = true ∧ rdV (shwP k t) = (k, t) := by
  have e : shwP k t = shoP k t := by unfold shwP; rw [if_pos h]
  have hb : rdB (shwP k t) = true := by
    unfold rdB
    rw [e, rd_sho h, decide_eq_true_eq]
    exact e
  refine ⟨hb, ?_⟩
  unfold rdV
  rw [if_pos hb, e, rd_sho h]
/-- What is read is right, and is shown as it was. -/
theorem rd_ok {s : ByteArray} (h : rdB s = true) : pgOk (rdP s).1 (rdP s).2 = true ∧ shoP (rdP s).1 (rdP s).2 = s := by
  unfold rdB at h
  rw [decide_eq_true_eq] at h
  cases e : pgOk (rdP s).1 (rdP s).2 with
  | true =>
    refine ⟨rfl, ?_⟩
    unfold shwP at h
    rw [if_pos e] at h
    exact h
  | false =>
    exfalso
    unfold shwP at h
    rw [e] at h
    have h0 : s = ⟨#[]⟩ := h.symm
    subst h0
    have : pgOk (rdP ⟨#[]⟩).1 (rdP ⟨#[]⟩).2 = true := by decide
    rw [this] at e
    cases e
theorem shw_not {k : Int} {t : ByteArray} : decide (shwP k t ≠ ⟨#[]⟩) = pgOk k t := by
  cases e : pgOk k t with
  | true =>
    rw [decide_eq_true_eq]
    unfold shwP
    rw [if_pos e]
    intro h
    have := sho_pos (k := k) (t := t)
    rw [h] at this
    exact absurd this (by decide)
  | false =>
    rw [decide_eq_false_iff_not]
    unfold shwP
    rw [e]
    simp
/-- What stands of the tags. -/
def nSK : ByteArray := ⟨#[115, 117, 114, 114, 111, 103, 97, 116, 101, 45, 107, 101, 121]⟩
def begB (p s : ByteArray) : Bool := decide (p.size ≤ s.size) && decide (s.extract 0 p.size = p)
def hitB (k : Int) (t : ByteArray) (o : Ob) : Bool :=
  if k = 1 then decide (o.k = t) else if k = 2 then ((itemsA (getF o.r.l nSK).1).any fun x => decide (x = t)) else if k = 3 then begB t o.k else true
def hitV (k : Int) (t : ByteArray) (o : Ob) : Bool := pgOk k t && (obB o && hitB k t o)
def logB (L : List ByteArray) : Bool := decide (L.length ≤ 60) && L.all rdB
def barB (L : List ByteArray) (o : Ob) : Bool := (L.drop o.ep.toNat).any fun s => hitB (rdP s).1 (rdP s).2 o
def barV (L : List ByteArray) (o : Ob) : Bool := if logB L = true ∧ obB o = true then barB L o else true
def kptL (L : List ByteArray) (os : List Ob) : List Ob := os.filter fun o => !barV L o
theorem kpt_not {L : List ByteArray} {os : List Ob} : ∀ o ∈ kptL L os, barV L o = false := fun o ho => by
  have := (List.mem_filter.1 ho).2
  simpa using this
theorem kpt_again {L : List ByteArray} {os : List Ob} : kptL L (kptL L os) = kptL L os := by
  unfold kptL
  rw [List.filter_filter]
  congr 1
  funext o
  simp
/-- What was fetched behind all of the log is not barred by it. -/
theorem bar_late {L : List ByteArray} {o : Ob} (hL : logB L = true) (ho : obB { o with ep := (L.length : Int) } = true) : barV L { o with ep := (L.length : Int) } = false := by
  unfold barV
  rw [if_pos ⟨hL, ho⟩]
  unfold barB
  simp
theorem all_rd : rdB alW = true := by decide
theorem log_more {L : List ByteArray} (hL : logB L = true) (hn : L.length < 60) : logB (L ++ [alW]) = true := by
  unfold logB at *
  rw [Bool.and_eq_true, decide_eq_true_eq] at *
  refine ⟨by simp; omega, ?_⟩
  rw [List.all_append, hL.2]
  simp [all_rd]
/-- One more that hits all: all that was fetched ahead of it is barred. -/
theorem bar_more {L : List ByteArray} {o : Ob} (hL : logB L = true) (ho : obB o = true) (hn : L.length < 60) (h0 : 0 ≤ o.ep) : barV (L ++ [alW]) o = (decide (o.ep ≤ (L.length : Int)) || barV L o) := by
  unfold barV
  rw [if_pos ⟨log_more hL hn, ho⟩, if_pos ⟨hL, ho⟩]
  unfold barB
  have ha : hitB (rdP alW).1 (rdP alW).2 o = true := by
    have : rdP alW = (4, ⟨#[]⟩) := by decide
    rw [this]
    rfl
  by_cases h : o.ep ≤ (L.length : Int)
  · rw [decide_eq_true h, Bool.true_or, List.drop_append_of_le_length (by omega), List.any_append]
    simp [ha]
  · rw [decide_eq_false h, Bool.false_or, List.drop_eq_nil_of_le (by simp; omega), List.drop_eq_nil_of_le (by omega)]
theorem bar_up {L : List ByteArray} {o : Ob} (hL : logB L = true) (ho : obB o = true) (hn : L.length < 60) (h0 : 0 ≤ o.ep) (h : barV L o = true) : barV (L ++ [alW]) o = true := by rw [bar_more hL ho hn h0, h, Bool.or_true]
theorem ob_ep {o : Ob} (h : obB o = true) : 0 ≤ o.ep := by
  unfold obB at h
  simp only [Bool.and_eq_true, decide_eq_true_eq] at h
  omega
theorem ob_key {o : Ob} (h : obB o = true) : allB keyN o.k.data.toList = true ∧ o.k.size ≤ 500 := by
  unfold obB keyO at h
  simp only [Bool.and_eq_true, decide_eq_true_eq] at h
  exact h.1
theorem hit_all {o : Ob} (h : obB o = true) : hitV 4 ⟨#[]⟩ o = true := by
  unfold hitV
  rw [h]
  rfl
theorem hit_begin {o : Ob} (h : obB o = true) {n : Nat} (h0 : 0 < n) (h1 : n ≤ 200) (h2 : n ≤ o.k.size) : hitV 3 (o.k.extract 0 n) o = true := by
  have hsz : (o.k.extract 0 n).size = n := by rw [ByteArray.size_extract]; omega
  have hk := (ob_key h).1
  unfold hitV hitB
  rw [h]
  have hp : pgOk 3 (o.k.extract 0 n) = true := by
    unfold pgOk txOk
    rw [if_neg (by decide), hsz]
    simp only [Bool.and_eq_true, decide_eq_true_eq]
    refine ⟨by omega, by omega, ?_⟩
    unfold allB at *
    rw [List.all_eq_true] at *
    intro c hc
    rw [ext_l] at hc
    exact hk c (List.mem_of_mem_take (List.mem_of_mem_drop hc))
  rw [hp, if_neg (by decide), if_neg (by decide), if_pos rfl]
  unfold begB
  rw [hsz]
  simp [h2]
theorem hit_longer {o : Ob} (x : ByteArray) (hx : 0 < x.size) : hitV 3 (o.k ++ x) o = false := by
  unfold hitV hitB
  rw [if_neg (by decide), if_neg (by decide), if_pos rfl]
  unfold begB
  rw [decide_eq_false (by rw [ByteArray.size_append]; omega)]
  simp
end Go.Proofs.Ytkoikofaebfbjaa.Pg
