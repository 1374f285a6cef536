/-
  Plain facts on fields: which are right, what is got, what is left without a name, what has hops, what is shown.
-/
import Derived.Test.YtkoikofaebfbjaaFldM
import Derived.Test.YtkoikofaebfbjaaItm
import Derived.Test.YtkoikofaebfbjaaLow
import Derived.Test.YtkoikofaebfbjaaTok2
namespace Go.Proofs.Ytkoikofaebfbjaa
open Go.RowKit

/-- A field that is right. -/
def fldOk (f : Fl) : Bool := tokB f.1 && (visB f.2 && decide (trimB f.2 = f.2))
def fldsOk (l : List Fl) : Bool := decide (l.length ≤ 30) && l.all fldOk
theorem fldOk_tok {f : Fl} (h : tokB f.1 = false) : false = fldOk f := by unfold fldOk; rw [h]; rfl
theorem fldOk_vis {f : Fl} (h : tokB f.1 = true) (h2 : visB f.2 = false) : false = fldOk f := by unfold fldOk; rw [h, h2]; rfl
theorem fldOk_trim {f : Fl} (h : tokB f.1 = true) (h2 : visB f.2 = true) : decide (trimB f.2 = f.2) = fldOk f := by unfold fldOk; rw [h, h2]; rfl
theorem str_eq (a b : ByteArray) : (a.toList == b.toList) = decide (a = b) := by
  by_cases h : a = b
  · subst h; simp
  · rw [decide_eq_false h]
    have : ¬ a.toList = b.toList := fun e => h (by rw [ByteArray.toList_eq, ByteArray.toList_eq] at e; exact ext_bytes e)
    simp [this]
theorem str_ne (a b : ByteArray) : (a.toList != b.toList) = !decide (a = b) := by show (!(a.toList == b.toList)) = _; rw [str_eq]
theorem fldOk_same {f : Fl} (h : tokB f.1 = true) (h2 : visB f.2 = true) : ((trimB f.2).toList == f.2.toList) = fldOk f := by rw [str_eq]; exact fldOk_trim h h2
theorem fldOk_parts {f : Fl} (h : fldOk f = true) : tokB f.1 = true ∧ visB f.2 = true ∧ trimB f.2 = f.2 := by
  unfold fldOk at h
  rw [Bool.and_eq_true, Bool.and_eq_true] at h
  exact ⟨h.1, h.2.1, of_decide_eq_true h.2.2⟩
theorem tok_size {s : ByteArray} (h : tokB s = true) : 1 ≤ s.size ∧ s.size ≤ 64 := by
  unfold tokB at h; rw [Bool.and_eq_true] at h; exact of_decide_eq_true h.1
theorem visB_size {s : ByteArray} (h : visB s = true) : s.size ≤ 400 := by
  unfold visB at h; rw [Bool.and_eq_true] at h; exact of_decide_eq_true h.1
theorem fldOk_size {f : Fl} (h : fldOk f = true) : f.1.size ≤ 64 ∧ f.2.size ≤ 400 := by
  obtain ⟨h1, h2, _⟩ := fldOk_parts h
  exact ⟨(tok_size h1).2, visB_size h2⟩
theorem fldsOk_long {l : List Fl} (h : 30 < l.length) : false = fldsOk l := by
  unfold fldsOk; rw [decide_eq_false (by omega)]; rfl
theorem fldsOk_all {l : List Fl} (h : l.length ≤ 30) (b : Bool) (e : b = l.all fldOk) : b = fldsOk l := by
  unfold fldsOk; rw [decide_eq_true h, e]; rfl
theorem fldsOk_parts {l : List Fl} (h : fldsOk l = true) : l.length ≤ 30 ∧ ∀ f ∈ l, fldOk f = true := by
  unfold fldsOk at h
  rw [Bool.and_eq_true] at h
  exact ⟨of_decide_eq_true h.1, fun f hf => List.all_eq_true.1 h.2 f hf⟩
theorem fldsOk_mk {l : List Fl} (h : l.length ≤ 30) (h2 : ∀ f ∈ l, fldOk f = true) : fldsOk l = true := by
  unfold fldsOk; rw [decide_eq_true h]; exact List.all_eq_true.2 h2
theorem fldsOk_filter {l : List Fl} (h : fldsOk l = true) (p : Fl → Bool) : fldsOk (l.filter p) = true := by
  obtain ⟨h1, h2⟩ := fldsOk_parts h
  exact fldsOk_mk (Nat.le_trans (List.length_filter_le _ _) h1) fun f hf => h2 f (List.mem_filter.1 hf).1
theorem all_yes {l : List Fl} {k : Nat} (hk : k < l.length) (h : (l.take k).all fldOk = true) (hf : fldOk l[k] = true) : (l.take (k + 1)).all fldOk = true := by
  rw [List.take_succ_eq_append_getElem hk, List.all_append, h]; simp [hf]
theorem all_no {l : List Fl} {k : Nat} (hk : k < l.length) (hf : fldOk l[k] = false) : false = l.all fldOk := by
  cases e : l.all fldOk with
  | false => rfl
  | true => have := List.all_eq_true.1 e l[k] (List.getElem_mem hk); rw [hf] at this; cases this
theorem all_end {l : List Fl} {k : Nat} (hk : ¬ k < l.length) (h : (l.take k).all fldOk = true) : true = l.all fldOk := by
  rw [List.take_of_length_le (by omega)] at h; exact h.symm

/-! ### What is got -/
def gStep (n : ByteArray) (p : ByteArray × Bool) (f : Fl) : ByteArray × Bool :=
  if lowS f.1 = lowS n then ((if p.2 = true then p.1 ++ ⟨#[44, 32]⟩ else p.1) ++ f.2, true) else p
def getF (l : List Fl) (n : ByteArray) : ByteArray × Bool := l.foldl (gStep n) (⟨#[]⟩, false)
def getA (l : List Fl) (n : ByteArray) : ByteArray × Bool := if fldsOk l = true then getF l n else (⟨#[]⟩, false)
theorem getA_no {l : List Fl} (n : ByteArray) (h : fldsOk l = false) : (⟨#[]⟩, false) = getA l n := by unfold getA; rw [if_neg (by simp [h])]
theorem getA_yes {l : List Fl} (n : ByteArray) (h : fldsOk l = true) : getF l n = getA l n := by unfold getA; rw [if_pos h]
theorem getF_next {l : List Fl} {k : Nat} (n : ByteArray) (hk : k < l.length) : getF (l.take (k + 1)) n = gStep n (getF (l.take k) n) l[k] := by
  rw [List.take_succ_eq_append_getElem hk, getF, List.foldl_append]; rfl
theorem gStep_no {n : ByteArray} {p : ByteArray × Bool} {f : Fl} (h : ¬ lowS f.1 = lowS n) : gStep n p f = p := if_neg h
theorem gStep_first {n : ByteArray} {x : ByteArray} {f : Fl} (h : lowS f.1 = lowS n) : gStep n (x, false) f = (x ++ f.2, true) := by unfold gStep; rw [if_pos h]; rfl
theorem gStep_more {n : ByteArray} {x : ByteArray} {f : Fl} (h : lowS f.1 = lowS n) : gStep n (x, true) f = (x ++ ⟨#[44, 32]⟩ ++ f.2, true) := by unfold gStep; rw [if_pos h]; rfl
theorem getF_end {l : List Fl} {k : Nat} (n : ByteArray) (hk : ¬ k < l.length) : getF (l.take k) n = getF l n := by rw [List.take_of_length_le (by omega)]
theorem gStep_size (n : ByteArray) (p : ByteArray × Bool) (f : Fl) : (gStep n p f).1.size ≤ p.1.size + 2 + f.2.size := by
  unfold gStep
  split
  · show ((if p.2 = true then p.1 ++ ⟨#[44, 32]⟩ else p.1) ++ f.2).size ≤ _
    rw [ByteArray.size_append]
    split
    · rw [ByteArray.size_append]; show p.1.size + 2 + f.2.size ≤ _; omega
    · omega
  · omega
theorem getF_size (l : List Fl) (n : ByteArray) (h : ∀ f ∈ l, fldOk f = true) : ∀ k, k ≤ l.length → (getF (l.take k) n).1.size ≤ 402 * k := by
  intro k
  induction k with
  | zero => intro _; show (⟨#[]⟩ : ByteArray).size ≤ _; exact Nat.zero_le _
  | succ k ih =>
    intro hk
    rw [getF_next n (by omega)]
    have h1 := gStep_size n (getF (l.take k) n) l[k]
    have h2 := ih (by omega)
    have h3 := (fldOk_size (h l[k] (List.getElem_mem _))).2
    omega
theorem getA_size (l : List Fl) (n : ByteArray) : (getA l n).1.size ≤ 12060 := by
  cases h : fldsOk l with
  | false => rw [← getA_no n h]; show (⟨#[]⟩ : ByteArray).size ≤ _; exact Nat.zero_le _
  | true =>
    rw [← getA_yes n h]
    obtain ⟨h1, h2⟩ := fldsOk_parts h
    have := getF_size l n h2 l.length (Nat.le_refl _)
    rw [List.take_length] at this
    omega
theorem getF_none {l : List Fl} {n : ByteArray} (h : ∀ f ∈ l, ¬ lowS f.1 = lowS n) (p : ByteArray × Bool) : l.foldl (gStep n) p = p := by
  induction l with
  | nil => rfl
  | cons f l ih =>
    rw [List.foldl_cons, gStep_no (h f (by simp))]
    exact ih fun g hg => h g (by simp [hg])

/-! ### What is left -/
def keepB (n : ByteArray) (f : Fl) : Bool := !decide (lowS f.1 = lowS n)
theorem keepB_yes {n : ByteArray} {f : Fl} (h : ¬ lowS f.1 = lowS n) : keepB n f = true := by simp [keepB, h]
theorem keepB_no {n : ByteArray} {f : Fl} (h : lowS f.1 = lowS n) : keepB n f = false := by simp [keepB, h]
def wo (l : List Fl) (n : ByteArray) : List Fl := l.filter (keepB n)
theorem filter_yes {l : List Fl} {k : Nat} {p : Fl → Bool} (hk : k < l.length) (h : p l[k] = true) : (l.take (k + 1)).filter p = (l.take k).filter p ++ [l[k]] := by
  rw [List.take_succ_eq_append_getElem hk, List.filter_append]; simp [h]
theorem filter_no {l : List Fl} {k : Nat} {p : Fl → Bool} (hk : k < l.length) (h : p l[k] = false) : (l.take (k + 1)).filter p = (l.take k).filter p := by
  rw [List.take_succ_eq_append_getElem hk, List.filter_append]; simp [h]
theorem filter_end {l : List Fl} {k : Nat} {p : Fl → Bool} (hk : ¬ k < l.length) : (l.take k).filter p = l.filter p := by rw [List.take_of_length_le (by omega)]
theorem filter_le (l : List Fl) (k : Nat) (p : Fl → Bool) : ((l.take k).filter p).length ≤ k := Nat.le_trans (List.length_filter_le _ _) (List.length_take_le _ _)
def woA (l : List Fl) (n : ByteArray) : List Fl := if fldsOk l = true ∧ tokB n = true then wo l n else []
theorem woA_no {l : List Fl} {n : ByteArray} (h : fldsOk l = false ∨ tokB n = false) : [] = woA l n := by
  unfold woA; rw [if_neg]; rintro ⟨h1, h2⟩; rcases h with h | h <;> simp_all
theorem woA_yes {l : List Fl} {n : ByteArray} (h : fldsOk l = true) (h2 : tokB n = true) : wo l n = woA l n := by unfold woA; rw [if_pos ⟨h, h2⟩]
theorem wo_length (l : List Fl) (n : ByteArray) : (wo l n).length ≤ l.length := List.length_filter_le _ _
def withA (l : List Fl) (n v : ByteArray) : List Fl := if fldsOk l = true ∧ fldOk (n, v) = true ∧ (wo l n).length < 30 then wo l n ++ [(n, v)] else []
theorem withA_no {l : List Fl} {n v : ByteArray} (h : fldsOk l = false ∨ fldOk (n, v) = false ∨ ¬ (wo l n).length < 30) : [] = withA l n v := by
  unfold withA; rw [if_neg]; rintro ⟨h1, h2, h3⟩; rcases h with h | h | h <;> simp_all
theorem withA_yes {l : List Fl} {n v : ByteArray} (h : fldsOk l = true) (h2 : fldOk (n, v) = true) (h3 : (wo l n).length < 30) : wo l n ++ [(n, v)] = withA l n v := by unfold withA; rw [if_pos ⟨h, h2, h3⟩]

/-! ### What has hops -/
/-- connection, keep-alive, te, trailer, transfer-encoding, upgrade, proxy-connection -/
def conn : ByteArray := ⟨#[99, 111, 110, 110, 101, 99, 116, 105, 111, 110]⟩
def hopN : List ByteArray := [conn, ⟨#[107, 101, 101, 112, 45, 97, 108, 105, 118, 101]⟩, ⟨#[116, 101]⟩, ⟨#[116, 114, 97, 105, 108, 101, 114]⟩, ⟨#[116, 114, 97, 110, 115, 102, 101, 114, 45, 101, 110, 99, 111, 100, 105, 110, 103]⟩, ⟨#[117, 112, 103, 114, 97, 100, 101]⟩, ⟨#[112, 114, 111, 120, 121, 45, 99, 111, 110, 110, 101, 99, 116, 105, 111, 110]⟩]
def hopNs (l : List Fl) : List ByteArray := hopN ++ itemsA (getF l conn).1
def hopP (ns : List ByteArray) (f : Fl) : Bool := ns.all fun n => keepB n f
def hopA (l : List Fl) : List Fl := if fldsOk l = true then l.filter (hopP (hopNs l)) else []
theorem hopA_no {l : List Fl} (h : fldsOk l = false) : [] = hopA l := by unfold hopA; rw [if_neg (by simp [h])]
theorem hopA_yes {l : List Fl} (h : fldsOk l = true) : l.filter (hopP (hopNs l)) = hopA l := by unfold hopA; rw [if_pos h]
theorem hop_zero (l : List Fl) (ns : List ByteArray) : l.filter (hopP (ns.take 0)) = l := by
  rw [List.filter_eq_self]; intro f _; rfl
theorem hop_next {l : List Fl} {ns : List ByteArray} {k : Nat} (hk : k < ns.length) : wo (l.filter (hopP (ns.take k))) ns[k] = l.filter (hopP (ns.take (k + 1))) := by
  unfold wo
  rw [List.filter_filter]
  congr 1
  funext f
  unfold hopP
  rw [List.take_succ_eq_append_getElem hk, List.all_append]
  simp [Bool.and_comm]
theorem hop_end {l : List Fl} {ns : List ByteArray} {k : Nat} (hk : ¬ k < ns.length) : l.filter (hopP (ns.take k)) = l.filter (hopP ns) := by rw [List.take_of_length_le (by omega)]
theorem hopP_any (ns : List ByteArray) (f : Fl) : hopP ns f = !(ns.any fun n => decide (lowS n = lowS f.1)) := by
  unfold hopP
  induction ns with
  | nil => rfl
  | cons n ns ih =>
    rw [List.all_cons, List.any_cons, ih, Bool.not_or]
    congr 1
    unfold keepB
    by_cases h : lowS f.1 = lowS n
    · simp [h]
    · have h' : ¬ lowS n = lowS f.1 := fun e => h e.symm
      simp [h, h']

/-! ### What is shown -/
def showF (f : Fl) : List UInt8 := f.1.data.toList ++ [58, 32] ++ f.2.data.toList ++ [13, 10]
def showL (l : List Fl) : List UInt8 := l.flatMap showF
def showA (l : List Fl) : ByteArray := if fldsOk l = true then ⟨(showL l).toArray⟩ else ⟨#[]⟩
theorem showA_no {l : List Fl} (h : fldsOk l = false) : ⟨#[]⟩ = showA l := by unfold showA; rw [if_neg (by simp [h])]
theorem showA_yes {l : List Fl} (h : fldsOk l = true) : ⟨(showL l).toArray⟩ = showA l := by unfold showA; rw [if_pos h]
theorem showL_next {l : List Fl} {k : Nat} (hk : k < l.length) : showL (l.take (k + 1)) = showL (l.take k) ++ showF l[k] := by
  rw [List.take_succ_eq_append_getElem hk, showL, List.flatMap_append]; simp [showL]
theorem showL_end {l : List Fl} {k : Nat} (hk : ¬ k < l.length) : showL (l.take k) = showL l := by rw [List.take_of_length_le (by omega)]
theorem showF_length (f : Fl) : (showF f).length = f.1.size + f.2.size + 4 := by
  have h1 : f.1.data.toList.length = f.1.size := by simp
  have h2 : f.2.data.toList.length = f.2.size := by simp
  unfold showF
  simp only [List.length_append, List.length_cons, List.length_nil, h1, h2]
  omega
theorem showL_length (l : List Fl) (h : ∀ f ∈ l, fldOk f = true) : ∀ k, k ≤ l.length → (showL (l.take k)).length ≤ 468 * k := by
  intro k
  induction k with
  | zero => intro _; exact Nat.zero_le _
  | succ k ih =>
    intro hk
    rw [showL_next (by omega), List.length_append, showF_length]
    have h2 := ih (by omega)
    have h3 := fldOk_size (h l[k] (List.getElem_mem _))
    omega
end Go.Proofs.Ytkoikofaebfbjaa
