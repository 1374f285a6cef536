/-
  Plain facts on quotations: what a text is unquoted to, read state by state, and as the specification reads it; both are the same.
-/
import Derived.Test.YthadmhleibhlgaaDoorQuo
namespace Go.Proofs.YthadmhleibhlgaaDoor
open Go.RowKit

/-- Behind the first byte 34: the text, where what follows is a quotation's rest. -/
def unqL : List UInt8 → Option (List UInt8)
  | [] => none
  | [c] => if c.toNat = 34 then some [] else none
  | c :: d :: r => if c.toNat = 34 then none else if c.toNat = 92 then (if d.toNat = 34 ∨ d.toNat = 92 then (unqL r).map (d :: ·) else none) else (unqL (d :: r)).map (c :: ·)

/-- Behind a byte 92. -/
def unqT : List UInt8 → Option (List UInt8)
  | [] => none
  | d :: r => if d.toNat = 34 ∨ d.toNat = 92 then (unqL r).map (d :: ·) else none

theorem unqT_cons (d : UInt8) (r : List UInt8) : unqT (d :: r) = if d.toNat = 34 ∨ d.toNat = 92 then (unqL r).map (d :: ·) else none := rfl

theorem unqL_plain {c : UInt8} (r : List UInt8) (h1 : c.toNat ≠ 34) (h2 : c.toNat ≠ 92) : unqL (c :: r) = (unqL r).map (c :: ·) := by
  cases r with
  | nil => simp [unqL, h1]
  | cons d r => simp [unqL, h1, h2]
theorem unqL_take {c : UInt8} (r : List UInt8) (h2 : c.toNat = 92) : unqL (c :: r) = unqT r := by
  cases r with
  | nil => simp [unqL, unqT, h2]
  | cons d r => simp [unqL, unqT, h2]
theorem unqL_close {c : UInt8} (r : List UInt8) (h1 : c.toNat = 34) : unqL (c :: r) = if r.length = 0 then some [] else none := by
  cases r with
  | nil => simp [unqL, h1]
  | cons d r => simp [unqL, h1]

theorem quoL_cons (c : UInt8) (t : List UInt8) : quoL (c :: t) = quoC c ++ quoL t := by simp [quoL]
theorem quoC_plain {c : UInt8} (h : ¬ (c.toNat = 34 ∨ c.toNat = 92)) : quoC c = [c] := by unfold quoC; rw [if_neg h]
theorem quoC_two {c : UInt8} (h : c.toNat = 34 ∨ c.toNat = 92) : quoC c = [92, c] := by unfold quoC; rw [if_pos h]
theorem n92 : (92 : UInt8).toNat = 92 := rfl
theorem n34 : (34 : UInt8).toNat = 34 := rfl

theorem unqL_quo (t : List UInt8) : unqL (quoL t ++ [34]) = some t := by
  induction t with
  | nil => rfl
  | cons c t ih =>
    rw [quoL_cons]
    by_cases h : c.toNat = 34 ∨ c.toNat = 92
    · rw [quoC_two h]
      show unqL (92 :: (c :: (quoL t ++ [34]))) = _
      rw [unqL_take _ n92, unqT_cons, if_pos h, ih]
      rfl
    · rw [quoC_plain h]
      show unqL (c :: (quoL t ++ [34])) = _
      rw [unqL_plain _ (by omega) (by omega), ih]
      rfl

theorem unqL_some : ∀ (n : Nat) (r t : List UInt8), r.length ≤ n → unqL r = some t → r = quoL t ++ [34] := by
  intro n
  induction n with
  | zero =>
    intro r t hn h
    have : r = [] := List.eq_nil_of_length_eq_zero (by omega)
    subst this
    simp [unqL] at h
  | succ n ih =>
    intro r t hn h
    cases r with
    | nil => simp [unqL] at h
    | cons c r =>
      simp only [List.length_cons] at hn
      by_cases h1 : c.toNat = 34
      · rw [unqL_close r h1] at h
        split at h
        · rename_i h0
          have e : r = [] := List.eq_nil_of_length_eq_zero h0
          subst e
          have : t = [] := by simpa using h.symm
          subst this
          have : c = 34 := UInt8.toNat_inj.1 (by rw [h1, n34])
          subst this
          rfl
        · cases h
      · by_cases h2 : c.toNat = 92
        · rw [unqL_take r h2] at h
          cases r with
          | nil => simp [unqT] at h
          | cons d r =>
            rw [unqT_cons] at h
            split at h
            · rename_i h3
              cases hu : unqL r with
              | none => rw [hu] at h; cases h
              | some t' =>
                rw [hu] at h
                have et : d :: t' = t := by simpa using h
                subst et
                have := ih r t' (by simp only [List.length_cons] at hn; omega) hu
                have hc : c = 92 := UInt8.toNat_inj.1 (by rw [h2, n92])
                rw [quoL_cons, quoC_two h3, this, hc]
                rfl
            · cases h
        · rw [unqL_plain r h1 h2] at h
          cases hu : unqL r with
          | none => rw [hu] at h; cases h
          | some t' =>
            rw [hu] at h
            have et : c :: t' = t := by simpa using h
            subst et
            have := ih r t' (by omega) hu
            rw [quoL_cons, quoC_plain (by omega), this]
            rfl

/-- How the specification takes the text out. -/
def spL : List UInt8 → List UInt8
  | [] => []
  | [_] => []
  | c :: d :: r => if c.toNat = 92 then d :: spL r else c :: spL (d :: r)
theorem spL_two {c : UInt8} (d : UInt8) (r : List UInt8) (h : c.toNat = 92) : spL (c :: d :: r) = d :: spL r := by simp [spL, h]
theorem spL_one {c : UInt8} (d : UInt8) (r : List UInt8) (h : c.toNat ≠ 92) : spL (c :: d :: r) = c :: spL (d :: r) := by simp [spL, h]
theorem spL_quo (t : List UInt8) : spL (quoL t ++ [34]) = t := by
  induction t with
  | nil => rfl
  | cons c t ih =>
    rw [quoL_cons]
    by_cases h : c.toNat = 34 ∨ c.toNat = 92
    · rw [quoC_two h]
      show spL (92 :: c :: (quoL t ++ [34])) = _
      rw [spL_two _ _ n92, ih]
    · rw [quoC_plain h]
      obtain ⟨d, r, hr⟩ : ∃ d r, quoL t ++ [34] = d :: r := by
        cases hq : quoL t with
        | nil => exact ⟨34, [], rfl⟩
        | cons d r => exact ⟨d, r ++ [34], rfl⟩
      show spL (c :: (quoL t ++ [34])) = _
      rw [hr] at ih ⊢
      rw [spL_one _ _ (by omega), ih]

/-- The text whose quotation s is, and that there is one. -/
def unqT0 (s : ByteArray) : ByteArray := ⟨(spL (s.data.toList.drop 1)).toArray⟩
def unqOk (s : ByteArray) : Bool := visB (unqT0 s) && decide (quoS (unqT0 s) = s)
def unqV (s : ByteArray) : ByteArray := if unqOk s = true then unqT0 s else ⟨#[]⟩
/-- What Unquoted answers. -/
def unqE (s : ByteArray) : Value := .tuple #[.string (unqV s), .bool (unqOk s)]
theorem unqE_no {s : ByteArray} (h : unqOk s = false) : Ending.returned (.tuple #[.string ⟨#[]⟩, .bool false]) = .returned (unqE s) := by
  unfold unqE unqV; rw [h]; rfl
theorem unqE_yes {s t : ByteArray} (h : unqOk s = true) (ht : t = unqT0 s) : Ending.returned (.tuple #[.string t, .bool true]) = .returned (unqE s) := by
  unfold unqE unqV; rw [h, ht]; rfl
theorem unqOk_mk {s t : ByteArray} (h : s.data.toList = 34 :: (quoL t.data.toList ++ [34])) (hv : visB t = true) : unqOk s = true ∧ t = unqT0 s := by
  have e : unqT0 s = t := by
    unfold unqT0
    rw [h]
    show (⟨(spL (quoL t.data.toList ++ [34])).toArray⟩ : ByteArray) = t
    rw [spL_quo]
  have e2 : quoS t = s := by
    unfold quoS
    have : (34 :: quoL t.data.toList ++ [34]).toArray = s.data := by
      apply Array.ext'
      rw [h]
      rfl
    rw [this]
  refine ⟨?_, e.symm⟩
  unfold unqOk
  rw [e, hv, e2]
  simp
theorem unqOk_out {s : ByteArray} (h : unqOk s = true) : s.data.toList = 34 :: (quoL (unqT0 s).data.toList ++ [34]) ∧ visB (unqT0 s) = true := by
  unfold unqOk at h
  rw [Bool.and_eq_true] at h
  have := of_decide_eq_true h.2
  refine ⟨?_, h.1⟩
  have h2 : (quoS (unqT0 s)).data.toList = s.data.toList := by rw [this]
  rw [← h2]
  unfold quoS
  simp

/-- Where the reading by states fails, there is no text. -/
theorem unq_first {s : ByteArray} (h : ∀ r, s.data.toList ≠ 34 :: r) : unqOk s = false := by
  cases hk : unqOk s with
  | false => rfl
  | true => exact absurd (unqOk_out hk).1 (h _)
theorem unq_none {s : ByteArray} (h : unqL (s.data.toList.drop 1) = none) : unqOk s = false := by
  cases hk : unqOk s with
  | false => rfl
  | true =>
    have h1 := (unqOk_out hk).1
    rw [h1] at h
    have h2 : unqL (quoL (unqT0 s).data.toList ++ [34]) = none := h
    rw [unqL_quo] at h2
    cases h2
theorem unq_some {s t : ByteArray} {r : List UInt8} (hs : s.data.toList = 34 :: r) (h : unqL (s.data.toList.drop 1) = some t.data.toList) (hv : visB t = true) : unqOk s = true ∧ t = unqT0 s := by
  refine unqOk_mk ?_ hv
  rw [hs] at h ⊢
  have := unqL_some r.length r t.data.toList (Nat.le_refl _) h
  rw [this]
theorem unq_unseen {s t : ByteArray} (h : unqL (s.data.toList.drop 1) = some t.data.toList) (hv : visB t = false) : unqOk s = false := by
  cases hk : unqOk s with
  | false => rfl
  | true =>
    obtain ⟨h1, h2⟩ := unqOk_out hk
    rw [h1] at h
    have h3 : unqL (quoL (unqT0 s).data.toList ++ [34]) = some t.data.toList := h
    rw [unqL_quo] at h3
    have h4 : (unqT0 s).data.toList = t.data.toList := by simpa using h3
    have h5 : unqT0 s = t := by
      have : (unqT0 s).data = t.data := Array.ext' h4
      cases hA : unqT0 s; cases hB : t; rw [hA, hB] at this; exact congrArg _ this
    rw [h5, hv] at h2
    cases h2
end Go.Proofs.YthadmhleibhlgaaDoor
