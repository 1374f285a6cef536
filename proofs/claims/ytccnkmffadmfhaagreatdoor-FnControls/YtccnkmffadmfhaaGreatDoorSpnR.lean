/-
  Spans read out of a text, as plain data.
-/
import Derived.Test.YtccnkmffadmfhaaGreatDoorSpnP
import Derived.Test.YtccnkmffadmfhaaGreatDoorPlain3
import Derived.Test.YtccnkmffadmfhaaGreatDoorItems
namespace Go.Proofs.YtccnkmffadmfhaaGreatDoor
open Go.RowKit
set_option linter.unusedVariables false

/-- Where the first - is. -/
def dsh : List UInt8 → Nat
  | [] => 0
  | c :: l => if c.toNat = 45 then 0 else dsh l + 1
theorem dsh_is : ∀ {l : List UInt8} {k : Nat}, k ≤ l.length → (∀ j (h : j < l.length), j < k → ¬ l[j].toNat = 45) → (∀ h : k < l.length, l[k].toNat = 45) → dsh l = k
  | [], k, h1, _, _ => by simp at h1; simp [dsh, h1]
  | c :: l, 0, _, _, h3 => by have := h3 (by simp); simp at this; simp [dsh, this]
  | c :: l, k + 1, h1, h2, h3 => by
    have hc : ¬ c.toNat = 45 := h2 0 (by simp) (by omega)
    have ih := dsh_is (l := l) (k := k) (by simpa using h1) (fun j h hj => h2 (j + 1) (Nat.succ_lt_succ h) (by omega)) (fun h => h3 (Nat.succ_lt_succ h))
    simp [dsh, hc, ih]
theorem dsh_le : ∀ l : List UInt8, dsh l ≤ l.length
  | [] => Nat.le_refl _
  | c :: l => by have := dsh_le l; simp only [dsh, List.length_cons]; split <;> omega
theorem dsh_at : ∀ (l : List UInt8) (h : dsh l < l.length), l[dsh l].toNat = 45
  | [], h => by simp at h
  | c :: l, h => by
    by_cases hc : c.toNat = 45
    · have e : dsh (c :: l) = 0 := by simp [dsh, hc]
      simp only [e, List.getElem_cons_zero]; exact hc
    · have e : dsh (c :: l) = dsh l + 1 := by simp [dsh, hc]
      simp only [e, List.getElem_cons_succ]
      exact dsh_at l (by rw [e] at h; simpa using h)
theorem dsh_ahead : ∀ (l : List UInt8) (j : Nat) (h : j < l.length), j < dsh l → ¬ l[j].toNat = 45
  | [], j, h, _ => by simp at h
  | c :: l, j, h, hj => by
    by_cases hc : c.toNat = 45
    · simp [dsh, hc] at hj
    · cases j with
      | zero => exact hc
      | succ j => exact dsh_ahead l j (by simpa using h) (by simp [dsh, hc] at hj; omega)
/-- One item: the span, and whether it has something of the body. -/
def itmS (s : ByteArray) (n : Int) : Option (Sp × Bool) :=
  if dsh s.data.toList = s.size then none
  else if dsh s.data.toList = 0 ∧ numOk 10 15 (s.extract (dsh s.data.toList + 1) s.size) = true then
    some ((maxI 0 (n - numV 10 15 (s.extract (dsh s.data.toList + 1) s.size)), n - 1), decide (0 < numV 10 15 (s.extract (dsh s.data.toList + 1) s.size)) && decide (0 < n))
  else if (numOk 10 15 (s.extract 0 (dsh s.data.toList)) = true ∧ numOk 10 15 (s.extract (dsh s.data.toList + 1) s.size) = true) ∧ numV 10 15 (s.extract 0 (dsh s.data.toList)) ≤ numV 10 15 (s.extract (dsh s.data.toList + 1) s.size) then
    some ((numV 10 15 (s.extract 0 (dsh s.data.toList)), minI (numV 10 15 (s.extract (dsh s.data.toList + 1) s.size)) (n - 1)), decide (numV 10 15 (s.extract 0 (dsh s.data.toList)) < n))
  else if numOk 10 15 (s.extract 0 (dsh s.data.toList)) = true ∧ dsh s.data.toList + 1 = s.size then
    some ((numV 10 15 (s.extract 0 (dsh s.data.toList)), n - 1), decide (numV 10 15 (s.extract 0 (dsh s.data.toList)) < n))
  else none
/-- The same, by its parts. -/
def itmP (k z : Nat) (a b : Int) (one two : Bool) (n : Int) : Option (Sp × Bool) :=
  if k = z then none
  else if k = 0 ∧ two = true then some ((maxI 0 (n - b), n - 1), decide (0 < b) && decide (0 < n))
  else if (one = true ∧ two = true) ∧ a ≤ b then some ((a, minI b (n - 1)), decide (a < n))
  else if one = true ∧ k + 1 = z then some ((a, n - 1), decide (a < n))
  else none
theorem itmS_is (s : ByteArray) (n : Int) : itmS s n = itmP (dsh s.data.toList) s.size (numV 10 15 (s.extract 0 (dsh s.data.toList))) (numV 10 15 (s.extract (dsh s.data.toList + 1) s.size)) (numOk 10 15 (s.extract 0 (dsh s.data.toList))) (numOk 10 15 (s.extract (dsh s.data.toList + 1) s.size)) n := rfl
theorem maxI_zero {x : Int} : 0 ≤ maxI 0 x := (maxI_le 0 x).1
/-- A span that is read lies within the body. -/
theorem itmS_in {s : ByteArray} {n : Int} {x : Sp} (h : itmS s n = some (x, true)) (h0 : ∀ t, 0 ≤ numV 10 15 t) : 0 ≤ x.1 ∧ x.1 ≤ x.2 ∧ x.2 < n := by
  rw [itmS_is] at h
  have ha := h0 (s.extract 0 (dsh s.data.toList))
  have hb := h0 (s.extract (dsh s.data.toList + 1) s.size)
  generalize numV 10 15 (s.extract 0 (dsh s.data.toList)) = a at h ha
  generalize numV 10 15 (s.extract (dsh s.data.toList + 1) s.size) = b at h hb
  unfold itmP at h
  split at h
  · cases h
  · split at h
    · injection h with h
      injection h with h1 h2
      rw [Bool.and_eq_true] at h2
      have h3 := of_decide_eq_true h2.1
      have h4 := of_decide_eq_true h2.2
      subst h1
      show 0 ≤ maxI 0 (n - b) ∧ maxI 0 (n - b) ≤ n - 1 ∧ n - 1 < n
      unfold maxI
      split <;> omega
    · split at h
      · rename_i hc
        injection h with h
        injection h with h1 h2
        have h3 := of_decide_eq_true h2
        subst h1
        show 0 ≤ a ∧ a ≤ minI b (n - 1) ∧ minI b (n - 1) < n
        unfold minI
        split <;> omega
      · split at h
        · injection h with h
          injection h with h1 h2
          have h3 := of_decide_eq_true h2
          subst h1
          show 0 ≤ a ∧ a ≤ n - 1 ∧ n - 1 < n
          omega
        · cases h
def okI (l : List ByteArray) (n : Int) : Bool := l.all fun s => (itmS s n).isSome
def pickI (n : Int) (s : ByteArray) : Option Sp := match itmS s n with
  | some (x, true) => some x
  | _ => none
def outI (l : List ByteArray) (n : Int) : List Sp := l.filterMap (pickI n)
theorem okI_step {l : List ByteArray} {n : Int} {k : Nat} (hk : k < l.length) (h : okI (l.take k) n = true) (h2 : (itmS l[k] n).isSome = true) : okI (l.take (k + 1)) n = true := by
  unfold okI at *
  rw [List.take_succ_eq_append_getElem hk, List.all_append, h]
  simp [h2]
theorem okI_bad {l : List ByteArray} {n : Int} {k : Nat} (hk : k < l.length) (h2 : (itmS l[k] n).isSome = false) : okI l n = false := by
  unfold okI
  rw [List.all_eq_false]
  exact ⟨l[k], List.getElem_mem hk, by rw [h2]; decide⟩
theorem outI_step {l : List ByteArray} {n : Int} {k : Nat} (hk : k < l.length) : outI (l.take (k + 1)) n = outI (l.take k) n ++ (pickI n l[k]).toList := by
  unfold outI
  rw [List.take_succ_eq_append_getElem hk, List.filterMap_append]
  cases h : pickI n l[k] <;> simp [h]
theorem outI_length (l : List ByteArray) (n : Int) : (outI l n).length ≤ l.length := List.length_filterMap_le _ _
def byE : ByteArray := ⟨#[98, 121, 116, 101, 115, 61]⟩
def rdG (s : ByteArray) (n : Int) : Prop := 6 ≤ s.size ∧ s.extract 0 6 = byE ∧ 0 ≤ n ∧ n ≤ 4000
/-- What ReadSpans answers. -/
def rdH (s : ByteArray) (n : Int) : Bool := decide (6 ≤ s.size) && (decide (s.extract 0 6 = byE) && (decide (0 ≤ n) && decide (n ≤ 4000)))
def rdS (s : ByteArray) (n : Int) : List Sp := if rdH s n = true ∧ (itemsA (s.extract 6 s.size)).length ≤ 10 ∧ okI (itemsA (s.extract 6 s.size)) n = true then outI (itemsA (s.extract 6 s.size)) n else []
theorem rdS_yes {s : ByteArray} {n : Int} (h1 : rdH s n = true) (h2 : (itemsA (s.extract 6 s.size)).length ≤ 10) (h3 : okI (itemsA (s.extract 6 s.size)) n = true) : rdS s n = outI (itemsA (s.extract 6 s.size)) n := by unfold rdS; rw [if_pos ⟨h1, h2, h3⟩]
theorem rdS_no {s : ByteArray} {n : Int} (h : ¬ (rdH s n = true ∧ (itemsA (s.extract 6 s.size)).length ≤ 10 ∧ okI (itemsA (s.extract 6 s.size)) n = true)) : rdS s n = [] := by unfold rdS; rw [if_neg h]
theorem rdS_length (s : ByteArray) (n : Int) : (rdS s n).length ≤ 10 := by
  unfold rdS
  split
  · rename_i h
    exact Nat.le_trans (outI_length _ _) h.2.1
  · simp
theorem rdS_in {s : ByteArray} {n : Int} (h0 : ∀ t, 0 ≤ numV 10 15 t) : ∀ x ∈ rdS s n, 0 ≤ x.1 ∧ x.1 ≤ x.2 ∧ x.2 < n := by
  intro x hx
  unfold rdS at hx
  split at hx
  · obtain ⟨t, _, ht⟩ := List.mem_filterMap.1 hx
    unfold pickI at ht
    split at ht
    · rename_i y he
      injection ht with ht
      subst ht
      exact itmS_in he h0
    · cases ht
  · cases hx
end Go.Proofs.YtccnkmffadmfhaaGreatDoor
