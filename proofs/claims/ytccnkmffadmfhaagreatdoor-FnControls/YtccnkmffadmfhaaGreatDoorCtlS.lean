/-
  Control read out of a text, as plain data.
-/
import Derived.Test.YtccnkmffadmfhaaGreatDoorCtlP
import Derived.Test.YtccnkmffadmfhaaGreatDoorSpnR
import Derived.Test.YtccnkmffadmfhaaGreatDoorPlain4
namespace Go.Proofs.YtccnkmffadmfhaaGreatDoor
open Go.RowKit
set_option linter.unusedVariables false

/-- The number of a directive, and whether it is one. -/
def told (x name : ByteArray) : Int × Bool := if x.size ≤ name.size ∨ ¬ x.extract 0 name.size = name then (0, false) else (minI 1000000000 (numV 10 15 (x.extract name.size x.size)), numOk 10 15 (x.extract name.size x.size))
def st1 (c : Ct) (x : ByteArray) : Ct := if (told x nmA).2 = true ∧ c.a < 0 then { c with a := (told x nmA).1 } else c
def st2 (c : Ct) (x : ByteArray) : Ct := if (told x nmS).2 = true ∧ c.s < 0 then { c with s := (told x nmS).1 } else c
def st3 (c : Ct) (x : ByteArray) : Ct := if (told x nmT).2 = true ∧ c.t < 0 then { c with t := (told x nmT).1 } else c
def st4 (c : Ct) (x : ByteArray) : Ct :=
  if x = wdT then (if c.t < 0 then { c with t := 1000000000 } else c)
  else if x = wdS then { c with ns := true }
  else if x = wdC then { c with nc := true }
  else if x = wdP then { c with pr := true }
  else if x = wdM then { c with mu := true }
  else c
def stp (c : Ct) (x : ByteArray) : Ct := st4 (st3 (st2 (st1 c x) x) x) x
def lowT (s : ByteArray) : ByteArray := ⟨(s.data.toList.map lowB).toArray⟩
def rdLt (l : List ByteArray) : Ct := l.foldl (fun c t => stp c (lowT t)) ctN
/-- What ReadControl answers. -/
def rdCt (s : ByteArray) : Ct := rdLt (itemsA s)
theorem rdL_snoc (l : List ByteArray) (t : ByteArray) : rdLt (l ++ [t]) = stp (rdLt l) (lowT t) := by unfold rdLt; rw [List.foldl_append]; rfl
theorem told_sec (x name : ByteArray) (h : ∀ t, 0 ≤ numV 10 15 t) : secB (told x name).1 = true := by
  unfold told
  split
  · exact secB_iff.2 ⟨by show (-1 : Int) ≤ 0; omega, by show (0 : Int) ≤ _; omega⟩
  · rw [secB_iff]
    have := h (x.extract name.size x.size)
    show -1 ≤ minI _ _ ∧ minI _ _ ≤ _
    unfold minI
    split <;> omega
theorem stp_ok (h : ∀ t, 0 ≤ numV 10 15 t) {c : Ct} (hc : ctB c = true) (x : ByteArray) : ctB (stp c x) = true := by
  have h1 : ctB (st1 c x) = true := by
    unfold st1; split
    · rw [ctB_iff] at *; exact ⟨told_sec x nmA h, hc.2⟩
    · exact hc
  have h2 : ctB (st2 (st1 c x) x) = true := by
    unfold st2; split
    · rw [ctB_iff] at *; exact ⟨h1.1, told_sec x nmS h, h1.2.2⟩
    · exact h1
  have h3 : ctB (st3 (st2 (st1 c x) x) x) = true := by
    unfold st3; split
    · rw [ctB_iff] at *; exact ⟨h2.1, h2.2.1, told_sec x nmT h⟩
    · exact h2
  unfold stp st4
  split
  · split
    · rw [ctB_iff] at *; exact ⟨h3.1, h3.2.1, by show secB 1000000000 = true; decide⟩
    · exact h3
  · repeat' split
    all_goals exact h3
theorem rdL_ok (h : ∀ t, 0 ≤ numV 10 15 t) (l : List ByteArray) : ctB (rdLt l) = true := by
  unfold rdLt
  have : ∀ c, ctB c = true → ctB (l.foldl (fun c t => stp c (lowT t)) c) = true := by
    induction l with
    | nil => intro c hc; exact hc
    | cons t l ih => intro c hc; exact ih _ (stp_ok h hc _)
  exact this ctN (by decide)
theorem numL_bound9 (l : List UInt8) : ∀ (acc : Int) (m : Nat), 0 ≤ acc → acc < 10 ^ m → allB (digN 10) l = true → 0 ≤ l.foldl (fun n c => n * 10 + digV (c.toNat : Int)) acc ∧ l.foldl (fun n c => n * 10 + digV (c.toNat : Int)) acc < 10 ^ (m + l.length) := by
  induction l with
  | nil => intro acc m h1 h2 _; exact ⟨h1, h2⟩
  | cons c l ih =>
    intro acc m h1 h2 ha
    have h3 : digN 10 (c.toNat : Int) = true ∧ allB (digN 10) l = true := by unfold allB at ha ⊢; rw [List.all_cons, Bool.and_eq_true] at ha; exact ha
    have h4 := of_decide_eq_true h3.1
    have := ih (acc * 10 + digV (c.toNat : Int)) (m + 1) (by omega) (by rw [Int.pow_succ]; omega) h3.2
    rw [List.length_cons, show m + (l.length + 1) = m + 1 + l.length by omega]
    exact this
theorem numV_bound9 (t : ByteArray) : 0 ≤ numV 10 15 t ∧ numV 10 15 t < 1000000000000000 := by
  unfold numV
  split
  · rename_i h
    unfold numOk at h
    rw [Bool.and_eq_true] at h
    have h1 := of_decide_eq_true h.1
    have h2 := numL_bound9 t.data.toList 0 0 (Int.le_refl _) (by decide) h.2
    have hl : t.data.toList.length = t.size := by simp
    rw [hl, Nat.zero_add] at h2
    refine ⟨h2.1, Int.lt_of_lt_of_le h2.2 ?_⟩
    have : (10 : Int) ^ t.size ≤ 10 ^ 15 := by
      have h3 : (10 : Nat) ^ t.size ≤ 10 ^ 15 := Nat.pow_le_pow_right (by decide) h1.2
      exact_mod_cast h3
    exact this
  · exact ⟨Int.le_refl _, by decide⟩
end Go.Proofs.YtccnkmffadmfhaaGreatDoor
