/-
  Plain facts on fields: which are right, what is got, what is left without a name, what has hops, what is shown.
  Plain facts on reading fields: the line up to the first line end, what a line tells, and all lines up to an empty one.
  Plain facts: fields are read from what they are shown as, of no part of it; a field that is set is got; what has hops is gone for good.
-/
import Derived.Test.YtemmgfnepdgpbaaGreatDoorJ05
import Derived.Test.YtemmgfnepdgpbaaGreatDoorJ06
import Derived.Test.YtemmgfnepdgpbaaGreatDoorRows
import Derived.Test.YtemmgfnepdgpbaaGreatDoorJ04
import Derived.WalkKit
import Derived.WalkSpells
import Derived.Test.YtemmgfnepdgpbaaGreatDoorJ02
import Derived.Lib.SlBytesConst
import Derived.Test.YtemmgfnepdgpbaaGreatDoorJ03
import Derived.Laws.RangeAny
namespace Go.Proofs.YtemmgfnepdgpbaaGreatDoor
open Go.RowKit

/-- A field that is right. -/
def fldOk (f : Fl) : Bool := tokB f.1 && (visB f.2 && decide (trimB f.2 = f.2))
theorem fldOk_parts {f : Fl} (h : fldOk f = true) : tokB f.1 = true ∧ visB f.2 = true ∧ trimB f.2 = f.2 := by
  unfold fldOk at h
  rw [Bool.and_eq_true, Bool.and_eq_true] at h
  exact ⟨h.1, h.2.1, of_decide_eq_true h.2.2⟩
/-! ### What is got -/
/-! ### What is left -/
/-! ### What has hops -/
/-! ### What is shown -/
def showF (f : Fl) : List UInt8 := f.1.data.toList ++ [58, 32] ++ f.2.data.toList ++ [13, 10]
def showL (l : List Fl) : List UInt8 := l.flatMap showF
end Go.Proofs.YtemmgfnepdgpbaaGreatDoor
namespace Go.Proofs.YtemmgfnepdgpbaaGreatDoor
open Go.RowKit

/-- The line up to the first line end, and what is behind that. -/
def lnC : List UInt8 → Option (List UInt8 × List UInt8)
  | [] => none
  | [_] => none
  | c :: d :: r => if c = 13 ∧ d = 10 then some ([], r) else (lnC (d :: r)).map fun p => (c :: p.1, p.2)
/-- .. where no other byte 13 or 10 comes ahead of it. -/
def lnS : List UInt8 → Option (List UInt8 × List UInt8)
  | [] => none
  | [_] => none
  | c :: d :: r => if c = 10 then none else if c = 13 then (if d = 10 then some ([], r) else none) else (lnS (d :: r)).map fun p => (c :: p.1, p.2)
def clean (l : List UInt8) : Prop := ∀ c ∈ l, c ≠ 13 ∧ c ≠ 10
/-- A line that is clean is found. -/
theorem lnC_clean : ∀ {x : List UInt8} (r : List UInt8), clean x → lnC (x ++ [13, 10] ++ r) = some (x, r)
  | [], r, _ => by simp [lnC]
  | [c], r, h => by
    have := (h c (by simp)).1
    simp [lnC, this]
  | c :: d :: t, r, h => by
    have h1 := (h c (by simp)).1
    have ih := lnC_clean (x := d :: t) r (fun b hb => h b (by simp [hb]))
    show lnC (c :: d :: (t ++ [13, 10] ++ r)) = _
    unfold lnC
    rw [if_neg (fun e => h1 e.1)]
    have e : lnC (d :: (t ++ [13, 10] ++ r)) = some (d :: t, r) := ih
    rw [e]
    rfl
/-- How the line grows byte by byte. -/
theorem lnS_ten {c : UInt8} {r : List UInt8} (h : c = 10) : lnS (c :: r) = none := by
  cases r with
  | nil => rfl
  | cons d r => simp [lnS, h]
theorem lnS_end {c d : UInt8} {r : List UInt8} (h : c = 13) (h2 : d = 10) : lnS (c :: d :: r) = some ([], r) := by simp [lnS, h, h2]
theorem lnS_more {c : UInt8} {r : List UInt8} (h : c ≠ 13) (h2 : c ≠ 10) : lnS (c :: r) = (lnS r).map fun p => (c :: p.1, p.2) := by
  cases r with
  | nil => rfl
  | cons d r => simp [lnS, h, h2]

/-! ### What a line tells -/
def colL : List UInt8 → Option (List UInt8 × List UInt8)
  | [] => none
  | c :: r => if c = 58 then some ([], r) else (colL r).map fun p => (c :: p.1, p.2)
def fldT (a b : List UInt8) : Fl := (⟨a.toArray⟩, trimB ⟨b.toArray⟩)
def rdF (x : List UInt8) : Option Fl := match colL x with
  | none => none
  | some (a, b) => if fldOk (fldT a b) = true then some (fldT a b) else none
theorem rdF_yes {x a b : List UInt8} (h : colL x = some (a, b)) (h2 : fldOk (fldT a b) = true) : rdF x = some (fldT a b) := by unfold rdF; rw [h]; simp [h2]
theorem colL_at : ∀ {a : List UInt8} (b : List UInt8), (∀ c ∈ a, c ≠ 58) → colL (a ++ [58] ++ b) = some (a, b)
  | [], b, _ => by simp [colL]
  | c :: r, b, h => by
    show colL (c :: (r ++ [58] ++ b)) = _
    unfold colL
    rw [if_neg (h c (by simp)), colL_at b (fun d hd => h d (by simp [hd]))]
    rfl
/-! ### All lines -/
end Go.Proofs.YtemmgfnepdgpbaaGreatDoor
namespace Go.Proofs.YtemmgfnepdgpbaaGreatDoor
open Go.RowKit

theorem mk_data (s : ByteArray) : (⟨s.data.toList.toArray⟩ : ByteArray) = s := by cases s; simp
theorem allB_at {p : Int → Bool} {l : List UInt8} (h : allB p l = true) {c : UInt8} (hc : c ∈ l) : p (c.toNat : Int) = true := List.all_eq_true.1 h c hc
theorem tok_bytes {s : ByteArray} (h : tokB s = true) {c : UInt8} (hc : c ∈ s.data.toList) : c ≠ 13 ∧ c ≠ 10 ∧ c ≠ 58 := by
  unfold tokB at h
  rw [Bool.and_eq_true] at h
  have := allB_at h.2 hc
  refine ⟨?_, ?_, ?_⟩ <;> (rintro rfl; revert this; decide)
theorem vis_bytes {s : ByteArray} (h : visB s = true) {c : UInt8} (hc : c ∈ s.data.toList) : c ≠ 13 ∧ c ≠ 10 := by
  unfold visB at h
  rw [Bool.and_eq_true] at h
  have := allB_at h.2 hc
  refine ⟨?_, ?_⟩ <;> (rintro rfl; revert this; decide)
def lineF (f : Fl) : List UInt8 := f.1.data.toList ++ [58] ++ (32 :: f.2.data.toList)
theorem showF_line (f : Fl) : showF f = lineF f ++ [13, 10] := by simp [showF, lineF]
theorem lineF_clean {f : Fl} (h : fldOk f = true) : clean (lineF f) := by
  obtain ⟨h1, h2, _⟩ := fldOk_parts h
  intro c hc
  rcases List.mem_append.1 hc with hc | hc
  · rcases List.mem_append.1 hc with hc | hc
    · exact ⟨(tok_bytes h1 hc).1, (tok_bytes h1 hc).2.1⟩
    · rw [List.mem_singleton.1 hc]; decide
  · rcases List.mem_cons.1 hc with rfl | hc
    · decide
    · exact vis_bytes h2 hc
theorem lineF_read {f : Fl} (h : fldOk f = true) : rdF (lineF f) = some f := by
  obtain ⟨h1, _, h3⟩ := fldOk_parts h
  have e : colL (lineF f) = some (f.1.data.toList, 32 :: f.2.data.toList) := colL_at _ fun c hc => (tok_bytes h1 hc).2.2
  have et : fldT f.1.data.toList (32 :: f.2.data.toList) = f := by
    unfold fldT
    rw [mk_data]
    have : trimB ⟨(32 :: f.2.data.toList).toArray⟩ = f.2 := by
      refine Eq.trans ?_ h3
      unfold trimB
      rw [ltr_yes _ (by decide)]
    rw [this]
  rw [rdF_yes e (by rw [et]; exact h), et]
/-! ### A field that is set is got -/
/-! ### What has hops -/
end Go.Proofs.YtemmgfnepdgpbaaGreatDoor
