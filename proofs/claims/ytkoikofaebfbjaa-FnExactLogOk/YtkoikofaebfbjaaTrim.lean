/-
  The contracts of Trimmed, the specification's and the program's: both answer the text without the blanks at its ends.
-/
import Derived.Test.YtkoikofaebfbjaaRows
import Derived.Test.YtkoikofaebfbjaaShelfE
import Derived.WalkKit
import Derived.WalkSpells
import Derived.Laws.Strings
namespace Go.Proofs.Ytkoikofaebfbjaa
open Go.RowKit

/-- A blank or a tab. -/
def blank (c : UInt8) : Bool := [32, 9].contains c
def ltr (l : List UInt8) : List UInt8 := l.dropWhile blank
def rtr (l : List UInt8) : List UInt8 := (l.reverse.dropWhile blank).reverse
theorem ltr_yes {c : UInt8} (l : List UInt8) (h : blank c = true) : ltr (c :: l) = ltr l := by simp [ltr, h]
theorem ltr_no {c : UInt8} (l : List UInt8) (h : blank c = false) : ltr (c :: l) = c :: l := by simp [ltr, h]
theorem rtr_yes {c : UInt8} (l : List UInt8) (h : blank c = true) : rtr (l ++ [c]) = rtr l := by simp [rtr, h]
theorem rtr_no {c : UInt8} (l : List UInt8) (h : blank c = false) : rtr (l ++ [c]) = l ++ [c] := by simp [rtr, h]
theorem rtr_cons (c : UInt8) (l : List UInt8) : rtr (c :: l) = if rtr l = [] then (if blank c = true then [] else [c]) else c :: rtr l := by
  unfold rtr
  rw [List.reverse_cons, List.dropWhile_append]
  by_cases h : (l.reverse.dropWhile blank) = []
  · rw [h]
    cases hb : blank c <;> simp [hb]
  · have h2 : (l.reverse.dropWhile blank).isEmpty = false := by simpa using h
    rw [h2]
    simp [h]
theorem trim_swap (l : List UInt8) : rtr (ltr l) = ltr (rtr l) := by
  induction l with
  | nil => rfl
  | cons c l ih =>
    cases hb : blank c with
    | true =>
      rw [ltr_yes l hb, ih, rtr_cons]
      split
      · rename_i h0; rw [h0]
      · rw [ltr_yes _ hb]
    | false =>
      rw [ltr_no l hb, rtr_cons]
      split
      · rw [if_neg (by simp [hb]), ltr_no _ hb]
      · rw [ltr_no _ hb]
/-- The text without blanks at its ends. -/
def trimB (s : ByteArray) : ByteArray := ⟨(rtr (ltr s.data.toList)).toArray⟩
theorem trimB_lib (s : ByteArray) : (⟨(Lib.trimS s.data.toList [32, 9]).toArray⟩ : ByteArray) = trimB s := by
  unfold trimB
  rw [trim_swap]
  rfl
theorem ltr_length (l : List UInt8) : (ltr l).length ≤ l.length := List.dropWhile_sublist _ |>.length_le
theorem rtr_length (l : List UInt8) : (rtr l).length ≤ l.length := by
  unfold rtr
  rw [List.length_reverse]
  have := (List.dropWhile_sublist blank (l := l.reverse)).length_le
  rw [List.length_reverse] at this
  exact this
theorem trimB_size (s : ByteArray) : (trimB s).size ≤ s.size := by
  have h1 := rtr_length (ltr s.data.toList)
  have h2 := ltr_length s.data.toList
  have h3 : s.data.toList.length = s.size := by simp
  have h4 : (trimB s).size = (rtr (ltr s.data.toList)).length := by show (rtr (ltr s.data.toList)).toArray.size = _; simp
  omega

theorem ret_strT {a b : ByteArray} (h : a = b) : Ending.returned (.string a) = .returned (.string b) := by rw [h]
def strLen : Value → Nat | .string s => s.size | _ => 0

theorem full {x : ByteArray} (h : 0 < x.size) : ¬ x.toList = [] := by
  rw [ByteArray.toList_eq]
  intro e
  have h3 : x.data.toList.length = x.size := by simp
  rw [e] at h3
  simp at h3
  omega
theorem void {x : ByteArray} (h : ¬ 0 < x.size) : x.toList = [] := by
  rw [ByteArray.toList_eq]
  have h3 : x.data.toList.length = x.size := by simp
  exact List.eq_nil_of_length_eq_zero (by omega)
theorem list_of (x : ByteArray) (h : 0 < x.size) : x.data.toList = x[0] :: (x.extract 1 x.size).data.toList := by
  have h3 : x.data.toList.length = x.size := by simp
  have e : (x.extract 1 x.size).data.toList = x.data.toList.drop 1 := by
    rw [ByteArray.data_extract, Array.toList_extract]
    show (x.data.toList.drop 1).take (x.size - 1) = _
    exact List.take_of_length_le (by rw [List.length_drop]; omega)
  rw [e]
  exact List.drop_eq_getElem_cons (l := x.data.toList) (i := 0) (by omega)
theorem list_to (x : ByteArray) (h : 0 < x.size) : x.data.toList = (x.extract 0 (x.size - 1)).data.toList ++ [x[x.size - 1]] := by
  have h3 : x.data.toList.length = x.size := by simp
  have e : (x.extract 0 (x.size - 1)).data.toList = x.data.toList.take (x.size - 1) := by
    rw [ByteArray.data_extract, Array.toList_extract]
    rfl
  rw [e]
  have e2 := List.take_succ_eq_append_getElem (l := x.data.toList) (i := x.size - 1) (by omega)
  rw [show x.size - 1 + 1 = x.size from by omega, List.take_of_length_le (by omega)] at e2
  exact e2
theorem size_of (x : ByteArray) : (x.extract 1 x.size).size = x.size - 1 := by simp
theorem size_to (x : ByteArray) : (x.extract 0 (x.size - 1)).size = x.size - 1 := by simp

theorem trimB_is {y s : ByteArray} (h : y.data.toList = rtr (ltr s.data.toList)) : y = trimB s := by
  unfold trimB
  have : y.data = (rtr (ltr s.data.toList)).toArray := Array.ext' (by rw [h])
  cases y
  exact congrArg _ this

end Go.Proofs.Ytkoikofaebfbjaa
