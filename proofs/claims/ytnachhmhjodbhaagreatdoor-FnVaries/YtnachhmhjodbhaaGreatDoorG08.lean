/-
  Plain facts on codes of paths: which bytes are plain, the code of a text, and what a code is the code of.
-/
import Derived.Test.YtnachhmhjodbhaaGreatDoorG07
namespace Go.Proofs.YtnachhmhjodbhaaGreatDoor
open Go.RowKit

/-- The byte of two digits. -/
def hexB3 (a b : UInt8) : UInt8 := UInt8.ofNat (16 * digV (a.toNat : Int) + digV (b.toNat : Int)).toNat
/-- What is coded so; none where a % has no two digits behind it. -/
def uncL : List UInt8 → Option (List UInt8)
  | [] => some []
  | [c] => if c.toNat = 37 then none else some [c]
  | [c, d] => if c.toNat = 37 then none else (uncL [d]).map (c :: ·)
  | c :: a :: b :: r => if c.toNat = 37 then (if 0 ≤ digV (a.toNat : Int) ∧ 0 ≤ digV (b.toNat : Int) then (uncL r).map (hexB3 a b :: ·) else none) else (uncL (a :: b :: r)).map (c :: ·)
theorem uncL_nil : uncL [] = some [] := by simp [uncL]
theorem uncL_plain {c : UInt8} (r : List UInt8) (h : c.toNat ≠ 37) : uncL (c :: r) = (uncL r).map (c :: ·) := by
  match r with
  | [] => simp [uncL, h]
  | [d] => conv => lhs; rw [uncL, if_neg h]
  | a :: b :: r => conv => lhs; rw [uncL, if_neg h]
/-- What Uncoded answers. -/
def uncA (s : ByteArray) : Option ByteArray := if s.size ≤ 200 then (uncL s.data.toList).map (fun l => ⟨l.toArray⟩) else none
theorem uncA_of {s : ByteArray} (h : s.size ≤ 200) : uncA s = (uncL s.data.toList).map (fun l => ⟨l.toArray⟩) := by unfold uncA; rw [if_pos h]
theorem drop_at3 (s : ByteArray) (i : Nat) (h : i < s.size) : s.data.toList.drop i = s[i] :: s.data.toList.drop (i + 1) := by
  rw [List.drop_eq_getElem_cons (by simpa using h)]; rfl
theorem drop_past3 (s : ByteArray) (i : Nat) (h : ¬ i < s.size) : s.data.toList.drop i = [] :=
  List.drop_of_length_le (by have e : s.data.toList.length = s.size := by simp
                             omega)
/-- What stands at place k: what is uncoded so far, and what is still to be read. -/
def UncAt (s : ByteArray) (acc : List UInt8) (k : Nat) : Prop := uncL s.data.toList = (uncL (s.data.toList.drop k)).map (acc ++ ·)
theorem UncAt.start (s : ByteArray) : UncAt s [] 0 := by
  unfold UncAt
  simp
theorem UncAt.plain {s : ByteArray} {acc : List UInt8} {k : Nat} (h : UncAt s acc k) (hk : k < s.size) (hc : (s[k].toNat : Int) ≠ 37) : UncAt s (acc ++ [s[k]]) (k + 1) := by
  unfold UncAt at *
  rw [h, drop_at3 s k hk, uncL_plain _ (by omega), Option.map_map]
  congr 1
  funext x
  simp
theorem UncAt.done {s : ByteArray} {acc : List UInt8} {k : Nat} (h : UncAt s acc k) (hz : s.size ≤ 200) (hk : ¬ k < s.size) : uncA s = some ⟨acc.toArray⟩ := by
  rw [uncA_of hz, h, drop_past3 s k hk, uncL_nil]
  simp
end Go.Proofs.YtnachhmhjodbhaaGreatDoor
