/-
  Plain facts on the parts of a text as they are read byte by byte.
-/
import Derived.Test.YtnachhmhjodbhaaGreatDoorG09
namespace Go.Proofs.YtnachhmhjodbhaaGreatDoor
open Go.RowKit

/-- The bytes from place a to place i. -/
def cutL3 (l : List UInt8) (a i : Nat) : List UInt8 := (l.take i).drop a
theorem cutL_self3 (l : List UInt8) (a : Nat) : cutL3 l a a = [] := by
  unfold cutL3; exact List.drop_of_length_le (List.length_take_le _ _)
/-- What stands at place k: the parts so far, from where on the next one goes, and what is still to be read. -/
def SpAt (d : UInt8) (s : ByteArray) (done : List (List UInt8)) (a k : Nat) : Prop := splL d s.data.toList = done ++ splF d (cutL3 s.data.toList a k) (s.data.toList.drop k)
theorem SpAt.start (d : UInt8) (s : ByteArray) : SpAt d s [] 0 0 := rfl
theorem SpAt.hit {d : UInt8} {s : ByteArray} {done : List (List UInt8)} {a k : Nat} (h : SpAt d s done a k) (hk : k < s.size) (hc : s[k] = d) : SpAt d s (done ++ [cutL3 s.data.toList a k]) (k + 1) (k + 1) := by
  unfold SpAt at *
  rw [h, drop_at3 s k hk, hc, splF_yes, cutL_self3]
  simp
theorem SpAt.done {d : UInt8} {s : ByteArray} {done : List (List UInt8)} {a k : Nat} (h : SpAt d s done a k) (hk : ¬ k < s.size) : done ++ [cutL3 s.data.toList a k] = splL d s.data.toList := by
  unfold SpAt at h
  rw [h, drop_past3 s k hk, splF_nil]
theorem map_txt_snoc (l : List (List UInt8)) (p : List UInt8) : (l ++ [p]).map txt = l.map txt ++ [txt p] := by simp
/-- Texts that are one sign, two signs, or none. -/
theorem txt_toList (l : List UInt8) : (txt l).toList = l := by rw [ByteArray.toList_eq, txt_data]
/-! ### The parts that are kept -/
end Go.Proofs.YtnachhmhjodbhaaGreatDoor
