/-
  The contracts of Trimmed, the specification's and the program's: both answer the text without the blanks at its ends.
  Plain facts on items: the parts of a text between commas at which none is open, each trimmed, none empty; and slices of texts that a call owns.
  The contract of the specification's test of one letter of a token.
-/
import Derived.Test.YtlngleinegkoeaaGreatRows
import Derived.Lib.SlTrimSet
import Derived.WalkKit
import Derived.WalkSpells
import Derived.Laws.Strings
import Derived.Test.YtlngleinegkoeaaGreatT04
import Derived.Test.YtlngleinegkoeaaGreatT03
import Derived.Lib.SlBytesConst
namespace Go.Proofs.YtlngleinegkoeaaGreat
open Go.RowKit

/-- A blank or a tab. -/
def blank (c : UInt8) : Bool := [32, 9].contains c
def ltr (l : List UInt8) : List UInt8 := l.dropWhile blank
def rtr (l : List UInt8) : List UInt8 := (l.reverse.dropWhile blank).reverse
/-- The text without blanks at its ends. -/
def trimB (s : ByteArray) : ByteArray := ⟨(rtr (ltr s.data.toList)).toArray⟩
end Go.Proofs.YtlngleinegkoeaaGreat
namespace Go.Proofs.YtlngleinegkoeaaGreat
open Go.RowKit

/-- The parts: what was read of the one at hand, whether one is open, what is still to be read. -/
def partsF (cur : List UInt8) (op : Bool) : List UInt8 → List (List UInt8)
  | [] => [cur]
  | [c] => if op = false ∧ c.toNat = 44 then [cur, []] else [cur ++ [c]]
  | c :: d :: r =>
    if op = false ∧ c.toNat = 44 then cur :: partsF [] false (d :: r)
    else if c.toNat = 34 then partsF (cur ++ [c]) (!op) (d :: r)
    else if op = true ∧ c.toNat = 92 then partsF (cur ++ [c] ++ [d]) true r
    else partsF (cur ++ [c]) op (d :: r)

theorem partsF_nil (cur : List UInt8) (op : Bool) : partsF cur op [] = [cur] := by rw [partsF]
theorem partsF_take {c : UInt8} (cur r : List UInt8) (h : c.toNat = 92) : partsF cur true (c :: r) = match r with | [] => [cur ++ [c]] | d :: r' => partsF (cur ++ [c] ++ [d]) true r' := by
  cases r with
  | nil => simp [partsF]
  | cons d r => simp [partsF, h]
/-- The trimmed part, where it is not empty. -/
def one (x : ByteArray) : List ByteArray := if 0 < (trimB x).size then [trimB x] else []
def itemsOf (ps : List (List UInt8)) : List ByteArray := ps.flatMap fun p => one ⟨p.toArray⟩
theorem itemsOf_one (p : List UInt8) : itemsOf [p] = one ⟨p.toArray⟩ := by simp [itemsOf]

/-- The bytes from place a to place i. -/
def cutL (l : List UInt8) (a i : Nat) : List UInt8 := (l.take i).drop a
theorem cutL_next {s : ByteArray} {a i : Nat} (h : i < s.size) (ha : a ≤ i) : cutL s.data.toList a i ++ [s[i]] = cutL s.data.toList a (i + 1) := by
  unfold cutL
  rw [take_snoc s i h, List.drop_append_of_le_length]
  rw [List.length_take]
  have : s.data.toList.length = s.size := by simp
  omega
theorem cutL_past {s : ByteArray} {a i : Nat} (h : s.size ≤ i) : cutL s.data.toList a (i + 1) = cutL s.data.toList a i := by
  unfold cutL
  have e : s.data.toList.length = s.size := by simp
  rw [List.take_of_length_le (by omega), List.take_of_length_le (by omega)]
theorem drop_at' (s : ByteArray) (i : Nat) (h : i < s.size) : s.data.toList.drop i = s[i] :: s.data.toList.drop (i + 1) := by
  rw [List.drop_eq_getElem_cons (by simpa using h)]; rfl
theorem drop_past' (s : ByteArray) (i : Nat) (h : ¬ i < s.size) : s.data.toList.drop i = [] :=
  List.drop_of_length_le (by have e : s.data.toList.length = s.size := by simp
                             omega)
theorem ext_bytes {a b : ByteArray} (h : a.data.toList = b.data.toList) : a = b := by
  have : a.data = b.data := Array.ext' h
  cases a; cases b; exact congrArg _ this
theorem cut_text (s : ByteArray) (a i : Nat) (_hi : i ≤ s.size) : s.extract a i = ⟨(cutL s.data.toList a i).toArray⟩ := by
  apply ext_bytes
  rw [ByteArray.data_extract, Array.toList_extract]
  show (s.data.toList.drop a).take (i - a) = (s.data.toList.take i).drop a
  rw [List.drop_take]

/-- The items of a text. -/
def itemsT (s : ByteArray) : List ByteArray := itemsOf (partsF [] false s.data.toList)
/-- What stands at a state: the items so far, and those of what is still to be read. -/
def At (s : ByteArray) (out : List ByteArray) (a i : Nat) (op : Bool) : Prop := itemsT s = out ++ itemsOf (partsF (cutL s.data.toList a i) op (s.data.toList.drop i))
/-- A byte 92 takes the byte behind it along, if there is one. -/
theorem At.take {s : ByteArray} {out : List ByteArray} {a i : Nat} (h : At s out a i true) (hi : i < s.size) (ha : a ≤ i) (hc : (s[i].toNat : Int) = 92) : At s out a (i + 2) true := by
  unfold At at *
  rw [h, drop_at' s i hi, partsF_take _ _ (by omega)]
  by_cases hn : i + 1 < s.size
  · rw [drop_at' s (i + 1) hn]
    show out ++ itemsOf (partsF (cutL s.data.toList a i ++ [s[i]] ++ [s[i + 1]]) true (s.data.toList.drop (i + 1 + 1))) = _
    rw [cutL_next hi ha, cutL_next hn (by omega)]
  · rw [drop_past' s (i + 1) hn, drop_past' s (i + 2) (by omega), partsF_nil]
    show out ++ itemsOf [cutL s.data.toList a i ++ [s[i]]] = _
    rw [cutL_next hi ha, cutL_past (i := i + 1) (by omega)]
/-- At the end of it (or one past it) the last part is taken. -/
theorem At.done {s : ByteArray} {out : List ByteArray} {a i : Nat} {op : Bool} (h : At s out a i op) (hi : ¬ i < s.size) : out ++ one (s.extract a s.size) = itemsT s := by
  unfold At at h
  have e : s.data.toList.length = s.size := by simp
  have e2 : cutL s.data.toList a i = cutL s.data.toList a s.size := by
    unfold cutL; rw [List.take_of_length_le (by omega), List.take_of_length_le (by omega)]
  rw [h, drop_past' s i hi, partsF_nil, itemsOf_one, cut_text s a s.size (Nat.le_refl _), e2]
/-- A last byte 92 that takes nothing along, as the specification reads it. -/
theorem At.last {s : ByteArray} {out : List ByteArray} {a i : Nat} (h : At s out a i true) (hi : i < s.size) (ha : a ≤ i) (hc : (s[i].toNat : Int) = 92) (hn : ¬ i + 1 < s.size) : At s out a (i + 1) true := by
  have h2 := h.take hi ha hc
  unfold At at *
  rw [h2, drop_past' s (i + 1) hn, drop_past' s (i + 2) (by omega), cutL_past (i := i + 1) (by omega)]

/-! ### Slices of texts that a call owns -/
/-- The value v is a slice that is not nil and owns the texts l, in a block from B on. -/
def OwnsS (w : World) (B : Nat) (v : Value) (l : List ByteArray) : Prop := (∃ g cap, v = .slice (some ⟨g, 0, none⟩) l.length cap ∧ B ≤ g ∧ g < w.heap.size) ∧ w.ownsRow B 9 1 v l.length (l.map Value.string)

theorem OwnsS.born (w : World) : OwnsS (w.alloc (.cells #[] 9)) w.heap.size (.slice (some ⟨w.heap.size, 0, none⟩) 0 0) [] :=
  ⟨⟨w.heap.size, 0, rfl, Nat.le_refl _, by simp⟩, World.ownsRow_lit w #[] 0 (Nat.le_refl _) (by unfold maxLen; decide) rfl⟩
theorem OwnsS.alloc {w : World} {B : Nat} {v : Value} {l : List ByteArray} (h : OwnsS w B v l) (o : Obj) : OwnsS (w.alloc o) B v l := by
  obtain ⟨⟨g, cap, hv, hb, hg⟩, ho⟩ := h
  exact ⟨⟨g, cap, hv, hb, by simp; omega⟩, ho.alloc o⟩
theorem OwnsS.drew {w : World} {B : Nat} {v : Value} {l : List ByteArray} (h : OwnsS w B v l) : OwnsS w.drew B v l := h
theorem OwnsS.kept {w w' : World} {B : Nat} {v : Value} {l : List ByteArray} (h : OwnsS w B v l) (hb : Below w.heap.size w w') : OwnsS w' B v l := by
  obtain ⟨⟨g, cap, hv, hbg, hg⟩, h1, h2⟩ := h
  refine ⟨⟨g, cap, hv, hbg, by have := hb.size; omega⟩, h1, ?_⟩
  rcases h2 with h0 | ⟨g', cap', cur, hv', hb', hg', rest⟩
  · exact .inl h0
  · exact .inr ⟨g', cap', cur, hv', hb', by rw [hb.block g' (Array.getElem?_eq_some_iff.1 hg').1]; exact hg', rest⟩
theorem OwnsS.from {w : World} {B : Nat} {v : Value} {l : List ByteArray} (h : OwnsS w B v l) : ∀ k, v.ownBlock = some k → B ≤ k := fun k hk => (World.ownsRow.lt h.2 k hk).1

end Go.Proofs.YtlngleinegkoeaaGreat
namespace Go.Proofs.YtlngleinegkoeaaGreat
open Go.RowKit

/-- The marks that a token may have beside letters and digits. -/
def marks : List Int := [33, 35, 36, 37, 38, 39, 42, 43, 45, 46, 94, 95, 124, 126, 96]

end Go.Proofs.YtlngleinegkoeaaGreat
