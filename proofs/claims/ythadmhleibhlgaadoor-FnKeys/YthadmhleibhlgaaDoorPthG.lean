/-
  Plain facts on keys: where a target is cut, and what Key answers.
-/
import Derived.Test.YthadmhleibhlgaaDoorPthC
import Derived.Test.YthadmhleibhlgaaDoorPthF
import Derived.Test.YthadmhleibhlgaaDoorLow
import Derived.Test.YthadmhleibhlgaaDoorTok2
import Derived.Lib.CutLaws
namespace Go.Proofs.YthadmhleibhlgaaDoor
open Go.RowKit

theorem index_at {d : UInt8} : ∀ (a b : List UInt8), d ∉ a → Lib.index (a ++ d :: b) [d] = a.length
  | [], b, _ => by rw [List.nil_append, Lib.index]; simp [List.isPrefixOf]
  | c :: a, b, h => by
    have hc : c ≠ d := fun e => h (by simp [e])
    have hp : ([d] : List UInt8).isPrefixOf (c :: (a ++ d :: b)) = false := by simp [List.isPrefixOf, Ne.symm hc]
    have ih := index_at (d := d) a b (fun e => h (by simp [e]))
    rw [List.cons_append, Lib.index, hp, ih]
    rw [if_neg (by simp), if_neg (by simp)]
    simp
theorem index_free {d : UInt8} : ∀ (l : List UInt8), d ∉ l → Lib.index l [d] = -1
  | [], _ => by simp [Lib.index]
  | c :: l, h => by
    have hc : c ≠ d := fun e => h (by simp [e])
    have hp : ([d] : List UInt8).isPrefixOf (c :: l) = false := by simp [List.isPrefixOf, Ne.symm hc]
    have ih := index_free (d := d) l (fun e => h (by simp [e]))
    rw [Lib.index, hp, ih]
    simp
/-- The path and the query of a target. -/
def keyP (t : ByteArray) : ByteArray := ⟨(Lib.cut t.data.toList [63]).1.toArray⟩
def keyQ (t : ByteArray) : ByteArray := ⟨(Lib.cut t.data.toList [63]).2.1.toArray⟩
theorem key_miss {t : ByteArray} (h : Lib.indexB t ⟨#[63]⟩ = -1) : keyP t = t ∧ keyQ t = ⟨#[]⟩ :=
  ⟨(Lib.cutB_miss t ⟨#[63]⟩ h).1, (Lib.cutB_miss t ⟨#[63]⟩ h).2.1⟩
theorem key_hit {t : ByteArray} {i : Nat} (h : Lib.indexB t ⟨#[63]⟩ = i) : keyP t = t.extract 0 i ∧ keyQ t = t.extract (i + 1) t.size :=
  ⟨(Lib.cutB_hit t ⟨#[63]⟩ i h).1, (Lib.cutB_hit t ⟨#[63]⟩ i h).2.1⟩
theorem key_size (t : ByteArray) : (keyP t).size ≤ t.size ∧ (keyQ t).size ≤ t.size := by
  rcases Lib.indexB_cases t ⟨#[63]⟩ with h | ⟨i, h, _⟩
  · obtain ⟨e1, e2⟩ := key_miss h
    rw [e1, e2]
    exact ⟨Nat.le_refl _, Nat.zero_le _⟩
  · obtain ⟨e1, e2⟩ := key_hit h
    rw [e1, e2, ByteArray.size_extract, ByteArray.size_extract]
    exact ⟨by omega, by omega⟩
/-- No byte 63 among the first k. -/
def NoQ (t : ByteArray) (k : Nat) : Prop := (63 : UInt8) ∉ t.data.toList.take k
theorem NoQ.zero (t : ByteArray) : NoQ t 0 := by unfold NoQ; simp
theorem NoQ.next {t : ByteArray} {k : Nat} (h : NoQ t k) (hk : k < t.size) (hc : (t[k].toNat : Int) ≠ 63) : NoQ t (k + 1) := by
  unfold NoQ at *
  rw [take_snoc t k hk]
  intro hm
  rcases List.mem_append.1 hm with hm | hm
  · exact h hm
  · simp at hm
    exact hc (by rw [← hm]; rfl)
theorem NoQ.hit {t : ByteArray} {k : Nat} (h : NoQ t k) (hk : k < t.size) (hc : (t[k].toNat : Int) = 63) : keyP t = t.extract 0 k ∧ keyQ t = t.extract (k + 1) t.size := by
  refine key_hit ?_
  show Lib.index t.data.toList [63] = k
  have e : t.data.toList = t.data.toList.take k ++ 63 :: t.data.toList.drop (k + 1) := by
    conv => lhs; rw [← List.take_append_drop k t.data.toList, drop_at3 t k hk, byte_eq (b := 63) hc]
  have hl : (t.data.toList.take k).length = k := by
    rw [List.length_take]
    have : t.data.toList.length = t.size := by simp
    omega
  rw [e, index_at _ _ h, hl]
theorem NoQ.miss {t : ByteArray} {k : Nat} (h : NoQ t k) (hk : ¬ k < t.size) : keyP t = t ∧ keyQ t = ⟨#[]⟩ := by
  refine key_miss ?_
  show Lib.index t.data.toList [63] = -1
  unfold NoQ at h
  rw [take_all t k hk] at h
  exact index_free _ h
theorem app_assoc (a b c : ByteArray) : a ++ b ++ c = a ++ (b ++ c) := by
  apply ext_bytes
  simp [ByteArray.data_append]
theorem lowS_size (h : ByteArray) : (lowS h).size = h.size := by
  show (h.data.toList.map lowB).toArray.size = _
  simp
/-- What Key answers. -/
def keyA (h t : ByteArray) : Option ByteArray :=
  match nrmA (keyP t) with
  | none => none
  | some p => if tokB h = true then (if 0 < (qryA (keyQ t)).size then some (lowS h ++ (p ++ (⟨#[63]⟩ ++ qryA (keyQ t)))) else some (lowS h ++ p)) else none
def keyT (h t : ByteArray) : ByteArray := (keyA h t).getD ⟨#[]⟩
def keyE (h t : ByteArray) : Value := .tuple #[.string (keyT h t), .bool (keyA h t).isSome]
theorem keyE_none {h t : ByteArray} (e : keyA h t = none) : Ending.returned (.tuple #[.string ⟨#[]⟩, .bool false]) = .returned (keyE h t) := by
  unfold keyE keyT; rw [e]; rfl
theorem keyE_some {h t k k' : ByteArray} (e : keyA h t = some k) (e2 : k' = k) : Ending.returned (.tuple #[.string k', .bool true]) = .returned (keyE h t) := by
  unfold keyE keyT; rw [e, e2]; rfl
theorem keyA_nrm {h t : ByteArray} (e : nrmA (keyP t) = none) : keyA h t = none := by unfold keyA; rw [e]
theorem keyA_tok {h t p : ByteArray} (e : nrmA (keyP t) = some p) (e2 : tokB h = false) : keyA h t = none := by
  unfold keyA; rw [e]; simp [e2]
theorem keyA_with {h t p : ByteArray} (e : nrmA (keyP t) = some p) (e2 : tokB h = true) (e3 : 0 < (qryA (keyQ t)).size) : keyA h t = some (lowS h ++ (p ++ (⟨#[63]⟩ ++ qryA (keyQ t)))) := by
  unfold keyA; rw [e]; simp [e2, e3]
theorem keyA_bare {h t p : ByteArray} (e : nrmA (keyP t) = some p) (e2 : tokB h = true) (e3 : ¬ 0 < (qryA (keyQ t)).size) : keyA h t = some (lowS h ++ p) := by
  unfold keyA; rw [e]; simp only; rw [if_pos e2, if_neg e3]
theorem tok_size {h : ByteArray} (e : tokB h = true) : h.size ≤ 64 := by
  unfold tokB at e
  rw [Bool.and_eq_true] at e
  exact (of_decide_eq_true e.1).2
end Go.Proofs.YthadmhleibhlgaaDoor
