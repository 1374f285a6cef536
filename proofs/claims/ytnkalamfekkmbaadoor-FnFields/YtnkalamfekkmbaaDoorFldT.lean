/-
  Plain facts: the library's Cut at a line end and at a colon; a line as the specification reads it, byte by byte.
-/
import Derived.Test.YtnkalamfekkmbaaDoorFldQ
import Derived.Lib.IndexMore
namespace Go.Proofs.YtnkalamfekkmbaaDoor
open Go.RowKit

theorem cut_hit {b : UInt8} {l sub : List UInt8} (h : sub.isPrefixOf (b :: l) = true) : Lib.cut (b :: l) sub = ([], (b :: l).drop sub.length, true) := by
  unfold Lib.cut
  rw [Lib.index, if_pos h]
  simp
theorem cut_miss {b : UInt8} {l sub : List UInt8} (h : sub.isPrefixOf (b :: l) = false) : Lib.cut (b :: l) sub = if (Lib.cut l sub).2.2 = true then (b :: (Lib.cut l sub).1, (Lib.cut l sub).2.1, true) else (b :: l, [], false) := by
  have hg := Lib.index_ge l sub
  have hi : Lib.index (b :: l) sub = if Lib.index l sub == -1 then -1 else Lib.index l sub + 1 := by
    rw [Lib.index, if_neg (by rw [h]; decide)]
  unfold Lib.cut
  rw [hi]
  by_cases h1 : Lib.index l sub = -1
  · rw [h1]; simp
  · obtain ⟨n, hn⟩ : ∃ n : Nat, Lib.index l sub = n := ⟨(Lib.index l sub).toNat, by omega⟩
    rw [hn]
    have e1 : ((n : Int) == -1) = false := by simp
    have e2 : ((n : Int) + 1).toNat = n + 1 := by omega
    simp only [e1, Bool.false_eq_true, if_false, if_pos (show (0 : Int) ≤ (n : Int) + 1 by omega), if_pos (show (0 : Int) ≤ (n : Int) by omega), if_true, e2, Int.toNat_natCast, List.take_succ_cons]
    rw [show n + 1 + sub.length = (n + sub.length) + 1 from by omega, List.drop_succ_cons]
theorem cut_ln : ∀ l : List UInt8, Lib.cut l [13, 10] = match lnC l with | none => (l, [], false) | some (x, r) => (x, r, true)
  | [] => rfl
  | [c] => by
    have h : ([13, 10] : List UInt8).isPrefixOf [c] = false := by simp [List.isPrefixOf]
    rw [cut_miss h]; rfl
  | c :: d :: t => by
    by_cases h : c = 13 ∧ d = 10
    · obtain ⟨rfl, rfl⟩ := h
      rw [cut_hit (by simp [List.isPrefixOf])]
      simp [lnC]
    · have hp : ([13, 10] : List UInt8).isPrefixOf (c :: d :: t) = false := by
        simp [List.isPrefixOf]
        intro e1 e2
        exact h ⟨e1.symm, e2.symm⟩
      rw [cut_miss hp, cut_ln (d :: t)]
      conv => rhs; unfold lnC
      rw [if_neg h]
      cases e : lnC (d :: t) with
      | none => simp
      | some p => obtain ⟨x, r⟩ := p; simp
theorem cut_col : ∀ l : List UInt8, Lib.cut l [58] = match colL l with | none => (l, [], false) | some (x, r) => (x, r, true)
  | [] => rfl
  | c :: t => by
    by_cases h : c = 58
    · subst h
      rw [cut_hit (by simp [List.isPrefixOf])]
      simp [colL]
    · have hp : ([58] : List UInt8).isPrefixOf (c :: t) = false := by
        simp [List.isPrefixOf]
        exact fun e => h e.symm
      rw [cut_miss hp, cut_col t]
      conv => rhs; unfold colL
      rw [if_neg h]
      cases e : colL t with
      | none => simp
      | some p => obtain ⟨x, r⟩ := p; simp

/-! ### A line, byte by byte -/
def LnAt (s : ByteArray) (k i : Nat) : Prop := lnS (s.data.toList.drop k) = (lnS (s.data.toList.drop i)).map fun p => (cutL s.data.toList k i ++ p.1, p.2)
theorem LnAt.start (s : ByteArray) (k : Nat) : LnAt s k k := by
  unfold LnAt
  rw [cutL_self]
  cases lnS (s.data.toList.drop k) with
  | none => rfl
  | some p => rfl
theorem LnAt.next {s : ByteArray} {k i : Nat} (h : LnAt s k i) (hi : i < s.size) (hk : k ≤ i) (h13 : s[i] ≠ 13) (h10 : s[i] ≠ 10) : LnAt s k (i + 1) := by
  unfold LnAt at *
  rw [h, drop_at' s i hi, lnS_more h13 h10, Option.map_map]
  congr 1
  funext p
  show (cutL s.data.toList k i ++ (s[i] :: p.1), p.2) = (cutL s.data.toList k (i + 1) ++ p.1, p.2)
  rw [← cutL_next hi hk]
  simp
theorem LnAt.ten {s : ByteArray} {k i : Nat} (h : LnAt s k i) (hi : i < s.size) (h10 : s[i] = 10) : lnS (s.data.toList.drop k) = none := by
  unfold LnAt at h
  rw [h, drop_at' s i hi, lnS_ten h10]; rfl
theorem LnAt.done {s : ByteArray} {k i : Nat} (h : LnAt s k i) (hi : ¬ i < s.size) : lnS (s.data.toList.drop k) = none := by
  unfold LnAt at h
  rw [h, drop_past' s i hi]; rfl
theorem LnAt.lone {s : ByteArray} {k i : Nat} (h : LnAt s k i) (hi : i < s.size) (h13 : s[i] = 13) (h2 : ∀ hj : i + 1 < s.size, s[i + 1] ≠ 10) : lnS (s.data.toList.drop k) = none := by
  unfold LnAt at h
  rw [h, drop_at' s i hi, lnS_lone h13]
  · rfl
  · intro d t e
    by_cases hj : i + 1 < s.size
    · rw [drop_at' s (i + 1) hj] at e
      injection e with e1 e2
      rw [← e1]; exact h2 hj
    · rw [drop_past' s (i + 1) hj] at e; cases e
theorem LnAt.found {s : ByteArray} {k i : Nat} (h : LnAt s k i) (hj : i + 1 < s.size) (h13 : s[i]'(by omega) = 13) (h10 : s[i + 1] = 10) : lnS (s.data.toList.drop k) = some (cutL s.data.toList k i, s.data.toList.drop (i + 2)) := by
  unfold LnAt at h
  rw [h, drop_at' s i (by omega), drop_at' s (i + 1) hj, lnS_end h13 h10]
  simp
theorem byte_is {a b : UInt8} (h : (a.toNat : Int) = (b.toNat : Int)) : a = b := UInt8.toNat_inj.1 (by omega)
/-- What the specification's line answers. -/
def lineE (s : ByteArray) : Option (List UInt8 × List UInt8) → Value
  | none => .tuple #[.string ⟨#[]⟩, .int .i64 0, .bool false]
  | some (x, r) => .tuple #[.string ⟨x.toArray⟩, .int .i64 ((s.size : Int) - (r.length : Int)), .bool true]
theorem lineE_none {s : ByteArray} {o : Option (List UInt8 × List UInt8)} (h : o = none) : Ending.returned (.tuple #[.string ⟨#[]⟩, .int .i64 0, .bool false]) = .returned (lineE s o) := by subst h; rfl
theorem lineE_some {s : ByteArray} {o : Option (List UInt8 × List UInt8)} {k i : Nat} (h : o = some (cutL s.data.toList k i, s.data.toList.drop (i + 2))) (hi : i + 1 < s.size) : Ending.returned (.tuple #[.string (s.extract k i), .int .i64 ((i : Int) + 2), .bool true]) = .returned (lineE s o) := by
  subst h
  have e : (s.data.toList.drop (i + 2)).length = s.size - (i + 2) := by simp
  show _ = Ending.returned (.tuple #[.string ⟨(cutL s.data.toList k i).toArray⟩, .int .i64 ((s.size : Int) - ((s.data.toList.drop (i + 2)).length : Int)), .bool true])
  rw [e, cut_text s k i (by omega)]
  have : ((s.size : Int) - ((s.size - (i + 2) : Nat) : Int)) = (i : Int) + 2 := by omega
  rw [this]
end Go.Proofs.YtnkalamfekkmbaaDoor
