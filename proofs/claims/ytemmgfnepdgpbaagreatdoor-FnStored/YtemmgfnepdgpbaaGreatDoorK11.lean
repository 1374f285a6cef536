/-
  Plain facts: the library's Cut at a line end and at a colon; a line as the specification reads it, byte by byte.
  The program's store as plain data: a reader's guess is what was written, wherever something was written.
  Plain facts on messages: a message is read from what it is shown as, whatever stands behind it, and of no part of it; what is read is right.
  The specification's words of a line, by their contract.
-/
import Derived.Test.YtemmgfnepdgpbaaGreatDoorK07
import Derived.Lib.IndexMore
import Derived.Test.YtemmgfnepdgpbaaGreatDoorK10
import Derived.Test.YtemmgfnepdgpbaaGreatDoorK05
namespace Go.Proofs.YtemmgfnepdgpbaaGreatDoor
open Go.RowKit

theorem cut_hit {b : UInt8} {l sub : List UInt8} (h : sub.isPrefixOf (b :: l) = true) : Lib.cut (b :: l) sub = ([], (b :: l).drop sub.length, true) := by
  unfold Lib.cut
  rw [Lib.index, if_pos h]
  simp
theorem cut_miss {b : UInt8} {l sub : List UInt8} (h : sub.isPrefixOf (b :: l) = false) : Lib.cut (b :: l) sub = if (Lib.cut l sub).2.2 = true then (b :: (Lib.cut l sub).1, (Lib.cut l sub).2.1, true) else (b :: l, [], false) := by
  have hg := Lib.index_ge l sub
  have hi : Lib.index (b :: l) sub = if Lib.index l sub == -1 then -1 else Lib.index l sub + 1 := by
    rw [Lib.index, if_neg (by rw [h]; decide)]
  unfold Lib.cut
  rw [hi]
  by_cases h1 : Lib.index l sub = -1
  · rw [h1]; simp
  · obtain ⟨n, hn⟩ : ∃ n : Nat, Lib.index l sub = n := ⟨(Lib.index l sub).toNat, by omega⟩
    rw [hn]
    have e1 : ((n : Int) == -1) = false := by simp
    have e2 : ((n : Int) + 1).toNat = n + 1 := by omega
    simp only [e1, Bool.false_eq_true, if_false, if_pos (show (0 : Int) ≤ (n : Int) + 1 by omega), if_pos (show (0 : Int) ≤ (n : Int) by omega), if_true, e2, Int.toNat_natCast, List.take_succ_cons]
    rw [show n + 1 + sub.length = (n + sub.length) + 1 from by omega, List.drop_succ_cons]
theorem cut_ln : ∀ l : List UInt8, Lib.cut l [13, 10] = match lnC l with | none => (l, [], false) | some (x, r) => (x, r, true)
  | [] => rfl
  | [c] => by
    have h : ([13, 10] : List UInt8).isPrefixOf [c] = false := by simp [List.isPrefixOf]
    rw [cut_miss h]; rfl
  | c :: d :: t => by
    by_cases h : c = 13 ∧ d = 10
    · obtain ⟨rfl, rfl⟩ := h
      rw [cut_hit (by simp [List.isPrefixOf])]
      simp [lnC]
    · have hp : ([13, 10] : List UInt8).isPrefixOf (c :: d :: t) = false := by
        simp [List.isPrefixOf]
        intro e1 e2
        exact h ⟨e1.symm, e2.symm⟩
      rw [cut_miss hp, cut_ln (d :: t)]
      conv => rhs; unfold lnC
      rw [if_neg h]
      cases e : lnC (d :: t) with
      | none => simp
      | some p => obtain ⟨x, r⟩ := p; simp
theorem cut_col : ∀ l : List UInt8, Lib.cut l [58] = match colL l with | none => (l, [], false) | some (x, r) => (x, r, true)
  | [] => rfl
  | c :: t => by
    by_cases h : c = 58
    · subst h
      rw [cut_hit (by simp [List.isPrefixOf])]
      simp [colL]
    · have hp : ([58] : List UInt8).isPrefixOf (c :: t) = false := by
        simp [List.isPrefixOf]
        exact fun e => h e.symm
      rw [cut_miss hp, cut_col t]
      conv => rhs; unfold colL
      rw [if_neg h]
      cases e : colL t with
      | none => simp
      | some p => obtain ⟨x, r⟩ := p; simp

/-! ### A line, byte by byte -/
def LnAt (s : ByteArray) (k i : Nat) : Prop := lnS (s.data.toList.drop k) = (lnS (s.data.toList.drop i)).map fun p => (cutL s.data.toList k i ++ p.1, p.2)
theorem LnAt.start (s : ByteArray) (k : Nat) : LnAt s k k := by
  unfold LnAt
  rw [cutL_self]
  cases lnS (s.data.toList.drop k) with
  | none => rfl
  | some p => rfl
theorem LnAt.next {s : ByteArray} {k i : Nat} (h : LnAt s k i) (hi : i < s.size) (hk : k ≤ i) (h13 : s[i] ≠ 13) (h10 : s[i] ≠ 10) : LnAt s k (i + 1) := by
  unfold LnAt at *
  rw [h, drop_at' s i hi, lnS_more h13 h10, Option.map_map]
  congr 1
  funext p
  show (cutL s.data.toList k i ++ (s[i] :: p.1), p.2) = (cutL s.data.toList k (i + 1) ++ p.1, p.2)
  rw [← cutL_next hi hk]
  simp
theorem LnAt.ten {s : ByteArray} {k i : Nat} (h : LnAt s k i) (hi : i < s.size) (h10 : s[i] = 10) : lnS (s.data.toList.drop k) = none := by
  unfold LnAt at h
  rw [h, drop_at' s i hi, lnS_ten h10]; rfl
theorem LnAt.done {s : ByteArray} {k i : Nat} (h : LnAt s k i) (hi : ¬ i < s.size) : lnS (s.data.toList.drop k) = none := by
  unfold LnAt at h
  rw [h, drop_past' s i hi]; rfl
theorem LnAt.lone {s : ByteArray} {k i : Nat} (h : LnAt s k i) (hi : i < s.size) (h13 : s[i] = 13) (h2 : ∀ hj : i + 1 < s.size, s[i + 1] ≠ 10) : lnS (s.data.toList.drop k) = none := by
  unfold LnAt at h
  rw [h, drop_at' s i hi, lnS_lone h13]
  · rfl
  · intro d t e
    by_cases hj : i + 1 < s.size
    · rw [drop_at' s (i + 1) hj] at e
      injection e with e1 e2
      rw [← e1]; exact h2 hj
    · rw [drop_past' s (i + 1) hj] at e; cases e
theorem LnAt.found {s : ByteArray} {k i : Nat} (h : LnAt s k i) (hj : i + 1 < s.size) (h13 : s[i]'(by omega) = 13) (h10 : s[i + 1] = 10) : lnS (s.data.toList.drop k) = some (cutL s.data.toList k i, s.data.toList.drop (i + 2)) := by
  unfold LnAt at h
  rw [h, drop_at' s i (by omega), drop_at' s (i + 1) hj, lnS_end h13 h10]
  simp
theorem byte_is {a b : UInt8} (h : (a.toNat : Int) = (b.toNat : Int)) : a = b := UInt8.toNat_inj.1 (by omega)
/-- What the specification's line answers. -/
def lineE (s : ByteArray) : Option (List UInt8 × List UInt8) → Value
  | none => .tuple #[.string ⟨#[]⟩, .int .i64 0, .bool false]
  | some (x, r) => .tuple #[.string ⟨x.toArray⟩, .int .i64 ((s.size : Int) - (r.length : Int)), .bool true]
theorem lineE_none {s : ByteArray} {o : Option (List UInt8 × List UInt8)} (h : o = none) : Ending.returned (.tuple #[.string ⟨#[]⟩, .int .i64 0, .bool false]) = .returned (lineE s o) := by subst h; rfl
theorem lineE_some {s : ByteArray} {o : Option (List UInt8 × List UInt8)} {k i : Nat} (h : o = some (cutL s.data.toList k i, s.data.toList.drop (i + 2))) (hi : i + 1 < s.size) : Ending.returned (.tuple #[.string (s.extract k i), .int .i64 ((i : Int) + 2), .bool true]) = .returned (lineE s o) := by
  subst h
  have e : (s.data.toList.drop (i + 2)).length = s.size - (i + 2) := by simp
  show _ = Ending.returned (.tuple #[.string ⟨(cutL s.data.toList k i).toArray⟩, .int .i64 ((s.size : Int) - ((s.data.toList.drop (i + 2)).length : Int)), .bool true])
  rw [e, cut_text s k i (by omega)]
  have : ((s.size : Int) - ((s.size - (i + 2) : Nat) : Int)) = (i : Int) + 2 := by omega
  rw [this]
end Go.Proofs.YtemmgfnepdgpbaaGreatDoor
namespace Go.Proofs.YtemmgfnepdgpbaaGreatDoor
open Go.RowKit St
set_option linter.unusedVariables false
set_option linter.unusedSimpArgs false

/-! ### A row -/
theorem cut_ten : ∀ l : List UInt8, Lib.cut l [10] = match ln10 l with | none => (l, [], false) | some (x, r) => (x, r, true)
  | [] => rfl
  | c :: t => by
    by_cases h : c = 10
    · subst h
      rw [cut_hit (by simp [List.isPrefixOf])]
      simp [ln10]
    · have hp : ([10] : List UInt8).isPrefixOf (c :: t) = false := by
        simp [List.isPrefixOf]
        exact fun e => h e.symm
      rw [cut_miss hp, cut_ten t]
      conv => rhs; unfold ln10
      rw [if_neg h]
      cases e : ln10 t with
      | none => simp
      | some p => obtain ⟨x, r⟩ := p; simp
/-- A row, and what stands behind it: all that is left where no row ends. -/
def rowX (d : List UInt8) : List UInt8 × List UInt8 := (ln10 d).getD (d, [])
theorem cut_row (d : List UInt8) : (Lib.cut d [10]).1 = (rowX d).1 ∧ (Lib.cut d [10]).2.1 = (rowX d).2 := by
  rw [cut_ten]
  unfold rowX
  cases ln10 d with
  | none => exact ⟨rfl, rfl⟩
  | some p => exact ⟨rfl, rfl⟩
theorem rowX_of {d x r : List UInt8} (h : ln10 d = some (x, r)) : rowX d = (x, r) := by unfold rowX; rw [h]; rfl
theorem rowX_len (d : List UInt8) : (rowX d).1.length ≤ d.length ∧ (rowX d).2.length ≤ d.length := by
  unfold rowX
  cases h : ln10 d with
  | none => exact ⟨Nat.le_refl _, Nat.zero_le _⟩
  | some p =>
    obtain ⟨x, r⟩ := p
    have := congrArg List.length (ln10_is h).1
    rw [List.length_append, List.length_cons] at this
    exact ⟨by show x.length ≤ _; omega, by show r.length ≤ _; omega⟩
theorem rowX_tail (d : List UInt8) : d.drop (d.length - (rowX d).2.length) = (rowX d).2 := by
  unfold rowX
  cases h : ln10 d with
  | none => show d.drop (d.length - 0) = []; simp
  | some p =>
    obtain ⟨x, r⟩ := p
    have e := (ln10_is h).1
    show d.drop (d.length - r.length) = r
    have e2 : d.length - r.length = (x ++ [10]).length := by rw [e]; simp; omega
    rw [e2, e, show x ++ 10 :: r = (x ++ [10]) ++ r by simp, List.drop_left]

/-! ### Words, as the library splits them -/
theorem index_byteS (c : UInt8) : ∀ s : List UInt8, Lib.index s [c] = Lib.indexByte s c
  | [] => rfl
  | b :: l => by
    rw [Lib.index, Lib.indexByte, index_byteS c l]
    by_cases h : b = c
    · subst h; simp [List.isPrefixOf]
    · have h2 : ([c] : List UInt8).isPrefixOf (b :: l) = false := by simp [List.isPrefixOf, Ne.symm h]
      have h3 : (b == c) = false := by simp [h]
      rw [h2, h3]
theorem wrdL_neS (l : List UInt8) : ∃ x xs, wrdL l = x :: xs := by
  cases l with
  | nil => exact ⟨[], [], rfl⟩
  | cons c r =>
    unfold wrdL
    split
    · exact ⟨_, _, rfl⟩
    · split
      · exact ⟨_, _, rfl⟩
      · exact ⟨_, _, rfl⟩
theorem wrd_missS : ∀ l : List UInt8, Lib.indexByte l 32 = -1 → wrdL l = [l]
  | [], _ => rfl
  | c :: l, h => by
    rw [Lib.indexByte] at h
    by_cases hc : c = 32
    · rw [if_pos (by simp [hc])] at h; cases h
    · rw [if_neg (by simp [hc])] at h
      have hge := Lib.indexByte_ge l 32
      have hl : Lib.indexByte l 32 = -1 := by
        by_cases e : Lib.indexByte l 32 = -1
        · exact e
        · rw [if_neg (by simp [e])] at h; omega
      rw [wrdL, if_neg hc, wrd_missS l hl]
theorem wrd_hitS : ∀ (l : List UInt8) (i : Nat), Lib.indexByte l 32 = (i : Int) → wrdL l = l.take i :: wrdL (l.drop (i + 1))
  | [], i, h => by rw [Lib.indexByte] at h; omega
  | c :: l, i, h => by
    rw [Lib.indexByte] at h
    by_cases hc : c = 32
    · rw [if_pos (by simp [hc])] at h
      obtain rfl : i = 0 := by omega
      rw [wrdL, if_pos hc]
      rfl
    · rw [if_neg (by simp [hc])] at h
      by_cases e : Lib.indexByte l 32 = -1
      · rw [if_pos (by simp [e])] at h; omega
      · rw [if_neg (by simp [e])] at h
        obtain ⟨j, rfl⟩ : ∃ j, i = j + 1 := ⟨i - 1, by have := Lib.indexByte_ge l 32; omega⟩
        rw [wrdL, if_neg hc, wrd_hitS l j (by omega)]
        rfl
theorem splitK_lenS : ∀ (k : Nat) (l : List UInt8), (Lib.splitK [32] 0 k l).length ≤ k + 1
  | 0, l => by rw [Lib.splitK]; simp
  | k + 1, l => by
    rw [Lib.splitK, index_byteS]
    by_cases e : Lib.indexByte l 32 = -1
    · rw [if_pos (by simp [e])]; simp
    · rw [if_neg (by simp [e]), List.length_cons]
      have := splitK_lenS k (l.drop ((Lib.indexByte l 32).toNat + 1))
      exact Nat.succ_le_succ this
theorem splitK_allS : ∀ (k : Nat) (l : List UInt8), (wrdL l).length ≤ k + 1 → Lib.splitK [32] 0 k l = wrdL l
  | 0, l, h => by
    have hge := Lib.indexByte_ge l 32
    by_cases e : Lib.indexByte l 32 = -1
    · rw [wrd_missS l e]; rfl
    · obtain ⟨i, hi⟩ := Int.eq_ofNat_of_zero_le (show 0 ≤ Lib.indexByte l 32 by omega)
      rw [wrd_hitS l i hi, List.length_cons] at h
      obtain ⟨x, xs, e2⟩ := wrdL_neS (l.drop (i + 1))
      rw [e2, List.length_cons] at h
      omega
  | k + 1, l, h => by
    rw [Lib.splitK, index_byteS]
    have hge := Lib.indexByte_ge l 32
    by_cases e : Lib.indexByte l 32 = -1
    · rw [if_pos (by simp [e]), wrd_missS l e]
    · rw [if_neg (by simp [e])]
      obtain ⟨i, hi⟩ := Int.eq_ofNat_of_zero_le (show 0 ≤ Lib.indexByte l 32 by omega)
      rw [wrd_hitS l i hi] at h ⊢
      rw [List.length_cons] at h
      rw [hi]
      show l.take i :: Lib.splitK [32] 0 k (l.drop (i + 1)) = _
      rw [splitK_allS k _ (by omega)]
theorem wrdL_fewS (l : List UInt8) : (wrdL l).length ≤ l.length + 1 := by
  induction l with
  | nil => simp [wrdL]
  | cons c r ih =>
    unfold wrdL
    split
    · rw [List.length_cons, List.length_cons]; omega
    · split
      · rename_i x xs e
        rw [e, List.length_cons] at ih
        rw [List.length_cons, List.length_cons]
        omega
      · rw [List.length_cons, List.length_nil, List.length_cons]; omega
/-- What strings.SplitN hands back at a blank and c. -/
def splN (c : Nat) (s : ByteArray) : List ByteArray := Lib.splitB ⟨#[32]⟩ 0 (min c (s.size + 1) - 1) s
theorem splN_data (c : Nat) (s : ByteArray) : (splN c s).map (·.data.toList) = Lib.splitK [32] 0 (min c (s.size + 1) - 1) s.data.toList := Lib.splitB_data _ _ _ _
theorem splN_len (c : Nat) (s : ByteArray) (hc : 1 ≤ c) : (splN c s).length ≤ c := by
  have h := congrArg List.length (splN_data c s)
  rw [List.length_map] at h
  have := splitK_lenS (min c (s.size + 1) - 1) s.data.toList
  omega
theorem splN_full (c : Nat) (s : ByteArray) (hc : 1 ≤ c) (h : (wrdL s.data.toList).length = c) : splN c s = (wrdL s.data.toList).map txtL := by
  have hd := splN_data c s
  have h2 := wrdL_fewS s.data.toList
  rw [show s.data.toList.length = s.size by simp, h] at h2
  rw [splitK_allS _ _ (by rw [h]; omega)] at hd
  rw [← hd, List.map_map]
  conv => lhs; rw [← List.map_id (splN c s)]
  exact List.map_congr_left fun x _ => (txt_id x).symm
/-- The numbers of a row, 0 for what is none. -/
def numsX (c : Nat) (s : ByteArray) : List Int := (splN c s).map (numV 10 15) ++ List.replicate (c - (splN c s).length) 0
theorem numsX_len (c : Nat) (s : ByteArray) (hc : 1 ≤ c) : (numsX c s).length = c := by
  have := splN_len c s hc
  unfold numsX
  rw [List.length_append, List.length_map, List.length_replicate]
  omega
theorem few_zero : few 0 := ⟨by decide, by decide⟩
theorem numsX_few (c : Nat) (s : ByteArray) : ∀ n ∈ numsX c s, few n := by
  intro n hn
  unfold numsX at hn
  rcases List.mem_append.1 hn with h | h
  · obtain ⟨x, _, rfl⟩ := List.mem_map.1 h
    exact numV_few x
  · rw [List.eq_of_mem_replicate h]
    exact few_zero
theorem numsX_is {c : Nat} {x : List UInt8} {ns : List Int} (hc : 1 ≤ c) (h : numsL c x = some ns) : numsX c (txtL x) = ns := by
  unfold numsL at h
  split at h
  · rename_i hh
    simp only [Option.some.injEq] at h
    unfold numsX
    rw [splN_full c (txtL x) hc hh.1, List.length_map]
    have e : (txtL x).data.toList = x := rfl
    rw [e, hh.1, Nat.sub_self, List.replicate_zero, List.append_nil, List.map_map, ← h]
    rfl
  · cases h
/-- Read so far: the numbers of the first j words, and behind them 0. -/
def tnS (c : Nat) (W : List ByteArray) (j : Nat) : List Int := (W.take j).map (numV 10 15) ++ List.replicate (c - j) 0
theorem tnS_zero (c : Nat) (W : List ByteArray) : tnS c W 0 = List.replicate c 0 := by simp [tnS]
theorem tnS_len {c j : Nat} {W : List ByteArray} (h : W.length ≤ c) (hj : j ≤ W.length) : (tnS c W j).length = c := by unfold tnS; simp; omega
theorem tnS_all (c : Nat) (W : List ByteArray) : tnS c W W.length = W.map (numV 10 15) ++ List.replicate (c - W.length) 0 := by unfold tnS; rw [List.take_length]
theorem tnS_next {c j : Nat} {W : List ByteArray} (h : W.length ≤ c) (hj : j < W.length) : (tnS c W j).set j (numV 10 15 W[j]) = tnS c W (j + 1) := by
  unfold tnS
  have e : ((W.take j).map (numV 10 15)).length = j := by simp; omega
  rw [List.set_append_right _ _ (by omega), e, Nat.sub_self, List.take_succ_eq_append_getElem hj, List.map_append, List.append_assoc]
  congr 1
  rw [show c - j = (c - (j + 1)) + 1 from by omega, List.replicate_succ, List.set_cons_zero]
  rfl

/-! ### Fields -/
/-- A guess of so many fields: where they were written, it is they. -/
def FldG (n : Nat) (d : List UInt8) (l : List Fl) (r : List UInt8) : Prop :=
  ∀ l0 t0, (∀ f ∈ l0, fldOk f = true) → l0.length = n → d = showL l0 ++ t0 → l = l0 ∧ r = t0
def FldI (n : Nat) (d : List UInt8) (j : Nat) (l : List Fl) (r : List UInt8) : Prop :=
  ∀ l0 t0, (∀ f ∈ l0, fldOk f = true) → l0.length = n → d = showL l0 ++ t0 → l = l0.take j ∧ r = showL (l0.drop j) ++ t0
theorem FldI.start (n : Nat) (d : List UInt8) : FldI n d 0 [] d := fun l0 t0 _ _ h => ⟨by simp, by simpa using h⟩
theorem drop_line {l0 : List Fl} {j : Nat} (hj : j < l0.length) (t0 : List UInt8) : showL (l0.drop j) ++ t0 = lineF l0[j] ++ [13, 10] ++ (showL (l0.drop (j + 1)) ++ t0) := by
  rw [List.drop_eq_getElem_cons hj]
  show (showF l0[j] ++ showL (l0.drop (j + 1))) ++ t0 = _
  rw [showF_line]
  simp
theorem FldI.bad {n j : Nat} {d r : List UInt8} {l : List Fl} (h : FldI n d j l r) (hj : j < n) (hr : ∀ x q, lnC r = some (x, q) → rdF x = none) (l2 : List Fl) (r2 : List UInt8) : FldG n d l2 r2 := by
  intro l0 t0 hf hl hd
  exfalso
  obtain ⟨_, h2⟩ := h l0 t0 hf hl hd
  have hj2 : j < l0.length := by omega
  have hfj := hf l0[j] (List.getElem_mem hj2)
  rw [drop_line hj2 t0] at h2
  have := hr _ _ (by rw [h2]; exact lnC_clean _ (lineF_clean hfj))
  rw [lineF_read hfj] at this
  cases this
theorem FldI.next {n j : Nat} {d r x q : List UInt8} {l : List Fl} {f : Fl} (h : FldI n d j l r) (hj : j < n) (hx : lnC r = some (x, q)) (hf : rdF x = some f) : FldI n d (j + 1) (l ++ [f]) q := by
  intro l0 t0 hok hl hd
  obtain ⟨h1, h2⟩ := h l0 t0 hok hl hd
  have hj2 : j < l0.length := by omega
  have hfj := hok l0[j] (List.getElem_mem hj2)
  rw [drop_line hj2 t0] at h2
  rw [h2, lnC_clean _ (lineF_clean hfj)] at hx
  simp only [Option.some.injEq, Prod.mk.injEq] at hx
  obtain ⟨rfl, rfl⟩ := hx
  rw [lineF_read hfj] at hf
  injection hf with hf
  exact ⟨by rw [List.take_succ_eq_append_getElem hj2, h1, hf], rfl⟩
theorem FldI.done {n : Nat} {d r : List UInt8} {l : List Fl} (h : FldI n d n l r) : FldG n d l r := by
  intro l0 t0 hf hl hd
  obtain ⟨h1, h2⟩ := h l0 t0 hf hl hd
  rw [← hl] at h1 h2
  exact ⟨by rw [h1, List.take_length], by rw [h2, List.drop_length]; rfl⟩

/-! ### The object -/
theorem guess_is {t k d1 x2 d2 x3 d3 d4 d5 y : List UInt8} {a b : List Int} {l m : List Fl} (h1 : rowX t = (k, d1)) (h2 : rowX d1 = (x2, d2)) (h3 : rowX d2 = (x3, d3))
    (ha : a = numsX 3 (txtL x2)) (hb : b = numsX 4 (txtL x3)) (hl : FldG (b.getD 0 0).toNat d3 l d4) (hm : FldG (b.getD 2 0).toNat d4 m d5)
    (hy : (b.getD 3 0).toNat ≤ d5.length → y = d5.take (b.getD 3 0).toNat) : ∀ o, obB o = true → shoL o <+: t → mkO k a b l m y = o := by
  rintro o h ⟨z, hz⟩
  have hk := obOk h
  obtain ⟨hn, hf⟩ := fldsOk_parts hk.fl
  obtain ⟨hrn, hrf⟩ := fldsOk_parts hk.rl
  have k10 : (10 : UInt8) ∉ o.k.data.toList := fun hc => by have := hk.key 10 hc; simp at this
  have nd : ∀ n : Int, (10 : UInt8) ∉ dd n := fun n => dd_not n (by decide)
  have hbl : o.r.b.data.toList.length = o.r.b.size := by simp
  have hbz := hk.bd
  have e1 : t = o.k.data.toList ++ 10 :: ((dd o.asked ++ 32 :: (dd o.got ++ 32 :: dd o.ep)) ++ 10 :: ((dd (o.l.length : Int) ++ 32 :: (dd o.r.s ++ 32 :: (dd (o.r.l.length : Int) ++ 32 :: dd (o.r.b.size : Int)))) ++ 10 :: (showL o.l ++ (showL o.r.l ++ (o.r.b.data.toList ++ 10 :: z))))) := by
    rw [← hz]
    unfold shoL hdL
    simp
  have l1 := rowX_of (ln10_at ((dd o.asked ++ 32 :: (dd o.got ++ 32 :: dd o.ep)) ++ 10 :: ((dd (o.l.length : Int) ++ 32 :: (dd o.r.s ++ 32 :: (dd (o.r.l.length : Int) ++ 32 :: dd (o.r.b.size : Int)))) ++ 10 :: (showL o.l ++ (showL o.r.l ++ (o.r.b.data.toList ++ 10 :: z))))) k10)
  rw [← e1, h1, Prod.mk.injEq] at l1
  obtain ⟨rfl, rfl⟩ := l1
  have l2 := rowX_of (ln10_at (x := dd o.asked ++ 32 :: (dd o.got ++ 32 :: dd o.ep)) ((dd (o.l.length : Int) ++ 32 :: (dd o.r.s ++ 32 :: (dd (o.r.l.length : Int) ++ 32 :: dd (o.r.b.size : Int)))) ++ 10 :: (showL o.l ++ (showL o.r.l ++ (o.r.b.data.toList ++ 10 :: z)))) (by simp [nd]))
  rw [h2, Prod.mk.injEq] at l2
  obtain ⟨rfl, rfl⟩ := l2
  have l3 := rowX_of (ln10_at (x := dd (o.l.length : Int) ++ 32 :: (dd o.r.s ++ 32 :: (dd (o.r.l.length : Int) ++ 32 :: dd (o.r.b.size : Int)))) (showL o.l ++ (showL o.r.l ++ (o.r.b.data.toList ++ 10 :: z))) (by simp [nd]))
  rw [h3, Prod.mk.injEq] at l3
  obtain ⟨rfl, rfl⟩ := l3
  have n1 := numsX_is (by decide) (nums_3 (few_of hk.asked (by decide)) (few_of hk.got (by decide)) (few_of hk.ep (by decide)))
  have n2 := numsX_is (by decide) (nums_4 (a := (o.l.length : Int)) (b := o.r.s) (c := (o.r.l.length : Int)) (d := (o.r.b.size : Int)) ⟨by omega, by omega⟩ ⟨by have := hk.st; omega, by have := hk.st; omega⟩ ⟨by omega, by omega⟩ ⟨by omega, by omega⟩)
  rw [n1] at ha
  rw [n2] at hb
  subst ha hb
  simp only [List.getD_cons_zero, List.getD_cons_succ, Int.toNat_natCast] at hl hm hy
  obtain ⟨rfl, rfl⟩ := hl o.l _ hf rfl rfl
  obtain ⟨rfl, rfl⟩ := hm o.r.l _ hrf rfl rfl
  have e2 : (o.r.b.data.toList ++ 10 :: z).take o.r.b.size = o.r.b.data.toList := by rw [← hbl]; simp
  rw [e2] at hy
  have := hy (by rw [List.length_append, hbl]; simp)
  subst this
  unfold mkO
  rw [txt_id, txt_id]
  rfl
theorem last_is {t : List UInt8} {g : Ob} (h : ∀ o, obB o = true → shoL o <+: t → g = o) : lastO t g = rdO t := by
  cases e : rdO t with
  | some o =>
    obtain ⟨h1, h2⟩ := rdO_iff.1 e
    obtain rfl := h o h1 h2
    unfold lastO
    rw [if_pos ⟨h1, h2⟩]
  | none =>
    unfold lastO
    split
    · rename_i hh
      rw [rdO_iff.2 hh] at e
      cases e
    · rfl
end Go.Proofs.YtemmgfnepdgpbaaGreatDoor
namespace Go.Proofs.YtemmgfnepdgpbaaGreatDoor
open Go.RowKit

/-! ### Words -/
theorem wrdL_cons (c : UInt8) (r : List UInt8) : wrdL (c :: r) = if c = 32 then [] :: wrdL r else match wrdL r with
    | x :: xs => (c :: x) :: xs
    | [] => [[c]] := rfl
theorem wrdL_one : ∀ {x : List UInt8}, (∀ c ∈ x, c ≠ 32) → wrdL x = [x]
  | [], _ => rfl
  | c :: r, h => by
    have h1 := h c (by simp)
    have ih := wrdL_one (x := r) fun d hd => h d (by simp [hd])
    rw [wrdL_cons, if_neg h1, ih]
theorem wrdL_app : ∀ {x : List UInt8} (y : List UInt8), (∀ c ∈ x, c ≠ 32) → wrdL (x ++ 32 :: y) = x :: wrdL y
  | [], y, _ => by simp [wrdL]
  | c :: r, y, h => by
    have h1 := h c (by simp)
    have ih := wrdL_app (x := r) y fun d hd => h d (by simp [hd])
    show wrdL (c :: (r ++ 32 :: y)) = _
    rw [wrdL_cons, if_neg h1, ih]
/-! ### Lines -/
theorem lnS_clean : ∀ {x : List UInt8} (r : List UInt8), clean x → lnS (x ++ [13, 10] ++ r) = some (x, r)
  | [], r, _ => by simp [lnS]
  | c :: t, r, h => by
    have h1 := h c (by simp)
    have ih := lnS_clean (x := t) r (fun b hb => h b (by simp [hb]))
    show lnS (c :: (t ++ [13, 10] ++ r)) = _
    rw [lnS_more h1.1 h1.2, ih]
    rfl
/-! ### Fields of a message -/
theorem void_list {b : ByteArray} (h : b.size = 0) : b.data.toList = [] := by
  apply List.eq_nil_of_length_eq_zero
  have : b.data.toList.length = b.size := by simp
  omega
/-! ### First lines -/
end Go.Proofs.YtemmgfnepdgpbaaGreatDoor
namespace Go.Proofs.YtemmgfnepdgpbaaGreatDoor
open Go.RowKit
set_option linter.unusedVariables false

def wrdS (l : List UInt8) : List ByteArray := (wrdL l).map txtL
/-- The words found so far: k bytes looked at, the next word begins at f. -/
def WrdAt (l : List UInt8) (k f : Nat) (ws : List ByteArray) : Prop :=
  (k ≤ l.length ∧ f ≤ k ∧ ws.length ≤ f ∧ (∀ c ∈ (l.drop f).take (k - f), c ≠ 32) ∧ wrdS l = ws ++ wrdS (l.drop f)) ∨ (k = l.length + 1 ∧ ws.length ≤ k ∧ wrdS l = ws)
theorem WrdAt.start (l : List UInt8) : WrdAt l 0 0 [] := .inl ⟨Nat.zero_le _, Nat.le_refl _, Nat.le_refl _, fun c hc => by simp at hc, by simp⟩
theorem WrdAt.space {l : List UInt8} {k f : Nat} {ws : List ByteArray} (h : WrdAt l k f ws) (hk : k < l.length) (h32 : l[k] = 32) : WrdAt l (k + 1) (k + 1) (ws ++ [txtL ((l.drop f).take (k - f))]) := by
  rcases h with ⟨h1, h2, h0, h3, h4⟩ | ⟨h1, _⟩
  · refine .inl ⟨by omega, Nat.le_refl _, by rw [List.length_append, List.length_singleton]; omega, fun c hc => by simp at hc, ?_⟩
    have e : l.drop f = (l.drop f).take (k - f) ++ 32 :: l.drop (k + 1) := by
      have e1 : (l.drop f).drop (k - f) = l.drop k := by rw [List.drop_drop]; congr 1; omega
      rw [← h32, ← List.drop_eq_getElem_cons hk, ← e1, List.take_append_drop]
    rw [h4]
    conv => lhs; rw [show wrdS (l.drop f) = wrdS ((l.drop f).take (k - f) ++ 32 :: l.drop (k + 1)) from congrArg wrdS e]
    unfold wrdS
    rw [wrdL_app _ h3]
    simp
  · omega
theorem WrdAt.more {l : List UInt8} {k f : Nat} {ws : List ByteArray} (h : WrdAt l k f ws) (hk : k < l.length) (h32 : l[k] ≠ 32) : WrdAt l (k + 1) f ws := by
  rcases h with ⟨h1, h2, h0, h3, h4⟩ | ⟨h1, _⟩
  · refine .inl ⟨by omega, by omega, h0, fun c hc => ?_, h4⟩
    have hl : k - f < (l.drop f).length := by rw [List.length_drop]; omega
    rw [show k + 1 - f = k - f + 1 by omega, List.take_succ_eq_append_getElem hl] at hc
    rcases List.mem_append.1 hc with hc | hc
    · exact h3 c hc
    · simp at hc
      rw [hc]
      have : l[f + (k - f)]'(by omega) = l[k] := by congr 1; omega
      rw [this]
      exact h32
  · omega
theorem WrdAt.last {l : List UInt8} {f : Nat} {ws : List ByteArray} (h : WrdAt l l.length f ws) : WrdAt l (l.length + 1) (l.length + 1) (ws ++ [txtL ((l.drop f).take (l.length - f))]) := by
  rcases h with ⟨h1, h2, h0, h3, h4⟩ | ⟨h1, _⟩
  · refine .inr ⟨rfl, by rw [List.length_append, List.length_singleton]; omega, ?_⟩
    have e : (l.drop f).take (l.length - f) = l.drop f := List.take_of_length_le (by rw [List.length_drop]; omega)
    rw [e] at h3 ⊢
    rw [h4]
    unfold wrdS
    rw [wrdL_one h3]
    rfl
  · omega
theorem WrdAt.from {l : List UInt8} {k f : Nat} {ws : List ByteArray} (h : WrdAt l k f ws) (hk : k ≤ l.length) : f ≤ k := by
  rcases h with ⟨h1, h2, _⟩ | ⟨h1, _⟩
  · exact h2
  · omega
theorem WrdAt.few {l : List UInt8} {k f : Nat} {ws : List ByteArray} (h : WrdAt l k f ws) : ws.length ≤ l.length + 1 := by
  rcases h with ⟨h1, h2, h0, _⟩ | ⟨h1, h2, _⟩ <;> omega
theorem WrdAt.all {l : List UInt8} {f : Nat} {ws : List ByteArray} (h : WrdAt l (l.length + 1) f ws) : ws = wrdS l := by
  rcases h with ⟨h1, _⟩ | ⟨_, _, h2⟩
  · omega
  · exact h2.symm
theorem cut_of (s : ByteArray) (f k : Nat) : txtL ((s.data.toList.drop f).take (k - f)) = s.extract f k := by
  refine ba_ext ?_
  show (s.data.toList.drop f).take (k - f) = _
  rw [ByteArray.data_extract, Array.toList_extract, List.extract_eq_take_drop]

set_option maxHeartbeats 1000000 in
theorem specWords (s : ByteArray) (w : World) (hs : s.size ≤ 1048576) :
    Calls Tryz.prog 78 #[.string s] w fun e w' => ∃ u, e = .returned u ∧ OwnsS w' w.heap.size u (wrdS s.data.toList) ∧ Below w.heap.size w w' := by
  have hsl : s.data.toList.length = s.size := by simp
  have HSL : Hid (s.data.toList.length = s.size) := hsl
  go_enter Tryz.func78, Tryz.ntmps78
  go_wp2
  go_loopw [3, 4, 5] (fun a b i wr => ∃ (k f : Nat) (ws : List ByteArray), i = .int .i64 k ∧ b = .int .i64 f ∧ k ≤ s.size + 1 ∧ f ≤ s.size + 1 ∧ Hid (WrdAt s.data.toList k f ws) ∧ OwnsS wr w.heap.size a ws ∧ Hid (Below w.heap.size w wr)) (fun _ _ i _ => s.size + 1 - (intOf i).toNat)
  case atStart => exact ⟨0, 0, [], rfl, rfl, Nat.zero_le _, Nat.zero_le _, WrdAt.start _, OwnsS.born w, (Below.refl _ w).alloc (Nat.le_refl _) _⟩
  case round =>
    obtain ⟨k, f, ws, rfl, rfl, hk, hf, hw, ho, hb⟩ := hrel
    have hfew := hw.out.few
    rw [hsl] at hfew
    clear hsl
    by_cases hend : k ≤ s.size
    · have hfk := hw.out.from (by rw [HSL.out]; exact hend)
      by_cases hlt : k < s.size
      · have hne : ((k : Int) == (s.size : Int)) = false := by simp; omega
        by_cases h32 : (s[k].toNat : Int) = 32
        · have HN : Hid (WrdAt s.data.toList (k + 1) (k + 1) (ws ++ [s.extract f k])) := by
            have := hw.out.space (by rw [HSL.out]; exact hlt) (show s[k] = 32 from UInt8.toNat_inj.1 (by rw [show (32 : UInt8).toNat = 32 from rfl]; omega))
            rw [cut_of] at this
            exact this
          go_wp2_with (at_builtin; refine wpList_pushS _ rfl (.tmp 23) (.tmp 28) rfl w.heap.size _ ws (s.extract f k) rfl ho rfl (by omega) hb.out.size ?_; intro v2 w2 ho2 hg2; have B2 : Hid (Below w.heap.size w w2) := hb.out.grown hg2 hb.out.size (OwnsS.from ho); clear hg2)
          go_roundw
          case rel => exact ⟨k + 1, k + 1, _, by go_num, by go_num, by omega, by omega, HN, ho2, B2⟩
          case measure => simp [intOf]; omega
        · have HN : Hid (WrdAt s.data.toList (k + 1) f ws) := hw.out.more (by rw [HSL.out]; exact hlt) (show s[k] ≠ 32 from fun e => h32 (by rw [e]; rfl))
          have h32b : ((s[k].toNat : Int) == 32) = false := by simpa using h32
          go_wp2
          go_roundw
          case rel => exact ⟨k + 1, f, ws, by go_num, rfl, by omega, hf, HN, ho, hb⟩
          case measure => simp [intOf]; omega
      · obtain rfl : k = s.size := by omega
        have HN : Hid (WrdAt s.data.toList (s.size + 1) (s.size + 1) (ws ++ [s.extract f s.size])) := by
          have := hw.out
          rw [← HSL.out] at this
          have := this.last
          rw [HSL.out, cut_of] at this
          exact this
        go_wp2_with (at_builtin; refine wpList_pushS _ rfl (.tmp 23) (.tmp 28) rfl w.heap.size _ ws (s.extract f s.size) rfl ho rfl (by omega) hb.out.size ?_; intro v2 w2 ho2 hg2; have B2 : Hid (Below w.heap.size w w2) := hb.out.grown hg2 hb.out.size (OwnsS.from ho); clear hg2)
        go_roundw
        case rel => exact ⟨s.size + 1, s.size + 1, _, by go_num, by go_num, by omega, by omega, HN, ho2, B2⟩
        case measure => simp [intOf] <;> omega
    · obtain rfl : k = s.size + 1 := by omega
      have HW : Hid (ws = wrdS s.data.toList) := by
        have := hw.out
        rw [← HSL.out] at this
        exact this.all
      have hgt : ¬ (((s.size + 1 : Nat) : Int) ≤ (s.size : Int)) := by omega
      go_wp2
      go_ret
      refine ⟨_, rfl, ?_, hb.out⟩
      rw [← HW.out]
      exact ho
end Go.Proofs.YtemmgfnepdgpbaaGreatDoor
