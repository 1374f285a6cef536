/-
  Plain facts: the library's Cut at a line end and at a colon; a line as the specification reads it, byte by byte.
  The program's store as plain data: a reader's guess is what was written, wherever something was written.
  Plain facts on messages: a message is read from what it is shown as, whatever stands behind it, and of no part of it; what is read is right.
-/
import Derived.Test.YtemmgfnepdgpbaaGreatDoorJ07
import Derived.Lib.IndexMore
import Derived.Test.YtemmgfnepdgpbaaGreatDoorJ10
namespace Go.Proofs.YtemmgfnepdgpbaaGreatDoor
open Go.RowKit

theorem cut_hit {b : UInt8} {l sub : List UInt8} (h : sub.isPrefixOf (b :: l) = true) : Lib.cut (b :: l) sub = ([], (b :: l).drop sub.length, true) := by
  unfold Lib.cut
  rw [Lib.index, if_pos h]
  simp
theorem cut_miss {b : UInt8} {l sub : List UInt8} (h : sub.isPrefixOf (b :: l) = false) : Lib.cut (b :: l) sub = if (Lib.cut l sub).2.2 = true then (b :: (Lib.cut l sub).1, (Lib.cut l sub).2.1, true) else (b :: l, [], false) := by
  have hg := Lib.index_ge l sub
  have hi : Lib.index (b :: l) sub = if Lib.index l sub == -1 then -1 else Lib.index l sub + 1 := by
    rw [Lib.index, if_neg (by rw [h]; decide)]
  unfold Lib.cut
  rw [hi]
  by_cases h1 : Lib.index l sub = -1
  · rw [h1]; simp
  · obtain ⟨n, hn⟩ : ∃ n : Nat, Lib.index l sub = n := ⟨(Lib.index l sub).toNat, by omega⟩
    rw [hn]
    have e1 : ((n : Int) == -1) = false := by simp
    have e2 : ((n : Int) + 1).toNat = n + 1 := by omega
    simp only [e1, Bool.false_eq_true, if_false, if_pos (show (0 : Int) ≤ (n : Int) + 1 by omega), if_pos (show (0 : Int) ≤ (n : Int) by omega), if_true, e2, Int.toNat_natCast, List.take_succ_cons]
    rw [show n + 1 + sub.length = (n + sub.length) + 1 from by omega, List.drop_succ_cons]
/-! ### A line, byte by byte -/
def LnAt (s : ByteArray) (k i : Nat) : Prop := lnS (s.data.toList.drop k) = (lnS (s.data.toList.drop i)).map fun p => (cutL s.data.toList k i ++ p.1, p.2)
theorem LnAt.start (s : ByteArray) (k : Nat) : LnAt s k k := by
  unfold LnAt
  rw [cutL_self]
  cases lnS (s.data.toList.drop k) with
  | none => rfl
  | some p => rfl
theorem LnAt.next {s : ByteArray} {k i : Nat} (h : LnAt s k i) (hi : i < s.size) (hk : k ≤ i) (h13 : s[i] ≠ 13) (h10 : s[i] ≠ 10) : LnAt s k (i + 1) := by
  unfold LnAt at *
  rw [h, drop_at' s i hi, lnS_more h13 h10, Option.map_map]
  congr 1
  funext p
  show (cutL s.data.toList k i ++ (s[i] :: p.1), p.2) = (cutL s.data.toList k (i + 1) ++ p.1, p.2)
  rw [← cutL_next hi hk]
  simp
theorem LnAt.ten {s : ByteArray} {k i : Nat} (h : LnAt s k i) (hi : i < s.size) (h10 : s[i] = 10) : lnS (s.data.toList.drop k) = none := by
  unfold LnAt at h
  rw [h, drop_at' s i hi, lnS_ten h10]; rfl
theorem LnAt.done {s : ByteArray} {k i : Nat} (h : LnAt s k i) (hi : ¬ i < s.size) : lnS (s.data.toList.drop k) = none := by
  unfold LnAt at h
  rw [h, drop_past' s i hi]; rfl
theorem LnAt.found {s : ByteArray} {k i : Nat} (h : LnAt s k i) (hj : i + 1 < s.size) (h13 : s[i]'(by omega) = 13) (h10 : s[i + 1] = 10) : lnS (s.data.toList.drop k) = some (cutL s.data.toList k i, s.data.toList.drop (i + 2)) := by
  unfold LnAt at h
  rw [h, drop_at' s i (by omega), drop_at' s (i + 1) hj, lnS_end h13 h10]
  simp
end Go.Proofs.YtemmgfnepdgpbaaGreatDoor
namespace Go.Proofs.YtemmgfnepdgpbaaGreatDoor
open Go.RowKit St
set_option linter.unusedVariables false
set_option linter.unusedSimpArgs false

/-! ### A row -/
theorem cut_ten : ∀ l : List UInt8, Lib.cut l [10] = match ln10 l with | none => (l, [], false) | some (x, r) => (x, r, true)
  | [] => rfl
  | c :: t => by
    by_cases h : c = 10
    · subst h
      rw [cut_hit (by simp [List.isPrefixOf])]
      simp [ln10]
    · have hp : ([10] : List UInt8).isPrefixOf (c :: t) = false := by
        simp [List.isPrefixOf]
        exact fun e => h e.symm
      rw [cut_miss hp, cut_ten t]
      conv => rhs; unfold ln10
      rw [if_neg h]
      cases e : ln10 t with
      | none => simp
      | some p => obtain ⟨x, r⟩ := p; simp
/-- A row, and what stands behind it: all that is left where no row ends. -/
def rowX (d : List UInt8) : List UInt8 × List UInt8 := (ln10 d).getD (d, [])
theorem cut_row (d : List UInt8) : (Lib.cut d [10]).1 = (rowX d).1 ∧ (Lib.cut d [10]).2.1 = (rowX d).2 := by
  rw [cut_ten]
  unfold rowX
  cases ln10 d with
  | none => exact ⟨rfl, rfl⟩
  | some p => exact ⟨rfl, rfl⟩
theorem rowX_of {d x r : List UInt8} (h : ln10 d = some (x, r)) : rowX d = (x, r) := by unfold rowX; rw [h]; rfl
theorem rowX_len (d : List UInt8) : (rowX d).1.length ≤ d.length ∧ (rowX d).2.length ≤ d.length := by
  unfold rowX
  cases h : ln10 d with
  | none => exact ⟨Nat.le_refl _, Nat.zero_le _⟩
  | some p =>
    obtain ⟨x, r⟩ := p
    have := congrArg List.length (ln10_is h).1
    rw [List.length_append, List.length_cons] at this
    exact ⟨by show x.length ≤ _; omega, by show r.length ≤ _; omega⟩
theorem rowX_tail (d : List UInt8) : d.drop (d.length - (rowX d).2.length) = (rowX d).2 := by
  unfold rowX
  cases h : ln10 d with
  | none => show d.drop (d.length - 0) = []; simp
  | some p =>
    obtain ⟨x, r⟩ := p
    have e := (ln10_is h).1
    show d.drop (d.length - r.length) = r
    have e2 : d.length - r.length = (x ++ [10]).length := by rw [e]; simp; omega
    rw [e2, e, show x ++ 10 :: r = (x ++ [10]) ++ r by simp, List.drop_left]

/-! ### Words, as the library splits them -/
theorem index_byteS (c : UInt8) : ∀ s : List UInt8, Lib.index s [c] = Lib.indexByte s c
  | [] => rfl
  | b :: l => by
    rw [Lib.index, Lib.indexByte, index_byteS c l]
    by_cases h : b = c
    · subst h; simp [List.isPrefixOf]
    · have h2 : ([c] : List UInt8).isPrefixOf (b :: l) = false := by simp [List.isPrefixOf, Ne.symm h]
      have h3 : (b == c) = false := by simp [h]
      rw [h2, h3]
theorem wrdL_neS (l : List UInt8) : ∃ x xs, wrdL l = x :: xs := by
  cases l with
  | nil => exact ⟨[], [], rfl⟩
  | cons c r =>
    unfold wrdL
    split
    · exact ⟨_, _, rfl⟩
    · split
      · exact ⟨_, _, rfl⟩
      · exact ⟨_, _, rfl⟩
theorem wrd_missS : ∀ l : List UInt8, Lib.indexByte l 32 = -1 → wrdL l = [l]
  | [], _ => rfl
  | c :: l, h => by
    rw [Lib.indexByte] at h
    by_cases hc : c = 32
    · rw [if_pos (by simp [hc])] at h; cases h
    · rw [if_neg (by simp [hc])] at h
      have hge := Lib.indexByte_ge l 32
      have hl : Lib.indexByte l 32 = -1 := by
        by_cases e : Lib.indexByte l 32 = -1
        · exact e
        · rw [if_neg (by simp [e])] at h; omega
      rw [wrdL, if_neg hc, wrd_missS l hl]
theorem wrd_hitS : ∀ (l : List UInt8) (i : Nat), Lib.indexByte l 32 = (i : Int) → wrdL l = l.take i :: wrdL (l.drop (i + 1))
  | [], i, h => by rw [Lib.indexByte] at h; omega
  | c :: l, i, h => by
    rw [Lib.indexByte] at h
    by_cases hc : c = 32
    · rw [if_pos (by simp [hc])] at h
      obtain rfl : i = 0 := by omega
      rw [wrdL, if_pos hc]
      rfl
    · rw [if_neg (by simp [hc])] at h
      by_cases e : Lib.indexByte l 32 = -1
      · rw [if_pos (by simp [e])] at h; omega
      · rw [if_neg (by simp [e])] at h
        obtain ⟨j, rfl⟩ : ∃ j, i = j + 1 := ⟨i - 1, by have := Lib.indexByte_ge l 32; omega⟩
        rw [wrdL, if_neg hc, wrd_hitS l j (by omega)]
        rfl
theorem splitK_lenS : ∀ (k : Nat) (l : List UInt8), (Lib.splitK [32] 0 k l).length ≤ k + 1
  | 0, l => by rw [Lib.splitK]; simp
  | k + 1, l => by
    rw [Lib.splitK, index_byteS]
    by_cases e : Lib.indexByte l 32 = -1
    · rw [if_pos (by simp [e])]; simp
    · rw [if_neg (by simp [e]), List.length_cons]
      have := splitK_lenS k (l.drop ((Lib.indexByte l 32).toNat + 1))
      exact Nat.succ_le_succ this
theorem splitK_allS : ∀ (k : Nat) (l : List UInt8), (wrdL l).length ≤ k + 1 → Lib.splitK [32] 0 k l = wrdL l
  | 0, l, h => by
    have hge := Lib.indexByte_ge l 32
    by_cases e : Lib.indexByte l 32 = -1
    · rw [wrd_missS l e]; rfl
    · obtain ⟨i, hi⟩ := Int.eq_ofNat_of_zero_le (show 0 ≤ Lib.indexByte l 32 by omega)
      rw [wrd_hitS l i hi, List.length_cons] at h
      obtain ⟨x, xs, e2⟩ := wrdL_neS (l.drop (i + 1))
      rw [e2, List.length_cons] at h
      omega
  | k + 1, l, h => by
    rw [Lib.splitK, index_byteS]
    have hge := Lib.indexByte_ge l 32
    by_cases e : Lib.indexByte l 32 = -1
    · rw [if_pos (by simp [e]), wrd_missS l e]
    · rw [if_neg (by simp [e])]
      obtain ⟨i, hi⟩ := Int.eq_ofNat_of_zero_le (show 0 ≤ Lib.indexByte l 32 by omega)
      rw [wrd_hitS l i hi] at h ⊢
      rw [List.length_cons] at h
      rw [hi]
      show l.take i :: Lib.splitK [32] 0 k (l.drop (i + 1)) = _
      rw [splitK_allS k _ (by omega)]
theorem wrdL_fewS (l : List UInt8) : (wrdL l).length ≤ l.length + 1 := by
  induction l with
  | nil => simp [wrdL]
  | cons c r ih =>
    unfold wrdL
    split
    · rw [List.length_cons, List.length_cons]; omega
    · split
      · rename_i x xs e
        rw [e, List.length_cons] at ih
        rw [List.length_cons, List.length_cons]
        omega
      · rw [List.length_cons, List.length_nil, List.length_cons]; omega
/-- What strings.SplitN hands back at a blank and c. -/
def splN (c : Nat) (s : ByteArray) : List ByteArray := Lib.splitB ⟨#[32]⟩ 0 (min c (s.size + 1) - 1) s
theorem splN_data (c : Nat) (s : ByteArray) : (splN c s).map (·.data.toList) = Lib.splitK [32] 0 (min c (s.size + 1) - 1) s.data.toList := Lib.splitB_data _ _ _ _
theorem splN_len (c : Nat) (s : ByteArray) (hc : 1 ≤ c) : (splN c s).length ≤ c := by
  have h := congrArg List.length (splN_data c s)
  rw [List.length_map] at h
  have := splitK_lenS (min c (s.size + 1) - 1) s.data.toList
  omega
theorem splN_full (c : Nat) (s : ByteArray) (hc : 1 ≤ c) (h : (wrdL s.data.toList).length = c) : splN c s = (wrdL s.data.toList).map txtL := by
  have hd := splN_data c s
  have h2 := wrdL_fewS s.data.toList
  rw [show s.data.toList.length = s.size by simp, h] at h2
  rw [splitK_allS _ _ (by rw [h]; omega)] at hd
  rw [← hd, List.map_map]
  conv => lhs; rw [← List.map_id (splN c s)]
  exact List.map_congr_left fun x _ => (txt_id x).symm
/-- The numbers of a row, 0 for what is none. -/
def numsX (c : Nat) (s : ByteArray) : List Int := (splN c s).map (numV 10 15) ++ List.replicate (c - (splN c s).length) 0
theorem numsX_len (c : Nat) (s : ByteArray) (hc : 1 ≤ c) : (numsX c s).length = c := by
  have := splN_len c s hc
  unfold numsX
  rw [List.length_append, List.length_map, List.length_replicate]
  omega
theorem few_zero : few 0 := ⟨by decide, by decide⟩
theorem numsX_few (c : Nat) (s : ByteArray) : ∀ n ∈ numsX c s, few n := by
  intro n hn
  unfold numsX at hn
  rcases List.mem_append.1 hn with h | h
  · obtain ⟨x, _, rfl⟩ := List.mem_map.1 h
    exact numV_few x
  · rw [List.eq_of_mem_replicate h]
    exact few_zero
theorem numsX_is {c : Nat} {x : List UInt8} {ns : List Int} (hc : 1 ≤ c) (h : numsL c x = some ns) : numsX c (txtL x) = ns := by
  unfold numsL at h
  split at h
  · rename_i hh
    simp only [Option.some.injEq] at h
    unfold numsX
    rw [splN_full c (txtL x) hc hh.1, List.length_map]
    have e : (txtL x).data.toList = x := rfl
    rw [e, hh.1, Nat.sub_self, List.replicate_zero, List.append_nil, List.map_map, ← h]
    rfl
  · cases h
/-- Read so far: the numbers of the first j words, and behind them 0. -/
def tnS (c : Nat) (W : List ByteArray) (j : Nat) : List Int := (W.take j).map (numV 10 15) ++ List.replicate (c - j) 0
theorem tnS_zero (c : Nat) (W : List ByteArray) : tnS c W 0 = List.replicate c 0 := by simp [tnS]
theorem tnS_len {c j : Nat} {W : List ByteArray} (h : W.length ≤ c) (hj : j ≤ W.length) : (tnS c W j).length = c := by unfold tnS; simp; omega
theorem tnS_all (c : Nat) (W : List ByteArray) : tnS c W W.length = W.map (numV 10 15) ++ List.replicate (c - W.length) 0 := by unfold tnS; rw [List.take_length]
theorem tnS_next {c j : Nat} {W : List ByteArray} (h : W.length ≤ c) (hj : j < W.length) : (tnS c W j).set j (numV 10 15 W[j]) = tnS c W (j + 1) := by
  unfold tnS
  have e : ((W.take j).map (numV 10 15)).length = j := by simp; omega
  rw [List.set_append_right _ _ (by omega), e, Nat.sub_self, List.take_succ_eq_append_getElem hj, List.map_append, List.append_assoc]
  congr 1
  rw [show c - j = (c - (j + 1)) + 1 from by omega, List.replicate_succ, List.set_cons_zero]
  rfl

/-! ### Fields -/
/-- A guess of so many fields: where they were written, it is they. -/
def FldG (n : Nat) (d : List UInt8) (l : List Fl) (r : List UInt8) : Prop :=
  ∀ l0 t0, (∀ f ∈ l0, fldOk f = true) → l0.length = n → d = showL l0 ++ t0 → l = l0 ∧ r = t0
def FldI (n : Nat) (d : List UInt8) (j : Nat) (l : List Fl) (r : List UInt8) : Prop :=
  ∀ l0 t0, (∀ f ∈ l0, fldOk f = true) → l0.length = n → d = showL l0 ++ t0 → l = l0.take j ∧ r = showL (l0.drop j) ++ t0
theorem FldI.start (n : Nat) (d : List UInt8) : FldI n d 0 [] d := fun l0 t0 _ _ h => ⟨by simp, by simpa using h⟩
theorem drop_line {l0 : List Fl} {j : Nat} (hj : j < l0.length) (t0 : List UInt8) : showL (l0.drop j) ++ t0 = lineF l0[j] ++ [13, 10] ++ (showL (l0.drop (j + 1)) ++ t0) := by
  rw [List.drop_eq_getElem_cons hj]
  show (showF l0[j] ++ showL (l0.drop (j + 1))) ++ t0 = _
  rw [showF_line]
  simp
theorem FldI.next {n j : Nat} {d r x q : List UInt8} {l : List Fl} {f : Fl} (h : FldI n d j l r) (hj : j < n) (hx : lnC r = some (x, q)) (hf : rdF x = some f) : FldI n d (j + 1) (l ++ [f]) q := by
  intro l0 t0 hok hl hd
  obtain ⟨h1, h2⟩ := h l0 t0 hok hl hd
  have hj2 : j < l0.length := by omega
  have hfj := hok l0[j] (List.getElem_mem hj2)
  rw [drop_line hj2 t0] at h2
  rw [h2, lnC_clean _ (lineF_clean hfj)] at hx
  simp only [Option.some.injEq, Prod.mk.injEq] at hx
  obtain ⟨rfl, rfl⟩ := hx
  rw [lineF_read hfj] at hf
  injection hf with hf
  exact ⟨by rw [List.take_succ_eq_append_getElem hj2, h1, hf], rfl⟩
theorem FldI.done {n : Nat} {d r : List UInt8} {l : List Fl} (h : FldI n d n l r) : FldG n d l r := by
  intro l0 t0 hf hl hd
  obtain ⟨h1, h2⟩ := h l0 t0 hf hl hd
  rw [← hl] at h1 h2
  exact ⟨by rw [h1, List.take_length], by rw [h2, List.drop_length]; rfl⟩

/-! ### The object -/
end Go.Proofs.YtemmgfnepdgpbaaGreatDoor
namespace Go.Proofs.YtemmgfnepdgpbaaGreatDoor
open Go.RowKit

/-! ### Words -/
theorem wrdL_cons (c : UInt8) (r : List UInt8) : wrdL (c :: r) = if c = 32 then [] :: wrdL r else match wrdL r with
    | x :: xs => (c :: x) :: xs
    | [] => [[c]] := rfl
theorem wrdL_one : ∀ {x : List UInt8}, (∀ c ∈ x, c ≠ 32) → wrdL x = [x]
  | [], _ => rfl
  | c :: r, h => by
    have h1 := h c (by simp)
    have ih := wrdL_one (x := r) fun d hd => h d (by simp [hd])
    rw [wrdL_cons, if_neg h1, ih]
theorem wrdL_app : ∀ {x : List UInt8} (y : List UInt8), (∀ c ∈ x, c ≠ 32) → wrdL (x ++ 32 :: y) = x :: wrdL y
  | [], y, _ => by simp [wrdL]
  | c :: r, y, h => by
    have h1 := h c (by simp)
    have ih := wrdL_app (x := r) y fun d hd => h d (by simp [hd])
    show wrdL (c :: (r ++ 32 :: y)) = _
    rw [wrdL_cons, if_neg h1, ih]
/-! ### Lines -/
/-! ### Fields of a message -/
/-! ### First lines -/
end Go.Proofs.YtemmgfnepdgpbaaGreatDoor
