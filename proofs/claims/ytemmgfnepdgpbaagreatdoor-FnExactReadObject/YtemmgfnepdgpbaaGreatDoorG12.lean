/-
  The store as plain data: lines, numbers of a line, fields by their count, what is shown of an object and read.
  Plain facts: the library's Cut at a line end and at a colon; a line as the specification reads it, byte by byte.
  The program's store as plain data: a reader's guess is what was written, wherever something was written.
-/
import Derived.Test.YtemmgfnepdgpbaaGreatDoorG11
import Derived.Test.YtemmgfnepdgpbaaGreatDoorG08
import Derived.Lib.IndexMore
namespace Go.Proofs.YtemmgfnepdgpbaaGreatDoor.St
open Go.RowKit
set_option linter.unusedVariables false

/-! ### Lines -/
def ln10 : List UInt8 → Option (List UInt8 × List UInt8)
  | [] => none
  | c :: r => if c = 10 then some ([], r) else (ln10 r).map fun p => (c :: p.1, p.2)
theorem ln10_at : ∀ {x : List UInt8} (r : List UInt8), (10 : UInt8) ∉ x → ln10 (x ++ 10 :: r) = some (x, r)
  | [], r, _ => by simp [ln10]
  | c :: x, r, h => by
    have hc : c ≠ 10 := fun e => h (by simp [e])
    rw [List.cons_append, ln10, if_neg hc, ln10_at r (fun e => h (by simp [e]))]
    rfl
theorem ln10_is : ∀ {l x r : List UInt8}, ln10 l = some (x, r) → l = x ++ 10 :: r ∧ (10 : UInt8) ∉ x
  | [], x, r, h => by simp [ln10] at h
  | c :: l, x, r, h => by
    rw [ln10] at h
    by_cases hc : c = 10
    · rw [if_pos hc] at h
      simp only [Option.some.injEq, Prod.mk.injEq] at h
      obtain ⟨rfl, rfl⟩ := h
      exact ⟨by simp [hc], by simp⟩
    · rw [if_neg hc] at h
      cases e : ln10 l with
      | none => rw [e] at h; cases h
      | some p =>
        obtain ⟨y, q⟩ := p
        rw [e] at h
        simp only [Option.map_some, Option.some.injEq, Prod.mk.injEq] at h
        obtain ⟨rfl, rfl⟩ := h
        obtain ⟨h1, h2⟩ := ln10_is e
        exact ⟨by rw [h1]; rfl, by simp [Ne.symm hc, h2]⟩
/-! ### Numbers -/
def dd (n : Int) : List UInt8 := Lib.decDigits n.toNat
theorem dig_oneS {d : Nat} (h : d < 10) : digV ((UInt8.ofNat (48 + d)).toNat : Int) = (d : Int) ∧ digN 10 ((UInt8.ofNat (48 + d)).toNat : Int) = true ∧ 48 ≤ (UInt8.ofNat (48 + d)).toNat ∧ (UInt8.ofNat (48 + d)).toNat ≤ 57 := by
  have k : ∀ j : Fin 10, digV ((UInt8.ofNat (48 + j.val)).toNat : Int) = (j.val : Int) ∧ digN 10 ((UInt8.ofNat (48 + j.val)).toNat : Int) = true ∧ 48 ≤ (UInt8.ofNat (48 + j.val)).toNat ∧ (UInt8.ofNat (48 + j.val)).toNat ≤ 57 := by decide +kernel
  exact k ⟨d, h⟩
theorem dec_numS : ∀ (f n : Nat), n ≤ f → numL 10 (Lib.decDigits n) = (n : Int) ∧ (∀ c ∈ Lib.decDigits n, digN 10 (c.toNat : Int) = true ∧ 48 ≤ c.toNat ∧ c.toNat ≤ 57) ∧ 0 < (Lib.decDigits n).length := by
  intro f
  induction f with
  | zero =>
    intro n hn
    obtain rfl : n = 0 := by omega
    rw [dec_small (by decide)]
    have := dig_oneS (d := 0) (by decide)
    exact ⟨by simpa [numL] using this.1, fun c hc => by rw [List.mem_singleton.1 hc]; exact this.2, by simp⟩
  | succ f ih =>
    intro n hn
    by_cases h : n < 10
    · rw [dec_small h]
      have := dig_oneS h
      exact ⟨by simpa [numL] using this.1, fun c hc => by rw [List.mem_singleton.1 hc]; exact this.2, by simp⟩
    · obtain ⟨i1, i2, i3⟩ := ih (n / 10) (by omega)
      have := dig_oneS (Nat.mod_lt n (by decide : 0 < 10))
      rw [dec_big h, numL_snoc, i1, this.1]
      refine ⟨by omega, fun c hc => ?_, by simp⟩
      rcases List.mem_append.1 hc with hc | hc
      · exact i2 c hc
      · rw [List.mem_singleton.1 hc]; exact this.2
theorem dd_bytes (n : Int) : ∀ c ∈ dd n, 48 ≤ c.toNat ∧ c.toNat ≤ 57 := fun c hc => ((dec_numS n.toNat n.toNat (Nat.le_refl _)).2.1 c hc).2
theorem dd_pos (n : Int) : 0 < (dd n).length := (dec_numS n.toNat n.toNat (Nat.le_refl _)).2.2
theorem dd_not (n : Int) {c : UInt8} (h : c.toNat < 48) : c ∉ dd n := fun hc => by have := dd_bytes n c hc; omega
theorem dd_len {n : Int} (h1 : n < 1000000000000000) : (dd n).length ≤ 15 := dec_len 14 n.toNat (by omega)
theorem dd_num {n : Int} (h0 : 0 ≤ n) (h1 : n < 1000000000000000) : numOk 10 15 (txtL (dd n)) = true ∧ numV 10 15 (txtL (dd n)) = n := by
  obtain ⟨i1, i2, i3⟩ := dec_numS n.toNat n.toNat (Nat.le_refl _)
  have hl := dd_len h1
  have hp := dd_pos n
  have hs : (txtL (dd n)).size = (dd n).length := by show (dd n).toArray.size = _; simp
  have hd : (txtL (dd n)).data.toList = dd n := by show (dd n).toArray.toList = _; simp
  have ho : numOk 10 15 (txtL (dd n)) = true := by
    unfold numOk
    rw [Bool.and_eq_true, decide_eq_true_eq, hs, hd]
    refine ⟨by omega, ?_⟩
    unfold allB
    rw [List.all_eq_true]
    exact fun c hc => (i2 c hc).1
  refine ⟨ho, ?_⟩
  rw [num_yes ho, hd]
  show numL 10 (Lib.decDigits n.toNat) = n
  rw [i1]
  omega
theorem wrd_cut : ∀ {x : List UInt8} (r : List UInt8), (32 : UInt8) ∉ x → wrdL (x ++ 32 :: r) = x :: wrdL r
  | [], r, _ => by simp [wrdL]
  | c :: x, r, h => by
    have hc : c ≠ 32 := fun e => h (by simp [e])
    rw [List.cons_append, wrdL, if_neg hc, wrd_cut r (fun e => h (by simp [e]))]
theorem wrd_lone : ∀ {x : List UInt8}, (32 : UInt8) ∉ x → wrdL x = [x]
  | [], _ => rfl
  | c :: x, h => by
    have hc : c ≠ 32 := fun e => h (by simp [e])
    rw [wrdL, if_neg hc, wrd_lone (fun e => h (by simp [e]))]
/-- Just so many numbers. -/
def numsL (c : Nat) (x : List UInt8) : Option (List Int) :=
  if (wrdL x).length = c ∧ (wrdL x).all (fun y => numOk 10 15 (txtL y)) = true then some ((wrdL x).map fun y => numV 10 15 (txtL y)) else none
def few (n : Int) : Prop := 0 ≤ n ∧ n < 1000000000000000
theorem nums_of {c : Nat} {x : List UInt8} {ns : List Int} (h : wrdL x = ns.map dd) (hc : ns.length = c) (hf : ∀ n ∈ ns, few n) : numsL c x = some ns := by
  unfold numsL
  rw [h]
  have h1 : (ns.map dd).all (fun y => numOk 10 15 (txtL y)) = true := by
    rw [List.all_map, List.all_eq_true]
    exact fun n hn => (dd_num (hf n hn).1 (hf n hn).2).1
  rw [if_pos ⟨by simpa using hc, h1⟩, List.map_map]
  congr 1
  conv => rhs; rw [← List.map_id ns]
  exact List.map_congr_left fun n hn => (dd_num (hf n hn).1 (hf n hn).2).2
theorem nums_3 {a b c : Int} (ha : few a) (hb : few b) (hc : few c) : numsL 3 (dd a ++ 32 :: (dd b ++ 32 :: dd c)) = some [a, b, c] :=
  nums_of (by rw [wrd_cut _ (dd_not a (by decide)), wrd_cut _ (dd_not b (by decide)), wrd_lone (dd_not c (by decide))]; rfl) rfl (by simp [ha, hb, hc])
theorem nums_4 {a b c d : Int} (ha : few a) (hb : few b) (hc : few c) (hd : few d) : numsL 4 (dd a ++ 32 :: (dd b ++ 32 :: (dd c ++ 32 :: dd d))) = some [a, b, c, d] :=
  nums_of (by rw [wrd_cut _ (dd_not a (by decide)), wrd_cut _ (dd_not b (by decide)), wrd_cut _ (dd_not c (by decide)), wrd_lone (dd_not d (by decide))]; rfl) rfl (by simp [ha, hb, hc, hd])
theorem nums_len {c : Nat} {x : List UInt8} {ns : List Int} (h : numsL c x = some ns) : ns.length = c := by
  unfold numsL at h
  split at h
  · rename_i hh
    simp only [Option.some.injEq] at h
    rw [← h, List.length_map]
    exact hh.1
  · cases h
theorem numV_few (s : ByteArray) : few (numV 10 15 s) := by
  unfold numV
  split
  · rename_i h
    unfold numOk at h
    rw [Bool.and_eq_true, decide_eq_true_eq] at h
    have hl : s.data.toList.length = s.size := by simp
    have := numL_bd 10 (by decide) s s.size (Nat.le_refl _) (by rw [← hl, List.take_length]; exact h.2)
    rw [← hl, List.take_length] at this
    have hp := pow_le10 s.data.toList.length (by omega)
    exact ⟨this.1, by omega⟩
  · exact ⟨Int.le_refl _, by decide⟩
theorem nums_few {c : Nat} {x : List UInt8} {ns : List Int} (h : numsL c x = some ns) : ∀ n ∈ ns, few n := by
  unfold numsL at h
  split at h
  · simp only [Option.some.injEq] at h
    intro n hn
    rw [← h] at hn
    obtain ⟨y, _, rfl⟩ := List.mem_map.1 hn
    exact numV_few _
  · cases h

/-! ### Fields by their count -/
theorem lnS_clean : ∀ {x : List UInt8} (r : List UInt8), clean x → lnS (x ++ [13, 10] ++ r) = some (x, r)
  | [], r, _ => lnS_end rfl rfl
  | c :: x, r, h => by
    have hc := h c (List.mem_cons_self ..)
    rw [List.cons_append, List.cons_append, lnS_more hc.1 hc.2, lnS_clean r (fun d hd => h d (List.mem_cons_of_mem _ hd))]
    rfl
/-- Where the first colon stands. -/
def colK : List UInt8 → Nat
  | [] => 0
  | c :: r => if c = 58 then 0 else colK r + 1
theorem colK_le : ∀ l : List UInt8, colK l ≤ l.length
  | [] => Nat.le_refl _
  | c :: r => by
    unfold colK
    split
    · exact Nat.zero_le _
    · have := colK_le r
      simp
      omega
theorem colK_at : ∀ {a : List UInt8} (b : List UInt8), (∀ c ∈ a, c ≠ 58) → colK (a ++ 58 :: b) = a.length
  | [], b, _ => by simp [colK]
  | c :: a, b, h => by
    rw [List.cons_append, colK, if_neg (h c (List.mem_cons_self ..)), colK_at b (fun d hd => h d (List.mem_cons_of_mem _ hd))]
    rfl
def fldAt (x : List UInt8) : Fl := (txtL (x.take (colK x)), txtL (x.drop (colK x + 2)))
def fdL : Nat → List UInt8 → Option (List Fl × List UInt8)
  | 0, l => some ([], l)
  | n + 1, l => match lnS l with
    | none => none
    | some (x, r) => if colK x + 2 ≤ x.length then (fdL n r).map fun p => (fldAt x :: p.1, p.2) else none
theorem txt_id (s : ByteArray) : txtL s.data.toList = s := by unfold txtL; cases s; simp
theorem fld_line {f : Fl} (h : fldOk f = true) : colK (lineF f) = f.1.size ∧ fldAt (lineF f) = f ∧ colK (lineF f) + 2 ≤ (lineF f).length := by
  have ht := (fldOk_parts h).1
  have hl : f.1.data.toList.length = f.1.size := by simp
  have e : lineF f = f.1.data.toList ++ 58 :: (32 :: f.2.data.toList) := by unfold lineF; simp
  have hk : colK (lineF f) = f.1.size := by rw [e, colK_at _ (fun c hc => (tok_bytes ht hc).2.2), hl]
  refine ⟨hk, ?_, ?_⟩
  · unfold fldAt
    rw [hk, e]
    have e1 : (f.1.data.toList ++ 58 :: 32 :: f.2.data.toList).take f.1.size = f.1.data.toList := by rw [← hl]; simp
    have e2 : (f.1.data.toList ++ 58 :: 32 :: f.2.data.toList).drop (f.1.size + 2) = f.2.data.toList := by rw [← hl, ← List.drop_drop]; simp
    rw [e1, e2, txt_id, txt_id]
  · rw [hk, e, List.length_append, hl]
    simp
theorem fd_show : ∀ (l : List Fl) (t : List UInt8), (∀ f ∈ l, fldOk f = true) → fdL l.length (showL l ++ t) = some (l, t)
  | [], t, _ => rfl
  | f :: l, t, h => by
    have hf := h f (List.mem_cons_self ..)
    have e : showL (f :: l) ++ t = lineF f ++ [13, 10] ++ (showL l ++ t) := by
      show (showF f ++ showL l) ++ t = _
      rw [showF_line]
      simp
    rw [List.length_cons, fdL, e, lnS_clean _ (lineF_clean hf)]
    simp only
    rw [if_pos (fld_line hf).2.2, fd_show l t (fun g hg => h g (List.mem_cons_of_mem _ hg)), (fld_line hf).2.1]
    rfl

/-! ### Objects -/
def hdL (o : Ob) : List UInt8 :=
  o.k.data.toList ++ 10 :: ((dd o.asked ++ 32 :: (dd o.got ++ 32 :: dd o.ep)) ++ 10 :: ((dd (o.l.length : Int) ++ 32 :: (dd o.r.s ++ 32 :: (dd (o.r.l.length : Int) ++ 32 :: dd (o.r.b.size : Int)))) ++ [10]))
def shoL (o : Ob) : List UInt8 := hdL o ++ (showL o.l ++ (showL o.r.l ++ (o.r.b.data.toList ++ [10])))
def mkO (k : List UInt8) (a b : List Int) (l m : List Fl) (y : List UInt8) : Ob := ⟨txtL k, l, ⟨b.getD 1 0, m, txtL y⟩, a.getD 0 0, a.getD 1 0, a.getD 2 0⟩
/-- The last step: is it right, and does the text begin with it? -/
def lastO (t : List UInt8) (o : Ob) : Option Ob := if obB o = true ∧ shoL o <+: t then some o else none
def rdO (t : List UInt8) : Option Ob :=
  (ln10 t).bind fun p => (ln10 p.2).bind fun q => (ln10 q.2).bind fun s => (numsL 3 q.1).bind fun a => (numsL 4 s.1).bind fun b =>
    if b.getD 0 0 ≤ 30 ∧ b.getD 2 0 ≤ 30 then
      (fdL (b.getD 0 0).toNat s.2).bind fun x => (fdL (b.getD 2 0).toNat x.2).bind fun y =>
        if b.getD 3 0 ≤ (y.2.length : Int) then lastO t (mkO p.1 a b x.1 y.1 (y.2.take (b.getD 3 0).toNat)) else none
    else none
theorem last_ok {t : List UInt8} {o p : Ob} (h : lastO t o = some p) : p = o ∧ obB o = true ∧ shoL o <+: t := by
  unfold lastO at h
  split at h
  · rename_i hh
    simp only [Option.some.injEq] at h
    exact ⟨h.symm, hh⟩
  · cases h
/-- What is read is right, and the text begins with what is shown of it. -/
theorem rdO_ok {t : List UInt8} {o : Ob} (h : rdO t = some o) : obB o = true ∧ shoL o <+: t := by
  unfold rdO at h
  simp only [Option.bind_eq_some_iff] at h
  obtain ⟨p, _, q, _, s, _, a, _, b, _, h⟩ := h
  split at h
  · simp only [Option.bind_eq_some_iff] at h
    obtain ⟨x, _, y, _, h⟩ := h
    split at h
    · obtain ⟨rfl, h1, h2⟩ := last_ok h
      exact ⟨h1, h2⟩
    · cases h
  · cases h
theorem own_flds {l : List Fl} (h : ownB l = true) : fldsOk l = true := by
  unfold ownB at h
  simp only [Bool.and_eq_true] at h
  exact h.1
structure ObOk (o : Ob) : Prop where
  key : ∀ c ∈ o.k.data.toList, 33 ≤ c.toNat ∧ c.toNat ≤ 126
  ksz : o.k.size ≤ 500
  fl : fldsOk o.l = true
  rl : fldsOk o.r.l = true
  st : 200 ≤ o.r.s ∧ o.r.s ≤ 599
  bd : o.r.b.size ≤ 4000
  asked : 0 ≤ o.asked ∧ o.asked ≤ 253402300799
  got : 0 ≤ o.got ∧ o.got ≤ 253402300799
  ep : 0 ≤ o.ep ∧ o.ep ≤ 100000
theorem obOk {o : Ob} (h : obB o = true) : ObOk o := by
  unfold obB keyO rsOk at h
  simp only [Bool.and_eq_true, decide_eq_true_eq] at h
  obtain ⟨⟨h1, h2⟩, h3, ⟨h4, h5, h6, h7⟩, h8, h9, h10, h11, h12⟩ := h
  refine ⟨fun c hc => ?_, h2, h3, own_flds h5, h4, h6, momB_iff.1 h8, momB_iff.1 h9, ⟨h11, h12⟩⟩
  have := allB_at h1 hc
  unfold keyN at this
  rw [decide_eq_true_eq] at this
  omega
theorem few_of {n m : Int} (h : 0 ≤ n ∧ n ≤ m) (hm : m < 1000000000000000) : few n := ⟨h.1, by omega⟩
/-- What is shown of a right one is read as it is, whatever stands behind it. -/
theorem rdO_sho {o : Ob} (h : obB o = true) (t : List UInt8) : rdO (shoL o ++ t) = some o := by
  have hk := obOk h
  obtain ⟨hn, hf⟩ := fldsOk_parts hk.fl
  obtain ⟨hrn, hrf⟩ := fldsOk_parts hk.rl
  have k10 : (10 : UInt8) ∉ o.k.data.toList := fun hc => by have := hk.key 10 hc; simp at this
  have nd : ∀ n : Int, (10 : UInt8) ∉ dd n := fun n => dd_not n (by decide)
  have hbl : o.r.b.data.toList.length = o.r.b.size := by simp
  have hbz := hk.bd
  have e1 : shoL o ++ t = o.k.data.toList ++ 10 :: ((dd o.asked ++ 32 :: (dd o.got ++ 32 :: dd o.ep)) ++ 10 :: ((dd (o.l.length : Int) ++ 32 :: (dd o.r.s ++ 32 :: (dd (o.r.l.length : Int) ++ 32 :: dd (o.r.b.size : Int)))) ++ 10 :: (showL o.l ++ (showL o.r.l ++ (o.r.b.data.toList ++ 10 :: t))))) := by
    unfold shoL hdL
    simp
  have l1 := ln10_at ((dd o.asked ++ 32 :: (dd o.got ++ 32 :: dd o.ep)) ++ 10 :: ((dd (o.l.length : Int) ++ 32 :: (dd o.r.s ++ 32 :: (dd (o.r.l.length : Int) ++ 32 :: dd (o.r.b.size : Int)))) ++ 10 :: (showL o.l ++ (showL o.r.l ++ (o.r.b.data.toList ++ 10 :: t))))) k10
  have l2 := ln10_at (x := dd o.asked ++ 32 :: (dd o.got ++ 32 :: dd o.ep)) ((dd (o.l.length : Int) ++ 32 :: (dd o.r.s ++ 32 :: (dd (o.r.l.length : Int) ++ 32 :: dd (o.r.b.size : Int)))) ++ 10 :: (showL o.l ++ (showL o.r.l ++ (o.r.b.data.toList ++ 10 :: t)))) (by simp [nd])
  have l3 := ln10_at (x := dd (o.l.length : Int) ++ 32 :: (dd o.r.s ++ 32 :: (dd (o.r.l.length : Int) ++ 32 :: dd (o.r.b.size : Int)))) (showL o.l ++ (showL o.r.l ++ (o.r.b.data.toList ++ 10 :: t))) (by simp [nd])
  have n1 := nums_3 (few_of hk.asked (by decide)) (few_of hk.got (by decide)) (few_of hk.ep (by decide))
  have n2 := nums_4 (a := (o.l.length : Int)) (b := o.r.s) (c := (o.r.l.length : Int)) (d := (o.r.b.size : Int)) ⟨by omega, by omega⟩ ⟨by have := hk.st; omega, by have := hk.st; omega⟩ ⟨by omega, by omega⟩ ⟨by omega, by omega⟩
  have f1 := fd_show o.l (showL o.r.l ++ (o.r.b.data.toList ++ 10 :: t)) hf
  have f2 := fd_show o.r.l (o.r.b.data.toList ++ 10 :: t) hrf
  have hpre : shoL o <+: shoL o ++ t := List.prefix_append _ _
  have key : ∀ T, T = shoL o ++ t → rdO T = some o := by
    intro T hT
    have hpT : shoL o <+: T := hT ▸ hpre
    have l1' : ln10 T = some (o.k.data.toList, (dd o.asked ++ 32 :: (dd o.got ++ 32 :: dd o.ep)) ++ 10 :: ((dd (o.l.length : Int) ++ 32 :: (dd o.r.s ++ 32 :: (dd (o.r.l.length : Int) ++ 32 :: dd (o.r.b.size : Int)))) ++ 10 :: (showL o.l ++ (showL o.r.l ++ (o.r.b.data.toList ++ 10 :: t))))) := by rw [hT, e1]; exact l1
    unfold rdO
    rw [l1']
    simp only [Option.bind_some, l2, l3, n1, n2, List.getD_cons_zero, List.getD_cons_succ]
    rw [if_pos ⟨by omega, by omega⟩]
    simp only [Int.toNat_natCast, f1, f2, Option.bind_some]
    rw [if_pos (by rw [List.length_append, hbl]; simp; omega)]
    have e2 : (o.r.b.data.toList ++ 10 :: t).take o.r.b.size = o.r.b.data.toList := by rw [← hbl]; simp
    rw [e2]
    have e3 : mkO o.k.data.toList [o.asked, o.got, o.ep] [(o.l.length : Int), o.r.s, (o.r.l.length : Int), (o.r.b.size : Int)] o.l o.r.l o.r.b.data.toList = o := by
      unfold mkO
      rw [txt_id, txt_id]
      rfl
    rw [e3]
    unfold lastO
    rw [if_pos ⟨h, hpT⟩]
  exact key _ rfl
theorem rdO_iff {t : List UInt8} {o : Ob} : rdO t = some o ↔ obB o = true ∧ shoL o <+: t := by
  constructor
  · exact rdO_ok
  · rintro ⟨h, x, rfl⟩
    exact rdO_sho h x
theorem dec_small15 {n : Int} (h : n ≤ 253402300799) : (dd n).length ≤ 12 := dec_len 11 n.toNat (by omega)
theorem showL_len {l : List Fl} (h : fldsOk l = true) : (showL l).length ≤ 14040 := by
  obtain ⟨h1, h2⟩ := fldsOk_parts h
  have := showL_length l h2 l.length (Nat.le_refl _)
  rw [List.take_length] at this
  omega
theorem sho_len {o : Ob} (h : obB o = true) : (shoL o).length ≤ 33000 := by
  have hk := obOk h
  have a1 := showL_len hk.fl
  have a2 := showL_len hk.rl
  have hkl : o.k.data.toList.length = o.k.size := by simp
  have hbl : o.r.b.data.toList.length = o.r.b.size := by simp
  have := hk.ksz
  have := hk.bd
  have d1 := dec_small15 (show o.asked ≤ 253402300799 from hk.asked.2)
  have d2 := dec_small15 (show o.got ≤ 253402300799 from hk.got.2)
  have d3 := dec_small15 (show o.ep ≤ 253402300799 by have := hk.ep.2; omega)
  have d4 := dec_small15 (show (o.l.length : Int) ≤ 253402300799 by have := (fldsOk_parts hk.fl).1; omega)
  have d5 := dec_small15 (show o.r.s ≤ 253402300799 by have := hk.st.2; omega)
  have d6 := dec_small15 (show (o.r.l.length : Int) ≤ 253402300799 by have := (fldsOk_parts hk.rl).1; omega)
  have d7 := dec_small15 (show (o.r.b.size : Int) ≤ 253402300799 by omega)
  unfold shoL hdL
  simp only [List.length_append, List.length_cons, List.length_nil]
  omega
theorem sho_pos {o : Ob} : 0 < (shoL o).length := by
  unfold shoL hdL
  simp only [List.length_append, List.length_cons, List.length_nil]
  omega
def shwO (o : Ob) : ByteArray := if obB o = true then txtL (shoL o) else ⟨#[]⟩
end Go.Proofs.YtemmgfnepdgpbaaGreatDoor.St
namespace Go.Proofs.YtemmgfnepdgpbaaGreatDoor
open Go.RowKit

theorem cut_hit {b : UInt8} {l sub : List UInt8} (h : sub.isPrefixOf (b :: l) = true) : Lib.cut (b :: l) sub = ([], (b :: l).drop sub.length, true) := by
  unfold Lib.cut
  rw [Lib.index, if_pos h]
  simp
theorem cut_miss {b : UInt8} {l sub : List UInt8} (h : sub.isPrefixOf (b :: l) = false) : Lib.cut (b :: l) sub = if (Lib.cut l sub).2.2 = true then (b :: (Lib.cut l sub).1, (Lib.cut l sub).2.1, true) else (b :: l, [], false) := by
  have hg := Lib.index_ge l sub
  have hi : Lib.index (b :: l) sub = if Lib.index l sub == -1 then -1 else Lib.index l sub + 1 := by
    rw [Lib.index, if_neg (by rw [h]; decide)]
  unfold Lib.cut
  rw [hi]
  by_cases h1 : Lib.index l sub = -1
  · rw [h1]; simp
  · obtain ⟨n, hn⟩ : ∃ n : Nat, Lib.index l sub = n := ⟨(Lib.index l sub).toNat, by omega⟩
    rw [hn]
    have e1 : ((n : Int) == -1) = false := by simp
    have e2 : ((n : Int) + 1).toNat = n + 1 := by omega
    simp only [e1, Bool.false_eq_true, if_false, if_pos (show (0 : Int) ≤ (n : Int) + 1 by omega), if_pos (show (0 : Int) ≤ (n : Int) by omega), if_true, e2, Int.toNat_natCast, List.take_succ_cons]
    rw [show n + 1 + sub.length = (n + sub.length) + 1 from by omega, List.drop_succ_cons]
theorem cut_ln : ∀ l : List UInt8, Lib.cut l [13, 10] = match lnC l with | none => (l, [], false) | some (x, r) => (x, r, true)
  | [] => rfl
  | [c] => by
    have h : ([13, 10] : List UInt8).isPrefixOf [c] = false := by simp [List.isPrefixOf]
    rw [cut_miss h]; rfl
  | c :: d :: t => by
    by_cases h : c = 13 ∧ d = 10
    · obtain ⟨rfl, rfl⟩ := h
      rw [cut_hit (by simp [List.isPrefixOf])]
      simp [lnC]
    · have hp : ([13, 10] : List UInt8).isPrefixOf (c :: d :: t) = false := by
        simp [List.isPrefixOf]
        intro e1 e2
        exact h ⟨e1.symm, e2.symm⟩
      rw [cut_miss hp, cut_ln (d :: t)]
      conv => rhs; unfold lnC
      rw [if_neg h]
      cases e : lnC (d :: t) with
      | none => simp
      | some p => obtain ⟨x, r⟩ := p; simp
theorem cut_col : ∀ l : List UInt8, Lib.cut l [58] = match colL l with | none => (l, [], false) | some (x, r) => (x, r, true)
  | [] => rfl
  | c :: t => by
    by_cases h : c = 58
    · subst h
      rw [cut_hit (by simp [List.isPrefixOf])]
      simp [colL]
    · have hp : ([58] : List UInt8).isPrefixOf (c :: t) = false := by
        simp [List.isPrefixOf]
        exact fun e => h e.symm
      rw [cut_miss hp, cut_col t]
      conv => rhs; unfold colL
      rw [if_neg h]
      cases e : colL t with
      | none => simp
      | some p => obtain ⟨x, r⟩ := p; simp

/-! ### A line, byte by byte -/
def LnAt (s : ByteArray) (k i : Nat) : Prop := lnS (s.data.toList.drop k) = (lnS (s.data.toList.drop i)).map fun p => (cutL s.data.toList k i ++ p.1, p.2)
theorem LnAt.start (s : ByteArray) (k : Nat) : LnAt s k k := by
  unfold LnAt
  rw [cutL_self]
  cases lnS (s.data.toList.drop k) with
  | none => rfl
  | some p => rfl
theorem LnAt.next {s : ByteArray} {k i : Nat} (h : LnAt s k i) (hi : i < s.size) (hk : k ≤ i) (h13 : s[i] ≠ 13) (h10 : s[i] ≠ 10) : LnAt s k (i + 1) := by
  unfold LnAt at *
  rw [h, drop_at' s i hi, lnS_more h13 h10, Option.map_map]
  congr 1
  funext p
  show (cutL s.data.toList k i ++ (s[i] :: p.1), p.2) = (cutL s.data.toList k (i + 1) ++ p.1, p.2)
  rw [← cutL_next hi hk]
  simp
theorem LnAt.ten {s : ByteArray} {k i : Nat} (h : LnAt s k i) (hi : i < s.size) (h10 : s[i] = 10) : lnS (s.data.toList.drop k) = none := by
  unfold LnAt at h
  rw [h, drop_at' s i hi, lnS_ten h10]; rfl
theorem LnAt.done {s : ByteArray} {k i : Nat} (h : LnAt s k i) (hi : ¬ i < s.size) : lnS (s.data.toList.drop k) = none := by
  unfold LnAt at h
  rw [h, drop_past' s i hi]; rfl
theorem LnAt.lone {s : ByteArray} {k i : Nat} (h : LnAt s k i) (hi : i < s.size) (h13 : s[i] = 13) (h2 : ∀ hj : i + 1 < s.size, s[i + 1] ≠ 10) : lnS (s.data.toList.drop k) = none := by
  unfold LnAt at h
  rw [h, drop_at' s i hi, lnS_lone h13]
  · rfl
  · intro d t e
    by_cases hj : i + 1 < s.size
    · rw [drop_at' s (i + 1) hj] at e
      injection e with e1 e2
      rw [← e1]; exact h2 hj
    · rw [drop_past' s (i + 1) hj] at e; cases e
theorem LnAt.found {s : ByteArray} {k i : Nat} (h : LnAt s k i) (hj : i + 1 < s.size) (h13 : s[i]'(by omega) = 13) (h10 : s[i + 1] = 10) : lnS (s.data.toList.drop k) = some (cutL s.data.toList k i, s.data.toList.drop (i + 2)) := by
  unfold LnAt at h
  rw [h, drop_at' s i (by omega), drop_at' s (i + 1) hj, lnS_end h13 h10]
  simp
theorem byte_is {a b : UInt8} (h : (a.toNat : Int) = (b.toNat : Int)) : a = b := UInt8.toNat_inj.1 (by omega)
/-- What the specification's line answers. -/
def lineE (s : ByteArray) : Option (List UInt8 × List UInt8) → Value
  | none => .tuple #[.string ⟨#[]⟩, .int .i64 0, .bool false]
  | some (x, r) => .tuple #[.string ⟨x.toArray⟩, .int .i64 ((s.size : Int) - (r.length : Int)), .bool true]
theorem lineE_none {s : ByteArray} {o : Option (List UInt8 × List UInt8)} (h : o = none) : Ending.returned (.tuple #[.string ⟨#[]⟩, .int .i64 0, .bool false]) = .returned (lineE s o) := by subst h; rfl
theorem lineE_some {s : ByteArray} {o : Option (List UInt8 × List UInt8)} {k i : Nat} (h : o = some (cutL s.data.toList k i, s.data.toList.drop (i + 2))) (hi : i + 1 < s.size) : Ending.returned (.tuple #[.string (s.extract k i), .int .i64 ((i : Int) + 2), .bool true]) = .returned (lineE s o) := by
  subst h
  have e : (s.data.toList.drop (i + 2)).length = s.size - (i + 2) := by simp
  show _ = Ending.returned (.tuple #[.string ⟨(cutL s.data.toList k i).toArray⟩, .int .i64 ((s.size : Int) - ((s.data.toList.drop (i + 2)).length : Int)), .bool true])
  rw [e, cut_text s k i (by omega)]
  have : ((s.size : Int) - ((s.size - (i + 2) : Nat) : Int)) = (i : Int) + 2 := by omega
  rw [this]
end Go.Proofs.YtemmgfnepdgpbaaGreatDoor
namespace Go.Proofs.YtemmgfnepdgpbaaGreatDoor
open Go.RowKit St
set_option linter.unusedVariables false
set_option linter.unusedSimpArgs false

/-! ### A row -/
theorem cut_ten : ∀ l : List UInt8, Lib.cut l [10] = match ln10 l with | none => (l, [], false) | some (x, r) => (x, r, true)
  | [] => rfl
  | c :: t => by
    by_cases h : c = 10
    · subst h
      rw [cut_hit (by simp [List.isPrefixOf])]
      simp [ln10]
    · have hp : ([10] : List UInt8).isPrefixOf (c :: t) = false := by
        simp [List.isPrefixOf]
        exact fun e => h e.symm
      rw [cut_miss hp, cut_ten t]
      conv => rhs; unfold ln10
      rw [if_neg h]
      cases e : ln10 t with
      | none => simp
      | some p => obtain ⟨x, r⟩ := p; simp
/-- A row, and what stands behind it: all that is left where no row ends. -/
def rowX (d : List UInt8) : List UInt8 × List UInt8 := (ln10 d).getD (d, [])
theorem cut_row (d : List UInt8) : (Lib.cut d [10]).1 = (rowX d).1 ∧ (Lib.cut d [10]).2.1 = (rowX d).2 := by
  rw [cut_ten]
  unfold rowX
  cases ln10 d with
  | none => exact ⟨rfl, rfl⟩
  | some p => exact ⟨rfl, rfl⟩
theorem rowX_of {d x r : List UInt8} (h : ln10 d = some (x, r)) : rowX d = (x, r) := by unfold rowX; rw [h]; rfl
theorem rowX_len (d : List UInt8) : (rowX d).1.length ≤ d.length ∧ (rowX d).2.length ≤ d.length := by
  unfold rowX
  cases h : ln10 d with
  | none => exact ⟨Nat.le_refl _, Nat.zero_le _⟩
  | some p =>
    obtain ⟨x, r⟩ := p
    have := congrArg List.length (ln10_is h).1
    rw [List.length_append, List.length_cons] at this
    exact ⟨by show x.length ≤ _; omega, by show r.length ≤ _; omega⟩
theorem rowX_tail (d : List UInt8) : d.drop (d.length - (rowX d).2.length) = (rowX d).2 := by
  unfold rowX
  cases h : ln10 d with
  | none => show d.drop (d.length - 0) = []; simp
  | some p =>
    obtain ⟨x, r⟩ := p
    have e := (ln10_is h).1
    show d.drop (d.length - r.length) = r
    have e2 : d.length - r.length = (x ++ [10]).length := by rw [e]; simp; omega
    rw [e2, e, show x ++ 10 :: r = (x ++ [10]) ++ r by simp, List.drop_left]

/-! ### Words, as the library splits them -/
theorem index_byteS (c : UInt8) : ∀ s : List UInt8, Lib.index s [c] = Lib.indexByte s c
  | [] => rfl
  | b :: l => by
    rw [Lib.index, Lib.indexByte, index_byteS c l]
    by_cases h : b = c
    · subst h; simp [List.isPrefixOf]
    · have h2 : ([c] : List UInt8).isPrefixOf (b :: l) = false := by simp [List.isPrefixOf, Ne.symm h]
      have h3 : (b == c) = false := by simp [h]
      rw [h2, h3]
theorem wrdL_neS (l : List UInt8) : ∃ x xs, wrdL l = x :: xs := by
  cases l with
  | nil => exact ⟨[], [], rfl⟩
  | cons c r =>
    unfold wrdL
    split
    · exact ⟨_, _, rfl⟩
    · split
      · exact ⟨_, _, rfl⟩
      · exact ⟨_, _, rfl⟩
theorem wrd_missS : ∀ l : List UInt8, Lib.indexByte l 32 = -1 → wrdL l = [l]
  | [], _ => rfl
  | c :: l, h => by
    rw [Lib.indexByte] at h
    by_cases hc : c = 32
    · rw [if_pos (by simp [hc])] at h; cases h
    · rw [if_neg (by simp [hc])] at h
      have hge := Lib.indexByte_ge l 32
      have hl : Lib.indexByte l 32 = -1 := by
        by_cases e : Lib.indexByte l 32 = -1
        · exact e
        · rw [if_neg (by simp [e])] at h; omega
      rw [wrdL, if_neg hc, wrd_missS l hl]
theorem wrd_hitS : ∀ (l : List UInt8) (i : Nat), Lib.indexByte l 32 = (i : Int) → wrdL l = l.take i :: wrdL (l.drop (i + 1))
  | [], i, h => by rw [Lib.indexByte] at h; omega
  | c :: l, i, h => by
    rw [Lib.indexByte] at h
    by_cases hc : c = 32
    · rw [if_pos (by simp [hc])] at h
      obtain rfl : i = 0 := by omega
      rw [wrdL, if_pos hc]
      rfl
    · rw [if_neg (by simp [hc])] at h
      by_cases e : Lib.indexByte l 32 = -1
      · rw [if_pos (by simp [e])] at h; omega
      · rw [if_neg (by simp [e])] at h
        obtain ⟨j, rfl⟩ : ∃ j, i = j + 1 := ⟨i - 1, by have := Lib.indexByte_ge l 32; omega⟩
        rw [wrdL, if_neg hc, wrd_hitS l j (by omega)]
        rfl
theorem splitK_lenS : ∀ (k : Nat) (l : List UInt8), (Lib.splitK [32] 0 k l).length ≤ k + 1
  | 0, l => by rw [Lib.splitK]; simp
  | k + 1, l => by
    rw [Lib.splitK, index_byteS]
    by_cases e : Lib.indexByte l 32 = -1
    · rw [if_pos (by simp [e])]; simp
    · rw [if_neg (by simp [e]), List.length_cons]
      have := splitK_lenS k (l.drop ((Lib.indexByte l 32).toNat + 1))
      exact Nat.succ_le_succ this
theorem splitK_allS : ∀ (k : Nat) (l : List UInt8), (wrdL l).length ≤ k + 1 → Lib.splitK [32] 0 k l = wrdL l
  | 0, l, h => by
    have hge := Lib.indexByte_ge l 32
    by_cases e : Lib.indexByte l 32 = -1
    · rw [wrd_missS l e]; rfl
    · obtain ⟨i, hi⟩ := Int.eq_ofNat_of_zero_le (show 0 ≤ Lib.indexByte l 32 by omega)
      rw [wrd_hitS l i hi, List.length_cons] at h
      obtain ⟨x, xs, e2⟩ := wrdL_neS (l.drop (i + 1))
      rw [e2, List.length_cons] at h
      omega
  | k + 1, l, h => by
    rw [Lib.splitK, index_byteS]
    have hge := Lib.indexByte_ge l 32
    by_cases e : Lib.indexByte l 32 = -1
    · rw [if_pos (by simp [e]), wrd_missS l e]
    · rw [if_neg (by simp [e])]
      obtain ⟨i, hi⟩ := Int.eq_ofNat_of_zero_le (show 0 ≤ Lib.indexByte l 32 by omega)
      rw [wrd_hitS l i hi] at h ⊢
      rw [List.length_cons] at h
      rw [hi]
      show l.take i :: Lib.splitK [32] 0 k (l.drop (i + 1)) = _
      rw [splitK_allS k _ (by omega)]
theorem wrdL_fewS (l : List UInt8) : (wrdL l).length ≤ l.length + 1 := by
  induction l with
  | nil => simp [wrdL]
  | cons c r ih =>
    unfold wrdL
    split
    · rw [List.length_cons, List.length_cons]; omega
    · split
      · rename_i x xs e
        rw [e, List.length_cons] at ih
        rw [List.length_cons, List.length_cons]
        omega
      · rw [List.length_cons, List.length_nil, List.length_cons]; omega
/-- What strings.SplitN hands back at a blank and c. -/
def splN (c : Nat) (s : ByteArray) : List ByteArray := Lib.splitB ⟨#[32]⟩ 0 (min c (s.size + 1) - 1) s
theorem splN_data (c : Nat) (s : ByteArray) : (splN c s).map (·.data.toList) = Lib.splitK [32] 0 (min c (s.size + 1) - 1) s.data.toList := Lib.splitB_data _ _ _ _
theorem splN_len (c : Nat) (s : ByteArray) (hc : 1 ≤ c) : (splN c s).length ≤ c := by
  have h := congrArg List.length (splN_data c s)
  rw [List.length_map] at h
  have := splitK_lenS (min c (s.size + 1) - 1) s.data.toList
  omega
theorem splN_full (c : Nat) (s : ByteArray) (hc : 1 ≤ c) (h : (wrdL s.data.toList).length = c) : splN c s = (wrdL s.data.toList).map txtL := by
  have hd := splN_data c s
  have h2 := wrdL_fewS s.data.toList
  rw [show s.data.toList.length = s.size by simp, h] at h2
  rw [splitK_allS _ _ (by rw [h]; omega)] at hd
  rw [← hd, List.map_map]
  conv => lhs; rw [← List.map_id (splN c s)]
  exact List.map_congr_left fun x _ => (txt_id x).symm
/-- The numbers of a row, 0 for what is none. -/
def numsX (c : Nat) (s : ByteArray) : List Int := (splN c s).map (numV 10 15) ++ List.replicate (c - (splN c s).length) 0
theorem numsX_len (c : Nat) (s : ByteArray) (hc : 1 ≤ c) : (numsX c s).length = c := by
  have := splN_len c s hc
  unfold numsX
  rw [List.length_append, List.length_map, List.length_replicate]
  omega
theorem few_zero : few 0 := ⟨by decide, by decide⟩
theorem numsX_few (c : Nat) (s : ByteArray) : ∀ n ∈ numsX c s, few n := by
  intro n hn
  unfold numsX at hn
  rcases List.mem_append.1 hn with h | h
  · obtain ⟨x, _, rfl⟩ := List.mem_map.1 h
    exact numV_few x
  · rw [List.eq_of_mem_replicate h]
    exact few_zero
theorem numsX_is {c : Nat} {x : List UInt8} {ns : List Int} (hc : 1 ≤ c) (h : numsL c x = some ns) : numsX c (txtL x) = ns := by
  unfold numsL at h
  split at h
  · rename_i hh
    simp only [Option.some.injEq] at h
    unfold numsX
    rw [splN_full c (txtL x) hc hh.1, List.length_map]
    have e : (txtL x).data.toList = x := rfl
    rw [e, hh.1, Nat.sub_self, List.replicate_zero, List.append_nil, List.map_map, ← h]
    rfl
  · cases h
/-- Read so far: the numbers of the first j words, and behind them 0. -/
def turnN (c : Nat) (W : List ByteArray) (j : Nat) : List Int := (W.take j).map (numV 10 15) ++ List.replicate (c - j) 0
theorem turnN_zero (c : Nat) (W : List ByteArray) : turnN c W 0 = List.replicate c 0 := by simp [turnN]
theorem turnN_len {c j : Nat} {W : List ByteArray} (h : W.length ≤ c) (hj : j ≤ W.length) : (turnN c W j).length = c := by unfold turnN; simp; omega
theorem turnN_all (c : Nat) (W : List ByteArray) : turnN c W W.length = W.map (numV 10 15) ++ List.replicate (c - W.length) 0 := by unfold turnN; rw [List.take_length]
theorem turnN_next {c j : Nat} {W : List ByteArray} (h : W.length ≤ c) (hj : j < W.length) : (turnN c W j).set j (numV 10 15 W[j]) = turnN c W (j + 1) := by
  unfold turnN
  have e : ((W.take j).map (numV 10 15)).length = j := by simp; omega
  rw [List.set_append_right _ _ (by omega), e, Nat.sub_self, List.take_succ_eq_append_getElem hj, List.map_append, List.append_assoc]
  congr 1
  rw [show c - j = (c - (j + 1)) + 1 from by omega, List.replicate_succ, List.set_cons_zero]
  rfl

/-! ### Fields -/
/-- A guess of so many fields: where they were written, it is they. -/
def FldG (n : Nat) (d : List UInt8) (l : List Fl) (r : List UInt8) : Prop :=
  ∀ l0 t0, (∀ f ∈ l0, fldOk f = true) → l0.length = n → d = showL l0 ++ t0 → l = l0 ∧ r = t0
def FldI (n : Nat) (d : List UInt8) (j : Nat) (l : List Fl) (r : List UInt8) : Prop :=
  ∀ l0 t0, (∀ f ∈ l0, fldOk f = true) → l0.length = n → d = showL l0 ++ t0 → l = l0.take j ∧ r = showL (l0.drop j) ++ t0
theorem FldI.start (n : Nat) (d : List UInt8) : FldI n d 0 [] d := fun l0 t0 _ _ h => ⟨by simp, by simpa using h⟩
theorem drop_line {l0 : List Fl} {j : Nat} (hj : j < l0.length) (t0 : List UInt8) : showL (l0.drop j) ++ t0 = lineF l0[j] ++ [13, 10] ++ (showL (l0.drop (j + 1)) ++ t0) := by
  rw [List.drop_eq_getElem_cons hj]
  show (showF l0[j] ++ showL (l0.drop (j + 1))) ++ t0 = _
  rw [showF_line]
  simp
theorem FldI.bad {n j : Nat} {d r : List UInt8} {l : List Fl} (h : FldI n d j l r) (hj : j < n) (hr : ∀ x q, lnC r = some (x, q) → rdF x = none) (l2 : List Fl) (r2 : List UInt8) : FldG n d l2 r2 := by
  intro l0 t0 hf hl hd
  exfalso
  obtain ⟨_, h2⟩ := h l0 t0 hf hl hd
  have hj2 : j < l0.length := by omega
  have hfj := hf l0[j] (List.getElem_mem hj2)
  rw [drop_line hj2 t0] at h2
  have := hr _ _ (by rw [h2]; exact lnC_clean _ (lineF_clean hfj))
  rw [lineF_read hfj] at this
  cases this
theorem FldI.next {n j : Nat} {d r x q : List UInt8} {l : List Fl} {f : Fl} (h : FldI n d j l r) (hj : j < n) (hx : lnC r = some (x, q)) (hf : rdF x = some f) : FldI n d (j + 1) (l ++ [f]) q := by
  intro l0 t0 hok hl hd
  obtain ⟨h1, h2⟩ := h l0 t0 hok hl hd
  have hj2 : j < l0.length := by omega
  have hfj := hok l0[j] (List.getElem_mem hj2)
  rw [drop_line hj2 t0] at h2
  rw [h2, lnC_clean _ (lineF_clean hfj)] at hx
  simp only [Option.some.injEq, Prod.mk.injEq] at hx
  obtain ⟨rfl, rfl⟩ := hx
  rw [lineF_read hfj] at hf
  injection hf with hf
  exact ⟨by rw [List.take_succ_eq_append_getElem hj2, h1, hf], rfl⟩
theorem FldI.done {n : Nat} {d r : List UInt8} {l : List Fl} (h : FldI n d n l r) : FldG n d l r := by
  intro l0 t0 hf hl hd
  obtain ⟨h1, h2⟩ := h l0 t0 hf hl hd
  rw [← hl] at h1 h2
  exact ⟨by rw [h1, List.take_length], by rw [h2, List.drop_length]; rfl⟩

/-! ### The object -/
theorem guess_is {t k d1 x2 d2 x3 d3 d4 d5 y : List UInt8} {a b : List Int} {l m : List Fl} (h1 : rowX t = (k, d1)) (h2 : rowX d1 = (x2, d2)) (h3 : rowX d2 = (x3, d3))
    (ha : a = numsX 3 (txtL x2)) (hb : b = numsX 4 (txtL x3)) (hl : FldG (b.getD 0 0).toNat d3 l d4) (hm : FldG (b.getD 2 0).toNat d4 m d5)
    (hy : (b.getD 3 0).toNat ≤ d5.length → y = d5.take (b.getD 3 0).toNat) : ∀ o, obB o = true → shoL o <+: t → mkO k a b l m y = o := by
  rintro o h ⟨z, hz⟩
  have hk := obOk h
  obtain ⟨hn, hf⟩ := fldsOk_parts hk.fl
  obtain ⟨hrn, hrf⟩ := fldsOk_parts hk.rl
  have k10 : (10 : UInt8) ∉ o.k.data.toList := fun hc => by have := hk.key 10 hc; simp at this
  have nd : ∀ n : Int, (10 : UInt8) ∉ dd n := fun n => dd_not n (by decide)
  have hbl : o.r.b.data.toList.length = o.r.b.size := by simp
  have hbz := hk.bd
  have e1 : t = o.k.data.toList ++ 10 :: ((dd o.asked ++ 32 :: (dd o.got ++ 32 :: dd o.ep)) ++ 10 :: ((dd (o.l.length : Int) ++ 32 :: (dd o.r.s ++ 32 :: (dd (o.r.l.length : Int) ++ 32 :: dd (o.r.b.size : Int)))) ++ 10 :: (showL o.l ++ (showL o.r.l ++ (o.r.b.data.toList ++ 10 :: z))))) := by
    rw [← hz]
    unfold shoL hdL
    simp
  have l1 := rowX_of (ln10_at ((dd o.asked ++ 32 :: (dd o.got ++ 32 :: dd o.ep)) ++ 10 :: ((dd (o.l.length : Int) ++ 32 :: (dd o.r.s ++ 32 :: (dd (o.r.l.length : Int) ++ 32 :: dd (o.r.b.size : Int)))) ++ 10 :: (showL o.l ++ (showL o.r.l ++ (o.r.b.data.toList ++ 10 :: z))))) k10)
  rw [← e1, h1, Prod.mk.injEq] at l1
  obtain ⟨rfl, rfl⟩ := l1
  have l2 := rowX_of (ln10_at (x := dd o.asked ++ 32 :: (dd o.got ++ 32 :: dd o.ep)) ((dd (o.l.length : Int) ++ 32 :: (dd o.r.s ++ 32 :: (dd (o.r.l.length : Int) ++ 32 :: dd (o.r.b.size : Int)))) ++ 10 :: (showL o.l ++ (showL o.r.l ++ (o.r.b.data.toList ++ 10 :: z)))) (by simp [nd]))
  rw [h2, Prod.mk.injEq] at l2
  obtain ⟨rfl, rfl⟩ := l2
  have l3 := rowX_of (ln10_at (x := dd (o.l.length : Int) ++ 32 :: (dd o.r.s ++ 32 :: (dd (o.r.l.length : Int) ++ 32 :: dd (o.r.b.size : Int)))) (showL o.l ++ (showL o.r.l ++ (o.r.b.data.toList ++ 10 :: z))) (by simp [nd]))
  rw [h3, Prod.mk.injEq] at l3
  obtain ⟨rfl, rfl⟩ := l3
  have n1 := numsX_is (by decide) (nums_3 (few_of hk.asked (by decide)) (few_of hk.got (by decide)) (few_of hk.ep (by decide)))
  have n2 := numsX_is (by decide) (nums_4 (a := (o.l.length : Int)) (b := o.r.s) (c := (o.r.l.length : Int)) (d := (o.r.b.size : Int)) ⟨by omega, by omega⟩ ⟨by have := hk.st; omega, by have := hk.st; omega⟩ ⟨by omega, by omega⟩ ⟨by omega, by omega⟩)
  rw [n1] at ha
  rw [n2] at hb
  subst ha hb
  simp only [List.getD_cons_zero, List.getD_cons_succ, Int.toNat_natCast] at hl hm hy
  obtain ⟨rfl, rfl⟩ := hl o.l _ hf rfl rfl
  obtain ⟨rfl, rfl⟩ := hm o.r.l _ hrf rfl rfl
  have e2 : (o.r.b.data.toList ++ 10 :: z).take o.r.b.size = o.r.b.data.toList := by rw [← hbl]; simp
  rw [e2] at hy
  have := hy (by rw [List.length_append, hbl]; simp)
  subst this
  unfold mkO
  rw [txt_id, txt_id]
  rfl
theorem last_is {t : List UInt8} {g : Ob} (h : ∀ o, obB o = true → shoL o <+: t → g = o) : lastO t g = rdO t := by
  cases e : rdO t with
  | some o =>
    obtain ⟨h1, h2⟩ := rdO_iff.1 e
    obtain rfl := h o h1 h2
    unfold lastO
    rw [if_pos ⟨h1, h2⟩]
  | none =>
    unfold lastO
    split
    · rename_i hh
      rw [rdO_iff.2 hh] at e
      cases e
    · rfl
end Go.Proofs.YtemmgfnepdgpbaaGreatDoor
