/-
  Objects as plain data: what is a right one.
  Purges as plain data: what is right, what is shown and read, what one hits, what a log bars.
  Replicas as plain data: what is right, what is counted, asked for, told, received; and what stays true of it.
-/
import Derived.Test.YtdkhdjickkcaiaaRK12
import Derived.Test.YtdkhdjickkcaiaaRows
import Derived.Test.YtdkhdjickkcaiaaRK03
import Derived.WalkKit
import Derived.WalkSpells
import Derived.Test.YtdkhdjickkcaiaaRK01
import Derived.Lib.SlBytesConst
import Derived.Test.YtdkhdjickkcaiaaRK02
import Derived.Laws.RangeAny
import Derived.Test.YtdkhdjickkcaiaaRK08
import Derived.Test.YtdkhdjickkcaiaaRK11
namespace Go.Proofs.Ytdkhdjickkcaiaa
open Go.RowKit
set_option linter.unusedVariables false

def keyN (n : Int) : Bool := decide (33 ≤ n ∧ n ≤ 126)
theorem keyN_yes {n : Int} (h : 33 ≤ n ∧ n ≤ 126) : keyN n = true := decide_eq_true h
theorem keyN_no {n : Int} (h : ¬ (33 ≤ n ∧ n ≤ 126)) : keyN n = false := decide_eq_false h
end Go.Proofs.Ytdkhdjickkcaiaa
namespace Go.Proofs.Ytdkhdjickkcaiaa.Pg
open Go.RowKit
set_option linter.unusedVariables false

def kyW : ByteArray := ⟨#[107, 101, 121, 32]⟩
def tgW : ByteArray := ⟨#[116, 97, 103, 32]⟩
def bgW : ByteArray := ⟨#[98, 101, 103, 105, 110, 32]⟩
def alW : ByteArray := ⟨#[97, 108, 108]⟩
def txOk (s : ByteArray) : Bool := decide (1 ≤ s.size ∧ s.size ≤ 200) && allB keyN s.data.toList
def pgOk (k : Int) (s : ByteArray) : Bool := if k = 4 then decide (s.size = 0) else decide (1 ≤ k ∧ k ≤ 3) && txOk s
def wrd (k : Int) : ByteArray := if k = 1 then kyW else if k = 2 then tgW else bgW
def shoP (k : Int) (s : ByteArray) : ByteArray := if k = 4 then alW else wrd k ++ s
def shwP (k : Int) (s : ByteArray) : ByteArray := if pgOk k s = true then shoP k s else ⟨#[]⟩
/-- The text begins with the word, and more stands behind it. -/
def preB (p s : ByteArray) : Bool := decide (p.size < s.size) && decide (s.extract 0 p.size = p)
def rdP (s : ByteArray) : Int × ByteArray :=
  if preB bgW s = true then (3, s.extract 6 s.size) else if preB tgW s = true then (2, s.extract 4 s.size) else if preB kyW s = true then (1, s.extract 4 s.size) else (4, ⟨#[]⟩)
def rdB (s : ByteArray) : Bool := decide (shwP (rdP s).1 (rdP s).2 = s)
def rdV (s : ByteArray) : Int × ByteArray := if rdB s = true then rdP s else (0, ⟨#[]⟩)
theorem ext_l (s : ByteArray) (a b : Nat) : (s.extract a b).data.toList = (s.data.toList.take b).drop a := by
  simp [ByteArray.data_extract, List.drop_take]
theorem ba_ext {a b : ByteArray} (h : a.data.toList = b.data.toList) : a = b := ByteArray.ext (Array.toList_inj.1 h)
theorem pre_app (p t : ByteArray) (h : 0 < t.size) : preB p (p ++ t) = true := by
  unfold preB
  rw [Bool.and_eq_true, decide_eq_true_eq, decide_eq_true_eq, ByteArray.size_append]
  refine ⟨by omega, ba_ext ?_⟩
  rw [ext_l]
  have e : p.size = p.data.toList.length := by simp
  rw [e]
  simp
theorem rest_app (p t : ByteArray) (n : Nat) (hn : n = p.size) : (p ++ t).extract n (p ++ t).size = t := by
  refine ba_ext ?_
  rw [ext_l]
  have e : n = p.data.toList.length := by rw [hn]; simp
  have e2 : (p ++ t).size = (p ++ t).data.toList.length := by simp
  rw [e2, List.take_length, e]
  simp
theorem pre_parts {p s : ByteArray} (h : preB p s = true) : s = p ++ s.extract p.size s.size ∧ p.size < s.size := by
  unfold preB at h
  rw [Bool.and_eq_true, decide_eq_true_eq, decide_eq_true_eq] at h
  refine ⟨ba_ext ?_, h.1⟩
  have h2 := congrArg (fun x : ByteArray => x.data.toList) h.2
  simp only [ext_l, List.drop_zero] at h2
  have e2 : s.size = s.data.toList.length := by simp
  rw [ByteArray.data_append, Array.toList_append, ext_l, e2, List.take_length]
  have h3 : p.data.toList = s.data.toList.take p.size := h2.symm
  rw [h3]
  simp
/-- What is shown of a right one is read as it is. -/
theorem rd_sho {k : Int} {t : ByteArray} (h : pgOk k t = true) : rdP (shoP k t) = (k, t) := by
  unfold pgOk at h
  by_cases h4 : k = 4
  · subst h4
    rw [if_pos rfl, decide_eq_true_eq] at h
    have : t = ⟨#[]⟩ := ba_ext (by have := Array.eq_empty_of_size_eq_zero (show t.data.size = 0 from h); simp [this])
    subst this
    rfl
  · rw [if_neg h4, Bool.and_eq_true, decide_eq_true_eq] at h
    have ht : 0 < t.size := by have := h.2; unfold txOk at this; rw [Bool.and_eq_true, decide_eq_true_eq] at this; omega
    have hsz : ∀ p : ByteArray, (p ++ t).size = p.size + t.size := fun p => ByteArray.size_append
    have first : ∀ (p q : ByteArray) (c d : UInt8), p.data.toList.head? = some c → q.data.toList.head? = some d → c ≠ d → preB q (p ++ t) = false := fun p q c d hp hq hne => by
      cases e : preB q (p ++ t) with
      | false => rfl
      | true =>
        have h1 := (pre_parts e).1
        have h2 := congrArg (fun x : ByteArray => x.data.toList.head?) h1
        simp only [ByteArray.data_append, Array.toList_append] at h2
        obtain ⟨ps, hps⟩ : ∃ ps, p.data.toList = c :: ps := by
          cases hp2 : p.data.toList with
          | nil => rw [hp2] at hp; cases hp
          | cons x xs => rw [hp2] at hp; simp at hp; exact ⟨xs, by rw [hp]⟩
        obtain ⟨qs, hqs⟩ : ∃ qs, q.data.toList = d :: qs := by
          cases hq2 : q.data.toList with
          | nil => rw [hq2] at hq; cases hq
          | cons x xs => rw [hq2] at hq; simp at hq; exact ⟨xs, by rw [hq]⟩
        rw [hps, hqs] at h2
        simp at h2
        exact absurd h2 hne
    unfold shoP
    rw [if_neg h4]
    rcases (show k = 1 ∨ k = 2 ∨ k = 3 by omega) with rfl | rfl | rfl
    · have w1 : wrd 1 = kyW := rfl
      rw [w1]
      unfold rdP
      rw [first kyW bgW 107 98 rfl rfl (by decide), first kyW tgW 107 116 rfl rfl (by decide), pre_app kyW t ht, rest_app kyW t 4 rfl]
      rfl
    · have w1 : wrd 2 = tgW := rfl
      rw [w1]
      unfold rdP
      rw [first tgW bgW 116 98 rfl rfl (by decide), pre_app tgW t ht, rest_app tgW t 4 rfl]
      rfl
    · have w1 : wrd 3 = bgW := rfl
      rw [w1]
      unfold rdP
      rw [pre_app bgW t ht, rest_app bgW t 6 rfl]
      rfl
theorem rd_shw {k : Int} {t : ByteArray} (h : pgOk k t = true) : rdB (shwP k t) = true ∧ rdV (shwP k t) = (k, t) := by
  have e : shwP k t = shoP k t := by unfold shwP; rw [if_pos h]
  have hb : rdB (shwP k t) = true := by
    unfold rdB
    rw [e, rd_sho h, decide_eq_true_eq]
    exact e
  refine ⟨hb, ?_⟩
  unfold rdV
  rw [if_pos hb, e, rd_sho h]
/-- What is read is right, and is shown as it was. -/
theorem rd_ok {s : ByteArray} (h : rdB s = true) : pgOk (rdP s).1 (rdP s).2 = true ∧ shoP (rdP s).1 (rdP s).2 = s := by
  unfold rdB at h
  rw [decide_eq_true_eq] at h
  cases e : pgOk (rdP s).1 (rdP s).2 with
  | true =>
    refine ⟨rfl, ?_⟩
    unfold shwP at h
    rw [if_pos e] at h
    exact h
  | false =>
    exfalso
    unfold shwP at h
    rw [e] at h
    have h0 : s = ⟨#[]⟩ := h.symm
    subst h0
    have : pgOk (rdP ⟨#[]⟩).1 (rdP ⟨#[]⟩).2 = true := by decide
    rw [this] at e
    cases e
def logB (L : List ByteArray) : Bool := decide (L.length ≤ 60) && L.all rdB
end Go.Proofs.Ytdkhdjickkcaiaa.Pg
namespace Go.Proofs.Ytdkhdjickkcaiaa.Rl
open Pg
set_option linter.unusedVariables false
set_option linter.unusedSimpArgs false

structure Ms where
  k : Int
  f : Int
  t : Int
  v : Int
  la : Int
  l : List ByteArray
  c : Int
structure Rp where
  id : Int
  p : Int
  v : Int
  n : Bool
  la : Int
  l : List ByteArray
  c : Int
  ok : List Int
  ch : List Int
  te : List Ms
def noRp : Rp := ⟨0, 0, 0, false, 0, [], 0, [], [], []⟩

/-! ### What is right -/
def mine (r : Rp) : Prop := r.v % r.p = r.id
def leads (r : Rp) : Prop := r.n = true ∧ mine r
structure MsOk (m : Ms) (p : Int) : Prop where
  k : 1 ≤ m.k ∧ m.k ≤ 4
  f : 0 ≤ m.f ∧ m.f < p
  t : 0 ≤ m.t ∧ m.t < p
  v : 0 ≤ m.v ∧ m.v ≤ 10000
  la : 0 ≤ m.la ∧ m.la ≤ m.v
  l : logB m.l = true
  c : if m.k = 2 then 0 ≤ m.c ∧ m.c ≤ 60 else 0 ≤ m.c ∧ m.c ≤ (m.l.length : Int)
/-- A message that tells it of its view. -/
structure TeOk (m : Ms) (r : Rp) : Prop where
  k : m.k = 4
  t : m.t = r.id
  v : m.v = r.v
  ok : MsOk m r.p
structure RpOk (r : Rp) : Prop where
  p : r.p = 1 ∨ r.p = 3 ∨ r.p = 5
  id : 0 ≤ r.id ∧ r.id < r.p
  v : 0 ≤ r.v ∧ r.v ≤ 10000
  l : logB r.l = true
  c : 0 ≤ r.c ∧ r.c ≤ (r.l.length : Int)
  la : 0 ≤ r.la ∧ r.la ≤ r.v
  n : r.n = true ↔ r.la = r.v
  ch0 : r.n = true → r.ch = [] ∧ r.te = []
  ok1 : r.n = true → mine r → (r.ok.length : Int) = r.p ∧ r.ok[r.id.toNat]? = some (r.l.length : Int) ∧ ∀ x ∈ r.ok, 0 ≤ x ∧ x ≤ (r.l.length : Int)
  ok0 : ¬ leads r → r.ok = []
  ch1 : r.n = false → r.id ∈ r.ch ∧ r.ch.Pairwise (· < ·) ∧ ∀ x ∈ r.ch, 0 ≤ x ∧ x < r.p
  te0 : r.n = false → ¬ mine r → r.te = []
  te1 : r.n = false → (∀ m ∈ r.te, TeOk m r) ∧ r.te.Pairwise (fun a b => a.f < b.f)

/-! ### What is counted -/
/-! ### What is sent -/
end Go.Proofs.Ytdkhdjickkcaiaa.Rl
