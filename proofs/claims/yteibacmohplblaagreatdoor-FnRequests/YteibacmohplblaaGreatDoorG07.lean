/-
  Plain facts on chunks: a state that eats bytes, what all bytes of a text come to, and what a body is written as.
  Plain facts on messages: which are right, where one ends, what it is shown as, what is read.
  Plain facts on messages: a message is read from what it is shown as, whatever stands behind it, and of no part of it; what is read is right.
-/
import Derived.Test.YteibacmohplblaaGreatDoorG06
namespace Go.Proofs.YteibacmohplblaaGreatDoor
open Go.RowKit

/-- A state of a reading of chunks. -/
structure Ck where
  st : Int
  lf : Int
  dg : ByteArray
  bd : ByteArray

def ckV (c : Ck) : Value := .agg #[.int .i64 c.st, .int .i64 c.lf, .string c.dg, .string c.bd]
def badC (c : Ck) : Ck := ⟨9, 0, ⟨#[]⟩, c.bd⟩
/-- The state is right. -/
def okP (c : Ck) : Prop := (1 ≤ c.st ∧ c.st ≤ 9) ∧ (0 ≤ c.lf ∧ c.lf ≤ 4000) ∧ c.dg.size ≤ 13 ∧ (c.bd.size : Int) + c.lf ≤ 4000 ∧ allB (digN 16) c.dg.data.toList = true ∧ (c.st = 1 → c.lf = 0) ∧ (c.st ≠ 1 → c.dg.size = 0) ∧ (c.st = 3 → 0 < c.lf) ∧ (c.st ≠ 2 → c.st ≠ 3 → c.lf = 0)
def okC (c : Ck) : Bool := decide ((1 ≤ c.st ∧ c.st ≤ 9) ∧ (0 ≤ c.lf ∧ c.lf ≤ 4000) ∧ c.dg.size ≤ 13 ∧ (c.bd.size : Int) + c.lf ≤ 4000 ∧ allB (digN 16) c.dg.data.toList = true ∧ (c.st = 1 → c.lf = 0) ∧ (c.st ≠ 1 → c.dg.size = 0) ∧ (c.st = 3 → 0 < c.lf) ∧ (c.st ≠ 2 → c.st ≠ 3 → c.lf = 0))
theorem okC_iff (c : Ck) : okC c = true ↔ okP c := by unfold okC okP; exact decide_eq_true_iff
theorem okC_yes {c : Ck} (h : okP c) : okC c = true := (okC_iff c).2 h
theorem okC_no {c : Ck} (h : ¬ okP c) : okC c = false := Bool.eq_false_iff.2 fun x => h ((okC_iff c).1 x)
theorem okC_is {c : Ck} (h : okC c = true) : okP c := (okC_iff c).1 h

/-- One byte eaten. -/
def eat1 (c : Ck) (b : UInt8) : Ck :=
  if 8 ≤ c.st then c
  else if c.st = 1 then
    if 0 ≤ digV (b.toNat : Int) ∧ c.dg.size < 13 then ⟨1, c.lf, c.dg ++ ⟨#[b]⟩, c.bd⟩
    else if b.toNat = 13 ∧ numOk 16 13 c.dg = true ∧ numV 16 13 c.dg + (c.bd.size : Int) ≤ 4000 then ⟨2, numV 16 13 c.dg, ⟨#[]⟩, c.bd⟩ else badC c
  else if c.st = 2 then if b.toNat = 10 then ⟨if c.lf = 0 then 6 else 3, c.lf, c.dg, c.bd⟩ else badC c
  else if c.st = 3 then ⟨if c.lf = 1 then 4 else 3, c.lf - 1, c.dg, c.bd ++ ⟨#[b]⟩⟩
  else if c.st = 4 then if b.toNat = 13 then ⟨5, c.lf, c.dg, c.bd⟩ else badC c
  else if c.st = 5 then if b.toNat = 10 then ⟨1, c.lf, c.dg, c.bd⟩ else badC c
  else if c.st = 6 then if b.toNat = 13 then ⟨7, c.lf, c.dg, c.bd⟩ else badC c
  else if b.toNat = 10 then ⟨8, c.lf, c.dg, c.bd⟩ else badC c

theorem eat_end {c : Ck} {b : UInt8} (h : 8 ≤ c.st) : eat1 c b = c := by unfold eat1; rw [if_pos h]
theorem eat_digit {c : Ck} {b : UInt8} (h : c.st = 1) (h1 : 0 ≤ digV (b.toNat : Int)) (h2 : c.dg.size < 13) : eat1 c b = ⟨1, c.lf, c.dg ++ ⟨#[b]⟩, c.bd⟩ := by
  unfold eat1; rw [if_neg (by omega), if_pos h, if_pos ⟨h1, h2⟩]
theorem eat_size {c : Ck} {b : UInt8} (h : c.st = 1) (h1 : b.toNat = 13) (h2 : numOk 16 13 c.dg = true) (h3 : numV 16 13 c.dg + (c.bd.size : Int) ≤ 4000) : eat1 c b = ⟨2, numV 16 13 c.dg, ⟨#[]⟩, c.bd⟩ := by
  have hd : digV (b.toNat : Int) = -1 := by rw [h1]; decide
  unfold eat1; rw [if_neg (by omega), if_pos h, if_neg (by omega), if_pos ⟨h1, h2, h3⟩]
theorem eat_nosize {c : Ck} {b : UInt8} (h : c.st = 1) (h1 : ¬ (0 ≤ digV (b.toNat : Int) ∧ c.dg.size < 13)) (h2 : ¬ (b.toNat = 13 ∧ numOk 16 13 c.dg = true ∧ numV 16 13 c.dg + (c.bd.size : Int) ≤ 4000)) : eat1 c b = badC c := by
  unfold eat1; rw [if_neg (by omega), if_pos h, if_neg h1, if_neg h2]
theorem eat_2 {c : Ck} {b : UInt8} (h : c.st = 2) (h1 : b.toNat = 10) : eat1 c b = ⟨if c.lf = 0 then 6 else 3, c.lf, c.dg, c.bd⟩ := by
  unfold eat1; rw [if_neg (by omega), if_neg (by omega), if_pos h, if_pos h1]
theorem eat_2' {c : Ck} {b : UInt8} (h : c.st = 2) (h1 : b.toNat ≠ 10) : eat1 c b = badC c := by
  unfold eat1; rw [if_neg (by omega), if_neg (by omega), if_pos h, if_neg h1]
theorem eat_3 {c : Ck} {b : UInt8} (h : c.st = 3) : eat1 c b = ⟨if c.lf = 1 then 4 else 3, c.lf - 1, c.dg, c.bd ++ ⟨#[b]⟩⟩ := by
  unfold eat1; rw [if_neg (by omega), if_neg (by omega), if_neg (by omega), if_pos h]
theorem eat_4 {c : Ck} {b : UInt8} (h : c.st = 4) (h1 : b.toNat = 13) : eat1 c b = ⟨5, c.lf, c.dg, c.bd⟩ := by
  unfold eat1; rw [if_neg (by omega), if_neg (by omega), if_neg (by omega), if_neg (by omega), if_pos h, if_pos h1]
theorem eat_4' {c : Ck} {b : UInt8} (h : c.st = 4) (h1 : b.toNat ≠ 13) : eat1 c b = badC c := by
  unfold eat1; rw [if_neg (by omega), if_neg (by omega), if_neg (by omega), if_neg (by omega), if_pos h, if_neg h1]
theorem eat_5 {c : Ck} {b : UInt8} (h : c.st = 5) (h1 : b.toNat = 10) : eat1 c b = ⟨1, c.lf, c.dg, c.bd⟩ := by
  unfold eat1; rw [if_neg (by omega), if_neg (by omega), if_neg (by omega), if_neg (by omega), if_neg (by omega), if_pos h, if_pos h1]
theorem eat_5' {c : Ck} {b : UInt8} (h : c.st = 5) (h1 : b.toNat ≠ 10) : eat1 c b = badC c := by
  unfold eat1; rw [if_neg (by omega), if_neg (by omega), if_neg (by omega), if_neg (by omega), if_neg (by omega), if_pos h, if_neg h1]
theorem eat_6 {c : Ck} {b : UInt8} (h : c.st = 6) (h1 : b.toNat = 13) : eat1 c b = ⟨7, c.lf, c.dg, c.bd⟩ := by
  unfold eat1; rw [if_neg (by omega), if_neg (by omega), if_neg (by omega), if_neg (by omega), if_neg (by omega), if_neg (by omega), if_pos h, if_pos h1]
theorem eat_6' {c : Ck} {b : UInt8} (h : c.st = 6) (h1 : b.toNat ≠ 13) : eat1 c b = badC c := by
  unfold eat1; rw [if_neg (by omega), if_neg (by omega), if_neg (by omega), if_neg (by omega), if_neg (by omega), if_neg (by omega), if_pos h, if_neg h1]
theorem eat_7 {c : Ck} {b : UInt8} (h : c.st = 7) (h1 : b.toNat = 10) : eat1 c b = ⟨8, c.lf, c.dg, c.bd⟩ := by
  unfold eat1; rw [if_neg (by omega), if_neg (by omega), if_neg (by omega), if_neg (by omega), if_neg (by omega), if_neg (by omega), if_neg (by omega), if_pos h1]
theorem eat_7' {c : Ck} {b : UInt8} (h : c.st = 7) (h1 : b.toNat ≠ 10) : eat1 c b = badC c := by
  unfold eat1; rw [if_neg (by omega), if_neg (by omega), if_neg (by omega), if_neg (by omega), if_neg (by omega), if_neg (by omega), if_neg (by omega), if_neg h1]

theorem digN16 {b : UInt8} (h : 0 ≤ digV (b.toNat : Int)) : digN 16 (b.toNat : Int) = true := digN_yes h (by have := (digV_bd (b.toNat : Int)).2; omega)
theorem digN16_no {b : UInt8} (h : ¬ 0 ≤ digV (b.toNat : Int)) : digN 16 (b.toNat : Int) = false := digN_no fun x => h x.1
theorem add_list (a b : ByteArray) : (a ++ b).data.toList = a.data.toList ++ b.data.toList := by simp
theorem allB_app {p : Int → Bool} {l m : List UInt8} (h : allB p l = true) (h' : allB p m = true) : allB p (l ++ m) = true := by
  unfold allB at *; rw [List.all_append, h, h']; rfl
theorem size_one (a : ByteArray) (b : UInt8) : (a ++ (⟨#[b]⟩ : ByteArray)).size = a.size + 1 := ByteArray.size_append
theorem okP_bad {c : Ck} (h : c.bd.size ≤ 4000) : okP (badC c) := by
  refine ⟨by show (1 : Int) ≤ 9 ∧ (9 : Int) ≤ 9; omega, by show (0 : Int) ≤ 0 ∧ (0 : Int) ≤ 4000; omega, Nat.zero_le _, by show (c.bd.size : Int) + 0 ≤ 4000; omega, rfl, fun _ => rfl, fun _ => rfl, fun x => absurd x (by show ¬ (9 : Int) = 3; omega), fun _ _ => rfl⟩
theorem num_bd {s : ByteArray} : 0 ≤ numV 16 13 s := by
  by_cases h : numOk 16 13 s = true
  · exact numV_nonneg h
  · rw [num_no (by simpa using h)]; exact Int.le_refl _
theorem nil_size : (⟨#[]⟩ : ByteArray).size = 0 := rfl
theorem ok_eat {c : Ck} (b : UInt8) (h : okP c) : okP (eat1 c b) := by
  have h0 := h
  obtain ⟨⟨a1, a2⟩, ⟨b1, b2⟩, d1, e1, f1, g1, g2, g3, g4⟩ := h
  have hb : okP (badC c) := okP_bad (by omega)
  rcases (show c.st = 1 ∨ c.st = 2 ∨ c.st = 3 ∨ c.st = 4 ∨ c.st = 5 ∨ c.st = 6 ∨ c.st = 7 ∨ 8 ≤ c.st by omega) with k | k | k | k | k | k | k | k
  · by_cases x : 0 ≤ digV (b.toNat : Int) ∧ c.dg.size < 13
    · rw [eat_digit k x.1 x.2]
      refine ⟨⟨?_, ?_⟩, ⟨b1, b2⟩, ?_, e1, ?_, ?_, ?_, ?_, ?_⟩
      · show (1 : Int) ≤ 1; omega
      · show (1 : Int) ≤ 9; omega
      · rw [size_one]; omega
      · rw [add_list]; exact allB_app f1 (by unfold allB; simp [digN16 x.1])
      · intro _; exact g1 k
      · intro x; exact absurd rfl x
      · intro x; exact absurd x (by show ¬ (1 : Int) = 3; omega)
      · intro _ _; exact g1 k
    · by_cases y : b.toNat = 13 ∧ numOk 16 13 c.dg = true ∧ numV 16 13 c.dg + (c.bd.size : Int) ≤ 4000
      · rw [eat_size k y.1 y.2.1 y.2.2]
        have := @num_bd c.dg
        have hy := y.2.2
        refine ⟨⟨?_, ?_⟩, ⟨this, ?_⟩, ?_, ?_, rfl, ?_, ?_, ?_, ?_⟩
        · show (1 : Int) ≤ 2; omega
        · show (2 : Int) ≤ 9; omega
        · show numV 16 13 c.dg ≤ 4000; omega
        · show 0 ≤ 13; omega
        · show (c.bd.size : Int) + numV 16 13 c.dg ≤ 4000; omega
        · intro x; exact absurd x (by show ¬ (2 : Int) = 1; omega)
        · intro _; rfl
        · intro x; exact absurd x (by show ¬ (2 : Int) = 3; omega)
        · intro x; exact absurd rfl x
      · rw [eat_nosize k x y]; exact hb
  · by_cases x : b.toNat = 10
    · rw [eat_2 k x]
      have hd := g2 (by omega)
      by_cases y : c.lf = 0
      · rw [if_pos y]
        refine ⟨?_, ⟨b1, b2⟩, d1, e1, f1, ?_, ?_, ?_, ?_⟩ <;> simp [y, hd]
      · rw [if_neg y]
        refine ⟨?_, ⟨b1, b2⟩, d1, e1, f1, ?_, ?_, ?_, ?_⟩ <;> simp [hd] <;> omega
    · rw [eat_2' k x]; exact hb
  · rw [eat_3 k]
    have hd := g2 (by omega)
    have h3 := g3 k
    have hs := size_one c.bd b
    by_cases y : c.lf = 1
    · rw [if_pos y]
      have e2 : ((c.bd ++ (⟨#[b]⟩ : ByteArray)).size : Int) + (c.lf - 1) ≤ 4000 := by omega
      refine ⟨?_, ?_, d1, e2, f1, ?_, ?_, ?_, ?_⟩ <;> simp [y, hd]
    · rw [if_neg y]
      have e2 : ((c.bd ++ (⟨#[b]⟩ : ByteArray)).size : Int) + (c.lf - 1) ≤ 4000 := by omega
      refine ⟨?_, ?_, d1, e2, f1, ?_, ?_, ?_, ?_⟩ <;> simp [hd] <;> omega
  · have hd := g2 (by omega)
    have hl := g4 (by omega) (by omega)
    by_cases x : b.toNat = 13
    · rw [eat_4 k x]
      refine ⟨?_, ⟨b1, b2⟩, d1, e1, f1, ?_, ?_, ?_, ?_⟩ <;> simp [hd, hl]
    · rw [eat_4' k x]; exact hb
  · have hd := g2 (by omega)
    have hl := g4 (by omega) (by omega)
    by_cases x : b.toNat = 10
    · rw [eat_5 k x]
      refine ⟨?_, ⟨b1, b2⟩, d1, e1, f1, ?_, ?_, ?_, ?_⟩ <;> simp [hl]
    · rw [eat_5' k x]; exact hb
  · have hd := g2 (by omega)
    have hl := g4 (by omega) (by omega)
    by_cases x : b.toNat = 13
    · rw [eat_6 k x]
      refine ⟨?_, ⟨b1, b2⟩, d1, e1, f1, ?_, ?_, ?_, ?_⟩ <;> simp [hd, hl]
    · rw [eat_6' k x]; exact hb
  · have hd := g2 (by omega)
    have hl := g4 (by omega) (by omega)
    by_cases x : b.toNat = 10
    · rw [eat_7 k x]
      refine ⟨?_, ⟨b1, b2⟩, d1, e1, f1, ?_, ?_, ?_, ?_⟩ <;> simp [hd, hl]
    · rw [eat_7' k x]; exact hb
  · rw [eat_end k]; exact h0

/-- All bytes of a list eaten, and how many of them are eaten. -/
def fin (c : Ck) (l : List UInt8) : Ck := l.foldl eat1 c
def cnt (c : Ck) : List UInt8 → Nat
  | [] => 0
  | b :: l => if c.st < 8 then cnt (eat1 c b) l + 1 else 0
theorem fin_nil (c : Ck) : fin c [] = c := rfl
theorem fin_cons (c : Ck) (b : UInt8) (l : List UInt8) : fin c (b :: l) = fin (eat1 c b) l := rfl
theorem fin_app (c : Ck) (l m : List UInt8) : fin c (l ++ m) = fin (fin c l) m := List.foldl_append
theorem fin_stay {c : Ck} (h : 8 ≤ c.st) (l : List UInt8) : fin c l = c := by
  induction l with
  | nil => rfl
  | cons b l ih => rw [fin_cons, eat_end h]; exact ih
theorem cnt_stay {c : Ck} (h : 8 ≤ c.st) (l : List UInt8) : cnt c l = 0 := by
  cases l with
  | nil => rfl
  | cons b l => unfold cnt; rw [if_neg (by omega)]
theorem cnt_cons {c : Ck} (h : c.st < 8) (b : UInt8) (l : List UInt8) : cnt c (b :: l) = cnt (eat1 c b) l + 1 := by
  rw [cnt, if_pos h]
theorem ok_fin {c : Ck} (h : okP c) (l : List UInt8) : okP (fin c l) := by
  induction l generalizing c with
  | nil => exact h
  | cons b l ih => exact ih (ok_eat b h)
theorem cnt_le (c : Ck) (l : List UInt8) : cnt c l ≤ l.length := by
  induction l generalizing c with
  | nil => exact Nat.le_refl _
  | cons b l ih =>
    unfold cnt
    split
    · have := ih (eat1 c b); simp; omega
    · simp
/-- Where the state at the end is under way, it was so all along. -/
theorem fin_under {c : Ck} {l m : List UInt8} (h : (fin c (l ++ m)).st < 8) : (fin c l).st < 8 := by
  rcases Int.lt_or_le (fin c l).st 8 with h' | h'
  · exact h'
  · rw [fin_app, fin_stay h'] at h; omega
theorem cnt_under {c : Ck} {l : List UInt8} (h : (fin c l).st < 8) (m : List UInt8) : cnt c (l ++ m) = l.length + cnt (fin c l) m := by
  induction l generalizing c with
  | nil => simp [fin]
  | cons b l ih =>
    have hc : c.st < 8 := fin_under (l := []) (m := b :: l) h
    rw [List.cons_append, cnt_cons hc, ih h, List.length_cons, fin_cons]
    omega
/-- All bytes are eaten, or the state is at its end. -/
theorem cnt_all (c : Ck) (l : List UInt8) : cnt c l = l.length ∨ 8 ≤ (fin c l).st := by
  rcases Int.lt_or_le (fin c l).st 8 with h | h
  · left
    have := cnt_under h []
    rw [List.append_nil] at this
    rw [this]; rfl
  · exact .inr h
/-- What is not eaten changes nothing. -/
theorem fin_cnt (c : Ck) (l : List UInt8) : fin c (l.take (cnt c l)) = fin c l := by
  induction l generalizing c with
  | nil => rfl
  | cons b l ih =>
    rcases Int.lt_or_le c.st 8 with h | h
    · rw [cnt_cons h, List.take_succ_cons, fin_cons, fin_cons, ih]
    · rw [cnt_stay h, fin_stay h (b :: l)]; rfl

/-- The state at the start. -/
def ck0 (bd : ByteArray) : Ck := ⟨1, 0, ⟨#[]⟩, bd⟩
theorem ok_ck0 {bd : ByteArray} (h : bd.size ≤ 4000) : okP (ck0 bd) := by
  exact ⟨by show (1 : Int) ≤ 1 ∧ (1 : Int) ≤ 9; omega, by show (0 : Int) ≤ 0 ∧ (0 : Int) ≤ 4000; omega, Nat.zero_le _, by show (bd.size : Int) + 0 ≤ 4000; omega, rfl, fun _ => rfl, fun _ => rfl, fun x => absurd x (by show ¬ (1 : Int) = 3; omega), fun _ _ => rfl⟩
def unF (l : List UInt8) : Ck := fin (ck0 ⟨#[]⟩) l
def unN (l : List UInt8) : Nat := cnt (ck0 ⟨#[]⟩) l
/-- What reading chunks answers. -/
def unV (l : List UInt8) : Value := if (unF l).st = 8 then .tuple #[.string (unF l).bd, .int .i64 (unN l : Int), .bool true] else .tuple #[.string ⟨#[]⟩, .int .i64 0, .bool false]
theorem unV_yes {l : List UInt8} (h : (unF l).st = 8) : unV l = .tuple #[.string (unF l).bd, .int .i64 (unN l : Int), .bool true] := by unfold unV; rw [if_pos h]
theorem unV_no {l : List UInt8} (h : ¬ (unF l).st = 8) : unV l = .tuple #[.string ⟨#[]⟩, .int .i64 0, .bool false] := by unfold unV; rw [if_neg h]

/-- The bytes of one part. -/
def oneL (p : ByteArray) : List UInt8 := if p.size = 0 then [] else hexF 13 p.size ++ [13, 10] ++ p.data.toList ++ [13, 10]
def sumP (l : List ByteArray) : Nat := (l.map (·.size)).sum
def catP (l : List ByteArray) : ByteArray := l.foldl (· ++ ·) ⟨#[]⟩
def fewP (l : List ByteArray) : Prop := l.length ≤ 100 ∧ sumP l ≤ 4000
def chL (l : List ByteArray) : List UInt8 := l.flatMap oneL ++ [48, 13, 10, 13, 10]
/-- What parts are written as. -/
def chA (l : List ByteArray) : ByteArray := if l.length ≤ 100 ∧ sumP l ≤ 4000 then ⟨(chL l).toArray⟩ else ⟨#[]⟩
theorem chA_yes {l : List ByteArray} (h : fewP l) : (⟨(chL l).toArray⟩ : ByteArray) = chA l := by unfold chA; rw [if_pos (show l.length ≤ 100 ∧ sumP l ≤ 4000 from h)]
theorem chA_no {l : List ByteArray} (h : ¬ fewP l) : (⟨#[]⟩ : ByteArray) = chA l := by unfold chA; rw [if_neg (show ¬ (l.length ≤ 100 ∧ sumP l ≤ 4000) from h)]
theorem ba_ext {a b : ByteArray} (h : a.data.toList = b.data.toList) : a = b := by
  cases a; cases b; exact congrArg _ (Array.ext' h)
theorem fin_digits (l : List UInt8) : ∀ (c : Ck), c.st = 1 → c.dg.size + l.length ≤ 13 → allB (digN 16) l = true → fin c l = ⟨1, c.lf, c.dg ++ ⟨l.toArray⟩, c.bd⟩ := by
  induction l with
  | nil =>
    intro c h _ _
    rw [fin_nil]
    have e : c.dg ++ (⟨([] : List UInt8).toArray⟩ : ByteArray) = c.dg := ba_ext (by rw [add_list]; simp)
    rw [e]
    cases c
    simp at h
    subst h
    rfl
  | cons b l ih =>
    intro c h h1 h2
    have hb : digN 16 (b.toNat : Int) = true ∧ allB (digN 16) l = true := by unfold allB at h2 ⊢; simpa using h2
    have hd := (of_decide_eq_true hb.1).1
    rw [List.length_cons] at h1
    rw [fin_cons, eat_digit h hd (by omega), ih _ rfl (by show (c.dg ++ (⟨#[b]⟩ : ByteArray)).size + l.length ≤ 13; rw [size_one]; omega) hb.2]
    have e : c.dg ++ (⟨#[b]⟩ : ByteArray) ++ ⟨l.toArray⟩ = c.dg ++ ⟨(b :: l).toArray⟩ := ba_ext (by simp)
    simp only [e]
theorem fin_data (l : List UInt8) : ∀ (c : Ck), c.st = 3 → c.lf = (l.length : Int) → l ≠ [] → fin c l = ⟨4, 0, c.dg, c.bd ++ ⟨l.toArray⟩⟩ := by
  induction l with
  | nil => intro c _ _ h; exact absurd rfl h
  | cons b l ih =>
    intro c h h1 _
    rw [fin_cons, eat_3 h]
    rw [List.length_cons] at h1
    have e : c.bd ++ (⟨#[b]⟩ : ByteArray) ++ ⟨l.toArray⟩ = c.bd ++ ⟨(b :: l).toArray⟩ := ba_ext (by simp)
    by_cases hl : l = []
    · subst hl
      have h1' : c.lf = 1 := by simpa using h1
      rw [if_pos h1', fin_nil, h1']
      rfl
    · have h2 : l.length ≠ 0 := fun x => hl (List.eq_nil_of_length_eq_zero x)
      rw [if_neg (by omega), ih _ rfl (by show c.lf - 1 = _; omega) hl]
      simp only [e]
theorem hex_short {n : Nat} (h : n ≤ 4000) : (hexF 13 n).length ≤ 13 := by
  have k : ∀ (f g n : Nat), n < 16 ^ (g + 1) → g ≤ f → (hexF f n).length ≤ g + 1 := by
    intro f
    induction f with
    | zero => intro g n _ _; simp [hexF]
    | succ f ih =>
      intro g n hn hg
      by_cases hs : n < 16
      · rw [hexF_small _ _ hs]; simp
      · cases g with
        | zero => simp at hn; omega
        | succ g =>
          rw [hexF_step f n hs, List.length_append]
          have := ih g (n / 16) (by rw [Nat.pow_succ] at hn; exact Nat.div_lt_of_lt_mul (by rw [Nat.mul_comm]; exact hn)) (by omega)
          simp only [List.length_singleton]
          omega
  have := k 13 12 n (by have : (4001 : Nat) ≤ 16 ^ (12 + 1) := by decide
                        omega) (by omega)
  omega
theorem fin_one {p : ByteArray} (bd : ByteArray) (h : bd.size + p.size ≤ 4000) : fin (ck0 bd) (oneL p) = ck0 (bd ++ p) := by
  unfold oneL
  by_cases h0 : p.size = 0
  · rw [if_pos h0, fin_nil]
    have e : bd ++ p = bd := ba_ext (by
      have : p.data.toList.length = p.size := by simp
      rw [add_list, List.eq_nil_of_length_eq_zero (this.trans h0), List.append_nil])
    rw [e]
  · rw [if_neg h0]
    obtain ⟨g1, g2⟩ := hexF_num 13 p.size (by have : (4001 : Nat) ≤ 16 ^ (13 + 1) := by decide
                                              omega)
    have hl := hexF_length 13 p.size
    have hs := hex_short (n := p.size) (by omega)
    have hz : (hexS p.size).size = (hexF 13 p.size).length := by show (hexF 13 p.size).toArray.size = _; simp
    obtain ⟨k1, k2⟩ := hex_back (n := p.size) (by omega) (by omega)
    have e0 : (⟨#[]⟩ : ByteArray) ++ ⟨(hexF 13 p.size).toArray⟩ = hexS p.size := ba_ext (by rw [add_list]; rfl)
    have ep : (⟨p.data.toList.toArray⟩ : ByteArray) = p := ba_ext (by simp)
    have hpl : p.data.toList.length = p.size := by simp
    rw [fin_app, fin_app, fin_app, fin_digits _ (ck0 bd) rfl (by show 0 + _ ≤ 13; omega) g2]
    show fin (fin (fin ⟨1, 0, (⟨#[]⟩ : ByteArray) ++ ⟨(hexF 13 p.size).toArray⟩, bd⟩ [13, 10]) p.data.toList) [13, 10] = _
    rw [e0, fin_cons (⟨1, 0, hexS p.size, bd⟩ : Ck) 13 [10], eat_size (c := ⟨1, 0, hexS p.size, bd⟩) rfl rfl k1 (by show numV 16 13 (hexS p.size) + _ ≤ 4000; rw [k2]; show (p.size : Int) + (bd.size : Int) ≤ 4000; omega)]
    show fin (fin (fin ⟨2, numV 16 13 (hexS p.size), ⟨#[]⟩, bd⟩ [10]) p.data.toList) [13, 10] = _
    rw [k2, fin_cons (⟨2, (p.size : Int), ⟨#[]⟩, bd⟩ : Ck) 10 [], eat_2 (c := ⟨2, (p.size : Int), ⟨#[]⟩, bd⟩) rfl rfl]
    show fin (fin ⟨if (p.size : Int) = 0 then 6 else 3, (p.size : Int), ⟨#[]⟩, bd⟩ p.data.toList) [13, 10] = _
    rw [if_neg (by omega), fin_data _ ⟨3, (p.size : Int), ⟨#[]⟩, bd⟩ rfl (by show (p.size : Int) = _; omega) (fun x => by rw [x] at hpl; simp at hpl; omega), fin_cons, eat_4 rfl rfl, fin_cons, eat_5 rfl rfl, fin_nil, ep]
    rfl
theorem catP_from (l : List ByteArray) : ∀ b : ByteArray, l.foldl (· ++ ·) b = b ++ catP l := by
  induction l with
  | nil => intro b; exact ba_ext (by rw [add_list]; simp [catP])
  | cons p l ih =>
    intro b
    show l.foldl (· ++ ·) (b ++ p) = b ++ l.foldl (· ++ ·) ((⟨#[]⟩ : ByteArray) ++ p)
    rw [ih, ih]
    exact ba_ext (by simp)
theorem catP_cons (p : ByteArray) (l : List ByteArray) : catP (p :: l) = p ++ catP l := by
  show l.foldl (· ++ ·) ((⟨#[]⟩ : ByteArray) ++ p) = _
  rw [catP_from]
  exact ba_ext (by simp)
theorem catP_snoc (p : ByteArray) (l : List ByteArray) : catP (l ++ [p]) = catP l ++ p := by
  unfold catP; rw [List.foldl_append]; rfl
theorem catP_one (p : ByteArray) : catP [p] = p := ba_ext (by rw [catP_cons, add_list]; simp [catP])
theorem sumP_cons (p : ByteArray) (l : List ByteArray) : sumP (p :: l) = p.size + sumP l := by simp [sumP]
theorem sumP_snoc (p : ByteArray) (l : List ByteArray) : sumP (l ++ [p]) = sumP l + p.size := by simp [sumP]
theorem catP_size (l : List ByteArray) : (catP l).size = sumP l := by
  induction l with
  | nil => rfl
  | cons p l ih => rw [catP_cons, sumP_cons, ByteArray.size_append, ih]
theorem fin_parts (l : List ByteArray) : ∀ bd : ByteArray, bd.size + sumP l ≤ 4000 → fin (ck0 bd) (l.flatMap oneL) = ck0 (bd ++ catP l) := by
  induction l with
  | nil => intro bd _; rw [show bd ++ catP [] = bd from ba_ext (by rw [add_list]; simp [catP])]; rfl
  | cons p l ih =>
    intro bd h
    rw [sumP_cons] at h
    rw [List.flatMap_cons, fin_app, fin_one bd (by omega), ih _ (by rw [ByteArray.size_append]; omega), catP_cons]
    rw [show bd ++ p ++ catP l = bd ++ (p ++ catP l) from ba_ext (by simp)]
theorem fin_last (bd : ByteArray) (h : bd.size ≤ 4000) : fin (ck0 bd) [48, 13, 10, 13] = ⟨7, 0, ⟨#[]⟩, bd⟩ := by
  have k1 : numOk 16 13 ⟨#[48]⟩ = true := by decide
  have k2 : numV 16 13 ⟨#[48]⟩ = 0 := by decide
  have e0 : (⟨#[]⟩ : ByteArray) ++ ⟨#[48]⟩ = ⟨#[48]⟩ := rfl
  rw [fin_cons, eat_digit rfl (by decide) (by show 0 < 13; omega)]
  show fin ⟨1, 0, (⟨#[]⟩ : ByteArray) ++ ⟨#[48]⟩, bd⟩ [13, 10, 13] = _
  rw [e0, fin_cons, eat_size rfl rfl k1 (by show numV 16 13 ⟨#[48]⟩ + _ ≤ 4000; rw [k2]; show (0 : Int) + (bd.size : Int) ≤ 4000; omega)]
  show fin ⟨2, numV 16 13 ⟨#[48]⟩, ⟨#[]⟩, bd⟩ [10, 13] = _
  rw [k2, fin_cons, eat_2 rfl rfl]
  show fin ⟨if (0 : Int) = 0 then 6 else 3, 0, ⟨#[]⟩, bd⟩ [13] = _
  rw [if_pos rfl, fin_cons, eat_6 rfl rfl]
  rfl
/-- All but the last byte of what parts are written as. -/
def chM (l : List ByteArray) : List UInt8 := l.flatMap oneL ++ [48, 13, 10, 13]
theorem chL_M (l : List ByteArray) : chL l = chM l ++ [10] := by simp [chL, chM]
theorem fin_M {l : List ByteArray} (h : sumP l ≤ 4000) : unF (chM l) = ⟨7, 0, ⟨#[]⟩, catP l⟩ := by
  unfold unF chM
  rw [fin_app, fin_parts l _ (by show 0 + sumP l ≤ 4000; omega), show (⟨#[]⟩ : ByteArray) ++ catP l = catP l from ba_ext (by rw [add_list]; simp), fin_last _ (by rw [catP_size]; exact h)]
/-- Parts are read from what they are written as, whatever stands behind it. -/
theorem un_ch {l : List ByteArray} (h : sumP l ≤ 4000) (m : List UInt8) : unV (chL l ++ m) = .tuple #[.string (catP l), .int .i64 ((chL l).length : Int), .bool true] := by
  have hM := fin_M h
  have h7 : (unF (chM l)).st < 8 := by rw [hM]; show (7 : Int) < 8; omega
  have e1 : chL l ++ m = chM l ++ (10 :: m) := by rw [chL_M]; simp
  have hF : unF (chL l ++ m) = ⟨8, 0, ⟨#[]⟩, catP l⟩ := by
    rw [e1]
    unfold unF at *
    rw [fin_app, hM, fin_cons, eat_7 rfl rfl, fin_stay (by show (8 : Int) ≤ 8; omega)]
  have hN : unN (chL l ++ m) = (chL l).length := by
    rw [e1]
    unfold unN
    unfold unF at hM h7
    rw [cnt_under h7, hM, cnt_cons (by show (7 : Int) < 8; omega), eat_7 rfl rfl, cnt_stay (by show (8 : Int) ≤ 8; omega), chL_M, List.length_append]
    rfl
  rw [unV_yes (by rw [hF]), hF, hN]
/-- No part of it is read. -/
theorem un_part {l : List ByteArray} (h : sumP l ≤ 4000) {k : Nat} (hk : k < (chL l).length) : unV ((chL l).take k) = .tuple #[.string ⟨#[]⟩, .int .i64 0, .bool false] := by
  have hM := fin_M h
  have h7 : (unF (chM l)).st < 8 := by rw [hM]; show (7 : Int) < 8; omega
  have hlen : (chL l).length = (chM l).length + 1 := by rw [chL_M, List.length_append]; rfl
  have e1 : (chL l).take k = (chM l).take k := by rw [chL_M, List.take_append_of_le_length (by omega)]
  have h8 : (unF ((chM l).take k)).st < 8 := by
    unfold unF at *
    refine fin_under (m := (chM l).drop k) ?_
    rw [List.take_append_drop]
    exact h7
  rw [e1, unV_no (by omega)]
end Go.Proofs.YteibacmohplblaaGreatDoor
namespace Go.Proofs.YteibacmohplblaaGreatDoor
open Go.RowKit

/-! ### Decimal digits -/
def numB (d : Nat) : UInt8 := UInt8.ofNat (48 + d)
def numF : Nat → Nat → List UInt8
  | 0, n => [numB (n % 10)]
  | f + 1, n => if n < 10 then [numB n] else numF f (n / 10) ++ [numB (n % 10)]
theorem numF_small (f n : Nat) (h : n < 10) : numF f n = [numB n] := by
  cases f with
  | zero => simp [numF, Nat.mod_eq_of_lt h]
  | succ f => simp [numF, h]
theorem numF_step (f n : Nat) (h : ¬ n < 10) : numF (f + 1) n = numF f (n / 10) ++ [numB (n % 10)] := by simp [numF, h]
def decS (n : Nat) : ByteArray := ⟨(numF 8 n).toArray⟩
theorem numB_nat {d : Nat} (h : d < 10) : digV ((numB d).toNat : Int) = (d : Int) := by
  have k : ∀ j : Fin 10, digV ((numB j.val).toNat : Int) = (j.val : Int) := by decide +kernel
  exact k ⟨d, h⟩
theorem numF_num (f : Nat) : ∀ n, n < 10 ^ (f + 1) → numL 10 (numF f n) = (n : Int) ∧ allB (digN 10) (numF f n) = true := by
  have oneB : ∀ d : Nat, d < 10 → digN 10 ((numB d).toNat : Int) = true := fun d hd => digN_yes (by rw [numB_nat hd]; omega) (by rw [numB_nat hd]; omega)
  have base : ∀ (f n : Nat), n < 10 → numL 10 (numF f n) = (n : Int) ∧ allB (digN 10) (numF f n) = true := fun f n h => by
    rw [numF_small f n h]
    refine ⟨?_, ?_⟩
    · show 0 * 10 + digV ((numB n).toNat : Int) = (n : Int)
      rw [numB_nat h]; omega
    · unfold allB; simp [oneB n h]
  induction f with
  | zero => intro n hn; exact base 0 n (by omega)
  | succ f ih =>
    intro n hn
    by_cases h : n < 10
    · exact base _ n h
    · have h1 : n / 10 < 10 ^ (f + 1) := by
        rw [Nat.pow_succ] at hn
        exact Nat.div_lt_of_lt_mul (by rw [Nat.mul_comm]; exact hn)
      obtain ⟨g1, g2⟩ := ih (n / 10) h1
      rw [numF_step f n h, numL_snoc, g1, numB_nat (by omega)]
      refine ⟨by omega, ?_⟩
      unfold allB at g2 ⊢
      rw [List.all_append, g2]
      simp [oneB (n % 10) (by omega)]
theorem numF_length (f : Nat) : ∀ n, 1 ≤ (numF f n).length ∧ (numF f n).length ≤ f + 1 := by
  induction f with
  | zero => intro n; simp [numF]
  | succ f ih =>
    intro n
    by_cases h : n < 10
    · rw [numF_small _ _ h]; simp
    · have := ih (n / 10)
      rw [numF_step f n h, List.length_append, List.length_singleton]
      omega
theorem decS_list (n : Nat) : (decS n).data.toList = numF 8 n := rfl
theorem decS_size (n : Nat) : 1 ≤ (decS n).size ∧ (decS n).size ≤ 9 := by
  have : (decS n).size = (numF 8 n).length := by show (numF 8 n).toArray.size = _; simp
  have := numF_length 8 n
  omega
theorem dec_back {n : Nat} (hn : n ≤ 100000000) : numOk 10 15 (decS n) = true ∧ numV 10 15 (decS n) = (n : Int) := by
  obtain ⟨g1, g2⟩ := numF_num 8 n (by omega)
  have hz := decS_size n
  have h1 : numOk 10 15 (decS n) = true := numOk_in (by omega) (by omega) (by rw [decS_list, g2])
  exact ⟨h1, by rw [num_yes h1, decS_list, g1]⟩
theorem dec_bytes {n : Nat} (hn : n ≤ 100000000) : ∀ c ∈ (decS n).data.toList, 48 ≤ c.toNat ∧ c.toNat ≤ 57 := by
  intro c hc
  obtain ⟨_, g2⟩ := numF_num 8 n (by omega)
  rw [decS_list] at hc
  have h := List.all_eq_true.1 g2 c hc
  have h2 := of_decide_eq_true h
  have := (digV_ten (r := (c.toNat : Int))).1 h2
  omega

/-! ### What is right -/
def capN (r : Int) : Bool := decide (65 ≤ r ∧ r ≤ 90)
def tarN (r : Int) : Bool := decide (33 ≤ r ∧ r ≤ 126)
def metB (s : ByteArray) : Bool := allB capN s.data.toList && tokB s
def tarB (s : ByteArray) : Bool := decide (1 ≤ s.size ∧ s.size ≤ 200) && allB tarN s.data.toList
/-- content-length, transfer-encoding, chunked. -/
def clS : ByteArray := ⟨#[99, 111, 110, 116, 101, 110, 116, 45, 108, 101, 110, 103, 116, 104]⟩
def teS : ByteArray := ⟨#[116, 114, 97, 110, 115, 102, 101, 114, 45, 101, 110, 99, 111, 100, 105, 110, 103]⟩
def chS : ByteArray := ⟨#[99, 104, 117, 110, 107, 101, 100]⟩
def hvS : ByteArray := ⟨#[72, 84, 84, 80, 47, 49, 46, 49]⟩
def ownB (l : List Fl) : Bool := fldsOk l && (!(getF l clS).2 && !(getF l teS).2)
/-- A request. -/
structure Rq where
  m : ByteArray
  t : ByteArray
  l : List Fl
  b : ByteArray
/-- A response. -/
structure Rs where
  s : Int
  l : List Fl
  b : ByteArray
def rqOk (r : Rq) : Bool := metB r.m && (tarB r.t && (ownB r.l && decide (r.b.size ≤ 4000)))
def bareB (s : Int) : Bool := decide (s = 204 ∨ s = 304)
def rsOk (r : Rs) : Bool := decide (200 ≤ r.s ∧ r.s ≤ 599) && (ownB r.l && (decide (r.b.size ≤ 4000) && (!bareB r.s || decide (r.b.size = 0))))

/-! ### Where it ends -/
def frm (l : List Fl) : Int × Int :=
  if fldsOk l = true then
    if (getF l clS).2 = true then
      if (getF l teS).2 = true then (3, 0)
      else if numOk 10 15 (getF l clS).1 = true ∧ numV 10 15 (getF l clS).1 ≤ 4000 then (1, numV 10 15 (getF l clS).1) else (3, 0)
    else if (getF l teS).2 = true then if lowS (getF l teS).1 = chS then (2, 0) else (3, 0)
    else (0, 0)
  else (3, 0)

/-! ### What it is shown as -/
def addL (l : List Fl) (b : ByteArray) (tell : Bool) : List Fl := if tell = true then l ++ [(clS, decS b.size)] else l
def msgL (first : List UInt8) (l : List Fl) (b : ByteArray) : List UInt8 := first ++ [13, 10] ++ showL l ++ [13, 10] ++ b.data.toList
def msgA (first : ByteArray) (l : List Fl) (b : ByteArray) (tell : Bool) : ByteArray := if (addL l b tell).length ≤ 30 then ⟨(msgL first.data.toList (addL l b tell) b).toArray⟩ else ⟨#[]⟩
def lineQ (r : Rq) : ByteArray := r.m ++ ⟨#[32]⟩ ++ r.t ++ ⟨#[32, 72, 84, 84, 80, 47, 49, 46, 49]⟩
def wordS (s : Int) : ByteArray := if 400 ≤ s then ⟨#[110, 111]⟩ else ⟨#[111, 107]⟩
def lineR (s : Int) : ByteArray := ⟨#[72, 84, 84, 80, 47, 49, 46, 49, 32]⟩ ++ decS s.toNat ++ ⟨#[32]⟩ ++ wordS s
def shRq (r : Rq) : ByteArray := if rqOk r = true then msgA (lineQ r) r.l r.b (decide (r.b.size ≠ 0)) else ⟨#[]⟩
def shRs (r : Rs) : ByteArray := if rsOk r = true then msgA (lineR r.s) r.l r.b (!bareB r.s) else ⟨#[]⟩

/-! ### What is read -/
def wrdL : List UInt8 → List (List UInt8)
  | [] => [[]]
  | c :: r => if c = 32 then [] :: wrdL r else match wrdL r with
    | x :: xs => (c :: x) :: xs
    | [] => [[c]]
/-- What is read behind the first line: how it went, the fields, the body, what is left. -/
structure Rst where
  k : Int
  l : List Fl
  b : ByteArray
  r : List UInt8
def noR (k : Int) : Rst := ⟨k, [], ⟨#[]⟩, []⟩
def woB (l : List Fl) : List Fl := wo (wo l clS) teS
def rstA (t : List UInt8) (bare : Bool) : Rst :=
  match rdA t with
  | none => noR 2
  | some (l, q) =>
    if (frm l).1 = 3 then noR 3
    else if bare = true ∨ (frm l).1 = 0 then ⟨0, woB l, ⟨#[]⟩, q⟩
    else if (frm l).1 = 1 then if (frm l).2 ≤ (q.length : Int) then ⟨0, woB l, ⟨(q.take (frm l).2.toNat).toArray⟩, q.drop (frm l).2.toNat⟩ else noR 4
    else if (unF q).st = 8 then ⟨0, woB l, (unF q).bd, q.drop (unN q)⟩ else noR 4
def txtL (l : List UInt8) : ByteArray := ⟨l.toArray⟩
/-- What ReadRequest answers: how it went, the request, how many bytes. -/
def noQ : Rq := ⟨⟨#[]⟩, ⟨#[]⟩, [], ⟨#[]⟩⟩
def noS : Rs := ⟨0, [], ⟨#[]⟩⟩
def rdRq (t : List UInt8) : Int × Rq × Int :=
  match lnS t with
  | none => (1, noQ, 0)
  | some (x, r) =>
    match wrdL x with
    | [m, g, v] =>
      if metB (txtL m) = true ∧ tarB (txtL g) = true ∧ txtL v = hvS then
        if (rstA r false).k = 0 then (0, ⟨txtL m, txtL g, (rstA r false).l, (rstA r false).b⟩, (t.length : Int) - ((rstA r false).r.length : Int)) else ((rstA r false).k, noQ, 0)
      else (1, noQ, 0)
    | _ => (1, noQ, 0)
def staOk (g : List UInt8) : Bool := decide (g.length = 3) && (numOk 10 15 (txtL g) && decide (200 ≤ numV 10 15 (txtL g) ∧ numV 10 15 (txtL g) ≤ 599))
def rdRs (t : List UInt8) : Int × Rs × Int :=
  match lnS t with
  | none => (1, noS, 0)
  | some (x, r) =>
    match wrdL x with
    | [v, g, o] =>
      if txtL v = hvS ∧ staOk g = true ∧ tokB (txtL o) = true then
        if (rstA r (bareB (numV 10 15 (txtL g)))).k = 0 then (0, ⟨numV 10 15 (txtL g), (rstA r (bareB (numV 10 15 (txtL g)))).l, (rstA r (bareB (numV 10 15 (txtL g)))).b⟩, (t.length : Int) - ((rstA r (bareB (numV 10 15 (txtL g)))).r.length : Int)) else ((rstA r (bareB (numV 10 15 (txtL g)))).k, noS, 0)
      else (1, noS, 0)
    | _ => (1, noS, 0)
end Go.Proofs.YteibacmohplblaaGreatDoor
namespace Go.Proofs.YteibacmohplblaaGreatDoor
open Go.RowKit

/-! ### Words -/
theorem wrdL_cons (c : UInt8) (r : List UInt8) : wrdL (c :: r) = if c = 32 then [] :: wrdL r else match wrdL r with
    | x :: xs => (c :: x) :: xs
    | [] => [[c]] := rfl
theorem wrdL_one : ∀ {x : List UInt8}, (∀ c ∈ x, c ≠ 32) → wrdL x = [x]
  | [], _ => rfl
  | c :: r, h => by
    have h1 := h c (by simp)
    have ih := wrdL_one (x := r) fun d hd => h d (by simp [hd])
    rw [wrdL_cons, if_neg h1, ih]
theorem wrdL_app : ∀ {x : List UInt8} (y : List UInt8), (∀ c ∈ x, c ≠ 32) → wrdL (x ++ 32 :: y) = x :: wrdL y
  | [], y, _ => by simp [wrdL]
  | c :: r, y, h => by
    have h1 := h c (by simp)
    have ih := wrdL_app (x := r) y fun d hd => h d (by simp [hd])
    show wrdL (c :: (r ++ 32 :: y)) = _
    rw [wrdL_cons, if_neg h1, ih]
theorem wrdL_three {a b c : List UInt8} (ha : ∀ x ∈ a, x ≠ 32) (hb : ∀ x ∈ b, x ≠ 32) (hc : ∀ x ∈ c, x ≠ 32) : wrdL (a ++ 32 :: (b ++ 32 :: c)) = [a, b, c] := by
  rw [wrdL_app _ ha, wrdL_app _ hb, wrdL_one hc]

/-! ### Lines -/
theorem lnS_clean : ∀ {x : List UInt8} (r : List UInt8), clean x → lnS (x ++ [13, 10] ++ r) = some (x, r)
  | [], r, _ => by simp [lnS]
  | c :: t, r, h => by
    have h1 := h c (by simp)
    have ih := lnS_clean (x := t) r (fun b hb => h b (by simp [hb]))
    show lnS (c :: (t ++ [13, 10] ++ r)) = _
    rw [lnS_more h1.1 h1.2, ih]
    rfl
theorem lnS_open : ∀ {x : List UInt8}, clean x → lnS x = none
  | [], _ => rfl
  | c :: t, h => by
    have h1 := h c (by simp)
    rw [lnS_more h1.1 h1.2, lnS_open (x := t) (fun b hb => h b (by simp [hb]))]
    rfl
theorem lnS_open1 : ∀ {x : List UInt8}, clean x → lnS (x ++ [13]) = none
  | [], _ => rfl
  | c :: t, h => by
    have h1 := h c (by simp)
    show lnS (c :: (t ++ [13])) = _
    rw [lnS_more h1.1 h1.2, lnS_open1 (x := t) (fun b hb => h b (by simp [hb]))]
    rfl
theorem clean_take {x : List UInt8} (h : clean x) (k : Nat) : clean (x.take k) := fun c hc => h c (List.mem_of_mem_take hc)
/-- A part of a line and its end has no end. -/
theorem lnS_part {x : List UInt8} (h : clean x) (r : List UInt8) {k : Nat} (hk : k < x.length + 2) : lnS ((x ++ [13, 10] ++ r).take k) = none := by
  by_cases h1 : k ≤ x.length
  · rw [List.append_assoc, List.take_append_of_le_length h1]
    exact lnS_open (clean_take h k)
  · obtain rfl : k = x.length + 1 := by omega
    have e : (x ++ [13, 10] ++ r).take (x.length + 1) = x ++ [13] := by
      rw [List.append_assoc, List.take_append]
      simp
      exact List.take_of_length_le (by omega)
    rw [e]
    exact lnS_open1 h
theorem lnC_part {x : List UInt8} (h : clean x) (r : List UInt8) {k : Nat} (hk : k < x.length + 2) : lnC ((x ++ [13, 10] ++ r).take k) = none := by
  by_cases h1 : k ≤ x.length
  · rw [List.append_assoc, List.take_append_of_le_length h1]
    exact lnC_open (clean_take h k)
  · obtain rfl : k = x.length + 1 := by omega
    have e : (x ++ [13, 10] ++ r).take (x.length + 1) = x ++ [13] := by
      rw [List.append_assoc, List.take_append]
      simp
      exact List.take_of_length_le (by omega)
    rw [e]
    clear hk h1 e
    induction x with
    | nil => rfl
    | cons c t ih =>
      have h1 := h c (by simp)
      have ih' := ih fun b hb => h b (by simp [hb])
      cases t with
      | nil =>
        show lnC [c, 13] = none
        simp [lnC]
      | cons d t =>
        show lnC (c :: d :: (t ++ [13])) = none
        unfold lnC
        rw [if_neg (fun e => h1.1 e.1)]
        have e : lnC (d :: (t ++ [13])) = none := ih'
        rw [e]
        rfl
/-- A part of shown fields and their end is not read. -/
theorem rd_cut : ∀ (l : List Fl) (n : Nat) (out : List Fl) (t : List UInt8) (k : Nat), (∀ f ∈ l, fldOk f = true) → out.length + l.length ≤ 30 → n + out.length = 31 → k < (showL l).length + 2 → rdN n out ((showL l ++ [13, 10] ++ t).take k) = none
  | [], n, out, t, k, _, h2, h3, hk => by
    obtain ⟨n, rfl⟩ : ∃ m, n = m + 1 := ⟨n - 1, by simp at h2; omega⟩
    refine rdN_none ?_
    exact lnC_part (x := []) (fun _ h => by cases h) t hk
  | f :: l, n, out, t, k, h1, h2, h3, hk => by
    obtain ⟨n, rfl⟩ : ∃ m, n = m + 1 := ⟨n - 1, by simp at h2; omega⟩
    have hf := h1 f (by simp)
    have hcl := lineF_clean hf
    have e : showL (f :: l) = lineF f ++ [13, 10] ++ showL l := by simp [showL, showF_line]
    rw [List.length_cons] at h2
    have e2 : showL (f :: l) ++ [13, 10] ++ t = lineF f ++ [13, 10] ++ (showL l ++ [13, 10] ++ t) := by rw [e]; simp
    rw [e2]
    by_cases hk1 : k < (lineF f).length + 2
    · exact rdN_none (lnC_part hcl _ hk1)
    · obtain ⟨j, rfl⟩ : ∃ j, k = (lineF f ++ [13, 10]).length + j := ⟨k - (lineF f ++ [13, 10]).length, by rw [List.length_append]; simp; omega⟩
      rw [List.take_length_add_append, rdN_more (lnC_clean _ hcl) (lineF_ne f) (lineF_read hf) (by omega)]
      refine rd_cut l n (out ++ [f]) t j (fun g hg => h1 g (by simp [hg])) (by rw [List.length_append, List.length_singleton]; omega) (by rw [List.length_append, List.length_singleton]; omega) ?_
      have hq : (lineF f ++ [13, 10] ++ showL l).length = (lineF f ++ [13, 10]).length + (showL l).length := List.length_append
      rw [e, hq] at hk
      omega
theorem rdA_cut {l : List Fl} (h : fldsOk l = true) (t : List UInt8) {k : Nat} (hk : k < (showL l).length + 2) : rdA ((showL l ++ [13, 10] ++ t).take k) = none := by
  obtain ⟨h1, h2⟩ := fldsOk_parts h
  exact rd_cut l 31 [] t k h2 (by simpa using h1) rfl hk

/-! ### Fields of a message -/
theorem getF_snoc (l : List Fl) (f : Fl) (n : ByteArray) : getF (l ++ [f]) n = gStep n (getF l n) f := by unfold getF; rw [List.foldl_append]; rfl
theorem gStep_stays {n : ByteArray} {p : ByteArray × Bool} {f : Fl} (h : p.2 = true) : (gStep n p f).2 = true := by
  unfold gStep; split
  · rfl
  · exact h
theorem getF_lost : ∀ {l : List Fl} {n : ByteArray}, (getF l n).2 = false → ∀ f ∈ l, ¬ lowS f.1 = lowS n := by
  intro l n h
  have key : ∀ (l : List Fl) (p : ByteArray × Bool), (l.foldl (gStep n) p).2 = false → p.2 = false ∧ ∀ f ∈ l, ¬ lowS f.1 = lowS n := by
    intro l
    induction l with
    | nil => intro p hp; exact ⟨hp, fun _ h => by cases h⟩
    | cons f l ih =>
      intro p hp
      obtain ⟨h1, h2⟩ := ih (gStep n p f) hp
      have hn : ¬ lowS f.1 = lowS n := fun e => by
        unfold gStep at h1
        rw [if_pos e] at h1
        cases h1
      rw [gStep_no hn] at h1
      exact ⟨h1, fun g hg => by rcases List.mem_cons.1 hg with rfl | hg; exact hn; exact h2 g hg⟩
  exact (key l _ h).2
theorem getF_gone {l : List Fl} {n : ByteArray} (h : ∀ f ∈ l, ¬ lowS f.1 = lowS n) : getF l n = (⟨#[]⟩, false) := getF_none h _
theorem cl_te : ¬ lowS clS = lowS teS := by decide +kernel
theorem te_cl : ¬ lowS teS = lowS clS := by decide +kernel
theorem ownB_parts {l : List Fl} (h : ownB l = true) : fldsOk l = true ∧ (∀ f ∈ l, ¬ lowS f.1 = lowS clS) ∧ ∀ f ∈ l, ¬ lowS f.1 = lowS teS := by
  unfold ownB at h
  rw [Bool.and_eq_true, Bool.and_eq_true] at h
  exact ⟨h.1, getF_lost (by simpa using h.2.1), getF_lost (by simpa using h.2.2)⟩
theorem ownB_mk {l : List Fl} (h : fldsOk l = true) (h1 : ∀ f ∈ l, ¬ lowS f.1 = lowS clS) (h2 : ∀ f ∈ l, ¬ lowS f.1 = lowS teS) : ownB l = true := by
  unfold ownB
  rw [h, getF_gone h1, getF_gone h2]
  rfl
theorem frm_none {l : List Fl} (h : ownB l = true) : frm l = (0, 0) := by
  obtain ⟨h0, h1, h2⟩ := ownB_parts h
  unfold frm
  rw [if_pos h0, getF_gone h1, getF_gone h2]
  simp
theorem tok_cl : tokB clS = true := by decide +kernel
theorem dec_vis {n : Nat} (hn : n ≤ 100000000) : visB (decS n) = true := by
  have hz := decS_size n
  have hb := dec_bytes hn
  unfold visB
  rw [decide_eq_true (by omega)]
  unfold allB
  rw [Bool.true_and, List.all_eq_true]
  intro c hc
  have := hb c hc
  exact visN_yes (.inl (by omega))
theorem ltr_id : ∀ {l : List UInt8}, (∀ c ∈ l, blank c = false) → ltr l = l
  | [], _ => rfl
  | c :: l, h => ltr_no l (h c (by simp))
theorem rtr_id {l : List UInt8} (h : ∀ c ∈ l, blank c = false) : rtr l = l := by
  have := ltr_id (l := l.reverse) fun c hc => h c (by simpa using hc)
  unfold ltr at this
  unfold rtr
  rw [this, List.reverse_reverse]
theorem trim_id {s : ByteArray} (h : ∀ c ∈ s.data.toList, blank c = false) : trimB s = s := by
  unfold trimB
  rw [ltr_id h, rtr_id h]
theorem dec_blank {c : UInt8} (h : 48 ≤ c.toNat) : blank c = false := by
  cases e : blank c with
  | false => rfl
  | true =>
    unfold blank at e
    simp at e
    rcases e with rfl | rfl <;> simp at h
theorem dec_fld {n : Nat} (hn : n ≤ 100000000) : fldOk (clS, decS n) = true := by
  unfold fldOk
  rw [tok_cl, dec_vis hn, decide_eq_true (trim_id fun c hc => dec_blank (dec_bytes hn c hc).1)]
  rfl
theorem fldsOk_snoc {l : List Fl} {f : Fl} (h : fldsOk l = true) (hf : fldOk f = true) (hl : (l ++ [f]).length ≤ 30) : fldsOk (l ++ [f]) = true := by
  refine fldsOk_mk hl fun g hg => ?_
  rcases List.mem_append.1 hg with hg | hg
  · exact (fldsOk_parts h).2 g hg
  · simp at hg; subst hg; exact hf
theorem frm_tell {l : List Fl} {n : Nat} (h : ownB l = true) (hl : (l ++ [(clS, decS n)]).length ≤ 30) (hn : n ≤ 4000) : frm (l ++ [(clS, decS n)]) = (1, (n : Int)) := by
  obtain ⟨h0, h1, h2⟩ := ownB_parts h
  have hd := dec_back (n := n) (by omega)
  have e1 : getF (l ++ [(clS, decS n)]) clS = (decS n, true) := by
    rw [getF_snoc, getF_gone h1, gStep_first (f := (clS, decS n)) rfl]
    exact congrArg (·, true) (ba_ext (by rw [add_list]; simp))
  have e2 : getF (l ++ [(clS, decS n)]) teS = (⟨#[]⟩, false) := by rw [getF_snoc, getF_gone h2, gStep_no cl_te]
  unfold frm
  rw [if_pos (fldsOk_snoc h0 (dec_fld (by omega)) hl), e1, e2]
  simp [hd.1, hd.2]
  omega
theorem keep_all {l : List Fl} {n : ByteArray} (h : ∀ f ∈ l, ¬ lowS f.1 = lowS n) : wo l n = l := by
  unfold wo
  exact List.filter_eq_self.2 fun f hf => keepB_yes (h f hf)
theorem woB_own {l : List Fl} (h : ownB l = true) : woB l = l := by
  obtain ⟨_, h1, h2⟩ := ownB_parts h
  unfold woB
  rw [keep_all h1, keep_all h2]
theorem woB_tell {l : List Fl} {x : ByteArray} (h : ownB l = true) : woB (l ++ [(clS, x)]) = l := by
  obtain ⟨_, h1, h2⟩ := ownB_parts h
  unfold woB
  have e : wo (l ++ [(clS, x)]) clS = l := by
    unfold wo
    rw [List.filter_append, List.filter_cons_of_neg (by rw [keepB_no (f := (clS, x)) rfl]; simp)]
    have := keep_all h1
    unfold wo at this
    rw [this]
    simp
  rw [e, keep_all h2]
/-- What is behind a first line. -/
def tailL (l : List Fl) (b : ByteArray) (tell : Bool) : List UInt8 := showL (addL l b tell) ++ [13, 10] ++ b.data.toList
theorem addL_ok {l : List Fl} {b : ByteArray} {tell : Bool} (h : ownB l = true) (hb : b.size ≤ 4000) (hl : (addL l b tell).length ≤ 30) : fldsOk (addL l b tell) = true := by
  cases tell with
  | false => exact (ownB_parts h).1
  | true => exact fldsOk_snoc (ownB_parts h).1 (dec_fld (by omega)) hl
theorem void_list {b : ByteArray} (h : b.size = 0) : b.data.toList = [] := by
  apply List.eq_nil_of_length_eq_zero
  have : b.data.toList.length = b.size := by simp
  omega
theorem void_is {b : ByteArray} (h : b.size = 0) : (⟨#[]⟩ : ByteArray) = b := ba_ext (by rw [void_list h])
theorem rst_show {l : List Fl} {b : ByteArray} {tell bare : Bool} (t : List UInt8) (h : ownB l = true) (hb : b.size ≤ 4000) (hl : (addL l b tell).length ≤ 30) (ht : tell = false → b.size = 0) (hbr : bare = true → tell = false) : rstA (tailL l b tell ++ t) bare = ⟨0, l, b, t⟩ := by
  have e : rdA (tailL l b tell ++ t) = some (addL l b tell, b.data.toList ++ t) := by
    unfold tailL
    rw [List.append_assoc]
    exact rdA_show (addL_ok h hb hl) _
  unfold rstA
  rw [e]
  cases tell with
  | false =>
    have e1 : addL l b false = l := rfl
    have h0 := ht rfl
    simp only [e1, frm_none h]
    rw [if_neg (by decide), if_pos (.inr trivial), woB_own h, void_list h0, void_is h0]
    rfl
  | true =>
    have e1 : addL l b true = l ++ [(clS, decS b.size)] := rfl
    rw [e1] at hl ⊢
    have hbf : bare = false := by cases bare with
      | false => rfl
      | true => have := hbr rfl; cases this
    have hz : b.data.toList.length = b.size := by simp
    simp only [frm_tell h hl hb, woB_tell h, hbf]
    rw [if_neg (by decide), if_neg (by simp), if_pos trivial, if_pos (by rw [List.length_append, hz]; omega), Int.toNat_natCast, ← hz, List.take_left, List.drop_left]
theorem rst_cut {l : List Fl} {b : ByteArray} {tell bare : Bool} {k : Nat} (h : ownB l = true) (hb : b.size ≤ 4000) (hl : (addL l b tell).length ≤ 30) (ht : tell = false → b.size = 0) (hbr : bare = true → tell = false) (hk : k < (tailL l b tell).length) : (rstA ((tailL l b tell).take k) bare).k ≠ 0 := by
  have hz : b.data.toList.length = b.size := by simp
  have hlen : (tailL l b tell).length = (showL (addL l b tell)).length + 2 + b.size := by unfold tailL; rw [List.length_append, List.length_append, hz]; rfl
  by_cases hk1 : k < (showL (addL l b tell)).length + 2
  · have e : rdA ((tailL l b tell).take k) = none := rdA_cut (addL_ok h hb hl) _ hk1
    unfold rstA
    rw [e]
    show (2 : Int) ≠ 0
    decide
  · cases tell with
    | false => have := ht rfl; omega
    | true =>
      have e1 : addL l b true = l ++ [(clS, decS b.size)] := rfl
      have hbf : bare = false := by cases bare with
        | false => rfl
        | true => have := hbr rfl; cases this
      obtain ⟨j, rfl⟩ : ∃ j, k = (showL (addL l b true) ++ [13, 10]).length + j := ⟨k - (showL (addL l b true) ++ [13, 10]).length, by rw [List.length_append]; simp; omega⟩
      have e : rdA ((tailL l b true).take ((showL (addL l b true) ++ [13, 10]).length + j)) = some (addL l b true, b.data.toList.take j) := by
        unfold tailL
        rw [List.take_length_add_append]
        exact rdA_show (addL_ok h hb hl) _
      unfold rstA
      rw [e]
      have hj : j < b.size := by rw [List.length_append] at hk; simp at hk; omega
      have hj2 : (b.data.toList.take j).length = j := by rw [List.length_take]; omega
      rw [e1] at hl
      simp only [e1, frm_tell h hl hb, hbf]
      rw [if_neg (by decide), if_neg (by simp), if_pos trivial, if_neg (by rw [hj2]; omega)]
      show (4 : Int) ≠ 0
      decide

/-! ### First lines -/
theorem cap_bytes {s : ByteArray} (h : metB s = true) {c : UInt8} (hc : c ∈ s.data.toList) : c ≠ 13 ∧ c ≠ 10 ∧ c ≠ 32 := by
  unfold metB at h
  rw [Bool.and_eq_true] at h
  have := of_decide_eq_true (allB_at h.1 hc)
  refine ⟨?_, ?_, ?_⟩ <;> (rintro rfl; simp at this)
theorem tar_bytes {s : ByteArray} (h : tarB s = true) {c : UInt8} (hc : c ∈ s.data.toList) : c ≠ 13 ∧ c ≠ 10 ∧ c ≠ 32 := by
  unfold tarB at h
  rw [Bool.and_eq_true] at h
  have := of_decide_eq_true (allB_at h.2 hc)
  refine ⟨?_, ?_, ?_⟩ <;> (rintro rfl; simp at this)
theorem hv_bytes : ∀ c ∈ hvS.data.toList, c ≠ 13 ∧ c ≠ 10 ∧ c ≠ 32 := by decide
theorem word_bytes (s : Int) : ∀ c ∈ (wordS s).data.toList, c ≠ 13 ∧ c ≠ 10 ∧ c ≠ 32 := by
  unfold wordS
  split <;> decide
theorem dec_sep {n : Nat} (hn : n ≤ 100000000) : ∀ c ∈ (decS n).data.toList, c ≠ 13 ∧ c ≠ 10 ∧ c ≠ 32 := by
  intro c hc
  have := (dec_bytes hn c hc).1
  refine ⟨?_, ?_, ?_⟩ <;> (rintro rfl; simp at this)
theorem rqOk_parts {r : Rq} (h : rqOk r = true) : metB r.m = true ∧ tarB r.t = true ∧ ownB r.l = true ∧ r.b.size ≤ 4000 := by
  unfold rqOk at h
  rw [Bool.and_eq_true, Bool.and_eq_true, Bool.and_eq_true] at h
  exact ⟨h.1, h.2.1, h.2.2.1, of_decide_eq_true h.2.2.2⟩
theorem rsOk_parts {r : Rs} (h : rsOk r = true) : (200 ≤ r.s ∧ r.s ≤ 599) ∧ ownB r.l = true ∧ r.b.size ≤ 4000 ∧ (bareB r.s = true → r.b.size = 0) := by
  unfold rsOk at h
  rw [Bool.and_eq_true, Bool.and_eq_true, Bool.and_eq_true] at h
  refine ⟨of_decide_eq_true h.1, h.2.1, of_decide_eq_true h.2.2.1, fun hb => ?_⟩
  have := h.2.2.2
  rw [hb] at this
  simpa using this
theorem lineQ_list (r : Rq) : (lineQ r).data.toList = r.m.data.toList ++ 32 :: (r.t.data.toList ++ 32 :: hvS.data.toList) := by
  unfold lineQ; rw [add_list, add_list, add_list]; simp [hvS]
theorem lineR_list (s : Int) : (lineR s).data.toList = hvS.data.toList ++ 32 :: ((decS s.toNat).data.toList ++ 32 :: (wordS s).data.toList) := by
  unfold lineR; rw [add_list, add_list, add_list]; simp [hvS]
theorem lineQ_words {r : Rq} (h : rqOk r = true) : wrdL (lineQ r).data.toList = [r.m.data.toList, r.t.data.toList, hvS.data.toList] ∧ clean (lineQ r).data.toList := by
  obtain ⟨h1, h2, _, _⟩ := rqOk_parts h
  rw [lineQ_list]
  refine ⟨wrdL_three (fun c hc => (cap_bytes h1 hc).2.2) (fun c hc => (tar_bytes h2 hc).2.2) (fun c hc => (hv_bytes c hc).2.2), fun c hc => ?_⟩
  simp only [List.mem_append, List.mem_cons] at hc
  rcases hc with hc | rfl | hc | rfl | hc
  · exact ⟨(cap_bytes h1 hc).1, (cap_bytes h1 hc).2.1⟩
  · decide
  · exact ⟨(tar_bytes h2 hc).1, (tar_bytes h2 hc).2.1⟩
  · decide
  · exact ⟨(hv_bytes c hc).1, (hv_bytes c hc).2.1⟩
theorem lineR_words {s : Int} (h : 200 ≤ s ∧ s ≤ 599) : wrdL (lineR s).data.toList = [hvS.data.toList, (decS s.toNat).data.toList, (wordS s).data.toList] ∧ clean (lineR s).data.toList := by
  have hn : s.toNat ≤ 100000000 := by omega
  rw [lineR_list]
  refine ⟨wrdL_three (fun c hc => (hv_bytes c hc).2.2) (fun c hc => (dec_sep hn c hc).2.2) (fun c hc => (word_bytes s c hc).2.2), fun c hc => ?_⟩
  simp only [List.mem_append, List.mem_cons] at hc
  rcases hc with hc | rfl | hc | rfl | hc
  · exact ⟨(hv_bytes c hc).1, (hv_bytes c hc).2.1⟩
  · decide
  · exact ⟨(dec_sep hn c hc).1, (dec_sep hn c hc).2.1⟩
  · decide
  · exact ⟨(word_bytes s c hc).1, (word_bytes s c hc).2.1⟩
theorem txt_list (s : ByteArray) : txtL s.data.toList = s := by cases s; simp [txtL]
theorem msg_tail (first : List UInt8) (l : List Fl) (b : ByteArray) (tell : Bool) : msgL first (addL l b tell) b = first ++ [13, 10] ++ tailL l b tell := by unfold msgL tailL; simp
theorem msgA_list {first : ByteArray} {l : List Fl} {b : ByteArray} {tell : Bool} (h : (addL l b tell).length ≤ 30) : (msgA first l b tell).data.toList = first.data.toList ++ [13, 10] ++ tailL l b tell := by
  unfold msgA; rw [if_pos h, ← msg_tail]
theorem msgA_room {first : ByteArray} {l : List Fl} {b : ByteArray} {tell : Bool} (h : 0 < (msgA first l b tell).size) : (addL l b tell).length ≤ 30 := by
  by_cases h1 : (addL l b tell).length ≤ 30
  · exact h1
  · unfold msgA at h; rw [if_neg h1] at h; exact absurd h (by decide)
theorem tellQ {b : ByteArray} (h : decide (b.size ≠ 0) = false) : b.size = 0 := by simpa using h

/-- A request is read from what it is shown as, whatever stands behind it. -/
theorem rq_back {r : Rq} (h : 0 < (shRq r).size) (t : List UInt8) : rdRq ((shRq r).data.toList ++ t) = (0, r, ((shRq r).size : Int)) ∧ rqOk r = true := by
  have hok : rqOk r = true := by
    cases e : rqOk r with
    | true => rfl
    | false => unfold shRq at h; rw [e, if_neg (by decide)] at h; exact absurd h (by decide)
  have e : shRq r = msgA (lineQ r) r.l r.b (decide (r.b.size ≠ 0)) := by unfold shRq; rw [if_pos hok]
  rw [e] at h ⊢
  have hl := msgA_room h
  have hsz : ((msgA (lineQ r) r.l r.b (decide (r.b.size ≠ 0))).size : Int) = ((msgA (lineQ r) r.l r.b (decide (r.b.size ≠ 0))).data.toList.length : Int) := by simp
  rw [hsz, msgA_list hl]
  obtain ⟨h1, h2, h3, h4⟩ := rqOk_parts hok
  obtain ⟨hw, hcl⟩ := lineQ_words hok
  have hr := rst_show (bare := false) t h3 h4 hl tellQ (fun x => by cases x)
  refine ⟨?_, hok⟩
  unfold rdRq
  rw [List.append_assoc, lnS_clean _ hcl]
  simp only [hw, hr, txt_list, h1, h2, and_self, if_true, List.length_append]
  simp
  omega
theorem rq_cut {r : Rq} (h : 0 < (shRq r).size) {k : Nat} (hk : k < (shRq r).size) : (rdRq ((shRq r).data.toList.take k)).1 ≠ 0 ∧ (rdRq ((shRq r).data.toList.take k)).2.2 = 0 := by
  have hok : rqOk r = true := (rq_back h []).2
  have e : shRq r = msgA (lineQ r) r.l r.b (decide (r.b.size ≠ 0)) := by unfold shRq; rw [if_pos hok]
  rw [e] at h hk ⊢
  have hl := msgA_room h
  have hsz : (msgA (lineQ r) r.l r.b (decide (r.b.size ≠ 0))).size = (msgA (lineQ r) r.l r.b (decide (r.b.size ≠ 0))).data.toList.length := by simp
  rw [hsz, msgA_list hl] at hk
  rw [msgA_list hl]
  obtain ⟨h1, h2, h3, h4⟩ := rqOk_parts hok
  obtain ⟨hw, hcl⟩ := lineQ_words hok
  by_cases hk1 : k < (lineQ r).data.toList.length + 2
  · unfold rdRq
    rw [lnS_part hcl _ hk1]
    exact ⟨by show (1 : Int) ≠ 0; decide, rfl⟩
  · obtain ⟨j, rfl⟩ : ∃ j, k = ((lineQ r).data.toList ++ [13, 10]).length + j := ⟨k - ((lineQ r).data.toList ++ [13, 10]).length, by rw [List.length_append]; simp at hk1 ⊢; omega⟩
    rw [List.take_length_add_append]
    have hq : ((lineQ r).data.toList ++ [13, 10] ++ tailL r.l r.b (decide (r.b.size ≠ 0))).length = ((lineQ r).data.toList ++ [13, 10]).length + (tailL r.l r.b (decide (r.b.size ≠ 0))).length := List.length_append
    have hr := rst_cut (bare := false) (k := j) h3 h4 hl tellQ (fun x => by cases x) (by rw [hq] at hk; omega)
    unfold rdRq
    rw [lnS_clean _ hcl]
    simp only [hw, txt_list, h1, h2, and_self, if_true, if_neg hr]
    exact ⟨hr, trivial⟩
end Go.Proofs.YteibacmohplblaaGreatDoor
