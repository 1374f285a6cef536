/-
  Plain facts on chunks: a state that eats bytes, what all bytes of a text come to, and what a body is written as.
-/
import Derived.Test.YtkoikofaebfbjaaHexP
namespace Go.Proofs.Ytkoikofaebfbjaa
open Go.RowKit

/-- A state of a reading of chunks. -/
structure Ck where
  st : Int
  lf : Int
  dg : ByteArray
  bd : ByteArray

def ckV (c : Ck) : Value := .agg #[.int .i64 c.st, .int .i64 c.lf, .string c.dg, .string c.bd]
def badC (c : Ck) : Ck := ⟨9, 0, ⟨#[]⟩, c.bd⟩
/-- The state is right. -/
def okP (c : Ck) : Prop := (1 ≤ c.st ∧ c.st ≤ 9) ∧ (0 ≤ c.lf ∧ c.lf ≤ 4000) ∧ c.dg.size ≤ 13 ∧ (c.bd.size : Int) + c.lf ≤ 4000 ∧ allB (digN 16) c.dg.data.toList = true ∧ (c.st = 1 → c.lf = 0) ∧ (c.st ≠ 1 → c.dg.size = 0) ∧ (c.st = 3 → 0 < c.lf) ∧ (c.st ≠ 2 → c.st ≠ 3 → c.lf = 0)
def okC (c : Ck) : Bool := decide ((1 ≤ c.st ∧ c.st ≤ 9) ∧ (0 ≤ c.lf ∧ c.lf ≤ 4000) ∧ c.dg.size ≤ 13 ∧ (c.bd.size : Int) + c.lf ≤ 4000 ∧ allB (digN 16) c.dg.data.toList = true ∧ (c.st = 1 → c.lf = 0) ∧ (c.st ≠ 1 → c.dg.size = 0) ∧ (c.st = 3 → 0 < c.lf) ∧ (c.st ≠ 2 → c.st ≠ 3 → c.lf = 0))
theorem okC_iff (c : Ck) : okC c = true ↔ okP c := by unfold okC okP; exact decide_eq_true_iff
theorem okC_yes {c : Ck} (h : okP c) : okC c = true := (okC_iff c).2 h
theorem okC_no {c : Ck} (h : ¬ okP c) : okC c = false := Bool.eq_false_iff.2 fun x => h ((okC_iff c).1 x)
theorem okC_is {c : Ck} (h : okC c = true) : okP c := (okC_iff c).1 h

/-- One byte eaten. -/
def eat1 (c : Ck) (b : UInt8) : Ck :=
  if 8 ≤ c.st then c
  else if c.st = 1 then
    if 0 ≤ digV (b.toNat : Int) ∧ c.dg.size < 13 then ⟨1, c.lf, c.dg ++ ⟨#[b]⟩, c.bd⟩
    else if b.toNat = 13 ∧ numOk 16 13 c.dg = true ∧ numV 16 13 c.dg + (c.bd.size : Int) ≤ 4000 then ⟨2, numV 16 13 c.dg, ⟨#[]⟩, c.bd⟩ else badC c
  else if c.st = 2 then if b.toNat = 10 then ⟨if c.lf = 0 then 6 else 3, c.lf, c.dg, c.bd⟩ else badC c
  else if c.st = 3 then ⟨if c.lf = 1 then 4 else 3, c.lf - 1, c.dg, c.bd ++ ⟨#[b]⟩⟩
  else if c.st = 4 then if b.toNat = 13 then ⟨5, c.lf, c.dg, c.bd⟩ else badC c
  else if c.st = 5 then if b.toNat = 10 then ⟨1, c.lf, c.dg, c.bd⟩ else badC c
  else if c.st = 6 then if b.toNat = 13 then ⟨7, c.lf, c.dg, c.bd⟩ else badC c
  else if b.toNat = 10 then ⟨8, c.lf, c.dg, c.bd⟩ else badC c

theorem eat_end {c : Ck} {b : UInt8} (h : 8 ≤ c.st) : eat1 c b = c := by unfold eat1; rw [if_pos h]
theorem eat_digit {c : Ck} {b : UInt8} (h : c.st = 1) (h1 : 0 ≤ digV (b.toNat : Int)) (h2 : c.dg.size < 13) : eat1 c b = ⟨1, c.lf, c.dg ++ ⟨#[b]⟩, c.bd⟩ := by
  unfold eat1; rw [if_neg (by omega), if_pos h, if_pos ⟨h1, h2⟩]
theorem eat_size {c : Ck} {b : UInt8} (h : c.st = 1) (h1 : b.toNat = 13) (h2 : numOk 16 13 c.dg = true) (h3 : numV 16 13 c.dg + (c.bd.size : Int) ≤ 4000) : eat1 c b = ⟨2, numV 16 13 c.dg, ⟨#[]⟩, c.bd⟩ := by
  have hd : digV (b.toNat : Int) = -1 := by rw [h1]; decide
  unfold eat1; rw [if_neg (by omega), if_pos h, if_neg (by omega), if_pos ⟨h1, h2, h3⟩]
theorem eat_nosize {c : Ck} {b : UInt8} (h : c.st = 1) (h1 : ¬ (0 ≤ digV (b.toNat : Int) ∧ c.dg.size < 13)) (h2 : ¬ (b.toNat = 13 ∧ numOk 16 13 c.dg = true ∧ numV 16 13 c.dg + (c.bd.size : Int) ≤ 4000)) : eat1 c b = badC c := by
  unfold eat1; rw [if_neg (by omega), if_pos h, if_neg h1, if_neg h2]
theorem eat_2 {c : Ck} {b : UInt8} (h : c.st = 2) (h1 : b.toNat = 10) : eat1 c b = ⟨if c.lf = 0 then 6 else 3, c.lf, c.dg, c.bd⟩ := by
  unfold eat1; rw [if_neg (by omega), if_neg (by omega), if_pos h, if_pos h1]
theorem eat_2' {c : Ck} {b : UInt8} (h : c.st = 2) (h1 : b.toNat ≠ 10) : eat1 c b = badC c := by
  unfold eat1; rw [if_neg (by omega), if_neg (by omega), if_pos h, if_neg h1]
theorem eat_3 {c : Ck} {b : UInt8} (h : c.st = 3) : eat1 c b = ⟨if c.lf = 1 then 4 else 3, c.lf - 1, c.dg, c.bd ++ ⟨#[b]⟩⟩ := by
  unfold eat1; rw [if_neg (by omega), if_neg (by omega), if_neg (by omega), if_pos h]
theorem eat_4 {c : Ck} {b : UInt8} (h : c.st = 4) (h1 : b.toNat = 13) : eat1 c b = ⟨5, c.lf, c.dg, c.bd⟩ := by
  unfold eat1; rw [if_neg (by omega), if_neg (by omega), if_neg (by omega), if_neg (by omega), if_pos h, if_pos h1]
theorem eat_4' {c : Ck} {b : UInt8} (h : c.st = 4) (h1 : b.toNat ≠ 13) : eat1 c b = badC c := by
  unfold eat1; rw [if_neg (by omega), if_neg (by omega), if_neg (by omega), if_neg (by omega), if_pos h, if_neg h1]
theorem eat_5 {c : Ck} {b : UInt8} (h : c.st = 5) (h1 : b.toNat = 10) : eat1 c b = ⟨1, c.lf, c.dg, c.bd⟩ := by
  unfold eat1; rw [if_neg (by omega), if_neg (by omega), if_neg (by omega), if_neg (by omega), if_neg (by omega), if_pos h, if_pos h1]
theorem eat_5' {c : Ck} {b : UInt8} (h : c.st = 5) (h1 : b.toNat ≠ 10) : eat1 c b = badC c := by
  unfold eat1; rw [if_neg (by omega), if_neg (by omega), if_neg (by omega), if_neg (by omega), if_neg (by omega), if_pos h, if_neg h1]
theorem eat_6 {c : Ck} {b : UInt8} (h : c.st = 6) (h1 : b.toNat = 13) : eat1 c b = ⟨7, c.lf, c.dg, c.bd⟩ := by
  unfold eat1; rw [if_neg (by omega), if_neg (by omega), if_neg (by omega), if_neg (by omega), if_neg (by omega), if_neg (by omega), if_pos h, if_pos h1]
theorem eat_6' {c : Ck} {b : UInt8} (h : c.st = 6) (h1 : b.toNat ≠ 13) : eat1 c b = badC c := by
  unfold eat1; rw [if_neg (by omega), if_neg (by omega), if_neg (by omega), if_neg (by omega), if_neg (by omega), if_neg (by omega), if_pos h, if_neg h1]
theorem eat_7 {c : Ck} {b : UInt8} (h : c.st = 7) (h1 : b.toNat = 10) : eat1 c b = ⟨8, c.lf, c.dg, c.bd⟩ := by
  unfold eat1; rw [if_neg (by omega), if_neg (by omega), if_neg (by omega), if_neg (by omega), if_neg (by omega), if_neg (by omega), if_neg (by omega), if_pos h1]
theorem eat_7' {c : Ck} {b : UInt8} (h : c.st = 7) (h1 : b.toNat ≠ 10) : eat1 c b = badC c := by
  unfold eat1; rw [if_neg (by omega), if_neg (by omega), if_neg (by omega), if_neg (by omega), if_neg (by omega), if_neg (by omega), if_neg (by omega), if_neg h1]

theorem digN16 {b : UInt8} (h : 0 ≤ digV (b.toNat : Int)) : digN 16 (b.toNat : Int) = true := digN_yes h (by have := (digV_bd (b.toNat : Int)).2; omega)
theorem digN16_no {b : UInt8} (h : ¬ 0 ≤ digV (b.toNat : Int)) : digN 16 (b.toNat : Int) = false := digN_no fun x => h x.1
theorem add_list (a b : ByteArray) : (a ++ b).data.toList = a.data.toList ++ b.data.toList := by simp
theorem allB_app {p : Int → Bool} {l m : List UInt8} (h : allB p l = true) (h' : allB p m = true) : allB p (l ++ m) = true := by
  unfold allB at *; rw [List.all_append, h, h']; rfl
theorem size_one (a : ByteArray) (b : UInt8) : (a ++ (⟨#[b]⟩ : ByteArray)).size = a.size + 1 := ByteArray.size_append
theorem okP_bad {c : Ck} (h : c.bd.size ≤ 4000) : okP (badC c) := by
  refine ⟨by show (1 : Int) ≤ 9 ∧ (9 : Int) ≤ 9; omega, by show (0 : Int) ≤ 0 ∧ (0 : Int) ≤ 4000; omega, Nat.zero_le _, by show (c.bd.size : Int) + 0 ≤ 4000; omega, rfl, fun _ => rfl, fun _ => rfl, fun x => absurd x (by show ¬ (9 : Int) = 3; omega), fun _ _ => rfl⟩
theorem num_bd {s : ByteArray} : 0 ≤ numV 16 13 s := by
  by_cases h : numOk 16 13 s = true
  · exact numV_nonneg h
  · rw [num_no (by simpa using h)]; exact Int.le_refl _
theorem nil_size : (⟨#[]⟩ : ByteArray).size = 0 := rfl
theorem ok_eat {c : Ck} (b : UInt8) (h : okP c) : okP (eat1 c b) := by
  have h0 := h
  obtain ⟨⟨a1, a2⟩, ⟨b1, b2⟩, d1, e1, f1, g1, g2, g3, g4⟩ := h
  have hb : okP (badC c) := okP_bad (by omega)
  rcases (show c.st = 1 ∨ c.st = 2 ∨ c.st = 3 ∨ c.st = 4 ∨ c.st = 5 ∨ c.st = 6 ∨ c.st = 7 ∨ 8 ≤ c.st by omega) with k | k | k | k | k | k | k | k
  · by_cases x : 0 ≤ digV (b.toNat : Int) ∧ c.dg.size < 13
    · rw [eat_digit k x.1 x.2]
      refine ⟨⟨?_, ?_⟩, ⟨b1, b2⟩, ?_, e1, ?_, ?_, ?_, ?_, ?_⟩
      · show (1 : Int) ≤ 1; omega
      · show (1 : Int) ≤ 9; omega
      · rw [size_one]; omega
      · rw [add_list]; exact allB_app f1 (by unfold allB; simp [digN16 x.1])
      · intro _; exact g1 k
      · intro x; exact absurd rfl x
      · intro x; exact absurd x (by show ¬ (1 : Int) = 3; omega)
      · intro _ _; exact g1 k
    · by_cases y : b.toNat = 13 ∧ numOk 16 13 c.dg = true ∧ numV 16 13 c.dg + (c.bd.size : Int) ≤ 4000
      · rw [eat_size k y.1 y.2.1 y.2.2]
        have := @num_bd c.dg
        have hy := y.2.2
        refine ⟨⟨?_, ?_⟩, ⟨this, ?_⟩, ?_, ?_, rfl, ?_, ?_, ?_, ?_⟩
        · show (1 : Int) ≤ 2; omega
        · show (2 : Int) ≤ 9; omega
        · show numV 16 13 c.dg ≤ 4000; omega
        · show 0 ≤ 13; omega
        · show (c.bd.size : Int) + numV 16 13 c.dg ≤ 4000; omega
        · intro x; exact absurd x (by show ¬ (2 : Int) = 1; omega)
        · intro _; rfl
        · intro x; exact absurd x (by show ¬ (2 : Int) = 3; omega)
        · intro x; exact absurd rfl x
      · rw [eat_nosize k x y]; exact hb
  · by_cases x : b.toNat = 10
    · rw [eat_2 k x]
      have hd := g2 (by omega)
      by_cases y : c.lf = 0
      · rw [if_pos y]
        refine ⟨?_, ⟨b1, b2⟩, d1, e1, f1, ?_, ?_, ?_, ?_⟩ <;> simp [y, hd]
      · rw [if_neg y]
        refine ⟨?_, ⟨b1, b2⟩, d1, e1, f1, ?_, ?_, ?_, ?_⟩ <;> simp [hd] <;> omega
    · rw [eat_2' k x]; exact hb
  · rw [eat_3 k]
    have hd := g2 (by omega)
    have h3 := g3 k
    have hs := size_one c.bd b
    by_cases y : c.lf = 1
    · rw [if_pos y]
      have e2 : ((c.bd ++ (⟨#[b]⟩ : ByteArray)).size : Int) + (c.lf - 1) ≤ 4000 := by omega
      refine ⟨?_, ?_, d1, e2, f1, ?_, ?_, ?_, ?_⟩ <;> simp [y, hd]
    · rw [if_neg y]
      have e2 : ((c.bd ++ (⟨#[b]⟩ : ByteArray)).size : Int) + (c.lf - 1) ≤ 4000 := by omega
      refine ⟨?_, ?_, d1, e2, f1, ?_, ?_, ?_, ?_⟩ <;> simp [hd] <;> omega
  · have hd := g2 (by omega)
    have hl := g4 (by omega) (by omega)
    by_cases x : b.toNat = 13
    · rw [eat_4 k x]
      refine ⟨?_, ⟨b1, b2⟩, d1, e1, f1, ?_, ?_, ?_, ?_⟩ <;> simp [hd, hl]
    · rw [eat_4' k x]; exact hb
  · have hd := g2 (by omega)
    have hl := g4 (by omega) (by omega)
    by_cases x : b.toNat = 10
    · rw [eat_5 k x]
      refine ⟨?_, ⟨b1, b2⟩, d1, e1, f1, ?_, ?_, ?_, ?_⟩ <;> simp [hl]
    · rw [eat_5' k x]; exact hb
  · have hd := g2 (by omega)
    have hl := g4 (by omega) (by omega)
    by_cases x : b.toNat = 13
    · rw [eat_6 k x]
      refine ⟨?_, ⟨b1, b2⟩, d1, e1, f1, ?_, ?_, ?_, ?_⟩ <;> simp [hd, hl]
    · rw [eat_6' k x]; exact hb
  · have hd := g2 (by omega)
    have hl := g4 (by omega) (by omega)
    by_cases x : b.toNat = 10
    · rw [eat_7 k x]
      refine ⟨?_, ⟨b1, b2⟩, d1, e1, f1, ?_, ?_, ?_, ?_⟩ <;> simp [hd, hl]
    · rw [eat_7' k x]; exact hb
  · rw [eat_end k]; exact h0

/-- All bytes of a list eaten, and how many of them are eaten. -/
def fin (c : Ck) (l : List UInt8) : Ck := l.foldl eat1 c
def cnt (c : Ck) : List UInt8 → Nat
  | [] => 0
  | b :: l => if c.st < 8 then cnt (eat1 c b) l + 1 else 0
theorem fin_nil (c : Ck) : fin c [] = c := rfl
theorem fin_cons (c : Ck) (b : UInt8) (l : List UInt8) : fin c (b :: l) = fin (eat1 c b) l := rfl
theorem fin_app (c : Ck) (l m : List UInt8) : fin c (l ++ m) = fin (fin c l) m := List.foldl_append
theorem fin_stay {c : Ck} (h : 8 ≤ c.st) (l : List UInt8) : fin c l = c := by
  induction l with
  | nil => rfl
  | cons b l ih => rw [fin_cons, eat_end h]; exact ih
theorem cnt_stay {c : Ck} (h : 8 ≤ c.st) (l : List UInt8) : cnt c l = 0 := by
  cases l with
  | nil => rfl
  | cons b l => unfold cnt; rw [if_neg (by omega)]
theorem cnt_cons {c : Ck} (h : c.st < 8) (b : UInt8) (l : List UInt8) : cnt c (b :: l) = cnt (eat1 c b) l + 1 := by
  rw [cnt, if_pos h]
theorem ok_fin {c : Ck} (h : okP c) (l : List UInt8) : okP (fin c l) := by
  induction l generalizing c with
  | nil => exact h
  | cons b l ih => exact ih (ok_eat b h)
theorem cnt_le (c : Ck) (l : List UInt8) : cnt c l ≤ l.length := by
  induction l generalizing c with
  | nil => exact Nat.le_refl _
  | cons b l ih =>
    unfold cnt
    split
    · have := ih (eat1 c b); simp; omega
    · simp
/-- Where the state at the end is under way, it was so all along. -/
theorem fin_under {c : Ck} {l m : List UInt8} (h : (fin c (l ++ m)).st < 8) : (fin c l).st < 8 := by
  rcases Int.lt_or_le (fin c l).st 8 with h' | h'
  · exact h'
  · rw [fin_app, fin_stay h'] at h; omega
theorem cnt_under {c : Ck} {l : List UInt8} (h : (fin c l).st < 8) (m : List UInt8) : cnt c (l ++ m) = l.length + cnt (fin c l) m := by
  induction l generalizing c with
  | nil => simp [fin]
  | cons b l ih =>
    have hc : c.st < 8 := fin_under (l := []) (m := b :: l) h
    rw [List.cons_append, cnt_cons hc, ih h, List.length_cons, fin_cons]
    omega
/-- All bytes are eaten, or the state is at its end. -/
theorem cnt_all (c : Ck) (l : List UInt8) : cnt c l = l.length ∨ 8 ≤ (fin c l).st := by
  rcases Int.lt_or_le (fin c l).st 8 with h | h
  · left
    have := cnt_under h []
    rw [List.append_nil] at this
    rw [this]; rfl
  · exact .inr h
/-- What is not eaten changes nothing. -/
theorem fin_cnt (c : Ck) (l : List UInt8) : fin c (l.take (cnt c l)) = fin c l := by
  induction l generalizing c with
  | nil => rfl
  | cons b l ih =>
    rcases Int.lt_or_le c.st 8 with h | h
    · rw [cnt_cons h, List.take_succ_cons, fin_cons, fin_cons, ih]
    · rw [cnt_stay h, fin_stay h (b :: l)]; rfl

/-- The state at the start. -/
def ck0 (bd : ByteArray) : Ck := ⟨1, 0, ⟨#[]⟩, bd⟩
theorem ok_ck0 {bd : ByteArray} (h : bd.size ≤ 4000) : okP (ck0 bd) := by
  exact ⟨by show (1 : Int) ≤ 1 ∧ (1 : Int) ≤ 9; omega, by show (0 : Int) ≤ 0 ∧ (0 : Int) ≤ 4000; omega, Nat.zero_le _, by show (bd.size : Int) + 0 ≤ 4000; omega, rfl, fun _ => rfl, fun _ => rfl, fun x => absurd x (by show ¬ (1 : Int) = 3; omega), fun _ _ => rfl⟩
def unF (l : List UInt8) : Ck := fin (ck0 ⟨#[]⟩) l
def unN (l : List UInt8) : Nat := cnt (ck0 ⟨#[]⟩) l
/-- What reading chunks answers. -/
def unV (l : List UInt8) : Value := if (unF l).st = 8 then .tuple #[.string (unF l).bd, .int .i64 (unN l : Int), .bool true] else .tuple #[.string ⟨#[]⟩, .int .i64 0, .bool false]
theorem unV_yes {l : List UInt8} (h : (unF l).st = 8) : unV l = .tuple #[.string (unF l).bd, .int .i64 (unN l : Int), .bool true] := by unfold unV; rw [if_pos h]
theorem unV_no {l : List UInt8} (h : ¬ (unF l).st = 8) : unV l = .tuple #[.string ⟨#[]⟩, .int .i64 0, .bool false] := by unfold unV; rw [if_neg h]

/-- The bytes of one part. -/
def oneL (p : ByteArray) : List UInt8 := if p.size = 0 then [] else hexF 13 p.size ++ [13, 10] ++ p.data.toList ++ [13, 10]
def sumP (l : List ByteArray) : Nat := (l.map (·.size)).sum
def catP (l : List ByteArray) : ByteArray := l.foldl (· ++ ·) ⟨#[]⟩
def fewP (l : List ByteArray) : Prop := l.length ≤ 100 ∧ sumP l ≤ 4000
def chL (l : List ByteArray) : List UInt8 := l.flatMap oneL ++ [48, 13, 10, 13, 10]
/-- What parts are written as. -/
def chA (l : List ByteArray) : ByteArray := if l.length ≤ 100 ∧ sumP l ≤ 4000 then ⟨(chL l).toArray⟩ else ⟨#[]⟩
theorem chA_yes {l : List ByteArray} (h : fewP l) : (⟨(chL l).toArray⟩ : ByteArray) = chA l := by unfold chA; rw [if_pos (show l.length ≤ 100 ∧ sumP l ≤ 4000 from h)]
theorem chA_no {l : List ByteArray} (h : ¬ fewP l) : (⟨#[]⟩ : ByteArray) = chA l := by unfold chA; rw [if_neg (show ¬ (l.length ≤ 100 ∧ sumP l ≤ 4000) from h)]
theorem ba_ext {a b : ByteArray} (h : a.data.toList = b.data.toList) : a = b := by
  cases a; cases b; exact congrArg _ (Array.ext' h)
theorem fin_digits (l : List UInt8) : ∀ (c : Ck), c.st = 1 → c.dg.size + l.length ≤ 13 → allB (digN 16) l = true → fin c l = ⟨1, c.lf, c.dg ++ ⟨l.toArray⟩, c.bd⟩ := by
  induction l with
  | nil =>
    intro c h _ _
    rw [fin_nil]
    have e : c.dg ++ (⟨([] : List UInt8).toArray⟩ : ByteArray) = c.dg := ba_ext (by rw [add_list]; simp)
    rw [e]
    cases c
    simp at h
    subst h
    rfl
  | cons b l ih =>
    intro c h h1 h2
    have hb : digN 16 (b.toNat : Int) = true ∧ allB (digN 16) l = true := by unfold allB at h2 ⊢; simpa using h2
    have hd := (of_decide_eq_true hb.1).1
    rw [List.length_cons] at h1
    rw [fin_cons, eat_digit h hd (by omega), ih _ rfl (by show (c.dg ++ (⟨#[b]⟩ : ByteArray)).size + l.length ≤ 13; rw [size_one]; omega) hb.2]
    have e : c.dg ++ (⟨#[b]⟩ : ByteArray) ++ ⟨l.toArray⟩ = c.dg ++ ⟨(b :: l).toArray⟩ := ba_ext (by simp)
    simp only [e]
theorem fin_data (l : List UInt8) : ∀ (c : Ck), c.st = 3 → c.lf = (l.length : Int) → l ≠ [] → fin c l = ⟨4, 0, c.dg, c.bd ++ ⟨l.toArray⟩⟩ := by
  induction l with
  | nil => intro c _ _ h; exact absurd rfl h
  | cons b l ih =>
    intro c h h1 _
    rw [fin_cons, eat_3 h]
    rw [List.length_cons] at h1
    have e : c.bd ++ (⟨#[b]⟩ : ByteArray) ++ ⟨l.toArray⟩ = c.bd ++ ⟨(b :: l).toArray⟩ := ba_ext (by simp)
    by_cases hl : l = []
    · subst hl
      have h1' : c.lf = 1 := by simpa using h1
      rw [if_pos h1', fin_nil, h1']
      rfl
    · have h2 : l.length ≠ 0 := fun x => hl (List.eq_nil_of_length_eq_zero x)
      rw [if_neg (by omega), ih _ rfl (by show c.lf - 1 = _; omega) hl]
      simp only [e]
theorem hex_short {n : Nat} (h : n ≤ 4000) : (hexF 13 n).length ≤ 13 := by
  have k : ∀ (f g n : Nat), n < 16 ^ (g + 1) → g ≤ f → (hexF f n).length ≤ g + 1 := by
    intro f
    induction f with
    | zero => intro g n _ _; simp [hexF]
    | succ f ih =>
      intro g n hn hg
      by_cases hs : n < 16
      · rw [hexF_small _ _ hs]; simp
      · cases g with
        | zero => simp at hn; omega
        | succ g =>
          rw [hexF_step f n hs, List.length_append]
          have := ih g (n / 16) (by rw [Nat.pow_succ] at hn; exact Nat.div_lt_of_lt_mul (by rw [Nat.mul_comm]; exact hn)) (by omega)
          simp only [List.length_singleton]
          omega
  have := k 13 12 n (by have : (4001 : Nat) ≤ 16 ^ (12 + 1) := by decide
                        omega) (by omega)
  omega
theorem fin_one {p : ByteArray} (bd : ByteArray) (h : bd.size + p.size ≤ 4000) : fin (ck0 bd) (oneL p) = ck0 (bd ++ p) := by
  unfold oneL
  by_cases h0 : p.size = 0
  · rw [if_pos h0, fin_nil]
    have e : bd ++ p = bd := ba_ext (by
      have : p.data.toList.length = p.size := by simp
      rw [add_list, List.eq_nil_of_length_eq_zero (this.trans h0), List.append_nil])
    rw [e]
  · rw [if_neg h0]
    obtain ⟨g1, g2⟩ := hexF_num 13 p.size (by have : (4001 : Nat) ≤ 16 ^ (13 + 1) := by decide
                                              omega)
    have hl := hexF_length 13 p.size
    have hs := hex_short (n := p.size) (by omega)
    have hz : (hexS p.size).size = (hexF 13 p.size).length := by show (hexF 13 p.size).toArray.size = _; simp
    obtain ⟨k1, k2⟩ := hex_back (n := p.size) (by omega) (by omega)
    have e0 : (⟨#[]⟩ : ByteArray) ++ ⟨(hexF 13 p.size).toArray⟩ = hexS p.size := ba_ext (by rw [add_list]; rfl)
    have ep : (⟨p.data.toList.toArray⟩ : ByteArray) = p := ba_ext (by simp)
    have hpl : p.data.toList.length = p.size := by simp
    rw [fin_app, fin_app, fin_app, fin_digits _ (ck0 bd) rfl (by show 0 + _ ≤ 13; omega) g2]
    show fin (fin (fin ⟨1, 0, (⟨#[]⟩ : ByteArray) ++ ⟨(hexF 13 p.size).toArray⟩, bd⟩ [13, 10]) p.data.toList) [13, 10] = _
    rw [e0, fin_cons (⟨1, 0, hexS p.size, bd⟩ : Ck) 13 [10], eat_size (c := ⟨1, 0, hexS p.size, bd⟩) rfl rfl k1 (by show numV 16 13 (hexS p.size) + _ ≤ 4000; rw [k2]; show (p.size : Int) + (bd.size : Int) ≤ 4000; omega)]
    show fin (fin (fin ⟨2, numV 16 13 (hexS p.size), ⟨#[]⟩, bd⟩ [10]) p.data.toList) [13, 10] = _
    rw [k2, fin_cons (⟨2, (p.size : Int), ⟨#[]⟩, bd⟩ : Ck) 10 [], eat_2 (c := ⟨2, (p.size : Int), ⟨#[]⟩, bd⟩) rfl rfl]
    show fin (fin ⟨if (p.size : Int) = 0 then 6 else 3, (p.size : Int), ⟨#[]⟩, bd⟩ p.data.toList) [13, 10] = _
    rw [if_neg (by omega), fin_data _ ⟨3, (p.size : Int), ⟨#[]⟩, bd⟩ rfl (by show (p.size : Int) = _; omega) (fun x => by rw [x] at hpl; simp at hpl; omega), fin_cons, eat_4 rfl rfl, fin_cons, eat_5 rfl rfl, fin_nil, ep]
    rfl
theorem catP_from (l : List ByteArray) : ∀ b : ByteArray, l.foldl (· ++ ·) b = b ++ catP l := by
  induction l with
  | nil => intro b; exact ba_ext (by rw [add_list]; simp [catP])
  | cons p l ih =>
    intro b
    show l.foldl (· ++ ·) (b ++ p) = b ++ l.foldl (· ++ ·) ((⟨#[]⟩ : ByteArray) ++ p)
    rw [ih, ih]
    exact ba_ext (by simp)
theorem catP_cons (p : ByteArray) (l : List ByteArray) : catP (p :: l) = p ++ catP l := by
  show l.foldl (· ++ ·) ((⟨#[]⟩ : ByteArray) ++ p) = _
  rw [catP_from]
  exact ba_ext (by simp)
theorem catP_snoc (p : ByteArray) (l : List ByteArray) : catP (l ++ [p]) = catP l ++ p := by
  unfold catP; rw [List.foldl_append]; rfl
theorem catP_one (p : ByteArray) : catP [p] = p := ba_ext (by rw [catP_cons, add_list]; simp [catP])
theorem sumP_cons (p : ByteArray) (l : List ByteArray) : sumP (p :: l) = p.size + sumP l := by simp [sumP]
theorem sumP_snoc (p : ByteArray) (l : List ByteArray) : sumP (l ++ [p]) = sumP l + p.size := by simp [sumP]
theorem catP_size (l : List ByteArray) : (catP l).size = sumP l := by
  induction l with
  | nil => rfl
  | cons p l ih => rw [catP_cons, sumP_cons, ByteArray.size_append, ih]
theorem fin_parts (l : List ByteArray) : ∀ bd : ByteArray, bd.size + sumP l ≤ 4000 → fin (ck0 bd) (l.flatMap oneL) = ck0 (bd ++ catP l) := by
  induction l with
  | nil => intro bd _; rw [show bd ++ catP [] = bd from ba_ext (by rw [add_list]; simp [catP])]; rfl
  | cons p l ih =>
    intro bd h
    rw [sumP_cons] at h
    rw [List.flatMap_cons, fin_app, fin_one bd (by omega), ih _ (by rw [ByteArray.size_append]; omega), catP_cons]
    rw [show bd ++ p ++ catP l = bd ++ (p ++ catP l) from ba_ext (by simp)]
theorem fin_last (bd : ByteArray) (h : bd.size ≤ 4000) : fin (ck0 bd) [48, 13, 10, 13] = ⟨7, 0, ⟨#[]⟩, bd⟩ := by
  have k1 : numOk 16 13 ⟨#[48]⟩ = true := by decide
  have k2 : numV 16 13 ⟨#[48]⟩ = 0 := by decide
  have e0 : (⟨#[]⟩ : ByteArray) ++ ⟨#[48]⟩ = ⟨#[48]⟩ := rfl
  rw [fin_cons, eat_digit rfl (by decide) (by show 0 < 13; omega)]
  show fin ⟨1, 0, (⟨#[]⟩ : ByteArray) ++ ⟨#[48]⟩, bd⟩ [13, 10, 13] = _
  rw [e0, fin_cons, eat_size rfl rfl k1 (by show numV 16 13 ⟨#[48]⟩ + _ ≤ 4000; rw [k2]; show (0 : Int) + (bd.size : Int) ≤ 4000; omega)]
  show fin ⟨2, numV 16 13 ⟨#[48]⟩, ⟨#[]⟩, bd⟩ [10, 13] = _
  rw [k2, fin_cons, eat_2 rfl rfl]
  show fin ⟨if (0 : Int) = 0 then 6 else 3, 0, ⟨#[]⟩, bd⟩ [13] = _
  rw [if_pos rfl, fin_cons, eat_6 rfl rfl]
  rfl
/-- All but the last byte of what parts are written as. -/
def chM (l : List ByteArray) : List UInt8 := l.flatMap oneL ++ [48, 13, 10, 13]
theorem chL_M (l : List ByteArray) : chL l = chM l ++ [10] := by simp [chL, chM]
theorem fin_M {l : List ByteArray} (h : sumP l ≤ 4000) : unF (chM l) = ⟨7, 0, ⟨#[]⟩, catP l⟩ := by
  unfold unF chM
  rw [fin_app, fin_parts l _ (by show 0 + sumP l ≤ 4000; omega), show (⟨#[]⟩ : ByteArray) ++ catP l = catP l from ba_ext (by rw [add_list]; simp), fin_last _ (by rw [catP_size]; exact h)]
/-- Parts are read from what they are written as, whatever stands behind it. -/
theorem un_ch {l : List ByteArray} (h : sumP l ≤ 4000) (m : List UInt8) : unV (chL l ++ m) = .tuple #[.string (catP l), .int .i64 ((chL l).length : Int), .bool true] := by
  have hM := fin_M h
  have h7 : (unF (chM l)).st < 8 := by rw [hM]; show (7 : Int) < 8; omega
  have e1 : chL l ++ m = chM l ++ (10 :: m) := by rw [chL_M]; simp
  have hF : unF (chL l ++ m) = ⟨8, 0, ⟨#[]⟩, catP l⟩ := by
    rw [e1]
    unfold unF at *
    rw [fin_app, hM, fin_cons, eat_7 rfl rfl, fin_stay (by show (8 : Int) ≤ 8; omega)]
  have hN : unN (chL l ++ m) = (chL l).length := by
    rw [e1]
    unfold unN
    unfold unF at hM h7
    rw [cnt_under h7, hM, cnt_cons (by show (7 : Int) < 8; omega), eat_7 rfl rfl, cnt_stay (by show (8 : Int) ≤ 8; omega), chL_M, List.length_append]
    rfl
  rw [unV_yes (by rw [hF]), hF, hN]
/-- No part of it is read. -/
theorem un_part {l : List ByteArray} (h : sumP l ≤ 4000) {k : Nat} (hk : k < (chL l).length) : unV ((chL l).take k) = .tuple #[.string ⟨#[]⟩, .int .i64 0, .bool false] := by
  have hM := fin_M h
  have h7 : (unF (chM l)).st < 8 := by rw [hM]; show (7 : Int) < 8; omega
  have hlen : (chL l).length = (chM l).length + 1 := by rw [chL_M, List.length_append]; rfl
  have e1 : (chL l).take k = (chM l).take k := by rw [chL_M, List.take_append_of_le_length (by omega)]
  have h8 : (unF ((chM l).take k)).st < 8 := by
    unfold unF at *
    refine fin_under (m := (chM l).drop k) ?_
    rw [List.take_append_drop]
    exact h7
  rw [e1, unV_no (by omega)]
end Go.Proofs.Ytkoikofaebfbjaa
