/-
  Plain facts on messages: which are right, where one ends, what it is shown as, what is read.
-/
import Derived.Test.YtkoikofaebfbjaaFldQ
import Derived.Test.YtkoikofaebfbjaaChkP
namespace Go.Proofs.Ytkoikofaebfbjaa
open Go.RowKit

/-! ### Decimal digits -/
def numB (d : Nat) : UInt8 := UInt8.ofNat (48 + d)
def numF : Nat → Nat → List UInt8
  | 0, n => [numB (n % 10)]
  | f + 1, n => if n < 10 then [numB n] else numF f (n / 10) ++ [numB (n % 10)]
theorem numF_small (f n : Nat) (h : n < 10) : numF f n = [numB n] := by
  cases f with
  | zero => simp [numF, Nat.mod_eq_of_lt h]
  | succ f => simp [numF, h]
theorem numF_step (f n : Nat) (h : ¬ n < 10) : numF (f + 1) n = numF f (n / 10) ++ [numB (n % 10)] := by simp [numF, h]
def decS (n : Nat) : ByteArray := ⟨(numF 8 n).toArray⟩
theorem numB_nat {d : Nat} (h : d < 10) : digV ((numB d).toNat : Int) = (d : Int) := by
  have k : ∀ j : Fin 10, digV ((numB j.val).toNat : Int) = (j.val : Int) := by decide +kernel
  exact k ⟨d, h⟩
theorem numF_num (f : Nat) : ∀ n, n < 10 ^ (f + 1) → numL 10 (numF f n) = (n : Int) ∧ allB (digN 10) (numF f n) = true := by
  have oneB : ∀ d : Nat, d < 10 → digN 10 ((numB d).toNat : Int) = true := fun d hd => digN_yes (by rw [numB_nat hd]; omega) (by rw [numB_nat hd]; omega)
  have base : ∀ (f n : Nat), n < 10 → numL 10 (numF f n) = (n : Int) ∧ allB (digN 10) (numF f n) = true := fun f n h => by
    rw [numF_small f n h]
    refine ⟨?_, ?_⟩
    · show 0 * 10 + digV ((numB n).toNat : Int) = (n : Int)
      rw [numB_nat h]; omega
    · unfold allB; simp [oneB n h]
  induction f with
  | zero => intro n hn; exact base 0 n (by omega)
  | succ f ih =>
    intro n hn
    by_cases h : n < 10
    · exact base _ n h
    · have h1 : n / 10 < 10 ^ (f + 1) := by
        rw [Nat.pow_succ] at hn
        exact Nat.div_lt_of_lt_mul (by rw [Nat.mul_comm]; exact hn)
      obtain ⟨g1, g2⟩ := ih (n / 10) h1
      rw [numF_step f n h, numL_snoc, g1, numB_nat (by omega)]
      refine ⟨by omega, ?_⟩
      unfold allB at g2 ⊢
      rw [List.all_append, g2]
      simp [oneB (n % 10) (by omega)]
theorem numF_length (f : Nat) : ∀ n, 1 ≤ (numF f n).length ∧ (numF f n).length ≤ f + 1 := by
  induction f with
  | zero => intro n; simp [numF]
  | succ f ih =>
    intro n
    by_cases h : n < 10
    · rw [numF_small _ _ h]; simp
    · have := ih (n / 10)
      rw [numF_step f n h, List.length_append, List.length_singleton]
      omega
theorem decS_list (n : Nat) : (decS n).data.toList = numF 8 n := rfl
theorem decS_size (n : Nat) : 1 ≤ (decS n).size ∧ (decS n).size ≤ 9 := by
  have : (decS n).size = (numF 8 n).length := by show (numF 8 n).toArray.size = _; simp
  have := numF_length 8 n
  omega
theorem dec_back {n : Nat} (hn : n ≤ 100000000) : numOk 10 15 (decS n) = true ∧ numV 10 15 (decS n) = (n : Int) := by
  obtain ⟨g1, g2⟩ := numF_num 8 n (by omega)
  have hz := decS_size n
  have h1 : numOk 10 15 (decS n) = true := numOk_in (by omega) (by omega) (by rw [decS_list, g2])
  exact ⟨h1, by rw [num_yes h1, decS_list, g1]⟩
theorem dec_bytes {n : Nat} (hn : n ≤ 100000000) : ∀ c ∈ (decS n).data.toList, 48 ≤ c.toNat ∧ c.toNat ≤ 57 := by
  intro c hc
  obtain ⟨_, g2⟩ := numF_num 8 n (by omega)
  rw [decS_list] at hc
  have h := List.all_eq_true.1 g2 c hc
  have h2 := of_decide_eq_true h
  have := (digV_ten (r := (c.toNat : Int))).1 h2
  omega

/-! ### What is right -/
def capN (r : Int) : Bool := decide (65 ≤ r ∧ r ≤ 90)
def tarN (r : Int) : Bool := decide (33 ≤ r ∧ r ≤ 126)
def metB (s : ByteArray) : Bool := allB capN s.data.toList && tokB s
def tarB (s : ByteArray) : Bool := decide (1 ≤ s.size ∧ s.size ≤ 200) && allB tarN s.data.toList
/-- content-length, transfer-encoding, chunked. -/
def clS : ByteArray := ⟨#[99, 111, 110, 116, 101, 110, 116, 45, 108, 101, 110, 103, 116, 104]⟩
def teS : ByteArray := ⟨#[116, 114, 97, 110, 115, 102, 101, 114, 45, 101, 110, 99, 111, 100, 105, 110, 103]⟩
def chS : ByteArray := ⟨#[99, 104, 117, 110, 107, 101, 100]⟩
def hvS : ByteArray := ⟨#[72, 84, 84, 80, 47, 49, 46, 49]⟩
def ownB (l : List Fl) : Bool := fldsOk l && (!(getF l clS).2 && !(getF l teS).2)
/-- A request. -/
structure Rq where
  m : ByteArray
  t : ByteArray
  l : List Fl
  b : ByteArray
/-- A response. -/
structure Rs where
  s : Int
  l : List Fl
  b : ByteArray
def rqOk (r : Rq) : Bool := metB r.m && (tarB r.t && (ownB r.l && decide (r.b.size ≤ 4000)))
def bareB (s : Int) : Bool := decide (s = 204 ∨ s = 304)
def rsOk (r : Rs) : Bool := decide (200 ≤ r.s ∧ r.s ≤ 599) && (ownB r.l && (decide (r.b.size ≤ 4000) && (!bareB r.s || decide (r.b.size = 0))))

/-! ### Where it ends -/
def frm (l : List Fl) : Int × Int :=
  if fldsOk l = true then
    if (getF l clS).2 = true then
      if (getF l teS).2 = true then (3, 0)
      else if numOk 10 15 (getF l clS).1 = true ∧ numV 10 15 (getF l clS).1 ≤ 4000 then (1, numV 10 15 (getF l clS).1) else (3, 0)
    else if (getF l teS).2 = true then if lowS (getF l teS).1 = chS then (2, 0) else (3, 0)
    else (0, 0)
  else (3, 0)

/-! ### What it is shown as -/
def addL (l : List Fl) (b : ByteArray) (tell : Bool) : List Fl := if tell = true then l ++ [(clS, decS b.size)] else l
def msgL (first : List UInt8) (l : List Fl) (b : ByteArray) : List UInt8 := first ++ [13, 10] ++ showL l ++ [13, 10] ++ b.data.toList
def msgA (first : ByteArray) (l : List Fl) (b : ByteArray) (tell : Bool) : ByteArray := if (addL l b tell).length ≤ 30 then ⟨(msgL first.data.toList (addL l b tell) b).toArray⟩ else ⟨#[]⟩
def lineQ (r : Rq) : ByteArray := r.m ++ ⟨#[32]⟩ ++ r.t ++ ⟨#[32, 72, 84, 84, 80, 47, 49, 46, 49]⟩
def wordS (s : Int) : ByteArray := if 400 ≤ s then ⟨#[110, 111]⟩ else ⟨#[111, 107]⟩
def lineR (s : Int) : ByteArray := ⟨#[72, 84, 84, 80, 47, 49, 46, 49, 32]⟩ ++ decS s.toNat ++ ⟨#[32]⟩ ++ wordS s
def shRq (r : Rq) : ByteArray := if rqOk r = true then msgA (lineQ r) r.l r.b (decide (r.b.size ≠ 0)) else ⟨#[]⟩
def shRs (r : Rs) : ByteArray := if rsOk r = true then msgA (lineR r.s) r.l r.b (!bareB r.s) else ⟨#[]⟩

/-! ### What is read -/
def wrdL : List UInt8 → List (List UInt8)
  | [] => [[]]
  | c :: r => if c = 32 then [] :: wrdL r else match wrdL r with
    | x :: xs => (c :: x) :: xs
    | [] => [[c]]
/-- What is read behind the first line: how it went, the fields, the body, what is left. -/
structure Rst where
  k : Int
  l : List Fl
  b : ByteArray
  r : List UInt8
def noR (k : Int) : Rst := ⟨k, [], ⟨#[]⟩, []⟩
def woB (l : List Fl) : List Fl := wo (wo l clS) teS
def rstA (t : List UInt8) (bare : Bool) : Rst :=
  match rdA t with
  | none => noR 2
  | some (l, q) =>
    if (frm l).1 = 3 then noR 3
    else if bare = true ∨ (frm l).1 = 0 then ⟨0, woB l, ⟨#[]⟩, q⟩
    else if (frm l).1 = 1 then if (frm l).2 ≤ (q.length : Int) then ⟨0, woB l, ⟨(q.take (frm l).2.toNat).toArray⟩, q.drop (frm l).2.toNat⟩ else noR 4
    else if (unF q).st = 8 then ⟨0, woB l, (unF q).bd, q.drop (unN q)⟩ else noR 4
def txtL (l : List UInt8) : ByteArray := ⟨l.toArray⟩
/-- What ReadRequest answers: how it went, the request, how many bytes. -/
def noQ : Rq := ⟨⟨#[]⟩, ⟨#[]⟩, [], ⟨#[]⟩⟩
def noS : Rs := ⟨0, [], ⟨#[]⟩⟩
def rdRq (t : List UInt8) : Int × Rq × Int :=
  match lnS t with
  | none => (1, noQ, 0)
  | some (x, r) =>
    match wrdL x with
    | [m, g, v] =>
      if metB (txtL m) = true ∧ tarB (txtL g) = true ∧ txtL v = hvS then
        if (rstA r false).k = 0 then (0, ⟨txtL m, txtL g, (rstA r false).l, (rstA r false).b⟩, (t.length : Int) - ((rstA r false).r.length : Int)) else ((rstA r false).k, noQ, 0)
      else (1, noQ, 0)
    | _ => (1, noQ, 0)
def staOk (g : List UInt8) : Bool := decide (g.length = 3) && (numOk 10 15 (txtL g) && decide (200 ≤ numV 10 15 (txtL g) ∧ numV 10 15 (txtL g) ≤ 599))
def rdRs (t : List UInt8) : Int × Rs × Int :=
  match lnS t with
  | none => (1, noS, 0)
  | some (x, r) =>
    match wrdL x with
    | [v, g, o] =>
      if txtL v = hvS ∧ staOk g = true ∧ tokB (txtL o) = true then
        if (rstA r (bareB (numV 10 15 (txtL g)))).k = 0 then (0, ⟨numV 10 15 (txtL g), (rstA r (bareB (numV 10 15 (txtL g)))).l, (rstA r (bareB (numV 10 15 (txtL g)))).b⟩, (t.length : Int) - ((rstA r (bareB (numV 10 15 (txtL g)))).r.length : Int)) else ((rstA r (bareB (numV 10 15 (txtL g)))).k, noS, 0)
      else (1, noS, 0)
    | _ => (1, noS, 0)
end Go.Proofs.Ytkoikofaebfbjaa
