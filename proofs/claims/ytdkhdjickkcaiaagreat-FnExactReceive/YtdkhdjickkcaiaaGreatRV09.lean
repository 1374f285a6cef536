/-
  Objects as plain data: what is a right one.
  Purges as plain data: what is right, what is shown and read, what one hits, what a log bars.
  Replicas as plain data: what is right, what is counted, asked for, told, received; and what stays true of it.
  Calls that lay new blocks and draw, and turn nothing that lay before.
  The contracts of the law's own helpers on fields: how large, turned into the program's, compared.
  Rows of like elements in memory, each in so many cells: rows that are read, rows that a call owns, rows that it has for itself. Whatever the elements.
-/
import Derived.Test.YtdkhdjickkcaiaaGreatRVS
import Derived.Test.YtdkhdjickkcaiaaGreatRV06
import Derived.Test.YtdkhdjickkcaiaaGreatRows
import Derived.Test.YtdkhdjickkcaiaaGreatRV05
import Derived.WalkKit
import Derived.WalkSpells
import Derived.Test.YtdkhdjickkcaiaaGreatRV04
import Derived.Laws.RangeAny
import Derived.Test.YtdkhdjickkcaiaaGreatRV08
import Derived.Test.YtdkhdjickkcaiaaGreatRV02
import Derived.Below
import Derived.Laws.IdiomStrings
import Derived.Shelf.SlSortCmp.QuietGrown
import Derived.Laws.OwnMore
import Derived.Deep.QuietTactic
import Derived.BigQuiet
set_option linter.unusedVariables false
set_option linter.unusedSimpArgs false
set_option maxRecDepth 100000
set_option maxHeartbeats 64000000
namespace Go.Proofs.YtdkhdjickkcaiaaGreat
open Go.RowKit

def keyN (n : Int) : Bool := decide (33 ≤ n ∧ n ≤ 126)
theorem keyN_yes {n : Int} (h : 33 ≤ n ∧ n ≤ 126) : keyN n = true := decide_eq_true h
theorem keyN_no {n : Int} (h : ¬ (33 ≤ n ∧ n ≤ 126)) : keyN n = false := decide_eq_false h
end Go.Proofs.YtdkhdjickkcaiaaGreat
namespace Go.Proofs.YtdkhdjickkcaiaaGreat.Pg
open Go.RowKit

def kyW : ByteArray := ⟨#[107, 101, 121, 32]⟩
def tgW : ByteArray := ⟨#[116, 97, 103, 32]⟩
def bgW : ByteArray := ⟨#[98, 101, 103, 105, 110, 32]⟩
def alW : ByteArray := ⟨#[97, 108, 108]⟩
def txOk (s : ByteArray) : Bool := decide (1 ≤ s.size ∧ s.size ≤ 200) && allB keyN s.data.toList
def pgOk (k : Int) (s : ByteArray) : Bool := if k = 4 then decide (s.size = 0) else decide (1 ≤ k ∧ k ≤ 3) && txOk s
def wrd (k : Int) : ByteArray := if k = 1 then kyW else if k = 2 then tgW else bgW
def shoP (k : Int) (s : ByteArray) : ByteArray := if k = 4 then alW else wrd k ++ s
def shwP (k : Int) (s : ByteArray) : ByteArray := if pgOk k s = true then shoP k s else ⟨#[]⟩
def preB (p s : ByteArray) : Bool := decide (p.size < s.size) && decide (s.extract 0 p.size = p)
def rdP (s : ByteArray) : Int × ByteArray :=
 if preB bgW s = true then (3, s.extract 6 s.size) else if preB tgW s = true then (2, s.extract 4 s.size) else if preB kyW s = true then (1, s.extract 4 s.size) else (4, ⟨#[]⟩)
def rdB (s : ByteArray) : Bool := decide (shwP (rdP s).1 (rdP s).2 = s)
def rdV (s : ByteArray) : Int × ByteArray := if rdB s = true then rdP s else (0, ⟨#[]⟩)
theorem ext_l (s : ByteArray) (a b : Nat) : (s.extract a b).data.toList = (s.data.toList.take b).drop a := by
 simp [ByteArray.data_extract, List.drop_take]
theorem ba_ext {a b : ByteArray} (h : a.data.toList = b.data.toList) : a = b := ByteArray.ext (Array.toList_inj.1 h)
theorem pre_app (p t : ByteArray) (h : 0 < t.size) : preB p (p ++ t) = true := by
 unfold preB
 rw [Bool.and_eq_true, decide_eq_true_eq, decide_eq_true_eq, ByteArray.size_append]
 refine ⟨by omega, ba_ext ?_⟩
 rw [ext_l]
 have e : p.size = p.data.toList.length := by simp
 rw [e]
 simp
theorem rest_app (p t : ByteArray) (n : Nat) (hn : n = p.size) : (p ++ t).extract n (p ++ t).size = t := by
 refine ba_ext ?_
 rw [ext_l]
 have e : n = p.data.toList.length := by rw [hn]; simp
 have e2 : (p ++ t).size = (p ++ t).data.toList.length := by simp
 rw [e2, List.take_length, e]
 simp
theorem pre_parts {p s : ByteArray} (h : preB p s = true) : s = p ++ s.extract p.size s.size ∧ p.size < s.size := by
 unfold preB at h
 rw [Bool.and_eq_true, decide_eq_true_eq, decide_eq_true_eq] at h
 refine ⟨ba_ext ?_, h.1⟩
 have h2 := congrArg (fun x : ByteArray => x.data.toList) h.2
 simp only [ext_l, List.drop_zero] at h2
 have e2 : s.size = s.data.toList.length := by simp
 rw [ByteArray.data_append, Array.toList_append, ext_l, e2, List.take_length]
 have h3 : p.data.toList = s.data.toList.take p.size := h2.symm
 rw [h3]
 simp
theorem rd_sho {k : Int} {t : ByteArray} (h : pgOk k t = true) : rdP (shoP k t) = (k, t) := by
 unfold pgOk at h
 by_cases h4 : k = 4
 ·
  subst h4
  rw [if_pos rfl, decide_eq_true_eq] at h
  have : t = ⟨#[]⟩ := ba_ext (by have := Array.eq_empty_of_size_eq_zero (show t.data.size = 0 from h); simp [this])
  subst this
  rfl
 ·
  rw [if_neg h4, Bool.and_eq_true, decide_eq_true_eq] at h
  have ht : 0 < t.size := by have := h.2; unfold txOk at this; rw [Bool.and_eq_true, decide_eq_true_eq] at this; omega
  have hsz : ∀ p : ByteArray, (p ++ t).size = p.size + t.size := fun p => ByteArray.size_append
  have first : ∀ (p q : ByteArray) (c d : UInt8), p.data.toList.head? = some c → q.data.toList.head? = some d → c ≠ d → preB q (p ++ t) = false := fun p q c d hp hq hne => by
   cases e : preB q (p ++ t) with
   | false => rfl
   | true =>
    have h1 := (pre_parts e).1
    have h2 := congrArg (fun x : ByteArray => x.data.toList.head?) h1
    simp only [ByteArray.data_append, Array.toList_append] at h2
    obtain ⟨ps, hps⟩ : ∃ ps, p.data.toList = c :: ps := by
     cases hp2 : p.data.toList with
     | nil => rw [hp2] at hp; cases hp
     | cons x xs => rw [hp2] at hp; simp at hp; exact ⟨xs, by rw [hp]⟩
    obtain ⟨qs, hqs⟩ : ∃ qs, q.data.toList = d :: qs := by
     cases hq2 : q.data.toList with
     | nil => rw [hq2] at hq; cases hq
     | cons x xs => rw [hq2] at hq; simp at hq; exact ⟨xs, by rw [hq]⟩
    rw [hps, hqs] at h2
    simp at h2
    exact absurd h2 hne
  unfold shoP
  rw [if_neg h4]
  rcases (show k = 1 ∨ k = 2 ∨ k = 3 by omega) with rfl | rfl | rfl
  ·
   have w1 : wrd 1 = kyW := rfl
   rw [w1]
   unfold rdP
   rw [first kyW bgW 107 98 rfl rfl (by decide), first kyW tgW 107 116 rfl rfl (by decide), pre_app kyW t ht, rest_app kyW t 4 rfl]
   rfl
  ·
   have w1 : wrd 2 = tgW := rfl
   rw [w1]
   unfold rdP
   rw [first tgW bgW 116 98 rfl rfl (by decide), pre_app tgW t ht, rest_app tgW t 4 rfl]
   rfl
  ·
   have w1 : wrd 3 = bgW := rfl
   rw [w1]
   unfold rdP
   rw [pre_app bgW t ht, rest_app bgW t 6 rfl]
   rfl
theorem rd_shw {k : Int} {t : ByteArray} (h : pgOk k t = true) : rdB (shwP k t) = true ∧ rdV (shwP k t) = (k, t) := by
 have e : shwP k t = shoP k t := by unfold shwP; rw [if_pos h]
 have hb : rdB (shwP k t) = true := by
  unfold rdB
  rw [e, rd_sho h, decide_eq_true_eq]
  exact e
 refine ⟨hb, ?_⟩
 unfold rdV
 rw [if_pos hb, e, rd_sho h]
theorem rd_ok {s : ByteArray} (h : rdB s = true) : pgOk (rdP s).1 (rdP s).2 = true ∧ shoP (rdP s).1 (rdP s).2 = s := by
 unfold rdB at h
 rw [decide_eq_true_eq] at h
 cases e : pgOk (rdP s).1 (rdP s).2 with
 | true =>
  refine ⟨rfl, ?_⟩
  unfold shwP at h
  rw [if_pos e] at h
  exact h
 | false =>
  exfalso
  unfold shwP at h
  rw [e] at h
  have h0 : s = ⟨#[]⟩ := h.symm
  subst h0
  have : pgOk (rdP ⟨#[]⟩).1 (rdP ⟨#[]⟩).2 = true := by decide
  rw [this] at e
  cases e
def logB (L : List ByteArray) : Bool := decide (L.length ≤ 60) && L.all rdB
end Go.Proofs.YtdkhdjickkcaiaaGreat.Pg
namespace Go.Proofs.YtdkhdjickkcaiaaGreat.Rl
open Pg

structure Ms where
 k : Int
 f : Int
 t : Int
 v : Int
 la : Int
 l : List ByteArray
 c : Int
structure Rp where
 id : Int
 p : Int
 v : Int
 n : Bool
 la : Int
 l : List ByteArray
 c : Int
 ok : List Int
 ch : List Int
 te : List Ms
def noRp : Rp := ⟨0, 0, 0, false, 0, [], 0, [], [], []⟩

/-! ### What is right -/
def maj (n : Nat) (p : Int) : Prop := p < 2 * (n : Int)
def mine (r : Rp) : Prop := r.v % r.p = r.id
def leads (r : Rp) : Prop := r.n = true ∧ mine r
structure MsOk (m : Ms) (p : Int) : Prop where
 k : 1 ≤ m.k ∧ m.k ≤ 4
 f : 0 ≤ m.f ∧ m.f < p
 t : 0 ≤ m.t ∧ m.t < p
 v : 0 ≤ m.v ∧ m.v ≤ 10000
 la : 0 ≤ m.la ∧ m.la ≤ m.v
 l : logB m.l = true
 c : if m.k = 2 then 0 ≤ m.c ∧ m.c ≤ 60 else 0 ≤ m.c ∧ m.c ≤ (m.l.length : Int)
structure TeOk (m : Ms) (r : Rp) : Prop where
 k : m.k = 4
 t : m.t = r.id
 v : m.v = r.v
 ok : MsOk m r.p
structure RpOk (r : Rp) : Prop where
 p : r.p = 1 ∨ r.p = 3 ∨ r.p = 5
 id : 0 ≤ r.id ∧ r.id < r.p
 v : 0 ≤ r.v ∧ r.v ≤ 10000
 l : logB r.l = true
 c : 0 ≤ r.c ∧ r.c ≤ (r.l.length : Int)
 la : 0 ≤ r.la ∧ r.la ≤ r.v
 n : r.n = true ↔ r.la = r.v
 ch0 : r.n = true → r.ch = [] ∧ r.te = []
 ok1 : r.n = true → mine r → (r.ok.length : Int) = r.p ∧ r.ok[r.id.toNat]? = some (r.l.length : Int) ∧ ∀ x ∈ r.ok, 0 ≤ x ∧ x ≤ (r.l.length : Int)
 ok0 : ¬ leads r → r.ok = []
 ch1 : r.n = false → r.id ∈ r.ch ∧ r.ch.Pairwise (· < ·) ∧ ∀ x ∈ r.ch, 0 ≤ x ∧ x < r.p
 te0 : r.n = false → ¬ mine r → r.te = []
 te1 : r.n = false → (∀ m ∈ r.te, TeOk m r) ∧ r.te.Pairwise (fun a b => a.f < b.f)

/-! ### What is counted -/
def cntF (ok : List Int) (n : Int) : Nat := (ok.filter fun x => decide (n ≤ x)).length
open Classical in
noncomputable def cmF (ok : List Int) (p c : Int) : Nat → Int
 | 0 => c
 | n + 1 => if c < ((n + 1 : Nat) : Int) ∧ maj (cntF ok ((n + 1 : Nat) : Int)) p then ((n + 1 : Nat) : Int) else cmF ok p c n
noncomputable def cntd (r : Rp) : Rp := { r with ok := r.ok.set r.id.toNat (r.l.length : Int), c := cmF (r.ok.set r.id.toNat (r.l.length : Int)) r.p r.c r.l.length }
theorem cmF_bd (ok : List Int) (p c : Int) : ∀ n : Nat, c ≤ (n : Int) → c ≤ cmF ok p c n ∧ cmF ok p c n ≤ (n : Int)
 | 0, h => ⟨Int.le_refl _, h⟩
 | n + 1, h => by
  unfold cmF
  split
  ·
   rename_i hh
   exact ⟨by omega, Int.le_refl _⟩
  ·
   by_cases hc : c ≤ (n : Int)
   ·
    have := cmF_bd ok p c n hc
    omega
   ·
    have e : cmF ok p c n = c := by
     clear h
     induction n with
     | zero => rfl
     | succ k ih =>
      unfold cmF
      rw [if_neg (fun hh => hc (by omega))]
      exact ih (by omega) (by omega)
    rw [e]
    omega
/-! ### What is sent -/
def allM (r : Rp) (m : Ms) : List Ms := ((List.range r.p.toNat).filter fun (q : Nat) => decide ((q : Int) ≠ r.id)).map fun (q : Nat) => { m with f := r.id, t := (q : Int) }
def tellM (r : Rp) (to : Int) : Ms := ⟨4, r.id, to, r.v, r.la, r.l, r.c⟩
open Classical in
noncomputable def sprL (r : Rp) : List Ms :=
 if leads r then allM r ⟨1, 0, 0, r.v, r.la, r.l, r.c⟩ else if r.n = true then []
 else allM r ⟨3, 0, 0, r.v, 0, [], 0⟩ ++ (if maj r.ch.length r.p ∧ ¬ mine r then [tellM r (r.v % r.p)] else [])
def askF (r : Rp) (v : Int) : Rp := { r with v := v, n := false, ok := [], ch := [r.id], te := [] }
def putM (m : Ms) : List Ms → List Ms
 | [] => [m]
 | x :: t => if x.f < m.f then x :: putM m t else if x.f = m.f then m :: t else m :: x :: t
def betM (b m : Ms) : Ms := if b.la < m.la ∨ (m.la = b.la ∧ b.l.length < m.l.length) then m else b
def besM (te : List Ms) : Ms := match te with
 | [] => ⟨0, 0, 0, 0, 0, [], 0⟩
 | x :: t => (x :: t).foldl betM x
def cmtM (te : List Ms) : Int := te.foldl (fun c m => max c m.c) 0
open Classical in
noncomputable def told (r : Rp) : Rp :=
 if r.n = true ∨ ¬ maj r.ch.length r.p ∨ ¬ mine r then r
 else
  let te := putM (tellM r r.id) r.te
  let s := { r with te := te }
  if ¬ maj te.length r.p then s
  else if ¬ r.l.take r.c.toNat <+: (besM te).l then s
  else cntd { s with l := (besM te).l, c := min (cmtM te) ((besM te).l.length : Int), n := true, la := r.v, ch := [], te := [], ok := List.replicate r.p.toNat 0 }
open Classical in
noncomputable def rcvL (r : Rp) (m : Ms) : Rp × List Ms :=
 if m.f = m.v % r.p ∧ (r.v < m.v ∨ (m.v = r.v ∧ (r.n = false ∨ (¬ leads r ∧ r.l.length ≤ m.l.length)))) ∧ r.l.take r.c.toNat <+: m.l then
  ({ r with l := m.l, v := m.v, n := true, la := m.v, c := max r.c m.c, ok := [], ch := [], te := [] }, [⟨2, r.id, m.f, m.v, 0, [], (m.l.length : Int)⟩])
 else (r, [])
open Classical in
noncomputable def rcvO (r : Rp) (m : Ms) : Rp × List Ms :=
 if m.v = r.v ∧ leads r then (cntd { r with ok := r.ok.set m.f.toNat (max (r.ok.getD m.f.toNat 0) (min m.c (r.l.length : Int))) }, []) else (r, [])
open Classical in
noncomputable def rcvC (r : Rp) (m : Ms) : Rp × List Ms :=
 if m.k = 4 ∧ m.v % r.p ≠ r.id then (r, [])
 else
  let a := if r.v < m.v then askF r m.v else r
  if m.v ≠ a.v ∨ a.n = true then (a, [])
  else
   let b := { a with ch := Sk.put m.f a.ch }
   if m.k = 4 then
    let s := told { b with te := putM m b.te }
    if r.v < m.v ∨ s.n = true then (s, sprL s) else (s, [])
   else if r.v < m.v ∨ (maj b.ch.length r.p ∧ ¬ maj a.ch.length r.p) then (told b, sprL (told b)) else (b, [])
open Classical in
noncomputable def rcvF (r : Rp) (m : Ms) : Rp × List Ms :=
 if ¬ MsOk m r.p ∨ m.t ≠ r.id ∨ m.f = r.id then (r, [])
 else if m.k = 1 then rcvL r m else if m.k = 2 then rcvO r m else rcvC r m
end Go.Proofs.YtdkhdjickkcaiaaGreat.Rl
namespace Go.Proofs.YtdkhdjickkcaiaaGreat
open Go.RowKit Go.Sort

theorem mixed : Tryz.prog.follows .mixedOrders = true := by kernel_rfl

def Grew (w w' : World) : Prop := Below w.heap.size w w' ∧ w.drawn ≤ w'.drawn
theorem Grew.refl (w : World) : Grew w w := ⟨Below.refl _ _, Nat.le_refl _⟩
theorem Grew.trans {a b c : World} (h : Grew a b) (k : Grew b c) : Grew a c :=
 ⟨⟨k.1.os.trans h.1.os, k.1.tape.trans h.1.tape, k.1.output.trans h.1.output, Nat.le_trans h.1.size k.1.size, fun i hi => (k.1.block i (Nat.lt_of_lt_of_le hi h.1.size)).trans (h.1.block i hi)⟩, Nat.le_trans h.2 k.2⟩
theorem Grew.alloc {w w' : World} (h : Grew w w') (o : Obj) : Grew w (w'.alloc o) := ⟨h.1.alloc h.1.size o, h.2⟩
theorem Grew.drewN {w w' : World} (h : Grew w w') (n : Nat) : Grew w (w'.drewN n) := ⟨⟨h.1.os, h.1.tape, h.1.output, h.1.size, h.1.block⟩, Nat.le_trans h.2 (Nat.le_add_right _ _)⟩
theorem Grew.low {w w' : World} (h : Grew w w') : Below w.heap.size w w' := h.1
theorem Grew.cell {w x : World} {b j : Nat} {v : Value} (hb : Grew w x) (h : w.cell? ⟨b, j, none⟩ = some v) (hB : b < w.heap.size) : x.cell? ⟨b, j, none⟩ = some v := (hb.1.cell (p := ⟨b, j, none⟩) hB).trans h
open Go.RowKit Go.Sort

def turned (l : List Fl) (k : Nat) : List Fl := l.take k ++ List.replicate (l.length - k) (⟨#[]⟩, ⟨#[]⟩)
open Go.RowKit

structure Enc (α : Type) where
 k : Nat
 pos : 0 < k
 c : α → List Value
 len : ∀ x, (c x).length = k
 one : ∀ x, ∀ u ∈ c x, u.oneCell' = true
def cellsE {α : Type} (E : Enc α) (l : List α) : List Value := l.flatMap E.c
theorem cellsE_cons {α : Type} (E : Enc α) (x : α) (l : List α) : cellsE E (x :: l) = E.c x ++ cellsE E l := rfl
theorem cellsE_single {α : Type} (E : Enc α) (x : α) : cellsE E [x] = E.c x := by simp [cellsE]
theorem cellsE_append {α : Type} (E : Enc α) (a b : List α) : cellsE E (a ++ b) = cellsE E a ++ cellsE E b := by simp [cellsE]
theorem cellsE_length {α : Type} (E : Enc α) (l : List α) : (cellsE E l).length = l.length * E.k := by
 induction l with
 | nil => simp [cellsE]
 | cons x l ih => rw [cellsE_cons, List.length_append, ih, E.len, List.length_cons, Nat.succ_mul]; omega
theorem cellsE_take {α : Type} (E : Enc α) (l : List α) (n : Nat) (h : n ≤ l.length) : cellsE E (l.take n) = (cellsE E l).take (n * E.k) := by
 have e : cellsE E l = cellsE E (l.take n) ++ cellsE E (l.drop n) := by rw [← cellsE_append, List.take_append_drop]
 rw [e, List.take_left' (by rw [cellsE_length, List.length_take, Nat.min_eq_left h])]
theorem cellsE_drop {α : Type} (E : Enc α) (l : List α) (n : Nat) (h : n ≤ l.length) : cellsE E (l.drop n) = (cellsE E l).drop (n * E.k) := by
 have e : cellsE E l = cellsE E (l.take n) ++ cellsE E (l.drop n) := by rw [← cellsE_append, List.take_append_drop]
 rw [e, List.drop_left' (by rw [cellsE_length, List.length_take, Nat.min_eq_left h])]
theorem cellsE_at {α : Type} (E : Enc α) (l : List α) : ∀ j (hj : j < l.length) i, i < E.k → (cellsE E l)[j * E.k + i]? = (E.c l[j])[i]? := by
 induction l with
 | nil => intro j hj; simp at hj
 | cons x l ih =>
  intro j hj i hi
  rw [cellsE_cons]
  cases j with
  | zero => rw [Nat.zero_mul, Nat.zero_add, List.getElem?_append_left (by rw [E.len]; exact hi)]; rfl
  | succ j =>
   rw [List.getElem?_append_right (by rw [E.len, Nat.succ_mul]; omega), E.len, show (j + 1) * E.k + i - E.k = j * E.k + i by rw [Nat.succ_mul]; omega]
   exact ih j (by simpa using hj) i hi
theorem cellsE_set {α : Type} (E : Enc α) (l : List α) : ∀ j (hj : j < l.length) i (_ : i < E.k) (u : Value) (y : α), E.c y = (E.c l[j]).set i u → (cellsE E l).set (j * E.k + i) u = cellsE E (l.set j y) := by
 induction l with
 | nil => intro j hj; simp at hj
 | cons x l ih =>
  intro j hj i hi u y hy
  rw [cellsE_cons]
  cases j with
  | zero => rw [Nat.zero_mul, Nat.zero_add, List.set_append_left _ _ (by rw [E.len]; exact hi), List.set_cons_zero, cellsE_cons, hy]; rfl
  | succ j =>
   rw [List.set_append_right _ _ (by rw [E.len, Nat.succ_mul]; omega), E.len, show (j + 1) * E.k + i - E.k = j * E.k + i by rw [Nat.succ_mul]; omega, List.set_cons_succ, cellsE_cons, ih j (by simpa using hj) i hi u y hy]
theorem cellsE_one {α : Type} (E : Enc α) (l : List α) : ∀ u ∈ cellsE E l, u.oneCell' = true := by
 intro u hu
 obtain ⟨x, _, h⟩ := List.mem_flatMap.1 hu
 exact E.one x u h

def Sls {α : Type} (E : Enc α) (w : World) (v : Value) (l : List α) : Prop :=
 ∃ a cap, v = .slice a l.length cap ∧ l.length ≤ cap ∧ cap ≤ maxLen ∧ (0 < l.length → ∃ g o, a = some ⟨g, o, none⟩ ∧ g < w.heap.size ∧
  ∀ j u, (cellsE E l)[j]? = some u → w.cell? ⟨g, o + j, none⟩ = some u)
theorem Sls.kept {α : Type} {E : Enc α} {w w' : World} {v : Value} {l : List α} (h : Sls E w v l) (hb : Below w.heap.size w w') : Sls E w' v l := by
 obtain ⟨a, cap, hv, h1, h2, h3⟩ := h
 refine ⟨a, cap, hv, h1, h2, fun h0 => ?_⟩
 obtain ⟨g, o, ha, hg, hc⟩ := h3 h0
 exact ⟨g, o, ha, Nat.lt_of_lt_of_le hg hb.size, fun j u hu => (hb.cell (p := ⟨g, o + j, none⟩) hg).trans (hc j u hu)⟩
theorem Sls.nil {α : Type} {E : Enc α} {w : World} {a : Option Addr} {cap : Nat} (h : cap ≤ maxLen) : Sls E w (.slice a 0 cap) ([] : List α) :=
 ⟨a, cap, rfl, Nat.zero_le _, h, fun h0 => absurd h0 (Nat.lt_irrefl 0)⟩

def OwnsE {α : Type} (E : Enc α) (ty : TypeId) (w : World) (B : Nat) (v : Value) (l : List α) : Prop := w.ownsRow B ty E.k v l.length (cellsE E l)
theorem OwnsE.none {α : Type} {E : Enc α} {ty : TypeId} (w : World) (B : Nat) : OwnsE E ty w B (.slice Option.none 0 0) ([] : List α) := ⟨by simp [cellsE], .inl ⟨rfl, rfl⟩⟩
theorem OwnsE.born {α : Type} {E : Enc α} {ty : TypeId} (w : World) : OwnsE E ty (w.alloc (.cells #[] ty)) w.heap.size (.slice (some ⟨w.heap.size, 0, Option.none⟩) 0 0) ([] : List α) :=
 World.ownsRow_lit w #[] 0 (Nat.le_refl _) (by unfold maxLen; decide) (by simp)
theorem OwnsE.alloc {α : Type} {E : Enc α} {ty : TypeId} {w : World} {B : Nat} {v : Value} {l : List α} (h : OwnsE E ty w B v l) (o : Obj) : OwnsE E ty (w.alloc o) B v l := World.ownsRow.alloc h o
theorem OwnsE.kept {α : Type} {E : Enc α} {ty : TypeId} {w w' : World} {B : Nat} {v : Value} {l : List α} (h : OwnsE E ty w B v l) (hb : Below w.heap.size w w') : OwnsE E ty w' B v l := by
 refine ⟨h.1, ?_⟩
 rcases h.2 with h0 | ⟨g, cap, cur, hv, hbg, hg, rest⟩
 ·
  exact .inl h0
 ·
  exact .inr ⟨g, cap, cur, hv, hbg, by rw [hb.block g (Array.getElem?_eq_some_iff.1 hg).1]; exact hg, rest⟩
theorem OwnsE.from {α : Type} {E : Enc α} {ty : TypeId} {w : World} {B : Nat} {v : Value} {l : List α} (h : OwnsE E ty w B v l) : ∀ k, v.ownBlock = some k → B ≤ k := fun k hk => (World.ownsRow.lt h k hk).1
theorem OwnsE.under {α : Type} {E : Enc α} {ty : TypeId} {w : World} {B : Nat} {v : Value} {l : List α} (h : OwnsE E ty w B v l) : ∀ k, v.ownBlock = some k → k < w.heap.size := fun k hk => (World.ownsRow.lt h k hk).2
theorem OwnsE.low {α : Type} {E : Enc α} {ty : TypeId} {w : World} {B B' : Nat} {v : Value} {l : List α} (h : OwnsE E ty w B v l) (hB : B' ≤ B) : OwnsE E ty w B' v l := by
 refine ⟨h.1, ?_⟩
 rcases h.2 with h0 | ⟨g, cap, cur, hv, hb, hg, rest⟩
 ·
  exact .inl h0
 ·
  exact .inr ⟨g, cap, cur, hv, by omega, hg, rest⟩
theorem OwnsE.form {α : Type} {E : Enc α} {ty : TypeId} {w : World} {B : Nat} {v : Value} {l : List α} (h : OwnsE E ty w B v l) : ∃ a cap, v = .slice a l.length cap ∧ l.length ≤ cap ∧ cap ≤ maxLen ∧ ((a = Option.none ∧ cap = 0) ∨ ∃ g, a = some ⟨g, 0, Option.none⟩) := by
 rcases h.2 with ⟨rfl, h0⟩ | ⟨g, cap, cur, rfl, hb, hg, hc, hm, rest⟩
 ·
  exact ⟨Option.none, 0, by rw [h0], by omega, Nat.zero_le _, .inl ⟨rfl, rfl⟩⟩
 ·
  exact ⟨_, cap, rfl, hc, hm, .inr ⟨g, rfl⟩⟩
theorem OwnsE.sls {α : Type} {E : Enc α} {ty : TypeId} {w : World} {B : Nat} {v : Value} {l : List α} (h : OwnsE E ty w B v l) : Sls E w v l := by
 have hh := h
 rcases h.2 with ⟨rfl, h0⟩ | ⟨g, cap, cur, rfl, hb, hg, hc, hm, rest⟩
 ·
  exact ⟨Option.none, 0, by rw [h0], by omega, Nat.zero_le _, fun h1 => by omega⟩
 ·
  refine ⟨some ⟨g, 0, Option.none⟩, cap, rfl, hc, hm, fun _ => ⟨g, 0, rfl, (Array.getElem?_eq_some_iff.1 hg).1, fun j u hu => ?_⟩⟩
  have k1 := World.ownsRow.cells hh (g := g) rfl j u hu
  rw [addr_add] at k1
  exact k1
theorem OwnsE.at {α : Type} {E : Enc α} {ty : TypeId} {w : World} {B g n cap : Nat} {l : List α} (h : OwnsE E ty w B (.slice (some ⟨g, 0, Option.none⟩) n cap) l) {j i : Nat} (hj : j < l.length) {u : Value} (hu : (E.c l[j])[i]? = some u) : w.cell? ⟨g, j * E.k + i, Option.none⟩ = some u := by
 have hi : i < E.k := by rw [← E.len l[j]]; exact (List.getElem?_eq_some_iff.1 hu).1
 have k1 := World.ownsRow.cells h (g := g) rfl (j * E.k + i) u (by rw [cellsE_at E l j hj i hi]; exact hu)
 rw [addr_add, Nat.zero_add] at k1
 exact k1
theorem OwnsE.free {α : Type} {E : Enc α} {ty : TypeId} {w : World} {B g n cap : Nat} {l : List α} (hn : n = l.length) (h : OwnsE E ty w B (.slice (some ⟨g, 0, Option.none⟩) n cap) l) (j : Nat) : w.frozen? ⟨g, j, Option.none⟩ = false := by
 subst hn
 exact World.ownsRow.frozenAt h j
theorem OwnsE.put {α : Type} {E : Enc α} {ty : TypeId} {w : World} {B g n cap : Nat} {l : List α} (hn : n = l.length) (h : OwnsE E ty w B (.slice (some ⟨g, 0, Option.none⟩) n cap) l) {j i : Nat} (hj : j < l.length) (hi : i < E.k) (u : Value) (y : α) (hy : E.c y = (E.c l[j]).set i u) :
  OwnsE E ty (w.setCell ⟨g, j * E.k + i, Option.none⟩ u) B (.slice (some ⟨g, 0, Option.none⟩) n cap) (l.set j y) := by
 subst hn
 have h2 := (World.ownsRow.stored h (j * E.k + i) u).1
 unfold OwnsE
 rw [List.length_set, ← cellsE_set E l j hj i hi u y hy]
 exact h2
theorem OwnsE.other {α : Type} {E : Enc α} {ty : TypeId} {w : World} {B : Nat} {v : Value} {l : List α} (h : OwnsE E ty w B v l) (a : Addr) (u : Value) (hne : ∀ k, v.ownBlock = some k → k ≠ a.block) : OwnsE E ty (w.setCell a u) B v l := by
 refine ⟨h.1, ?_⟩
 rcases h.2 with h0 | ⟨g, cap, cur, hv, hbg, hg, rest⟩
 ·
  exact .inl h0
 ·
  exact .inr ⟨g, cap, cur, hv, hbg, by rw [Below.heap_setCell _ _ _ _ (hne g (by rw [hv]; rfl))]; exact hg, rest⟩
theorem OwnsE.less {α : Type} {E : Enc α} {ty : TypeId} {w : World} {B g n cap : Nat} {l : List α} (hn : n = l.length) (h : OwnsE E ty w B (.slice (some ⟨g, 0, Option.none⟩) n cap) l) (m : Nat) (hm : m ≤ l.length) : OwnsE E ty w B (.slice (some ⟨g, 0, Option.none⟩) m cap) (l.take m) := by
 subst hn
 rcases h.2 with ⟨e, _⟩ | ⟨g', cap', cur, e, hb, hg, hc, hx, hz, rest⟩
 ·
  cases e
 ·
  injection e with e1 e2 e3
  injection e1 with e1
  injection e1 with e1
  subst e1; subst e3
  have hl : (l.take m).length = m := by rw [List.length_take, Nat.min_eq_left hm]
  refine ⟨cellsE_length E _, .inr ⟨g, cap, cur, by rw [hl], hb, hg, by rw [hl]; omega, hx, hz, ?_⟩⟩
  rw [hl, cellsE_take E l m hm, ← rest, List.take_take, Nat.min_eq_left (Nat.mul_le_mul_right _ hm)]
theorem wpList_rowE {α : Type} {E : Enc α} {P : Program} {ops : Array Oper} {rest : List Oper} {o : Oper} {a : Act} {Q : Exit → Act → World → Prop} (w : World) (hgd : o.guard = Option.none) (s x : Operand) (ts te : TypeId) (z : Value) (bytes : Nat)
  (hts : P.underlying ts = some (.slice te)) (hinfo : (P.info? te).map (fun i => (i.zero, i.size, i.bytes)) = some (some z, E.k, bytes)) (hz : z.cells.size = E.k)
  (ho : o.op = .call { callee := .builtin .append, args := #[s, x], argTypes := #[ts, ts] }) (B : Nat) (v : Value) (l : List α) (hs : a.eval s = v) (hown : OwnsE E te w B v l)
  (ad : Addr) (c : Nat) (m : List α) (hx : a.eval x = .slice (some ad) m.length c) (hcell : ∀ j u, (cellsE E m)[j]? = some u → w.cell? (ad.add j) = some u)
  (h63 : l.length + m.length ≤ maxLen) (hbytes : (l.length + m.length) * bytes ≤ 140737488355328) (hB : B ≤ w.heap.size)
  (h : ∀ v' w', OwnsE E te w' B v' (l ++ m) → w.grownBy w' v.ownBlock → (v' = .slice Option.none 0 0 ↔ v = .slice Option.none 0 0 ∧ m.length = 0) → wpList P ops Q rest (a.put o.dst v') w') :
  wpList P ops Q (o :: rest) a w := by
 obtain ⟨i0, hi, hz0, hz1, hz2⟩ := info_parts hinfo
 refine wpList_append_own _ hgd s x ts ho B te i0 z E.k bytes hts hi hz0 hz1 hz2 hz E.pos v l.length (cellsE E l) hs hown ad m.length c (cellsE E m) hx (cellsE_length E m) hcell (cellsE_one E m) h63 hbytes hB ?_
 intro v' w' h1 h2 h3
 refine h v' w' ?_ h2 h3
 unfold OwnsE
 rw [cellsE_append, List.length_append]
 exact h1
theorem step_rowE {α : Type} {E : Enc α} {P : Program} {ops : Array Oper} {o : Oper} {a : Act} {w : World} {K : Act → World → Prop} {Q : Exit → Act → World → Prop} {X : Prop} (hgd : o.guard = Option.none) (s x : Operand) (ts te : TypeId) (z : Value) (bytes : Nat)
  (hts : P.underlying ts = some (.slice te)) (hinfo : (P.info? te).map (fun i => (i.zero, i.size, i.bytes)) = some (some z, E.k, bytes)) (hz : z.cells.size = E.k)
  (ho : o.op = .call { callee := .builtin .append, args := #[s, x], argTypes := #[ts, ts] }) (B : Nat) (v : Value) (l : List α) (hs : a.eval s = v) (hown : OwnsE E te w B v l)
  (ad : Addr) (c : Nat) (m : List α) (hx : a.eval x = .slice (some ad) m.length c) (hcell : ∀ j u, (cellsE E m)[j]? = some u → w.cell? (ad.add j) = some u)
  (h63 : l.length + m.length ≤ maxLen) (hbytes : (l.length + m.length) * bytes ≤ 140737488355328) (hB : B ≤ w.heap.size)
  (h : ∀ v' w', OwnsE E te w' B v' (l ++ m) → w.grownBy w' v.ownBlock → (v' = .slice Option.none 0 0 ↔ v = .slice Option.none 0 0 ∧ m.length = 0) → K (a.put o.dst v') w') :
  if Region.wanted o (yielded ops a.tmps) = true then Oper.wp P o a w K Q else X := by
 have hw : Region.wanted o (yielded ops a.tmps) = true := by simp [Region.wanted, hgd]
 rw [if_pos hw]
 obtain ⟨i0, hi, hz0, hz1, hz2⟩ := info_parts hinfo
 refine wp_append_own w s x ts ho B te i0 z E.k bytes hts hi hz0 hz1 hz2 hz E.pos v l.length (cellsE E l) hs hown ad m.length c (cellsE E m) hx (cellsE_length E m) hcell (cellsE_one E m) h63 hbytes hB ?_
 intro v' w' h1 h2 h3
 refine h v' w' ?_ h2 h3
 unfold OwnsE
 rw [cellsE_append, List.length_append]
 exact h1
theorem fresh_cell {α : Type} {E : Enc α} (w : World) (x : α) (C : Array Value) (ty : TypeId) (hC : C.toList = E.c x) : ∀ j u, (cellsE E [x])[j]? = some u → (w.alloc (.cells C ty)).cell? ((⟨w.heap.size, 0, Option.none⟩ : Addr).add j) = some u := by
 intro j u hu
 rw [cellsE_single, ← hC] at hu
 rw [addr_add, Nat.zero_add, World.cell?_alloc_mark]
 simpa using hu

def HasE {α : Type} (E : Enc α) (ty : TypeId) (w : World) (B : Nat) (v : Value) (l : List α) : Prop :=
 (v = .slice Option.none 0 0 ∧ l = []) ∨ ∃ g cap cur, v = .slice (some ⟨g, 0, Option.none⟩) l.length cap ∧ B ≤ g ∧ w.heap[g]? = some (.cells cur ty (0, 0)) ∧ l.length ≤ cap ∧ cap ≤ maxLen ∧ cap * E.k ≤ cur.size ∧ cur.toList.take (l.length * E.k) = cellsE E l
theorem OwnsE.has {α : Type} {E : Enc α} {ty : TypeId} {w : World} {B : Nat} {v : Value} {l : List α} (h : OwnsE E ty w B v l) : HasE E ty w B v l := by
 rcases h.2 with ⟨h0, h1⟩ | ⟨g, cap, cur, hv, hb, hg, hc, hm, hz, ht⟩
 ·
  exact .inl ⟨h0, List.eq_nil_of_length_eq_zero h1⟩
 ·
  exact .inr ⟨g, cap, cur, hv, hb, hg, hc, hm, by omega, ht⟩
theorem HasE.kept {α : Type} {E : Enc α} {ty : TypeId} {w w' : World} {B : Nat} {v : Value} {l : List α} (h : HasE E ty w B v l) (hb : Below w.heap.size w w') : HasE E ty w' B v l := by
 rcases h with h0 | ⟨g, cap, cur, hv, hbg, hg, rest⟩
 ·
  exact .inl h0
 ·
  exact .inr ⟨g, cap, cur, hv, hbg, by rw [hb.block g (Array.getElem?_eq_some_iff.1 hg).1]; exact hg, rest⟩
theorem HasE.grown {α : Type} {E : Enc α} {ty : TypeId} {w w' : World} {B : Nat} {v : Value} {l : List α} {r : Option Nat} (h : HasE E ty w B v l) (hg : w.grownBy w' r) (hne : ∀ k, v.ownBlock = some k → r ≠ some k) : HasE E ty w' B v l := by
 rcases h with h0 | ⟨g, cap, cur, hv, hbg, hh, rest⟩
 ·
  exact .inl h0
 ·
  exact .inr ⟨g, cap, cur, hv, hbg, by rw [hg.block g (Array.getElem?_eq_some_iff.1 hh).1 (fun e => hne g (by rw [hv]; rfl) e.symm)]; exact hh, rest⟩
theorem HasE.low {α : Type} {E : Enc α} {ty : TypeId} {w : World} {B B' : Nat} {v : Value} {l : List α} (h : HasE E ty w B v l) (hB : B' ≤ B) : HasE E ty w B' v l := by
 rcases h with h0 | ⟨g, cap, cur, hv, hb, rest⟩
 ·
  exact .inl h0
 ·
  exact .inr ⟨g, cap, cur, hv, by omega, rest⟩
theorem HasE.from {α : Type} {E : Enc α} {ty : TypeId} {w : World} {B : Nat} {v : Value} {l : List α} (h : HasE E ty w B v l) : ∀ k, v.ownBlock = some k → B ≤ k := by
 intro k hk
 rcases h with ⟨rfl, _⟩ | ⟨g, cap, cur, rfl, hb, _⟩
 ·
  simp [Value.ownBlock] at hk
 ·
  simp [Value.ownBlock] at hk; omega
theorem HasE.under {α : Type} {E : Enc α} {ty : TypeId} {w : World} {B : Nat} {v : Value} {l : List α} (h : HasE E ty w B v l) : ∀ k, v.ownBlock = some k → k < w.heap.size := by
 intro k hk
 rcases h with ⟨rfl, _⟩ | ⟨g, cap, cur, rfl, hb, hg, _⟩
 ·
  simp [Value.ownBlock] at hk
 ·
  simp [Value.ownBlock] at hk; subst hk; exact (Array.getElem?_eq_some_iff.1 hg).1
theorem HasE.form {α : Type} {E : Enc α} {ty : TypeId} {w : World} {B : Nat} {v : Value} {l : List α} (h : HasE E ty w B v l) : ∃ a cap, v = .slice a l.length cap ∧ l.length ≤ cap ∧ cap ≤ maxLen ∧ (0 < l.length → ∃ g, a = some ⟨g, 0, Option.none⟩) := by
 rcases h with ⟨rfl, rfl⟩ | ⟨g, cap, cur, rfl, hb, hg, hc, hm, _⟩
 ·
  exact ⟨Option.none, 0, rfl, Nat.le_refl _, Nat.zero_le _, fun h => absurd h (by simp)⟩
 ·
  exact ⟨_, cap, rfl, hc, hm, fun _ => ⟨g, rfl⟩⟩
theorem HasE.at {α : Type} {E : Enc α} {ty : TypeId} {w : World} {B g n cap : Nat} {l : List α} (h : HasE E ty w B (.slice (some ⟨g, 0, Option.none⟩) n cap) l) {j i : Nat} (hj : j < l.length) {u : Value} (hu : (E.c l[j])[i]? = some u) : w.cell? ⟨g, j * E.k + i, Option.none⟩ = some u := by
 rcases h with ⟨h0, _⟩ | ⟨g', cap', cur, hv, hb, hg, hc, hm, hz, ht⟩
 ·
  cases h0
 ·
  simp only [Value.slice.injEq, Option.some.injEq, Addr.mk.injEq, and_true] at hv
  obtain ⟨rfl, _⟩ := hv
  have hi : i < E.k := by rw [← E.len l[j]]; exact (List.getElem?_eq_some_iff.1 hu).1
  have hlt : j * E.k + i < l.length * E.k := by
   have : (j + 1) * E.k ≤ l.length * E.k := Nat.mul_le_mul_right _ hj
   rw [Nat.succ_mul] at this
   omega
  have c1 : (cellsE E l)[j * E.k + i]? = some u := by rw [cellsE_at E l j hj i hi]; exact hu
  rw [← ht, List.getElem?_take_of_lt hlt] at c1
  rw [cell_of_row w g _ cur _ _ hg]
  simpa using c1
theorem HasE.free {α : Type} {E : Enc α} {ty : TypeId} {w : World} {B g n cap : Nat} {l : List α} (h : HasE E ty w B (.slice (some ⟨g, 0, Option.none⟩) n cap) l) (j : Nat) : w.frozen? ⟨g, j, Option.none⟩ = false := by
 rcases h with ⟨h0, _⟩ | ⟨g', cap', cur, hv, hb, hg, _⟩
 ·
  cases h0
 ·
  simp only [Value.slice.injEq, Option.some.injEq, Addr.mk.injEq, and_true] at hv
  obtain ⟨rfl, _⟩ := hv
  exact frozen_of_row w g j cur _ hg
theorem HasE.sls {α : Type} {E : Enc α} {ty : TypeId} {w : World} {B : Nat} {v : Value} {l : List α} (h : HasE E ty w B v l) : Sls E w v l := by
 rcases h with ⟨rfl, rfl⟩ | ⟨g, cap, cur, rfl, hb, hg, hc, hm, hz, ht⟩
 ·
  exact Sls.nil (Nat.zero_le _)
 ·
  refine ⟨_, cap, rfl, hc, hm, fun _ => ⟨g, 0, rfl, (Array.getElem?_eq_some_iff.1 hg).1, fun j u hu => ?_⟩⟩
  have hlt : j < l.length * E.k := by rw [← cellsE_length E l]; exact (List.getElem?_eq_some_iff.1 hu).1
  rw [← ht, List.getElem?_take_of_lt hlt] at hu
  rw [Nat.zero_add, cell_of_row w g _ cur _ _ hg]
  simpa using hu
theorem HasE.put {α : Type} {E : Enc α} {ty : TypeId} {w : World} {B g n cap : Nat} {l : List α} (h : HasE E ty w B (.slice (some ⟨g, 0, Option.none⟩) n cap) l) {j i : Nat} (hj : j < l.length) (hi : i < E.k) (u : Value) (y : α) (hy : E.c y = (E.c l[j]).set i u) :
  HasE E ty (w.setCell ⟨g, j * E.k + i, Option.none⟩ u) B (.slice (some ⟨g, 0, Option.none⟩) n cap) (l.set j y) := by
 rcases h with ⟨h0, _⟩ | ⟨g', cap', cur, hv, hb, hg, hc, hm, hz, ht⟩
 ·
  cases h0
 ·
  simp only [Value.slice.injEq, Option.some.injEq, Addr.mk.injEq, and_true] at hv
  obtain ⟨rfl, rfl, rfl⟩ := hv
  refine .inr ⟨g, cap, cur.setIfInBounds (j * E.k + i) u, by rw [List.length_set], hb, heap_setCell_same w g _ cur _ _ hg, by rw [List.length_set]; exact hc, hm, by simpa using hz, ?_⟩
  rw [List.length_set, ← cellsE_set E l j hj i hi u y hy, Array.toList_setIfInBounds, ← ht, List.take_set]
theorem grownE_put {a w : World} {g : Nat} (h : a.grownBy w (some g)) (j : Nat) (v : Value) : a.grownBy (w.setCell ⟨g, j, Option.none⟩ v) (some g) :=
 ⟨h.os, h.tape, h.output, by simpa [World.setCell] using h.size, fun k hk hne => (Below.heap_setCell _ _ _ _ (fun e => hne (by rw [e]))).trans (h.block k hk hne)⟩
theorem grownE_below {a w w' : World} {r : Option Nat} (h : a.grownBy w r) (hb : Below w.heap.size w w') : a.grownBy w' r :=
 ⟨hb.os.trans h.os, hb.tape.trans h.tape, hb.output.trans h.output, Nat.le_trans h.size hb.size, fun k hk hne => (hb.block k (Nat.lt_of_lt_of_le hk h.size)).trans (h.block k hk hne)⟩
theorem grownE_self (w : World) (r : Option Nat) : w.grownBy w r := ⟨rfl, rfl, rfl, Nat.le_refl _, fun _ _ _ => rfl⟩
theorem belowE {B : Nat} {w w1 w2 : World} {r : Option Nat} (hb : Below B w w1) (hg : w1.grownBy w2 r) (hB : B ≤ w1.heap.size) (hr : ∀ k, r = some k → B ≤ k) : Below B w w2 :=
 ⟨hg.os.trans hb.os, hg.tape.trans hb.tape, hg.output.trans hb.output, Nat.le_trans hb.size hg.size, fun k hk => (hg.block k (by omega) (fun e => by have := hr k e.symm; omega)).trans (hb.block k hk)⟩
end Go.Proofs.YtdkhdjickkcaiaaGreat
