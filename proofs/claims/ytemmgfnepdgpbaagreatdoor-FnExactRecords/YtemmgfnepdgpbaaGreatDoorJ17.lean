/-
  Records as plain data: what one is, the one with which a disk begins, and all of them.
  Calls that lay new blocks and draw, and turn nothing that lay before.
  Rows of numbers in memory, and the laws' own helpers on them.
-/
import Derived.Test.YtemmgfnepdgpbaaGreatDoorJ10
import Derived.Test.YtemmgfnepdgpbaaGreatDoorJ16
import Derived.Test.YtemmgfnepdgpbaaGreatDoorRows
import Derived.WalkKit
import Derived.WalkSpells
import Derived.Below
import Derived.Laws.IdiomStrings
import Derived.Shelf.SlSortCmp.QuietGrown
import Derived.Test.YtemmgfnepdgpbaaGreatDoorJ12
import Derived.Lib.SmallJoins
import Derived.Laws.OwnMore
namespace Go.Proofs.YtemmgfnepdgpbaaGreatDoor.St
open Go.RowKit Ow
set_option linter.unusedVariables false

def hs (t : List UInt8) : Int := (hshL t : Nat)
def recL (t : List UInt8) : List UInt8 := (dd (t.length : Int) ++ 32 :: dd (hs t)) ++ 10 :: (t ++ [10])
def rcdA (s : ByteArray) : ByteArray := if s.size ≤ 9000 then txtL (recL s.data.toList) else ⟨#[]⟩
def lastR (d t : List UInt8) : Option (List UInt8) := if recL t <+: d then some t else none
def rdR (d : List UInt8) : Option (List UInt8) :=
  (ln10 d).bind fun p => (numsL 2 p.1).bind fun n => if n.getD 0 0 ≤ 9000 ∧ n.getD 0 0 ≤ (p.2.length : Int) then lastR d (p.2.take (n.getD 0 0).toNat) else none
theorem hs_few (t : List UInt8) : few (hs t) := by
  have := hshL_lt t
  unfold hs
  exact ⟨by omega, by omega⟩
theorem rdR_ok {d t : List UInt8} (h : rdR d = some t) : t.length ≤ 9000 ∧ recL t <+: d := by
  unfold rdR at h
  simp only [Option.bind_eq_some_iff] at h
  obtain ⟨p, _, n, hn, h⟩ := h
  split at h
  · rename_i hc
    unfold lastR at h
    split at h
    · rename_i hp
      simp only [Option.some.injEq] at h
      subst h
      refine ⟨?_, hp⟩
      rw [List.length_take]
      omega
    · cases h
  · cases h
theorem rdR_rec {t : List UInt8} (h : t.length ≤ 9000) (y : List UInt8) : rdR (recL t ++ y) = some t := by
  have e1 : recL t ++ y = (dd (t.length : Int) ++ 32 :: dd (hs t)) ++ 10 :: (t ++ 10 :: y) := by unfold recL; simp
  have nd : ∀ n : Int, (10 : UInt8) ∉ dd n := fun n => dd_not n (by decide)
  have l1 := ln10_at (x := dd (t.length : Int) ++ 32 :: dd (hs t)) (t ++ 10 :: y) (by simp [nd])
  have n1 := nums_2 (a := (t.length : Int)) (b := hs t) ⟨by omega, by omega⟩ (hs_few t)
  have hp : recL t <+: recL t ++ y := List.prefix_append _ _
  have key : ∀ T, T = recL t ++ y → rdR T = some t := by
    intro T hT
    have hpT : recL t <+: T := hT ▸ hp
    have l1' : ln10 T = some (dd (t.length : Int) ++ 32 :: dd (hs t), t ++ 10 :: y) := by rw [hT, e1]; exact l1
    unfold rdR
    rw [l1']
    simp only [Option.bind_some, n1, List.getD_cons_zero]
    rw [if_pos ⟨by omega, by rw [List.length_append]; omega⟩]
    have e2 : (t ++ 10 :: y).take (t.length : Int).toNat = t := by simp
    rw [e2]
    unfold lastR
    rw [if_pos hpT]
  exact key _ rfl
theorem rdR_iff {d t : List UInt8} : rdR d = some t ↔ t.length ≤ 9000 ∧ recL t <+: d := by
  constructor
  · exact rdR_ok
  · rintro ⟨h, x, rfl⟩
    exact rdR_rec h x
theorem rec_len (t : List UInt8) : t.length + 3 ≤ (recL t).length := by
  unfold recL
  simp only [List.length_append, List.length_cons, List.length_nil]
  omega
theorem rec_most {t : List UInt8} (h : t.length ≤ 9000) : (recL t).length ≤ 9040 := by
  have d1 := dec_small15 (show (t.length : Int) ≤ 253402300799 by omega)
  have d2 := dec_small15 (show hs t ≤ 253402300799 by have := hshL_lt t; unfold hs; omega)
  unfold recL
  simp only [List.length_append, List.length_cons, List.length_nil]
  omega
def rcsF : Nat → List UInt8 → List (List UInt8) × Nat
  | 0, _ => ([], 0)
  | f + 1, d => match rdR d with
    | none => ([], 0)
    | some t => (t :: (rcsF f (d.drop (recL t).length)).1, (recL t).length + (rcsF f (d.drop (recL t).length)).2)
def rcsL (d : List UInt8) : List (List UInt8) × Nat := rcsF d.length d
theorem rcsF_same : ∀ (f g : Nat) (d : List UInt8), d.length ≤ f → d.length ≤ g → rcsF f d = rcsF g d
  | 0, 0, d, _, _ => rfl
  | 0, g + 1, d, h, _ => by
    obtain rfl : d = [] := List.eq_nil_of_length_eq_zero (by omega)
    rfl
  | f + 1, 0, d, _, h => by
    obtain rfl : d = [] := List.eq_nil_of_length_eq_zero (by omega)
    rfl
  | f + 1, g + 1, d, h1, h2 => by
    unfold rcsF
    cases e : rdR d with
    | none => rfl
    | some t =>
      have hl := (rdR_ok e).2.length_le
      have h3 := rec_len t
      have := rcsF_same f g (d.drop (recL t).length) (by rw [List.length_drop]; omega) (by rw [List.length_drop]; omega)
      simp only [this]
theorem rcs_none {d : List UInt8} (h : rdR d = none) : rcsL d = ([], 0) := by
  unfold rcsL
  cases hl : d.length with
  | zero => rfl
  | succ n => unfold rcsF; rw [h]
theorem rcs_more {d t : List UInt8} (h : rdR d = some t) : rcsL d = (t :: (rcsL (d.drop (recL t).length)).1, (recL t).length + (rcsL (d.drop (recL t).length)).2) := by
  have hl := (rdR_ok h).2.length_le
  have h3 := rec_len t
  unfold rcsL
  cases e : d.length with
  | zero => omega
  | succ n =>
    have := rcsF_same n (d.drop (recL t).length).length (d.drop (recL t).length) (by rw [List.length_drop]; omega) (Nat.le_refl _)
    rw [← this]
    conv => lhs; unfold rcsF
    rw [h]
theorem rcs_bound : ∀ (n : Nat) (d : List UInt8), d.length ≤ n → (rcsL d).1.length ≤ d.length ∧ (rcsL d).2 ≤ d.length ∧ (∀ t ∈ (rcsL d).1, t.length ≤ 9000)
  | 0, d, h => by
    obtain rfl : d = [] := List.eq_nil_of_length_eq_zero (by omega)
    exact ⟨Nat.le_refl _, Nat.le_refl _, fun t ht => by cases ht⟩
  | n + 1, d, h => by
    cases e : rdR d with
    | none => rw [rcs_none e]; exact ⟨Nat.zero_le _, Nat.zero_le _, fun t ht => by cases ht⟩
    | some t =>
      have hk := rdR_ok e
      have hl := hk.2.length_le
      have h3 := rec_len t
      obtain ⟨i1, i2, i3⟩ := rcs_bound n (d.drop (recL t).length) (by rw [List.length_drop]; omega)
      rw [List.length_drop] at i1 i2
      rw [rcs_more e]
      refine ⟨by simp; omega, by simp; omega, fun s hs => ?_⟩
      rcases List.mem_cons.1 hs with rfl | hs
      · exact hk.1
      · exact i3 s hs
/-- How far the records are read: a bytes, the texts out. -/
def RcAt (d : List UInt8) (a : Nat) (out : List (List UInt8)) : Prop := a ≤ d.length ∧ out.length ≤ a ∧ rcsL d = (out ++ (rcsL (d.drop a)).1, a + (rcsL (d.drop a)).2)
theorem RcAt.start (d : List UInt8) : RcAt d 0 [] := ⟨Nat.zero_le _, Nat.le_refl _, by simp⟩
theorem RcAt.next {d : List UInt8} {a : Nat} {out : List (List UInt8)} (h : RcAt d a out) {t : List UInt8} (e : rdR (d.drop a) = some t) : RcAt d (a + (recL t).length) (out ++ [t]) := by
  obtain ⟨h1, h2, h3⟩ := h
  have hl := (rdR_ok e).2.length_le
  have h4 := rec_len t
  rw [List.length_drop] at hl
  refine ⟨by omega, by simp; omega, ?_⟩
  rw [h3, rcs_more e, List.drop_drop]
  simp
  omega
theorem RcAt.done {d : List UInt8} {a : Nat} {out : List (List UInt8)} (h : RcAt d a out) (e : rdR (d.drop a) = none) : rcsL d = (out, a) := by
  rw [h.2.2, rcs_none e]
  simp
end Go.Proofs.YtemmgfnepdgpbaaGreatDoor.St
namespace Go.Proofs.YtemmgfnepdgpbaaGreatDoor
open Go.RowKit Go.Sort

theorem mixed : Tryz.prog.follows .mixedOrders = true := by kernel_rfl

/-- New blocks and draws alone. -/
def Grew (w w' : World) : Prop := Below w.heap.size w w' ∧ w.drawn ≤ w'.drawn
theorem Grew.refl (w : World) : Grew w w := ⟨Below.refl _ _, Nat.le_refl _⟩
theorem Grew.trans {a b c : World} (h : Grew a b) (k : Grew b c) : Grew a c :=
  ⟨⟨k.1.os.trans h.1.os, k.1.tape.trans h.1.tape, k.1.output.trans h.1.output, Nat.le_trans h.1.size k.1.size, fun i hi => (k.1.block i (Nat.lt_of_lt_of_le hi h.1.size)).trans (h.1.block i hi)⟩, Nat.le_trans h.2 k.2⟩
theorem Grew.alloc {w w' : World} (h : Grew w w') (o : Obj) : Grew w (w'.alloc o) := ⟨h.1.alloc h.1.size o, h.2⟩
theorem Grew.drew {w w' : World} (h : Grew w w') : Grew w w'.drew := ⟨⟨h.1.os, h.1.tape, h.1.output, h.1.size, h.1.block⟩, Nat.le_trans h.2 (Nat.le_succ _)⟩
theorem Grew.drewN {w w' : World} (h : Grew w w') (n : Nat) : Grew w (w'.drewN n) := ⟨⟨h.1.os, h.1.tape, h.1.output, h.1.size, h.1.block⟩, Nat.le_trans h.2 (Nat.le_add_right _ _)⟩
theorem Grew.put {w w' : World} (h : Grew w w') {b : Nat} (hb : w.heap.size ≤ b) (j : Nat) (v : Value) : Grew w (w'.setCell ⟨b, j, none⟩ v) := ⟨h.1.setCell hb _, h.2⟩
theorem Grew.more {w w' : World} (h : Grew w w') (os : Array Obj) : Grew w (grow w' os) :=
  ⟨⟨h.1.os, h.1.tape, h.1.output, by rw [size_grow]; exact Nat.le_trans h.1.size (Nat.le_add_right _ _), fun k hk => (heap_grow_old _ _ (Nat.lt_of_lt_of_le hk h.1.size)).trans (h.1.block k hk)⟩, h.2⟩
theorem Grew.low {w w' : World} (h : Grew w w') : Below w.heap.size w w' := h.1
theorem Grew.out {w w' : World} (h : Grew w w') : ∃ q os, w' = grow (w.drewN q) os := by
  obtain ⟨⟨ho, ht, hp, hz, hk⟩, hd⟩ := h
  refine ⟨w'.drawn - w.drawn, w'.heap.extract w.heap.size w'.heap.size, ?_⟩
  obtain ⟨heap, tape, drawn, os, output⟩ := w'
  simp only at ho ht hp hz hk hd
  have e1 : w.drawn + (drawn - w.drawn) = drawn := by omega
  have e2 : w.heap ++ heap.extract w.heap.size heap.size = heap := by
    apply Array.ext_getElem?
    intro k
    rw [Array.getElem?_append]
    split
    · next h => exact (hk k h).symm
    · next h =>
      rw [Array.getElem?_extract]
      split
      · next h2 => rw [show w.heap.size + (k - w.heap.size) = k from by omega]
      · next h2 => rw [Array.getElem?_eq_none (by omega)]
  simp only [grow, World.drewN, e1, e2, ho, ht, hp]
theorem Grew.cell {w x : World} {b j : Nat} {v : Value} (hb : Grew w x) (h : w.cell? ⟨b, j, none⟩ = some v) (hB : b < w.heap.size) : x.cell? ⟨b, j, none⟩ = some v := (hb.1.cell (p := ⟨b, j, none⟩) hB).trans h
end Go.Proofs.YtemmgfnepdgpbaaGreatDoor
namespace Go.Proofs.YtemmgfnepdgpbaaGreatDoor
open Go.RowKit Go.Sort
set_option linter.unusedVariables false

def intE : Enc Int where
  k := 1
  pos := by decide
  c := fun x => [.int .i64 x]
  len := fun _ => rfl
  one := fun x u hu => by simp at hu; subst hu; rfl
theorem cellsN_at (l : List Int) (j : Nat) (hj : j < l.length) : (cellsE intE l)[j]? = some (.int .i64 l[j]) := by
  have := cellsE_at intE l j hj 0 (by decide)
  rw [show j * intE.k + 0 = j from by show j * 1 + 0 = j; omega] at this
  exact this
theorem Sls.one {w : World} {v : Value} {l : List Int} (h : Sls intE w v l) : ∃ a cap, v = .slice a l.length cap ∧ l.length ≤ cap ∧ cap ≤ maxLen ∧ (0 < l.length → ∃ g o, a = some ⟨g, o, Option.none⟩ ∧ g < w.heap.size ∧
    ∀ j (hj : j < l.length), w.cell? ⟨g, o + j, Option.none⟩ = some (.int .i64 l[j])) := by
  obtain ⟨a, cap, rfl, h1, h2, h3⟩ := h
  refine ⟨a, cap, rfl, h1, h2, fun h0 => ?_⟩
  obtain ⟨g, o, rfl, hg, hc⟩ := h3 h0
  exact ⟨g, o, rfl, hg, fun j hj => hc j _ (cellsN_at l j hj)⟩
/-! ### The laws' helpers -/
end Go.Proofs.YtemmgfnepdgpbaaGreatDoor
