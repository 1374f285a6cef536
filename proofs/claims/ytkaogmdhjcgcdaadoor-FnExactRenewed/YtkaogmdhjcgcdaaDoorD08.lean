/-
  Plain facts on messages: which are right, where one ends, what it is shown as, what is read.
  Objects as plain data: what is a right one.
  Calls that lay new blocks and draw, and turn nothing that lay before.
  The contracts of the law's own helpers on fields: how large, turned into the program's, compared.
-/
import Derived.Test.YtkaogmdhjcgcdaaDoorD06
import Derived.Test.YtkaogmdhjcgcdaaDoorD07
import Derived.Test.YtkaogmdhjcgcdaaDoorRows
import Derived.WalkKit
import Derived.WalkSpells
import Derived.Below
import Derived.Laws.IdiomStrings
import Derived.Shelf.SlSortCmp.QuietGrown
import Derived.Test.YtkaogmdhjcgcdaaDoorD04
import Derived.Laws.OwnMore
namespace Go.Proofs.YtkaogmdhjcgcdaaDoor
open Go.RowKit

/-! ### Decimal digits -/
/-! ### What is right -/
/-- content-length, transfer-encoding, chunked. -/
def clS : ByteArray := ⟨#[99, 111, 110, 116, 101, 110, 116, 45, 108, 101, 110, 103, 116, 104]⟩
def teS : ByteArray := ⟨#[116, 114, 97, 110, 115, 102, 101, 114, 45, 101, 110, 99, 111, 100, 105, 110, 103]⟩
def chS : ByteArray := ⟨#[99, 104, 117, 110, 107, 101, 100]⟩
def ownB (l : List Fl) : Bool := fldsOk l && (!(getF l clS).2 && !(getF l teS).2)
/-- A request. -/
structure Rq where
  m : ByteArray
  t : ByteArray
  l : List Fl
  b : ByteArray
/-- A response. -/
structure Rs where
  s : Int
  l : List Fl
  b : ByteArray
def bareB (s : Int) : Bool := decide (s = 204 ∨ s = 304)
def rsOk (r : Rs) : Bool := decide (200 ≤ r.s ∧ r.s ≤ 599) && (ownB r.l && (decide (r.b.size ≤ 4000) && (!bareB r.s || decide (r.b.size = 0))))

/-! ### Where it ends -/
def frm (l : List Fl) : Int × Int :=
  if fldsOk l = true then
    if (getF l clS).2 = true then
      if (getF l teS).2 = true then (3, 0)
      else if numOk 10 15 (getF l clS).1 = true ∧ numV 10 15 (getF l clS).1 ≤ 4000 then (1, numV 10 15 (getF l clS).1) else (3, 0)
    else if (getF l teS).2 = true then if lowS (getF l teS).1 = chS then (2, 0) else (3, 0)
    else (0, 0)
  else (3, 0)

/-! ### What it is shown as -/
/-! ### What is read -/
def noS : Rs := ⟨0, [], ⟨#[]⟩⟩
end Go.Proofs.YtkaogmdhjcgcdaaDoor
namespace Go.Proofs.YtkaogmdhjcgcdaaDoor
open Go.RowKit
set_option linter.unusedVariables false

structure Ob where
  k : ByteArray
  l : List Fl
  r : Rs
  asked : Int
  got : Int
  ep : Int
def obV (o : Ob) (v u : Value) : Value := .agg #[.string o.k, v, .int .i64 o.r.s, u, .string o.r.b, .int .i64 o.asked, .int .i64 o.got, .int .i64 o.ep]
def keyN (n : Int) : Bool := decide (33 ≤ n ∧ n ≤ 126)
theorem keyN_yes {n : Int} (h : 33 ≤ n ∧ n ≤ 126) : keyN n = true := decide_eq_true h
theorem keyN_no {n : Int} (h : ¬ (33 ≤ n ∧ n ≤ 126)) : keyN n = false := decide_eq_false h
def keyO (s : ByteArray) : Bool := allB keyN s.data.toList && decide (s.size ≤ 500)
def momB (n : Int) : Bool := decide (0 ≤ n) && decide (n ≤ 253402300799)
def obB (o : Ob) : Bool := keyO o.k && (fldsOk o.l && (rsOk o.r && (momB o.asked && (momB o.got && (decide (o.asked ≤ o.got) && (decide (0 ≤ o.ep) && decide (o.ep ≤ 100000)))))))
end Go.Proofs.YtkaogmdhjcgcdaaDoor
namespace Go.Proofs.YtkaogmdhjcgcdaaDoor
open Go.RowKit Go.Sort

theorem mixed : Tryd.prog.follows .mixedOrders = true := by kernel_rfl

/-- New blocks and draws alone. -/
def Grew (w w' : World) : Prop := Below w.heap.size w w' ∧ w.drawn ≤ w'.drawn
theorem Grew.refl (w : World) : Grew w w := ⟨Below.refl _ _, Nat.le_refl _⟩
theorem Grew.trans {a b c : World} (h : Grew a b) (k : Grew b c) : Grew a c :=
  ⟨⟨k.1.os.trans h.1.os, k.1.tape.trans h.1.tape, k.1.output.trans h.1.output, Nat.le_trans h.1.size k.1.size, fun i hi => (k.1.block i (Nat.lt_of_lt_of_le hi h.1.size)).trans (h.1.block i hi)⟩, Nat.le_trans h.2 k.2⟩
theorem Grew.alloc {w w' : World} (h : Grew w w') (o : Obj) : Grew w (w'.alloc o) := ⟨h.1.alloc h.1.size o, h.2⟩
theorem Grew.drew {w w' : World} (h : Grew w w') : Grew w w'.drew := ⟨⟨h.1.os, h.1.tape, h.1.output, h.1.size, h.1.block⟩, Nat.le_trans h.2 (Nat.le_succ _)⟩
theorem Grew.drewN {w w' : World} (h : Grew w w') (n : Nat) : Grew w (w'.drewN n) := ⟨⟨h.1.os, h.1.tape, h.1.output, h.1.size, h.1.block⟩, Nat.le_trans h.2 (Nat.le_add_right _ _)⟩
theorem Grew.put {w w' : World} (h : Grew w w') {b : Nat} (hb : w.heap.size ≤ b) (j : Nat) (v : Value) : Grew w (w'.setCell ⟨b, j, none⟩ v) := ⟨h.1.setCell hb _, h.2⟩
theorem Grew.more {w w' : World} (h : Grew w w') (os : Array Obj) : Grew w (grow w' os) :=
  ⟨⟨h.1.os, h.1.tape, h.1.output, by rw [size_grow]; exact Nat.le_trans h.1.size (Nat.le_add_right _ _), fun k hk => (heap_grow_old _ _ (Nat.lt_of_lt_of_le hk h.1.size)).trans (h.1.block k hk)⟩, h.2⟩
theorem Grew.low {w w' : World} (h : Grew w w') : Below w.heap.size w w' := h.1
theorem Grew.out {w w' : World} (h : Grew w w') : ∃ q os, w' = grow (w.drewN q) os := by
  obtain ⟨⟨ho, ht, hp, hz, hk⟩, hd⟩ := h
  refine ⟨w'.drawn - w.drawn, w'.heap.extract w.heap.size w'.heap.size, ?_⟩
  obtain ⟨heap, tape, drawn, os, output⟩ := w'
  simp only at ho ht hp hz hk hd
  have e1 : w.drawn + (drawn - w.drawn) = drawn := by omega
  have e2 : w.heap ++ heap.extract w.heap.size heap.size = heap := by
    apply Array.ext_getElem?
    intro k
    rw [Array.getElem?_append]
    split
    · next h => exact (hk k h).symm
    · next h =>
      rw [Array.getElem?_extract]
      split
      · next h2 => rw [show w.heap.size + (k - w.heap.size) = k from by omega]
      · next h2 => rw [Array.getElem?_eq_none (by omega)]
  simp only [grow, World.drewN, e1, e2, ho, ht, hp]
theorem Grew.cell {w x : World} {b j : Nat} {v : Value} (hb : Grew w x) (h : w.cell? ⟨b, j, none⟩ = some v) (hB : b < w.heap.size) : x.cell? ⟨b, j, none⟩ = some v := (hb.1.cell (p := ⟨b, j, none⟩) hB).trans h
theorem callGrew {P : Program} {f : FuncId} {args : Array Value} {w : World} {n : Nat} {os : Array Obj} {v : Value}
    (h : Calls P f args (grow (w.drewN n) os) fun e w' => e = .returned v ∧ Grew (grow (w.drewN n) os) w') : Calls P f args (grow (w.drewN n) os) fun e w'' => e = .returned v ∧ ∃ p : GrownBy, w'' = grow (w.drewN p.n) p.os :=
  Calls.grown_of (h.mono fun _ _ ⟨he, hg⟩ => ⟨he, hg.out⟩)
end Go.Proofs.YtkaogmdhjcgcdaaDoor
namespace Go.Proofs.YtkaogmdhjcgcdaaDoor
open Go.RowKit Go.Sort

theorem szF1 (f : Fl) (n : Nat) (hn : n ≤ 1048576) (h1 : f.1.size ≤ maxLen) (h2 : f.2.size ≤ maxLen) (w : World) :
    Calls Tryd.prog 37 #[.agg #[.string f.1, .string f.2], .int .i64 n] w fun e w' => (∃ r : Int, e = .returned (.int .i64 r) ∧ (r = -1 ∨ (0 ≤ r ∧ r + f.1.size + f.2.size = n))) ∧ Below w.heap.size w w' := by
  unfold maxLen at h1 h2
  have hb := (Below.refl w.heap.size w).alloc (Nat.le_refl _) (.cells #[.string f.1, .string f.2] 62)
  go_enter Tryd.func37, Tryd.ntmps37
  go_wp2
  · go_ret
    exact ⟨⟨-1, rfl, Or.inl rfl⟩, hb⟩
  · go_ret
    exact ⟨⟨-1, rfl, Or.inl rfl⟩, hb⟩
  · go_ret
    exact ⟨⟨_, rfl, Or.inr ⟨by omega, by omega⟩⟩, hb⟩

theorem toF1 (f : Fl) (w : World) :
    Calls Tryd.prog 41 #[.agg #[.string f.1, .string f.2]] w fun e w' => e = .returned (.agg #[.string f.1, .string f.2]) ∧ Below w.heap.size w w' := by
  go_enter Tryd.func41, Tryd.ntmps41
  go_wp2
  refine bodyPost_ret (v := .agg #[.string f.1, .string f.2]) (by simp [results, Tryd.results41, go_sem]) rfl ⟨rfl, ?_⟩
  exact (((Grew.refl w).alloc _).alloc _ |>.alloc _).low

theorem eqF1 (f : Fl) (w : World) :
    Calls Tryd.prog 46 #[.agg #[.string f.1, .string f.2], .agg #[.string f.1, .string f.2]] w fun e w' => e = .returned (.bool true) ∧ Grew w w' := by
  go_enter Tryd.func46, Tryd.ntmps46
  go_wp2
  go_ret
  exact ⟨rfl, ((Grew.refl w).alloc _).alloc _⟩

theorem made_cells (n : Nat) : (madeCells (Value.cells (.agg #[.string ⟨#[]⟩, .string ⟨#[]⟩])) (n * 2)).toList = cellsF (List.replicate n (⟨#[]⟩, ⟨#[]⟩)) := by
  apply List.ext_getElem?
  intro j
  by_cases hj : j < n * 2
  · have e : (madeCells (Value.cells (.agg #[.string ⟨#[]⟩, .string ⟨#[]⟩])) (n * 2)).toList[j]? = some (.string ⟨#[]⟩) := by
      have h2 : j % 2 = 0 ∨ j % 2 = 1 := by omega
      rcases h2 with h2 | h2 <;> simp [madeCells, hj, Value.cells, h2]
    rw [e]
    obtain ⟨c1, c2⟩ := cellsF_at (List.replicate n (⟨#[]⟩, ⟨#[]⟩)) (j / 2) (by simp; omega)
    have h2 : j = j / 2 * 2 ∨ j = j / 2 * 2 + 1 := by omega
    rcases h2 with h2 | h2
    · rw [h2, c1]; simp
    · rw [h2, c2]; simp
  · rw [List.getElem?_eq_none (by simp [madeCells]; omega), List.getElem?_eq_none (by rw [cellsF_length]; simp; omega)]
theorem putF (l : List Fl) (k : Nat) (hk : k < l.length) (f : Fl) : (l.set k (f.1, l[k].2)).set k (((l.set k (f.1, l[k].2))[k]'(by rw [List.length_set]; exact hk)).1, f.2) = l.set k f := by
  rw [List.set_set]; simp
/-- Turned so far: the first k, and behind them empty ones. -/
def turned (l : List Fl) (k : Nat) : List Fl := l.take k ++ List.replicate (l.length - k) (⟨#[]⟩, ⟨#[]⟩)
theorem turned_length (l : List Fl) (k : Nat) (hk : k ≤ l.length) : (turned l k).length = l.length := by unfold turned; simp; omega
theorem turned_zero (l : List Fl) : turned l 0 = List.replicate l.length (⟨#[]⟩, ⟨#[]⟩) := by simp [turned]
theorem turned_all (l : List Fl) : turned l l.length = l := by simp [turned]
theorem turned_next (l : List Fl) (k : Nat) (hk : k < l.length) : (turned l k).set k l[k] = turned l (k + 1) := by
  unfold turned
  have e : (l.take k).length = k := by simp; omega
  rw [List.set_append_right _ _ (by omega), e, Nat.sub_self, List.take_succ_eq_append_getElem hk, List.append_assoc]
  congr 1
  rw [show l.length - k = (l.length - (k + 1)) + 1 from by omega, List.replicate_succ, List.set_cons_zero]
  rfl

set_option maxHeartbeats 400000 in
theorem toFS (v : Value) (l : List Fl) (w : World) (h : Fls w v l) (hl : l.length ≤ 1048576) :
    Calls Tryd.prog 24 #[v] w fun e w' => ∃ u, e = .returned u ∧ OwnsF w' w.heap.size u l ∧ Below w.heap.size w w' := by
  obtain ⟨a, cap, rfl, h1, h2, h3⟩ := h
  unfold maxLen at h2
  obtain ⟨i0, hi, hz0, hz1, hz2⟩ := info_parts Tryd.infoF
  obtain ⟨w0, hrun, hown, hgr⟩ := run_make_full (P := Tryd.prog) w w.heap.size 29 56 i0 (.agg #[.string ⟨#[]⟩, .string ⟨#[]⟩]) 2 Tryd.underlying29 hi hz0 hz1 .i64 .i64 l.length (by rw [hz2]; omega) (by unfold maxLen; omega) (Nat.le_refl _)
  rw [made_cells, ← turned_zero] at hown
  have hown0 : OwnsF w0 w.heap.size (.slice (some ⟨w.heap.size, 0, none⟩) l.length l.length) (turned l 0) := by
    unfold OwnsF
    rw [turned_length l 0 (Nat.zero_le _)]
    exact hown
  have hb0 : Below w.heap.size w w0 := (Below.refl _ w).grown hgr (Nat.le_refl _) (fun j hj => by cases hj)
  have hs0 : w.heap.size < w0.heap.size := OwnsF.under hown0 _ rfl
  clear hown hgr hi hz0 hz1 hz2
  go_enter Tryd.func24, Tryd.ntmps24
  go_wp2
  go_loopw [4] (fun i wr => ∃ k : Nat, k ≤ l.length ∧ i = .int .i64 k ∧ OwnsF wr w.heap.size (.slice (some ⟨w.heap.size, 0, none⟩) l.length l.length) (turned l k) ∧ Below w.heap.size w wr) (fun i _ => l.length - (intOf i).toNat)
  case atStart => exact ⟨0, Nat.zero_le _, rfl, hown0, hb0⟩
  case round =>
    clear hown0 hb0 hs0 hrun
    obtain ⟨k, hk, rfl, ho, hb⟩ := hrel
    by_cases hlt : k < l.length
    · obtain ⟨g, o, rfl, hg, hc⟩ := h3 (by omega)
      have c1 := (hb.cell (p := ⟨g, o + k * 2, none⟩) hg).trans (hc k hlt).1
      have c2 := (hb.cell (p := ⟨g, o + k * 2 + 1, none⟩) hg).trans (hc k hlt).2
      have hnx := turned_next l k hlt
      have hln := turned_length l k hk
      generalize l[k] = f at c1 c2 hnx
      generalize hl2 : turned l (k + 1) = l2 at hnx
      generalize turned l k = l1 at ho hnx hln
      clear hc h3
      go_wp2_with (go_at_call 41; refine (toF1 f _).mono ?_; rintro e w1 ⟨rfl, hb1⟩; have ho1 := ho.kept hb1; have f1 := ho1.free hln.symm (k * 2); have f2 := ho1.free hln.symm (k * 2 + 1); obtain ⟨d1, d2⟩ := ho1.at hln.symm k (by omega))
      have hp := (ho1.put1 (k := k) hln.symm (by omega) f.1).put2 (by rw [List.length_set]; exact hln.symm) (k := k) (by rw [List.length_set]; omega) f.2
      rw [putF l1 k (by omega) f, hnx] at hp
      go_roundw
      case rel => exact ⟨k + 1, by omega, by go_num, by rw [hl2]; exact hp, ((hb.trans (hb1.mono hb.size)).setCell (Nat.le_refl _) _).setCell (Nat.le_refl _) _⟩
      case measure => simp [intOf]; omega
    · obtain rfl : k = l.length := by omega
      rw [turned_all] at ho
      go_wp2
      go_ret
      exact ⟨_, rfl, ho, hb⟩

set_option maxHeartbeats 400000 in
theorem eqFS (va vb : Value) (l : List Fl) (w : World) (ha : Fls w va l) (hb : Fls w vb l) (hl : l.length ≤ 1048576) :
    Calls Tryd.prog 29 #[va, vb] w fun e w' => e = .returned (.bool true) ∧ Grew w w' := by
  obtain ⟨a, ca, rfl, a1, a2, a3⟩ := ha
  obtain ⟨b, cb, rfl, b1, b2, b3⟩ := hb
  have hmx := mixed
  go_enter Tryd.func29, Tryd.ntmps29
  go_wp2
  go_loopw [5] (fun i wr => ∃ (k : Nat), k ≤ l.length ∧ i = .int .i64 k ∧ Grew w wr) (fun i _ => l.length - (intOf i).toNat)
  case atStart => exact ⟨0, Nat.zero_le _, rfl, Grew.refl _⟩
  case round =>
    obtain ⟨k, hk, rfl, hg⟩ := hrel
    by_cases hlt : k < l.length
    · obtain ⟨ga, oa, rfl, hga, hca⟩ := a3 (by omega)
      obtain ⟨gb, ob, rfl, hgb, hcb⟩ := b3 (by omega)
      have c1 := hg.cell (hca k hlt).1 hga
      have c2 := hg.cell (hca k hlt).2 hga
      have c3 := hg.cell (hcb k hlt).1 hgb
      have c4 := hg.cell (hcb k hlt).2 hgb
      have hsz := hg.1.size
      generalize l[k] = f at c1 c2 c3 c4
      have k1 : ∀ n os, (grow (wr.drewN n) os).cell? ⟨ga, oa + k * 2, none⟩ = some (.string f.1) := fun n os => (cell?_grow _ _ _ (by show ga < wr.heap.size; omega)).trans c1
      have k2 : ∀ n os, (grow (wr.drewN n) os).cell? ⟨ga, oa + k * 2 + 1, none⟩ = some (.string f.2) := fun n os => (cell?_grow _ _ _ (by show ga < wr.heap.size; omega)).trans c2
      have k3 : ∀ n os, (grow (wr.drewN n) os).cell? ⟨gb, ob + k * 2, none⟩ = some (.string f.1) := fun n os => (cell?_grow _ _ _ (by show gb < wr.heap.size; omega)).trans c3
      have k4 : ∀ n os, (grow (wr.drewN n) os).cell? ⟨gb, ob + k * 2 + 1, none⟩ = some (.string f.2) := fun n os => (cell?_grow _ _ _ (by show gb < wr.heap.size; omega)).trans c4
      clear c1 c2 c3 c4 a3 b3 hca hcb
      go_wp2
      go_quiet_grown ((go_at_call 46; refine callGrew (eqF1 f _)))
      clear k1 k2 k3 k4
      have hg2 : Grew w (grow (wr.drewN nq) osq) := (hg.drewN _).more _
      generalize grow (wr.drewN nq) osq = w1 at hg2 ⊢
      go_wp2
      go_roundw
      case rel => exact ⟨k + 1, by omega, by go_num, hg2⟩
      case measure => simp [intOf]; omega
    · go_wp2
      go_ret
      exact ⟨rfl, hg⟩
end Go.Proofs.YtkaogmdhjcgcdaaDoor
