/-
  Calls that lay new blocks and draw, and turn nothing that lay before.
  The contracts of the law's own helpers on fields: how large, turned into the program's, compared.
  The contracts of the law's own helpers: slices of texts compared, marked, and asked for their marks.
-/
import Derived.Test.YtemmgfnepdgpbaaGreatDoorRows
import Derived.WalkKit
import Derived.WalkSpells
import Derived.Below
import Derived.Laws.IdiomStrings
import Derived.Shelf.SlSortCmp.QuietGrown
import Derived.Test.YtemmgfnepdgpbaaGreatDoorG04
import Derived.Laws.OwnMore
import Derived.Test.YtemmgfnepdgpbaaGreatDoorG05
import Derived.Deep.QuietTactic
import Derived.BigQuiet
import Derived.Deep.RegionWith
namespace Go.Proofs.YtemmgfnepdgpbaaGreatDoor
open Go.RowKit Go.Sort

theorem mixed : Tryz.prog.follows .mixedOrders = true := by kernel_rfl

/-- New blocks and draws alone. -/
def Grew (w w' : World) : Prop := Below w.heap.size w w' ∧ w.drawn ≤ w'.drawn
theorem Grew.refl (w : World) : Grew w w := ⟨Below.refl _ _, Nat.le_refl _⟩
theorem Grew.trans {a b c : World} (h : Grew a b) (k : Grew b c) : Grew a c :=
  ⟨⟨k.1.os.trans h.1.os, k.1.tape.trans h.1.tape, k.1.output.trans h.1.output, Nat.le_trans h.1.size k.1.size, fun i hi => (k.1.block i (Nat.lt_of_lt_of_le hi h.1.size)).trans (h.1.block i hi)⟩, Nat.le_trans h.2 k.2⟩
theorem Grew.alloc {w w' : World} (h : Grew w w') (o : Obj) : Grew w (w'.alloc o) := ⟨h.1.alloc h.1.size o, h.2⟩
theorem Grew.drew {w w' : World} (h : Grew w w') : Grew w w'.drew := ⟨⟨h.1.os, h.1.tape, h.1.output, h.1.size, h.1.block⟩, Nat.le_trans h.2 (Nat.le_succ _)⟩
theorem Grew.drewN {w w' : World} (h : Grew w w') (n : Nat) : Grew w (w'.drewN n) := ⟨⟨h.1.os, h.1.tape, h.1.output, h.1.size, h.1.block⟩, Nat.le_trans h.2 (Nat.le_add_right _ _)⟩
theorem Grew.put {w w' : World} (h : Grew w w') {b : Nat} (hb : w.heap.size ≤ b) (j : Nat) (v : Value) : Grew w (w'.setCell ⟨b, j, none⟩ v) := ⟨h.1.setCell hb _, h.2⟩
theorem Grew.more {w w' : World} (h : Grew w w') (os : Array Obj) : Grew w (grow w' os) :=
  ⟨⟨h.1.os, h.1.tape, h.1.output, by rw [size_grow]; exact Nat.le_trans h.1.size (Nat.le_add_right _ _), fun k hk => (heap_grow_old _ _ (Nat.lt_of_lt_of_le hk h.1.size)).trans (h.1.block k hk)⟩, h.2⟩
theorem Grew.low {w w' : World} (h : Grew w w') : Below w.heap.size w w' := h.1
theorem Grew.out {w w' : World} (h : Grew w w') : ∃ q os, w' = grow (w.drewN q) os := by
  obtain ⟨⟨ho, ht, hp, hz, hk⟩, hd⟩ := h
  refine ⟨w'.drawn - w.drawn, w'.heap.extract w.heap.size w'.heap.size, ?_⟩
  obtain ⟨heap, tape, drawn, os, output⟩ := w'
  simp only at ho ht hp hz hk hd
  have e1 : w.drawn + (drawn - w.drawn) = drawn := by omega
  have e2 : w.heap ++ heap.extract w.heap.size heap.size = heap := by
    apply Array.ext_getElem?
    intro k
    rw [Array.getElem?_append]
    split
    · next h => exact (hk k h).symm
    · next h =>
      rw [Array.getElem?_extract]
      split
      · next h2 => rw [show w.heap.size + (k - w.heap.size) = k from by omega]
      · next h2 => rw [Array.getElem?_eq_none (by omega)]
  simp only [grow, World.drewN, e1, e2, ho, ht, hp]
theorem Grew.cell {w x : World} {b j : Nat} {v : Value} (hb : Grew w x) (h : w.cell? ⟨b, j, none⟩ = some v) (hB : b < w.heap.size) : x.cell? ⟨b, j, none⟩ = some v := (hb.1.cell (p := ⟨b, j, none⟩) hB).trans h
theorem callGrew {P : Program} {f : FuncId} {args : Array Value} {w : World} {n : Nat} {os : Array Obj} {v : Value}
    (h : Calls P f args (grow (w.drewN n) os) fun e w' => e = .returned v ∧ Grew (grow (w.drewN n) os) w') : Calls P f args (grow (w.drewN n) os) fun e w'' => e = .returned v ∧ ∃ p : GrownBy, w'' = grow (w.drewN p.n) p.os :=
  Calls.grown_of (h.mono fun _ _ ⟨he, hg⟩ => ⟨he, hg.out⟩)
end Go.Proofs.YtemmgfnepdgpbaaGreatDoor
namespace Go.Proofs.YtemmgfnepdgpbaaGreatDoor
open Go.RowKit Go.Sort

theorem eqF1 (f : Fl) (w : World) :
    Calls Tryz.prog 81 #[.agg #[.string f.1, .string f.2], .agg #[.string f.1, .string f.2]] w fun e w' => e = .returned (.bool true) ∧ Grew w w' := by
  go_enter Tryz.func81, Tryz.ntmps81
  go_wp2
  go_ret
  exact ⟨rfl, ((Grew.refl w).alloc _).alloc _⟩

/-- Turned so far: the first k, and behind them empty ones. -/
def turned (l : List Fl) (k : Nat) : List Fl := l.take k ++ List.replicate (l.length - k) (⟨#[]⟩, ⟨#[]⟩)
set_option maxHeartbeats 400000 in
theorem eqFS (va vb : Value) (l : List Fl) (w : World) (ha : Fls w va l) (hb : Fls w vb l) (hl : l.length ≤ 1048576) :
    Calls Tryz.prog 47 #[va, vb] w fun e w' => e = .returned (.bool true) ∧ Grew w w' := by
  obtain ⟨a, ca, rfl, a1, a2, a3⟩ := ha
  obtain ⟨b, cb, rfl, b1, b2, b3⟩ := hb
  have hmx := mixed
  go_enter Tryz.func47, Tryz.ntmps47
  go_wp2
  go_loopw [5] (fun i wr => ∃ (k : Nat), k ≤ l.length ∧ i = .int .i64 k ∧ Grew w wr) (fun i _ => l.length - (intOf i).toNat)
  case atStart => exact ⟨0, Nat.zero_le _, rfl, Grew.refl _⟩
  case round =>
    obtain ⟨k, hk, rfl, hg⟩ := hrel
    by_cases hlt : k < l.length
    · obtain ⟨ga, oa, rfl, hga, hca⟩ := a3 (by omega)
      obtain ⟨gb, ob, rfl, hgb, hcb⟩ := b3 (by omega)
      have c1 := hg.cell (hca k hlt).1 hga
      have c2 := hg.cell (hca k hlt).2 hga
      have c3 := hg.cell (hcb k hlt).1 hgb
      have c4 := hg.cell (hcb k hlt).2 hgb
      have hsz := hg.1.size
      generalize l[k] = f at c1 c2 c3 c4
      have k1 : ∀ n os, (grow (wr.drewN n) os).cell? ⟨ga, oa + k * 2, none⟩ = some (.string f.1) := fun n os => (cell?_grow _ _ _ (by show ga < wr.heap.size; omega)).trans c1
      have k2 : ∀ n os, (grow (wr.drewN n) os).cell? ⟨ga, oa + k * 2 + 1, none⟩ = some (.string f.2) := fun n os => (cell?_grow _ _ _ (by show ga < wr.heap.size; omega)).trans c2
      have k3 : ∀ n os, (grow (wr.drewN n) os).cell? ⟨gb, ob + k * 2, none⟩ = some (.string f.1) := fun n os => (cell?_grow _ _ _ (by show gb < wr.heap.size; omega)).trans c3
      have k4 : ∀ n os, (grow (wr.drewN n) os).cell? ⟨gb, ob + k * 2 + 1, none⟩ = some (.string f.2) := fun n os => (cell?_grow _ _ _ (by show gb < wr.heap.size; omega)).trans c4
      clear c1 c2 c3 c4 a3 b3 hca hcb
      go_wp2
      go_quiet_grown ((go_at_call 81; refine callGrew (eqF1 f _)))
      clear k1 k2 k3 k4
      have hg2 : Grew w (grow (wr.drewN nq) osq) := (hg.drewN _).more _
      generalize grow (wr.drewN nq) osq = w1 at hg2 ⊢
      go_wp2
      go_roundw
      case rel => exact ⟨k + 1, by omega, by go_num, hg2⟩
      case measure => simp [intOf]; omega
    · go_wp2
      go_ret
      exact ⟨rfl, hg⟩
end Go.Proofs.YtemmgfnepdgpbaaGreatDoor
namespace Go.Proofs.YtemmgfnepdgpbaaGreatDoor
open Go.RowKit

/-- What a walk reads of an owned slice of texts. -/
theorem OwnsS.at {w : World} {B g n cap : Nat} {l : List ByteArray} (h : OwnsS w B (.slice (some ⟨g, 0, none⟩) n cap) l) (hn : n = l.length) : ∀ j (hj : j < l.length), w.cell? ⟨g, j, none⟩ = some (.string l[j]) := by
  intro j hj
  subst hn
  have := World.ownsRow.cellAt h.2 j (by omega)
  rw [this]
  simp [hj]

/-- The decimal digit. -/
def decB (d : Nat) : UInt8 := UInt8.ofNat (48 + d)
/-- The decimal digits of n, none of 0. -/
def decF : Nat → Nat → List UInt8
  | 0, _ => []
  | f + 1, n => if n = 0 then [] else decF f (n / 10) ++ [decB (n % 10)]
theorem decF_zero (f : Nat) : decF f 0 = [] := by cases f <;> simp [decF]
theorem decF_step (f n : Nat) (h : 0 < n) : decF (f + 1) n = decF f (n / 10) ++ [decB (n % 10)] := by simp [decF]; omega
/-- The mark of number n. -/
def mkT (n : Nat) : ByteArray := ⟨(109 :: decF 20 n).toArray⟩
theorem dec_more {n m f : Nat} {x : ByteArray} (hm : m < 10 ^ f) (h0 : 0 < m) (h : decF 20 n = decF f m ++ x.data.toList) : ∃ f', m / 10 < 10 ^ f' ∧ decF 20 n = decF f' (m / 10) ++ (decB (m % 10) :: x.data.toList) := by
  cases f with
  | zero => simp at hm; omega
  | succ f =>
    refine ⟨f, ?_, ?_⟩
    · rw [Nat.pow_succ] at hm
      exact Nat.div_lt_of_lt_mul (by rw [Nat.mul_comm]; exact hm)
    · rw [h, decF_step f m h0]
      simp
theorem dec_byte (m : Nat) : (48 + (m : Int) % 10) = ((decB (m % 10)).toNat : Int) := by
  have h : (decB (m % 10)).toNat = 48 + m % 10 := by
    unfold decB
    rw [UInt8.toNat_ofNat']
    exact Nat.mod_eq_of_lt (by omega)
  rw [h]
  omega
theorem byte_text (w : World) (n : Int) (c : UInt8) (h : n = (c.toNat : Int)) : (convert 22 9 (.slice (some ⟨w.heap.size, 0, none⟩) 1 1)).run Tryz.prog (w.alloc (.cells #[.int .u8 n] 5)) = .ok (.string ⟨#[c]⟩) (w.alloc (.cells #[.int .u8 n] 5)) := by
  subst h
  refine run_convert_bytes_back (P := Tryz.prog) _ 22 9 5 ⟨w.heap.size, 0, none⟩ 1 [c] Tryz.underlying22 Tryz.underlying5 Tryz.underlying9 (fun q hq => ?_)
  have e : q = 0 := by simp at hq; exact hq
  subst e
  show (w.alloc (.cells #[.int .u8 (c.toNat : Int)] 5)).cell? ⟨w.heap.size, 0, none⟩ = _
  rw [World.cell?_alloc_mark]
  rfl
theorem cat_cons (c : UInt8) (x : ByteArray) : ((⟨#[c]⟩ : ByteArray) ++ x).data.toList = c :: x.data.toList := by
  rw [ByteArray.data_append, Array.toList_append]; rfl
theorem size_cat (c : UInt8) (x : ByteArray) : ((⟨#[c]⟩ : ByteArray) ++ x).size = x.size + 1 := by
  rw [ByteArray.size_append]
  show 1 + x.size = x.size + 1
  omega
theorem mkT_is {n : Nat} {x : ByteArray} (h : decF 20 n = x.data.toList) : (⟨#[109]⟩ : ByteArray) ++ x = mkT n := by
  apply ext_bytes
  rw [cat_cons, ← h]
  rfl
theorem ret_text {a b : ByteArray} (h : a = b) : Ending.returned (.string a) = .returned (.string b) := by rw [h]

/-- A text stored into an owned slice. -/
theorem OwnsS.put {w : World} {B g cap : Nat} {l : List ByteArray} {n : Nat} (hn : n = l.length) (h : OwnsS w B (.slice (some ⟨g, 0, none⟩) n cap) l) (k : Nat) (c : ByteArray) : OwnsS (w.setCell ⟨g, k, none⟩ (.string c)) B (.slice (some ⟨g, 0, none⟩) n cap) (l.set k c) := by
  subst hn
  obtain ⟨⟨g', cap', hv, hb, hg⟩, ho⟩ := h
  have h2 := (ho.stored k (.string c)).1
  simp only [Value.slice.injEq, Option.some.injEq, Addr.mk.injEq, and_true, true_and] at hv
  obtain ⟨rfl, rfl⟩ := hv
  refine ⟨⟨g, cap, by rw [List.length_set], hb, by simpa [World.setCell] using hg⟩, ?_⟩
  rw [List.length_set, List.map_set]
  exact h2
theorem OwnsS.free {w : World} {B g n cap : Nat} {l : List ByteArray} (hn : n = l.length) (h : OwnsS w B (.slice (some ⟨g, 0, none⟩) n cap) l) (j : Nat) : w.frozen? ⟨g, j, none⟩ = false := by
  subst hn
  exact h.2.frozenAt j

/-- What holds of every block but g. -/
def But (g : Nat) (w w' : World) : Prop := w'.os = w.os ∧ w'.tape = w.tape ∧ w'.output = w.output ∧ w.heap.size ≤ w'.heap.size ∧ ∀ k, k < w.heap.size → k ≠ g → w'.heap[k]? = w.heap[k]?
theorem But.refl (g : Nat) (w : World) : But g w w := ⟨rfl, rfl, rfl, Nat.le_refl _, fun _ _ _ => rfl⟩
theorem But.below {g : Nat} {a w w' : World} (h : But g a w) (hb : Below w.heap.size w w') : But g a w' :=
  ⟨hb.os.trans h.1, hb.tape.trans h.2.1, hb.output.trans h.2.2.1, Nat.le_trans h.2.2.2.1 hb.size, fun k hk hg => (hb.block k (by have := h.2.2.2.1; omega)).trans (h.2.2.2.2 k hk hg)⟩
theorem But.put {g : Nat} {a w : World} (h : But g a w) (k : Nat) (v : Value) : But g a (w.setCell ⟨g, k, none⟩ v) :=
  ⟨h.1, h.2.1, h.2.2.1, by simpa [World.setCell] using h.2.2.2.1, fun j hj hg => (Below.heap_setCell _ _ _ _ hg).trans (h.2.2.2.2 j hj hg)⟩

end Go.Proofs.YtemmgfnepdgpbaaGreatDoor
