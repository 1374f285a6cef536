/-
  The walk of the exact law of Renewed, given what the program's own function answers.
-/
import Derived.Test.YtkaogmdhjcgcdaaDoorD20
import Derived.Test.YtkaogmdhjcgcdaaDoorD21
import Derived.Test.YtkaogmdhjcgcdaaDoorD17
import Derived.Test.YtkaogmdhjcgcdaaDoorD22
import Derived.Test.YtkaogmdhjcgcdaaDoorD16
namespace Go.Proofs.YtkaogmdhjcgcdaaDoor
open Go.RowKit Go.Sort
set_option linter.unusedVariables false
set_option linter.unusedSimpArgs false

theorem renV_sm (o : Ob) (r : Rs) (a g : Int) : (renV o r a g).1.l.length ≤ 30 ∧ (renV o r a g).1.r.l.length ≤ 30 ∧ (renV o r a g).1.k.size ≤ 500 := by
  unfold renV
  split
  · rename_i h
    have k := obB_all h.2.2.2
    have kf := rsOk_flds k.2.2.1
    refine ⟨(fldsOk_parts k.2.1).1, (fldsOk_parts kf).1, ?_⟩
    have := k.1
    unfold keyO at this
    rw [Bool.and_eq_true, decide_eq_true_eq] at this
    exact this.2
  · exact ⟨Nat.zero_le _, Nat.zero_le _, Nat.zero_le _⟩
/-- A block of the eight cells of an object. -/
def OBk (x : World) (k : Nat) : Prop := ∃ c : Array Value, x.heap[k]? = some (.cells c 33 (0, 0)) ∧ c.size = 8
theorem OBk.put {x : World} {k gb i : Nat} {v : Value} (h : OBk x k) : OBk (x.setCell ⟨gb, i, none⟩ v) k := by
  obtain ⟨c, h1, h2⟩ := h
  by_cases e : k = gb
  · subst e
    exact ⟨_, heap_setCell_same x k i _ _ v h1, by simp [h2]⟩
  · exact ⟨c, (Below.heap_setCell _ _ _ _ e).trans h1, h2⟩
theorem OBk.puL {k gb : Nat} : ∀ {x : World} (h : OBk x k) (vs : List Value) (i : Nat), OBk (putL x gb vs i) k
  | _, h, [], _ => h
  | _, h, v :: vs, i => OBk.puL h.put vs (i + 1)
/-- Rows stay, and objects stay objects. -/
structure Kps (x y : World) : Prop where
  e : ∀ (k : Nat) (c : Array Value), x.heap[k]? = some (Obj.cells c 56 (0, 0)) → y.heap[k]? = some (Obj.cells c 56 (0, 0))
  o : ∀ k, OBk x k → OBk y k
theorem Kps.of {x y : World} (hb : Below x.heap.size x y) : Kps x y :=
  ⟨fun k c h => (hb.block k (Array.getElem?_eq_some_iff.1 h).1).trans h, fun k ⟨c, h1, h2⟩ => ⟨c, (hb.block k (Array.getElem?_eq_some_iff.1 h1).1).trans h1, h2⟩⟩
theorem Kps.puL {x : World} {gb : Nat} (h : OBk x gb) (vs : List Value) (i : Nat) : Kps x (putL x gb vs i) :=
  ⟨fun k c hk => (putL_block gb vs i x k (fun e => by
    subst e
    obtain ⟨c', h1, _⟩ := h
    rw [h1] at hk
    injection hk with e2
    injection e2 with _ e3 _
    exact absurd e3 (by decide))).trans hk, fun k hk => hk.puL vs i⟩
theorem HasF.kps {x y : World} {B : Nat} {v : Value} {l : List Fl} (h : HasF x B v l) (hb : Kps x y) : HasF y B v l := by
  rcases h with ⟨rfl, rfl⟩ | ⟨g, cap, cur, rfl, hB, hg, rest⟩
  · exact .inl ⟨rfl, rfl⟩
  · exact .inr ⟨g, cap, cur, rfl, hB, hb.e g cur hg, rest⟩
/-- The object RR in the block gb. -/
def OBx (x : World) (gb : Nat) (RR : Ob) (p u : Value) : Prop := x.heap[gb]? = some (.cells (obL RR p u).toArray 33 (0, 0))
theorem OBx.k {x : World} {gb : Nat} {RR : Ob} {p u : Value} (h : OBx x gb RR p u) : OBk x gb := ⟨_, h, rfl⟩
theorem OBx.ob {x : World} {gb : Nat} {RR : Ob} {p u : Value} (h : OBx x gb RR p u) : ObB x gb RR p u :=
  ⟨rowCell h, rowCell h, rowCell h, rowCell h, rowCell h, rowCell h, rowCell h, rowCell h, fun k => by simp [World.frozen?, show x.heap[gb]? = _ from h], (Array.getElem?_eq_some_iff.1 h).1⟩
theorem OBx.kept {x y : World} {gb : Nat} {RR : Ob} {p u : Value} (h : OBx x gb RR p u) (hb : Below x.heap.size x y) : OBx y gb RR p u := (hb.block gb (Array.getElem?_eq_some_iff.1 h).1).trans h
theorem OBk.puts {x : World} {gb : Nat} (h : OBk x gb) (RR : Ob) (p u : Value) : OBx (putL x gb (obL RR p u) 0) gb RR p u := by
  obtain ⟨c, h1, h2⟩ := h
  obtain ⟨c0, c1, c2, c3, c4, c5, c6, c7, rfl⟩ := array8m h2
  have k0 : (x.setCell ⟨gb, 0, none⟩ (.string RR.k)).heap[gb]? = some (Obj.cells #[.string RR.k, c1, c2, c3, c4, c5, c6, c7] 33 (0, 0)) := heap_setCell_same _ gb 0 _ _ (.string RR.k) h1
  have k1 : ((x.setCell ⟨gb, 0, none⟩ (.string RR.k)).setCell ⟨gb, 1, none⟩ p).heap[gb]? = some (Obj.cells #[.string RR.k, p, c2, c3, c4, c5, c6, c7] 33 (0, 0)) := heap_setCell_same _ gb 1 _ _ p k0
  have k2 : (((x.setCell ⟨gb, 0, none⟩ (.string RR.k)).setCell ⟨gb, 1, none⟩ p).setCell ⟨gb, 2, none⟩ (.int .i64 RR.r.s)).heap[gb]? = some (Obj.cells #[.string RR.k, p, .int .i64 RR.r.s, c3, c4, c5, c6, c7] 33 (0, 0)) := heap_setCell_same _ gb 2 _ _ (.int .i64 RR.r.s) k1
  have k3 : ((((x.setCell ⟨gb, 0, none⟩ (.string RR.k)).setCell ⟨gb, 1, none⟩ p).setCell ⟨gb, 2, none⟩ (.int .i64 RR.r.s)).setCell ⟨gb, 3, none⟩ u).heap[gb]? = some (Obj.cells #[.string RR.k, p, .int .i64 RR.r.s, u, c4, c5, c6, c7] 33 (0, 0)) := heap_setCell_same _ gb 3 _ _ u k2
  have k4 : (((((x.setCell ⟨gb, 0, none⟩ (.string RR.k)).setCell ⟨gb, 1, none⟩ p).setCell ⟨gb, 2, none⟩ (.int .i64 RR.r.s)).setCell ⟨gb, 3, none⟩ u).setCell ⟨gb, 4, none⟩ (.string RR.r.b)).heap[gb]? = some (Obj.cells #[.string RR.k, p, .int .i64 RR.r.s, u, .string RR.r.b, c5, c6, c7] 33 (0, 0)) := heap_setCell_same _ gb 4 _ _ (.string RR.r.b) k3
  have k5 : ((((((x.setCell ⟨gb, 0, none⟩ (.string RR.k)).setCell ⟨gb, 1, none⟩ p).setCell ⟨gb, 2, none⟩ (.int .i64 RR.r.s)).setCell ⟨gb, 3, none⟩ u).setCell ⟨gb, 4, none⟩ (.string RR.r.b)).setCell ⟨gb, 5, none⟩ (.int .i64 RR.asked)).heap[gb]? = some (Obj.cells #[.string RR.k, p, .int .i64 RR.r.s, u, .string RR.r.b, .int .i64 RR.asked, c6, c7] 33 (0, 0)) := heap_setCell_same _ gb 5 _ _ (.int .i64 RR.asked) k4
  have k6 : (((((((x.setCell ⟨gb, 0, none⟩ (.string RR.k)).setCell ⟨gb, 1, none⟩ p).setCell ⟨gb, 2, none⟩ (.int .i64 RR.r.s)).setCell ⟨gb, 3, none⟩ u).setCell ⟨gb, 4, none⟩ (.string RR.r.b)).setCell ⟨gb, 5, none⟩ (.int .i64 RR.asked)).setCell ⟨gb, 6, none⟩ (.int .i64 RR.got)).heap[gb]? = some (Obj.cells #[.string RR.k, p, .int .i64 RR.r.s, u, .string RR.r.b, .int .i64 RR.asked, .int .i64 RR.got, c7] 33 (0, 0)) := heap_setCell_same _ gb 6 _ _ (.int .i64 RR.got) k5
  have k7 : ((((((((x.setCell ⟨gb, 0, none⟩ (.string RR.k)).setCell ⟨gb, 1, none⟩ p).setCell ⟨gb, 2, none⟩ (.int .i64 RR.r.s)).setCell ⟨gb, 3, none⟩ u).setCell ⟨gb, 4, none⟩ (.string RR.r.b)).setCell ⟨gb, 5, none⟩ (.int .i64 RR.asked)).setCell ⟨gb, 6, none⟩ (.int .i64 RR.got)).setCell ⟨gb, 7, none⟩ (.int .i64 RR.ep)).heap[gb]? = some (Obj.cells #[.string RR.k, p, .int .i64 RR.r.s, u, .string RR.r.b, .int .i64 RR.asked, .int .i64 RR.got, .int .i64 RR.ep] 33 (0, 0)) := heap_setCell_same _ gb 7 _ _ (.int .i64 RR.ep) k6
  exact k7
/-- What holds all along while an answer is stored: once it is, it lies in the block that was made. -/
def S8 (w2 : World) (RR : Ob) (bx : Nat) (listed : Array Bool) (t : Nat → Value) (x : World) : Prop := Below w2.heap.size w2 x ∧ (listed.getD 11 false = true → ∃ (gb : Nat) (a1 : Option Addr) (c1 : Nat) (a2 : Option Addr) (c2 : Nat), t bx = .pointer (some ⟨gb, 0, none⟩) ∧ w2.heap.size ≤ gb ∧ OBx x gb RR (.slice a1 RR.l.length c1) (.slice a2 RR.r.l.length c2) ∧ HasF x w2.heap.size (.slice a1 RR.l.length c1) RR.l ∧ HasF x w2.heap.size (.slice a2 RR.r.l.length c2) RR.r.l)
theorem S8.upd {w2 : World} {RR : Ob} {bx : Nat} {listed : Array Bool} {t : Nat → Value} {x y : World} (h : S8 w2 RR bx listed t x) {i k : Nat} {v : Value} (h1 : i ≠ 11) (h2 : k ≠ bx) (hb : Below x.heap.size x y) : S8 w2 RR bx (listed.setIfInBounds i true) (updH t k v) y := by
  refine ⟨h.1.trans (hb.mono h.1.size), fun hl => ?_⟩
  rw [getD_set_ne false h1] at hl
  obtain ⟨gb, a1, c1, a2, c2, e, k1, k2, k3, k4⟩ := h.2 hl
  exact ⟨gb, a1, c1, a2, c2, by rw [updH_other _ _ (Ne.symm h2)]; exact e, k1, k2.kept hb, k3.kept hb, k4.kept hb⟩
theorem S8.new {w2 : World} {RR : Ob} {bx : Nat} {listed : Array Bool} {t s : Nat → Value} {x y : World} (h : S8 w2 RR bx listed t x) {i : Nat} (h1 : i ≠ 11) (hl : listed.getD 11 false = false) (hb : Below x.heap.size x y) : S8 w2 RR bx (listed.setIfInBounds i true) s y :=
  ⟨h.1.trans (hb.mono h.1.size), fun h2 => by rw [getD_set_ne false h1, hl] at h2; cases h2⟩
theorem HasF.off {w w' : World} {B : Nat} {v : Value} {l : List Fl} (h : HasF w B v l) (hz : w.heap.size ≤ w'.heap.size) (hk : ∀ k, v.ownBlock = some k → w'.heap[k]? = w.heap[k]?) : HasF w' B v l := by
  rcases h with ⟨rfl, rfl⟩ | ⟨g, cap, cur, rfl, hb, hg, rest⟩
  · exact .inl ⟨rfl, rfl⟩
  · exact .inr ⟨g, cap, cur, rfl, hb, (hk g rfl).trans hg, rest⟩
def frRa (o : Ob) (r : Rs) (RR : Ob) (rb : Bool) (asked got y1 y2 : Int) (pa ua xa : Option Addr) (pc uc xc n0 n2 : Nat) (t : Nat → Value) : Act := { tmps := #[.agg #[.string o.k, .slice pa o.l.length pc, .int .i64 o.r.s, .slice ua o.r.l.length uc, .string o.r.b, .int .i64 o.asked, .int .i64 o.got, .int .i64 o.ep], .agg #[.int .i64 r.s, .slice xa r.l.length xc, .string r.b], .int .i64 asked, .int .i64 got, .pointer (some ⟨n0, 0, none⟩), .pointer (some ⟨n0 + 1, 0, none⟩), undef, undef, .bool false, .int .i64 y2, t 10, undef, undef, undef, undef, undef, undef, undef, undef, undef, undef, .agg #[.string o.k, .slice pa o.l.length pc, .int .i64 o.r.s, .slice ua o.r.l.length uc, .string o.r.b, .int .i64 o.asked, .int .i64 o.got, .int .i64 o.ep], .int .i64 1048576, .int .i64 y1, .int .i64 y1, .bool (decide (y1 < 0)), .agg #[.int .i64 r.s, .slice xa r.l.length xc, .string r.b], .int .i64 y1, .int .i64 y2, .int .i64 y2, .bool (decide (y2 < 0)), t 31, t 32, t 33, t 34, t 35, t 36, t 37, t 38, t 39, t 40, undef, undef, undef, undef, undef, undef, undef, undef, undef, undef, undef, undef, undef, undef, undef, undef, undef, undef, undef, undef, undef, undef, undef, undef, undef, undef, undef, undef, undef, undef, undef, undef, undef, undef, undef, undef, undef, undef, undef, undef, undef, undef, undef, undef, undef, undef, undef, undef, undef, undef, undef, undef, undef, undef, undef, undef, undef, undef, undef, undef, undef, undef, undef, undef, undef, undef, undef, undef, undef, undef, undef, undef, undef, undef, undef, undef, undef, undef, undef, undef, undef, undef, undef, undef, undef, undef, undef, undef], defers := [] }
def dRa (i : Nat) : Nat := if i = 0 then 32 else if i = 1 then 33 else if i = 2 then 34 else if i = 3 then 35 else if i = 4 then 36 else if i = 5 then 37 else if i = 6 then 38 else if i = 7 then 31 else if i = 8 then 39 else if i = 9 then 40 else if i = 10 then 10 else if i = 11 then 1011 else i + 5000
def GRa (o : Ob) (r : Rs) (RR : Ob) (rb : Bool) (asked got y1 y2 : Int) (pa ua xa : Option Addr) (pc uc xc n0 n2 : Nat) (i : Nat) (x : World) (v : Value) : Prop := match i with
  | 0 => v = (.agg #[.string o.k, .slice pa o.l.length pc, .int .i64 o.r.s, .slice ua o.r.l.length uc, .string o.r.b, .int .i64 o.asked, .int .i64 o.got, .int .i64 o.ep])
  | 1 => ∃ (a1 : Option Addr) (c1 : Nat) (a2 : Option Addr) (c2 : Nat), v = (.agg #[.string o.k, .slice a1 o.l.length c1, .int .i64 o.r.s, .slice a2 o.r.l.length c2, .string o.r.b, .int .i64 o.asked, .int .i64 o.got, .int .i64 o.ep]) ∧ HasF x n2 (.slice a1 o.l.length c1) o.l ∧ HasF x n2 (.slice a2 o.r.l.length c2) o.r.l
  | 2 => v = (.agg #[.int .i64 r.s, .slice xa r.l.length xc, .string r.b])
  | 3 => ∃ (a1 : Option Addr) (c1 : Nat), v = (.agg #[.int .i64 r.s, .slice a1 r.l.length c1, .string r.b]) ∧ HasF x n2 (.slice a1 r.l.length c1) r.l
  | 4 => v = (.int .i64 asked)
  | 5 => v = (.int .i64 got)
  | 6 => ∃ (a1 : Option Addr) (c1 : Nat) (a2 : Option Addr) (c2 : Nat), v = .tuple #[.agg #[.string RR.k, .slice a1 RR.l.length c1, .int .i64 RR.r.s, .slice a2 RR.r.l.length c2, .string RR.r.b, .int .i64 RR.asked, .int .i64 RR.got, .int .i64 RR.ep], .bool rb] ∧ HasF x n2 (.slice a1 RR.l.length c1) RR.l ∧ HasF x n2 (.slice a2 RR.r.l.length c2) RR.r.l
  | 7 => ∃ (a1 : Option Addr) (c1 : Nat) (a2 : Option Addr) (c2 : Nat), v = .tuple #[.agg #[.string RR.k, .slice a1 RR.l.length c1, .int .i64 RR.r.s, .slice a2 RR.r.l.length c2, .string RR.r.b, .int .i64 RR.asked, .int .i64 RR.got, .int .i64 RR.ep], .bool rb] ∧ HasF x n2 (.slice a1 RR.l.length c1) RR.l ∧ HasF x n2 (.slice a2 RR.r.l.length c2) RR.r.l
  | 8 => ∃ (a1 : Option Addr) (c1 : Nat) (a2 : Option Addr) (c2 : Nat), v = (.agg #[.string RR.k, .slice a1 RR.l.length c1, .int .i64 RR.r.s, .slice a2 RR.r.l.length c2, .string RR.r.b, .int .i64 RR.asked, .int .i64 RR.got, .int .i64 RR.ep]) ∧ HasF x n2 (.slice a1 RR.l.length c1) RR.l ∧ HasF x n2 (.slice a2 RR.r.l.length c2) RR.r.l
  | 9 => v = .bool rb
  | 10 => ∃ gb, v = .pointer (some ⟨gb, 0, none⟩) ∧ OBk x gb ∧ n2 ≤ gb
  | 11 => True
  | _ => True
theorem GRa.keep (o : Ob) (r : Rs) (RR : Ob) (rb : Bool) (asked got y1 y2 : Int) (pa ua xa : Option Addr) (pc uc xc n0 n2 : Nat) {x y : World} (hb : Kps x y) (j : Nat) (v : Value) (hj : j < 12) (h : GRa o r RR rb asked got y1 y2 pa ua xa pc uc xc n0 n2 j x v) : GRa o r RR rb asked got y1 y2 pa ua xa pc uc xc n0 n2 j y v := by
  rcases (show j = 0 ∨ j = 1 ∨ j = 2 ∨ j = 3 ∨ j = 4 ∨ j = 5 ∨ j = 6 ∨ j = 7 ∨ j = 8 ∨ j = 9 ∨ j = 10 ∨ j = 11 by omega) with rfl | rfl | rfl | rfl | rfl | rfl | rfl | rfl | rfl | rfl | rfl | rfl
  · exact h
  · obtain ⟨a1, c1, a2, c2, h1, h2, h3⟩ := h; exact ⟨a1, c1, a2, c2, h1, h2.kps hb, h3.kps hb⟩
  · exact h
  · obtain ⟨a1, c1, h1, h2⟩ := h; exact ⟨a1, c1, h1, h2.kps hb⟩
  · exact h
  · exact h
  · obtain ⟨a1, c1, a2, c2, h1, h2, h3⟩ := h; exact ⟨a1, c1, a2, c2, h1, h2.kps hb, h3.kps hb⟩
  · obtain ⟨a1, c1, a2, c2, h1, h2, h3⟩ := h; exact ⟨a1, c1, a2, c2, h1, h2.kps hb, h3.kps hb⟩
  · obtain ⟨a1, c1, a2, c2, h1, h2, h3⟩ := h; exact ⟨a1, c1, a2, c2, h1, h2.kps hb, h3.kps hb⟩
  · exact h
  · obtain ⟨g1, h1, h2, h3⟩ := h; exact ⟨g1, h1, hb.o g1 h2, h3⟩
  · trivial
theorem dRa_ne {i j : Nat} (hi : i < 12) (hj : j < 12) (h : j ≠ i) : dRa j ≠ dRa i := by
  rcases (show i = 0 ∨ i = 1 ∨ i = 2 ∨ i = 3 ∨ i = 4 ∨ i = 5 ∨ i = 6 ∨ i = 7 ∨ i = 8 ∨ i = 9 ∨ i = 10 ∨ i = 11 by omega) with rfl | rfl | rfl | rfl | rfl | rfl | rfl | rfl | rfl | rfl | rfl | rfl <;> rcases (show j = 0 ∨ j = 1 ∨ j = 2 ∨ j = 3 ∨ j = 4 ∨ j = 5 ∨ j = 6 ∨ j = 7 ∨ j = 8 ∨ j = 9 ∨ j = 10 ∨ j = 11 by omega) with rfl | rfl | rfl | rfl | rfl | rfl | rfl | rfl | rfl | rfl | rfl | rfl <;> first | (exact absurd rfl h) | decide
def frRb (s : Nat → Value) (o : Ob) (r : Rs) (pa ua xa a3 a4 a5 : Option Addr) (pc uc xc c3 c4 c5 n2 : Nat) (t : Nat → Value) : Act := { tmps := #[s 0, s 1, s 2, s 3, s 4, s 5, s 6, s 7, s 8, s 9, s 10, s 11, s 12, s 13, s 14, s 15, s 16, s 17, s 18, s 19, s 20, s 21, s 22, s 23, s 24, s 25, s 26, s 27, s 28, s 29, s 30, s 31, s 32, s 33, s 34, s 35, s 36, s 37, s 38, s 39, s 40, s 41, s 42, s 43, s 44, s 45, s 46, s 47, s 48, s 49, s 50, s 51, s 52, s 53, s 54, s 55, s 56, s 57, s 58, s 59, s 60, s 61, t 62, t 63, t 64, t 65, undef, undef, undef, undef, undef, undef, undef, undef, undef, undef, undef, undef, undef, undef, undef, undef, undef, undef, undef, undef, undef, undef, undef, undef, undef, undef, undef, undef, undef, undef, undef, undef, undef, undef, undef, undef, undef, undef, undef, undef, undef, undef, undef, undef, undef, undef, undef, undef, undef, undef, undef, undef, undef, undef, undef, undef, undef, undef, undef, undef, undef, undef, undef], defers := [] }
def dRb (i : Nat) : Nat := if i = 0 then 62 else if i = 1 then 63 else if i = 2 then 64 else if i = 3 then 65 else i + 5000
def GRb (s : Nat → Value) (o : Ob) (r : Rs) (pa ua xa a3 a4 a5 : Option Addr) (pc uc xc c3 c4 c5 n2 : Nat) (i : Nat) (x : World) (v : Value) : Prop := match i with
  | 0 => v = (.agg #[.string o.k, .slice a3 o.l.length c3, .int .i64 o.r.s, .slice a4 o.r.l.length c4, .string o.r.b, .int .i64 o.asked, .int .i64 o.got, .int .i64 o.ep])
  | 1 => v = (.agg #[.string o.k, .slice pa o.l.length pc, .int .i64 o.r.s, .slice ua o.r.l.length uc, .string o.r.b, .int .i64 o.asked, .int .i64 o.got, .int .i64 o.ep])
  | 2 => ∃ (a1 : Option Addr) (c1 : Nat) (a2 : Option Addr) (c2 : Nat), v = (.agg #[.string o.k, .slice a1 o.l.length c1, .int .i64 o.r.s, .slice a2 o.r.l.length c2, .string o.r.b, .int .i64 o.asked, .int .i64 o.got, .int .i64 o.ep]) ∧ HasF x n2 (.slice a1 o.l.length c1) o.l ∧ HasF x n2 (.slice a2 o.r.l.length c2) o.r.l
  | 3 => v = .bool true
  | _ => True
theorem GRb.keep (s : Nat → Value) (o : Ob) (r : Rs) (pa ua xa a3 a4 a5 : Option Addr) (pc uc xc c3 c4 c5 n2 : Nat) {x y : World} (hb : Below x.heap.size x y) (j : Nat) (v : Value) (hj : j < 4) (h : GRb s o r pa ua xa a3 a4 a5 pc uc xc c3 c4 c5 n2 j x v) : GRb s o r pa ua xa a3 a4 a5 pc uc xc c3 c4 c5 n2 j y v := by
  rcases (show j = 0 ∨ j = 1 ∨ j = 2 ∨ j = 3 by omega) with rfl | rfl | rfl | rfl
  · exact h
  · exact h
  · obtain ⟨a1, c1, a2, c2, h1, h2, h3⟩ := h; exact ⟨a1, c1, a2, c2, h1, h2.kept hb, h3.kept hb⟩
  · exact h
theorem dRb_ne {i j : Nat} (hi : i < 4) (hj : j < 4) (h : j ≠ i) : dRb j ≠ dRb i := by
  rcases (show i = 0 ∨ i = 1 ∨ i = 2 ∨ i = 3 by omega) with rfl | rfl | rfl | rfl <;> rcases (show j = 0 ∨ j = 1 ∨ j = 2 ∨ j = 3 by omega) with rfl | rfl | rfl | rfl <;> first | (exact absurd rfl h) | decide
def frRc (s : Nat → Value) (o : Ob) (r : Rs) (pa ua xa a3 a4 a5 : Option Addr) (pc uc xc c3 c4 c5 n2 : Nat) (t : Nat → Value) : Act := { tmps := #[s 0, s 1, s 2, s 3, s 4, s 5, s 6, s 7, s 8, s 9, s 10, s 11, s 12, s 13, s 14, s 15, s 16, s 17, s 18, s 19, s 20, s 21, s 22, s 23, s 24, s 25, s 26, s 27, s 28, s 29, s 30, s 31, s 32, s 33, s 34, s 35, s 36, s 37, s 38, s 39, s 40, s 41, s 42, s 43, s 44, s 45, s 46, s 47, s 48, s 49, s 50, s 51, s 52, s 53, s 54, s 55, s 56, s 57, s 58, s 59, s 60, s 61, s 62, s 63, s 64, s 65, s 66, t 67, t 68, t 69, t 70, undef, undef, undef, undef, undef, undef, undef, undef, undef, undef, undef, undef, undef, undef, undef, undef, undef, undef, undef, undef, undef, undef, undef, undef, undef, undef, undef, undef, undef, undef, undef, undef, undef, undef, undef, undef, undef, undef, undef, undef, undef, undef, undef, undef, undef, undef, undef, undef, undef, undef, undef, undef, undef, undef, undef, undef, undef, undef], defers := [] }
def dRc (i : Nat) : Nat := if i = 0 then 67 else if i = 1 then 68 else if i = 2 then 69 else if i = 3 then 70 else i + 5000
def GRc (s : Nat → Value) (o : Ob) (r : Rs) (pa ua xa a3 a4 a5 : Option Addr) (pc uc xc c3 c4 c5 n2 : Nat) (i : Nat) (x : World) (v : Value) : Prop := match i with
  | 0 => v = (.agg #[.int .i64 r.s, .slice a5 r.l.length c5, .string r.b])
  | 1 => v = (.agg #[.int .i64 r.s, .slice xa r.l.length xc, .string r.b])
  | 2 => ∃ (a1 : Option Addr) (c1 : Nat), v = (.agg #[.int .i64 r.s, .slice a1 r.l.length c1, .string r.b]) ∧ HasF x n2 (.slice a1 r.l.length c1) r.l
  | 3 => v = .bool true
  | _ => True
theorem GRc.keep (s : Nat → Value) (o : Ob) (r : Rs) (pa ua xa a3 a4 a5 : Option Addr) (pc uc xc c3 c4 c5 n2 : Nat) {x y : World} (hb : Below x.heap.size x y) (j : Nat) (v : Value) (hj : j < 4) (h : GRc s o r pa ua xa a3 a4 a5 pc uc xc c3 c4 c5 n2 j x v) : GRc s o r pa ua xa a3 a4 a5 pc uc xc c3 c4 c5 n2 j y v := by
  rcases (show j = 0 ∨ j = 1 ∨ j = 2 ∨ j = 3 by omega) with rfl | rfl | rfl | rfl
  · exact h
  · exact h
  · obtain ⟨a1, c1, h1, h2⟩ := h; exact ⟨a1, c1, h1, h2.kept hb⟩
  · exact h
theorem dRc_ne {i j : Nat} (hi : i < 4) (hj : j < 4) (h : j ≠ i) : dRc j ≠ dRc i := by
  rcases (show i = 0 ∨ i = 1 ∨ i = 2 ∨ i = 3 by omega) with rfl | rfl | rfl | rfl <;> rcases (show j = 0 ∨ j = 1 ∨ j = 2 ∨ j = 3 by omega) with rfl | rfl | rfl | rfl <;> first | (exact absurd rfl h) | decide
def frRd (s : Nat → Value) (o : Ob) (r : Rs) (RR : Ob) (rb : Bool) (asked got : Int) (pa ua xa : Option Addr) (pc uc xc n0 n2 : Nat) (t : Nat → Value) : Act := { tmps := #[s 0, s 1, s 2, s 3, s 4, s 5, s 6, s 7, s 8, s 9, s 10, s 11, s 12, s 13, s 14, s 15, s 16, s 17, s 18, t 19, s 20, s 21, s 22, s 23, s 24, s 25, s 26, s 27, s 28, s 29, s 30, s 31, s 32, s 33, s 34, s 35, s 36, s 37, s 38, s 39, s 40, s 41, s 42, s 43, s 44, s 45, s 46, s 47, s 48, s 49, s 50, s 51, s 52, s 53, s 54, s 55, s 56, s 57, s 58, s 59, s 60, s 61, s 62, s 63, s 64, s 65, s 66, s 67, s 68, s 69, s 70, s 71, s 72, s 73, s 74, s 75, s 76, s 77, s 78, s 79, s 80, s 81, s 82, s 83, s 84, s 85, s 86, s 87, s 88, s 89, s 90, s 91, s 92, s 93, s 94, s 95, s 96, s 97, s 98, s 99, s 100, s 101, t 102, t 103, t 104, t 105, t 106, t 107, t 108, t 109, t 110, t 111, undef, undef, undef, undef, undef, undef, undef, undef, undef, undef, undef, undef, undef, undef, undef, undef, undef], defers := [] }
def dRd (i : Nat) : Nat := if i = 0 then 103 else if i = 1 then 104 else if i = 2 then 105 else if i = 3 then 106 else if i = 4 then 107 else if i = 5 then 108 else if i = 6 then 109 else if i = 7 then 102 else if i = 8 then 110 else if i = 9 then 111 else if i = 10 then 19 else if i = 11 then 1011 else i + 5000
def GRd (s : Nat → Value) (o : Ob) (r : Rs) (RR : Ob) (rb : Bool) (asked got : Int) (pa ua xa : Option Addr) (pc uc xc n0 n2 : Nat) (i : Nat) (x : World) (v : Value) : Prop := match i with
  | 0 => v = (.agg #[.string o.k, .slice pa o.l.length pc, .int .i64 o.r.s, .slice ua o.r.l.length uc, .string o.r.b, .int .i64 o.asked, .int .i64 o.got, .int .i64 o.ep])
  | 1 => ∃ (a1 : Option Addr) (c1 : Nat) (a2 : Option Addr) (c2 : Nat), v = (.agg #[.string o.k, .slice a1 o.l.length c1, .int .i64 o.r.s, .slice a2 o.r.l.length c2, .string o.r.b, .int .i64 o.asked, .int .i64 o.got, .int .i64 o.ep]) ∧ HasF x n2 (.slice a1 o.l.length c1) o.l ∧ HasF x n2 (.slice a2 o.r.l.length c2) o.r.l
  | 2 => v = (.agg #[.int .i64 r.s, .slice xa r.l.length xc, .string r.b])
  | 3 => ∃ (a1 : Option Addr) (c1 : Nat), v = (.agg #[.int .i64 r.s, .slice a1 r.l.length c1, .string r.b]) ∧ HasF x n2 (.slice a1 r.l.length c1) r.l
  | 4 => v = (.int .i64 asked)
  | 5 => v = (.int .i64 got)
  | 6 => ∃ (a1 : Option Addr) (c1 : Nat) (a2 : Option Addr) (c2 : Nat), v = .tuple #[.agg #[.string RR.k, .slice a1 RR.l.length c1, .int .i64 RR.r.s, .slice a2 RR.r.l.length c2, .string RR.r.b, .int .i64 RR.asked, .int .i64 RR.got, .int .i64 RR.ep], .bool rb] ∧ HasF x n2 (.slice a1 RR.l.length c1) RR.l ∧ HasF x n2 (.slice a2 RR.r.l.length c2) RR.r.l
  | 7 => ∃ (a1 : Option Addr) (c1 : Nat) (a2 : Option Addr) (c2 : Nat), v = .tuple #[.agg #[.string RR.k, .slice a1 RR.l.length c1, .int .i64 RR.r.s, .slice a2 RR.r.l.length c2, .string RR.r.b, .int .i64 RR.asked, .int .i64 RR.got, .int .i64 RR.ep], .bool rb] ∧ HasF x n2 (.slice a1 RR.l.length c1) RR.l ∧ HasF x n2 (.slice a2 RR.r.l.length c2) RR.r.l
  | 8 => ∃ (a1 : Option Addr) (c1 : Nat) (a2 : Option Addr) (c2 : Nat), v = (.agg #[.string RR.k, .slice a1 RR.l.length c1, .int .i64 RR.r.s, .slice a2 RR.r.l.length c2, .string RR.r.b, .int .i64 RR.asked, .int .i64 RR.got, .int .i64 RR.ep]) ∧ HasF x n2 (.slice a1 RR.l.length c1) RR.l ∧ HasF x n2 (.slice a2 RR.r.l.length c2) RR.r.l
  | 9 => v = .bool rb
  | 10 => ∃ gb, v = .pointer (some ⟨gb, 0, none⟩) ∧ OBk x gb ∧ n2 ≤ gb
  | 11 => True
  | _ => True
theorem GRd.keep (s : Nat → Value) (o : Ob) (r : Rs) (RR : Ob) (rb : Bool) (asked got : Int) (pa ua xa : Option Addr) (pc uc xc n0 n2 : Nat) {x y : World} (hb : Kps x y) (j : Nat) (v : Value) (hj : j < 12) (h : GRd s o r RR rb asked got pa ua xa pc uc xc n0 n2 j x v) : GRd s o r RR rb asked got pa ua xa pc uc xc n0 n2 j y v := by
  rcases (show j = 0 ∨ j = 1 ∨ j = 2 ∨ j = 3 ∨ j = 4 ∨ j = 5 ∨ j = 6 ∨ j = 7 ∨ j = 8 ∨ j = 9 ∨ j = 10 ∨ j = 11 by omega) with rfl | rfl | rfl | rfl | rfl | rfl | rfl | rfl | rfl | rfl | rfl | rfl
  · exact h
  · obtain ⟨a1, c1, a2, c2, h1, h2, h3⟩ := h; exact ⟨a1, c1, a2, c2, h1, h2.kps hb, h3.kps hb⟩
  · exact h
  · obtain ⟨a1, c1, h1, h2⟩ := h; exact ⟨a1, c1, h1, h2.kps hb⟩
  · exact h
  · exact h
  · obtain ⟨a1, c1, a2, c2, h1, h2, h3⟩ := h; exact ⟨a1, c1, a2, c2, h1, h2.kps hb, h3.kps hb⟩
  · obtain ⟨a1, c1, a2, c2, h1, h2, h3⟩ := h; exact ⟨a1, c1, a2, c2, h1, h2.kps hb, h3.kps hb⟩
  · obtain ⟨a1, c1, a2, c2, h1, h2, h3⟩ := h; exact ⟨a1, c1, a2, c2, h1, h2.kps hb, h3.kps hb⟩
  · exact h
  · obtain ⟨g1, h1, h2, h3⟩ := h; exact ⟨g1, h1, hb.o g1 h2, h3⟩
  · trivial
theorem dRd_ne {i j : Nat} (hi : i < 12) (hj : j < 12) (h : j ≠ i) : dRd j ≠ dRd i := by
  rcases (show i = 0 ∨ i = 1 ∨ i = 2 ∨ i = 3 ∨ i = 4 ∨ i = 5 ∨ i = 6 ∨ i = 7 ∨ i = 8 ∨ i = 9 ∨ i = 10 ∨ i = 11 by omega) with rfl | rfl | rfl | rfl | rfl | rfl | rfl | rfl | rfl | rfl | rfl | rfl <;> rcases (show j = 0 ∨ j = 1 ∨ j = 2 ∨ j = 3 ∨ j = 4 ∨ j = 5 ∨ j = 6 ∨ j = 7 ∨ j = 8 ∨ j = 9 ∨ j = 10 ∨ j = 11 by omega) with rfl | rfl | rfl | rfl | rfl | rfl | rfl | rfl | rfl | rfl | rfl | rfl <;> first | (exact absurd rfl h) | decide
set_option maxRecDepth 100000 in
set_option maxHeartbeats 16000000 in
theorem walkRen (X : World → Prop) (hX : ∀ w w', X w → Below w.heap.size w w' → X w')
    (hiR : ∀ (o : Ob) (v u : Value) (r : Rs) (x : Value) (asked got : Int) (w : World), X w → ObIn w v u o → RsIn w x r → Calls Tryd.prog 13 #[obV o v u, rsV r x, .int .i64 asked, .int .i64 got] w fun e w' => ∃ v' u', e = .returned (.tuple #[obV (renV o r asked got).1 v' u', .bool (renV o r asked got).2]) ∧ HasF w' w.heap.size v' (renV o r asked got).1.l ∧ HasF w' w.heap.size u' (renV o r asked got).1.r.l ∧ (∀ g, v'.ownBlock = some g → u'.ownBlock ≠ some g) ∧ Below w.heap.size w w')
    (o : Ob) (p u : Value) (r : Rs) (x : Value) (asked got : Int) (w : World) (h : ObGot w p u o) (hr : RsGot w x r) (hx : X w) :
    Calls Tryd.prog 4 #[obV o p u, rsV r x, .int .i64 asked, .int .i64 got] w fun e w' => e = .returned (.bool true) ∧ Below w.heap.size w w' := by
  obtain ⟨pa, pc, rfl, hcp⟩ := id h.1
  obtain ⟨ua, uc, rfl, hcu⟩ := id h.2.2.2.1.1
  obtain ⟨xa, xc, rfl, hcx⟩ := id hr.1
  clear hcp hcu hcx
  have Q0 : Hid (ObB ((w.alloc (.cells #[.string o.k, .slice pa o.l.length pc, .int .i64 o.r.s, .slice ua o.r.l.length uc, .string o.r.b, .int .i64 o.asked, .int .i64 o.got, .int .i64 o.ep] 26)).alloc (.cells #[.int .i64 r.s, .slice xa r.l.length xc, .string r.b] 24)) w.heap.size o (.slice pa o.l.length pc) (.slice ua o.r.l.length uc)) := (ObB.new w o _ _ _).alloc _
  have R0 : Hid (RsB ((w.alloc (.cells #[.string o.k, .slice pa o.l.length pc, .int .i64 o.r.s, .slice ua o.r.l.length uc, .string o.r.b, .int .i64 o.asked, .int .i64 o.got, .int .i64 o.ep] 26)).alloc (.cells #[.int .i64 r.s, .slice xa r.l.length xc, .string r.b] 24)) (w.heap.size + 1) r (.slice xa r.l.length xc)) := by
    have := RsB.new (w.alloc (.cells #[.string o.k, .slice pa o.l.length pc, .int .i64 o.r.s, .slice ua o.r.l.length uc, .string o.r.b, .int .i64 o.asked, .int .i64 o.got, .int .i64 o.ep] 26)) r (.slice xa r.l.length xc) 24
    simp only [World.size_alloc] at this
    exact this
  have B0 : Hid (Below w.heap.size w ((w.alloc (.cells #[.string o.k, .slice pa o.l.length pc, .int .i64 o.r.s, .slice ua o.r.l.length uc, .string o.r.b, .int .i64 o.asked, .int .i64 o.got, .int .i64 o.ep] 26)).alloc (.cells #[.int .i64 r.s, .slice xa r.l.length xc, .string r.b] 24))) := ((Below.refl _ w).alloc (Nat.le_refl _) _).alloc (by simp) _
  have KA : Hid (ObGot w (.slice pa o.l.length pc) (.slice ua o.r.l.length uc) o ∧ RsGot w (.slice xa r.l.length xc) r) := ⟨h, hr⟩
  have XX : Hid (∀ W, Below w.heap.size w W → X W) := fun W hb => hX w W hx hb
  have j1 := fun W hW => lawSzOb o (.slice pa o.l.length pc) (.slice ua o.r.l.length uc) W hW
  have j2 := fun y W h0 h1 hW => lawSzRsX r (.slice xa r.l.length xc) y W h0 h1 hW
  clear h hr hx hX
  unfold obV at j1 ⊢
  unfold rsV at j2 ⊢
  go_enter Tryd.func4, Tryd.ntmps4
  go_wp2_with fail
  refine (j1 _ (KA.out.1.kept B0.out)).mono ?_
  rintro e w1 ⟨⟨y1, rfl, hy1⟩, hb1⟩
  have Q1 : Hid (ObB w1 w.heap.size o (.slice pa o.l.length pc) (.slice ua o.r.l.length uc)) := Q0.out.next hb1
  have R1 : Hid (RsB w1 (w.heap.size + 1) r (.slice xa r.l.length xc)) := R0.out.next hb1
  have B1 : Hid (Below w.heap.size w w1) := past6 B0.out hb1
  clear hb1 Q0 R0 B0 j1
  rcases hy1 with rfl | ⟨hy0, hys⟩
  · go_wp2
    go_ret
    exact ⟨rfl, B1.out⟩
  have hyn : ¬ y1 < 0 := by omega
  obtain ⟨c0, c1, c2, cf, ch⟩ := R1.out
  go_wp2_with fail
  refine (j2 y1 _ hy0 (by omega) (KA.out.2.kept10 B1.out)).mono ?_
  rintro e w2 ⟨⟨y2, rfl, hy2⟩, hb2⟩
  have Q2 : Hid (ObB w2 w.heap.size o (.slice pa o.l.length pc) (.slice ua o.r.l.length uc)) := Q1.out.next hb2
  have R2 : Hid (RsB w2 (w.heap.size + 1) r (.slice xa r.l.length xc)) := R1.out.next hb2
  have B2 : Hid (Below w.heap.size w w2) := past6 B1.out hb2
  clear hb2 Q1 R1 B1 j2 c0 c1 c2 cf ch
  rcases hy2 with rfl | ⟨hy3, hyt⟩
  · go_wp2
    go_ret
    exact ⟨rfl, B2.out⟩
  have hyn2 : ¬ y2 < 0 := by omega
  have hk1 : o.k.size ≤ 1048576 := by omega
  have hl1 : o.l.length ≤ 1048576 := by omega
  have hl2 : o.r.l.length ≤ 1048576 := by omega
  have hl3 : r.l.length ≤ 1048576 := by omega
  have HIN : Hid (∀ W B v u, OwnsF W B v o.l → OwnsF W B u o.r.l → ObIn W v u o) := fun W B v u a b => ⟨a.fits10 (by omega) (by omega), ⟨b.fits10 (by omega) (by omega), by omega⟩, by omega⟩
  have HRN : Hid (∀ W B v, OwnsF W B v r.l → RsIn W v r) := fun W B v a => ⟨a.fits10 (by omega) (by omega), by omega⟩
  have HSR : Hid (∀ W a1 c1 a2 c2 a3 c3, HasF W w2.heap.size (.slice a1 o.l.length c1) o.l → HasF W w2.heap.size (.slice a2 o.r.l.length c2) o.r.l → HasF W w2.heap.size (.slice a3 r.l.length c3) r.l → True) := fun _ _ _ _ _ _ _ _ _ _ => trivial
  clear HSR
  have HOI : Hid (∀ W B v u, HasF W B v o.l → HasF W B u o.r.l → ObIn W v u o) := fun W B v u a b => ⟨a.fitsR (by omega) (by omega), ⟨b.fitsR (by omega) (by omega), by omega⟩, by omega⟩
  have HRI : Hid (∀ W B v, HasF W B v r.l → RsIn W v r) := fun W B v a => ⟨a.fitsR (by omega) (by omega), by omega⟩
  have hsm := renV_sm o r asked got
  have HSR : Hid (∀ (W : World) v u x, HasF W w2.heap.size v o.l → HasF W w2.heap.size u o.r.l → HasF W w2.heap.size x r.l → Calls Tryd.prog 11 #[obV o v u, rsV r x, .int .i64 asked, .int .i64 got] W fun e w' => ∃ v' u', e = .returned (.tuple #[obV (renV o r asked got).1 v' u', .bool (renV o r asked got).2]) ∧ OwnsF w' W.heap.size v' (renV o r asked got).1.l ∧ OwnsF w' W.heap.size u' (renV o r asked got).1.r.l ∧ (∀ g, v'.ownBlock = some g → u'.ownBlock ≠ some g) ∧ Below W.heap.size W w') := fun W v u x a b c => specRen o v u r x asked got W (HOI.out W _ v u a b) (HRI.out W _ x c)
  have HIR : Hid (∀ (W : World) B v u x, Below w.heap.size w W → HasF W B v o.l → HasF W B u o.r.l → HasF W B x r.l → Calls Tryd.prog 13 #[obV o v u, rsV r x, .int .i64 asked, .int .i64 got] W fun e w' => ∃ v' u', e = .returned (.tuple #[obV (renV o r asked got).1 v' u', .bool (renV o r asked got).2]) ∧ HasF w' W.heap.size v' (renV o r asked got).1.l ∧ HasF w' W.heap.size u' (renV o r asked got).1.r.l ∧ (∀ g, v'.ownBlock = some g → u'.ownBlock ≠ some g) ∧ Below W.heap.size W w') := fun W B v u x hb a b c => hiR o v u r x asked got W (XX.out W hb) (HOI.out W B v u a b) (HRI.out W B x c)
  generalize renV o r asked got = RV at hsm HSR HIR
  obtain ⟨RR, rb⟩ := RV
  obtain ⟨hR1, hR2, hR3⟩ := hsm
  simp only at hR1 hR2 hR3
  clear hy0 hys hy3 hyt hiR HIN HRN
  have hn2 : w.heap.size + 1 < w2.heap.size := R2.out.hi
  go_upto_region 8 with fail
  refine region_headsL 12 mixed (by decide) (by kernel_rfl) (by kernel_rfl) (by kernel_rfl) (by kernel_rfl) (frRa o r RR rb asked got y1 y2 pa ua xa pc uc xc w.heap.size w2.heap.size) dRa (S8 w2 RR 10) (GRa o r RR rb asked got y1 y2 pa ua xa pc uc xc w.heap.size w2.heap.size) (fun i j hi hj h => dRa_ne hi hj h) ?put (fun _ => undef) rfl ?hS ?step ?done
  case put =>
    intro i o hi ho t v
    rcases (show i = 0 ∨ i = 1 ∨ i = 2 ∨ i = 3 ∨ i = 4 ∨ i = 5 ∨ i = 6 ∨ i = 7 ∨ i = 8 ∨ i = 9 ∨ i = 10 ∨ i = 11 by omega) with rfl | rfl | rfl | rfl | rfl | rfl | rfl | rfl | rfl | rfl | rfl | rfl
    all_goals
      obtain rfl := Option.some.inj ho
      rfl
  case step =>
    intro i o hi ho listed hnl hcl hls t x hS hdep K hK
    rcases (show i = 0 ∨ i = 1 ∨ i = 2 ∨ i = 3 ∨ i = 4 ∨ i = 5 ∨ i = 6 ∨ i = 7 ∨ i = 8 ∨ i = 9 ∨ i = 10 ∨ i = 11 by omega) with rfl | rfl | rfl | rfl | rfl | rfl | rfl | rfl | rfl | rfl | rfl | rfl
    all_goals obtain rfl := Option.some.inj ho
    · obtain ⟨c0, c1, c2, c3, c4, c5, c6, c7, _, _⟩ := Q2.out.next hS.1
      have HK : Hid (K ((frRa o r RR rb asked got y1 y2 pa ua xa pc uc xc w.heap.size w2.heap.size t).put (some 32) (.agg #[.string o.k, .slice pa o.l.length pc, .int .i64 o.r.s, .slice ua o.r.l.length uc, .string o.r.b, .int .i64 o.asked, .int .i64 o.got, .int .i64 o.ep])) x) := hK _ _ (hS.upd (by decide) (by decide) (Below.refl _ _)) (fun j u hj hne h => h) rfl
      have h2 := HK.out
      unfold frRa at h2 ⊢
      go_simp
      simpa [Act.put, c0, c1, c2, c3, c4, c5, c6, c7] using h2
    · have e0 : t 32 = (.agg #[.string o.k, .slice pa o.l.length pc, .int .i64 o.r.s, .slice ua o.r.l.length uc, .string o.r.b, .int .i64 o.asked, .int .i64 o.got, .int .i64 o.ep]) := hdep { on := 0, ground := Ground.data } (by simp) rfl
      refine step_call1 rfl 7 (.tmp 32) _ rfl (.agg #[.string o.k, .slice pa o.l.length pc, .int .i64 o.r.s, .slice ua o.r.l.length uc, .string o.r.b, .int .i64 o.asked, .int .i64 o.got, .int .i64 o.ep]) e0 (Go.Proofs.enters_of Tryd.func7 (by kernel_rfl) rfl _) (fun v y => (∃ (a1 : Option Addr) (c1 : Nat) (a2 : Option Addr) (c2 : Nat), v = (.agg #[.string o.k, .slice a1 o.l.length c1, .int .i64 o.r.s, .slice a2 o.r.l.length c2, .string o.r.b, .int .i64 o.asked, .int .i64 o.got, .int .i64 o.ep]) ∧ HasF y w2.heap.size (.slice a1 o.l.length c1) o.l ∧ HasF y w2.heap.size (.slice a2 o.r.l.length c2) o.r.l) ∧ Below x.heap.size x y) ((lawToOb o (.slice pa o.l.length pc) (.slice ua o.r.l.length uc) x (KA.out.1.1.kept (past6 B2.out hS.1)) (KA.out.1.2.2.2.1.1.kept (past6 B2.out hS.1)) hl1 hl2).mono ?_) ?_
      · rintro e y ⟨v2, u2, h0, h1, h2, _, h3⟩
        obtain ⟨a1, c1, rfl, _⟩ := h1.form
        obtain ⟨a2, c2, rfl, _⟩ := h2.form
        exact ⟨_, h0, ⟨a1, c1, a2, c2, rfl, (h1.low hS.1.size).has, (h2.low hS.1.size).has⟩, h3⟩
      · rintro v y ⟨h1, h2⟩
        exact hK v y (hS.upd (by decide) (by decide) h2) (fun j u hj hne h => GRa.keep o r RR rb asked got y1 y2 pa ua xa pc uc xc w.heap.size w2.heap.size (Kps.of h2) j u hj h) h1
    · obtain ⟨c0, c1, c2, _, _⟩ := R2.out.next hS.1
      have HK : Hid (K ((frRa o r RR rb asked got y1 y2 pa ua xa pc uc xc w.heap.size w2.heap.size t).put (some 34) (.agg #[.int .i64 r.s, .slice xa r.l.length xc, .string r.b])) x) := hK _ _ (hS.upd (by decide) (by decide) (Below.refl _ _)) (fun j u hj hne h => h) rfl
      have h2 := HK.out
      unfold frRa at h2 ⊢
      go_simp
      simpa [Act.put, c0, c1, c2] using h2
    · have e2 : t 34 = (.agg #[.int .i64 r.s, .slice xa r.l.length xc, .string r.b]) := hdep { on := 2, ground := Ground.data } (by simp) rfl
      refine step_call1 rfl 12 (.tmp 34) _ rfl (.agg #[.int .i64 r.s, .slice xa r.l.length xc, .string r.b]) e2 (Go.Proofs.enters_of Tryd.func12 (by kernel_rfl) rfl _) (fun v y => (∃ (a1 : Option Addr) (c1 : Nat), v = (.agg #[.int .i64 r.s, .slice a1 r.l.length c1, .string r.b]) ∧ HasF y w2.heap.size (.slice a1 r.l.length c1) r.l) ∧ Below x.heap.size x y) ((lawToRs r (.slice xa r.l.length xc) x (KA.out.2.1.kept (past6 B2.out hS.1)) hl3).mono ?_) ?_
      · rintro e y ⟨u2, h0, h1, h3⟩
        obtain ⟨a1, c1, rfl, _⟩ := h1.form
        exact ⟨_, h0, ⟨a1, c1, rfl, (h1.low hS.1.size).has⟩, h3⟩
      · rintro v y ⟨h1, h2⟩
        exact hK v y (hS.upd (by decide) (by decide) h2) (fun j u hj hne h => GRa.keep o r RR rb asked got y1 y2 pa ua xa pc uc xc w.heap.size w2.heap.size (Kps.of h2) j u hj h) h1
    · have HK : Hid (K ((frRa o r RR rb asked got y1 y2 pa ua xa pc uc xc w.heap.size w2.heap.size t).put (some 36) (.int .i64 asked)) x) := hK _ _ (hS.upd (by decide) (by decide) (Below.refl _ _)) (fun j u hj hne h => h) rfl
      have h2 := HK.out
      unfold frRa at h2 ⊢
      go_simp
      simpa [Act.put, Act.put] using h2
    · have HK : Hid (K ((frRa o r RR rb asked got y1 y2 pa ua xa pc uc xc w.heap.size w2.heap.size t).put (some 37) (.int .i64 got)) x) := hK _ _ (hS.upd (by decide) (by decide) (Below.refl _ _)) (fun j u hj hne h => h) rfl
      have h2 := HK.out
      unfold frRa at h2 ⊢
      go_simp
      simpa [Act.put, Act.put] using h2
    · have e1 : ∃ (a1 : Option Addr) (c1 : Nat) (a2 : Option Addr) (c2 : Nat), t 33 = (.agg #[.string o.k, .slice a1 o.l.length c1, .int .i64 o.r.s, .slice a2 o.r.l.length c2, .string o.r.b, .int .i64 o.asked, .int .i64 o.got, .int .i64 o.ep]) ∧ HasF x w2.heap.size (.slice a1 o.l.length c1) o.l ∧ HasF x w2.heap.size (.slice a2 o.r.l.length c2) o.r.l := hdep { on := 1, ground := Ground.data } (by simp) rfl
      obtain ⟨p1, d1, p2, d2, e1, h1a, h1b⟩ := e1
      have e3 : ∃ (a1 : Option Addr) (c1 : Nat), t 35 = (.agg #[.int .i64 r.s, .slice a1 r.l.length c1, .string r.b]) ∧ HasF x w2.heap.size (.slice a1 r.l.length c1) r.l := hdep { on := 3, ground := Ground.data } (by simp) rfl
      obtain ⟨p3, d3, e3, h3a⟩ := e3
      have e4 : t 36 = (.int .i64 asked) := hdep { on := 4, ground := Ground.data } (by simp) rfl
      have e5 : t 37 = (.int .i64 got) := hdep { on := 5, ground := Ground.data } (by simp) rfl
      have k1 : (frRa o r RR rb asked got y1 y2 pa ua xa pc uc xc w.heap.size w2.heap.size t).eval (.tmp 33) = (.agg #[.string o.k, .slice p1 o.l.length d1, .int .i64 o.r.s, .slice p2 o.r.l.length d2, .string o.r.b, .int .i64 o.asked, .int .i64 o.got, .int .i64 o.ep]) := e1
      have k3 : (frRa o r RR rb asked got y1 y2 pa ua xa pc uc xc w.heap.size w2.heap.size t).eval (.tmp 35) = (.agg #[.int .i64 r.s, .slice p3 r.l.length d3, .string r.b]) := e3
      have k4 : (frRa o r RR rb asked got y1 y2 pa ua xa pc uc xc w.heap.size w2.heap.size t).eval (.tmp 36) = .int .i64 asked := e4
      have k5 : (frRa o r RR rb asked got y1 y2 pa ua xa pc uc xc w.heap.size w2.heap.size t).eval (.tmp 37) = .int .i64 got := e5
      refine step_call rfl 11 #[.tmp 33, .tmp 35, .tmp 36, .tmp 37] _ rfl #[(.agg #[.string o.k, .slice p1 o.l.length d1, .int .i64 o.r.s, .slice p2 o.r.l.length d2, .string o.r.b, .int .i64 o.asked, .int .i64 o.got, .int .i64 o.ep]), (.agg #[.int .i64 r.s, .slice p3 r.l.length d3, .string r.b]), .int .i64 asked, .int .i64 got] (by simp [k1, k3, k4, k5]) (Go.Proofs.enters_of Tryd.func11 (by kernel_rfl) rfl _) (fun v y => (∃ (a1 : Option Addr) (c1 : Nat) (a2 : Option Addr) (c2 : Nat), v = .tuple #[.agg #[.string RR.k, .slice a1 RR.l.length c1, .int .i64 RR.r.s, .slice a2 RR.r.l.length c2, .string RR.r.b, .int .i64 RR.asked, .int .i64 RR.got, .int .i64 RR.ep], .bool rb] ∧ HasF y w2.heap.size (.slice a1 RR.l.length c1) RR.l ∧ HasF y w2.heap.size (.slice a2 RR.r.l.length c2) RR.r.l) ∧ Below x.heap.size x y) ((HSR.out x _ _ _ h1a h1b h3a).mono ?_) ?_
      · rintro e y ⟨v2, u2, h0, h1, h2, _, h3⟩
        obtain ⟨a1, c1, rfl, _⟩ := h1.form
        obtain ⟨a2, c2, rfl, _⟩ := h2.form
        exact ⟨_, h0, ⟨a1, c1, a2, c2, rfl, (h1.low hS.1.size).has, (h2.low hS.1.size).has⟩, h3⟩
      · rintro v y ⟨h1, h2⟩
        exact hK v y (hS.upd (by decide) (by decide) h2) (fun j u hj hne h => GRa.keep o r RR rb asked got y1 y2 pa ua xa pc uc xc w.heap.size w2.heap.size (Kps.of h2) j u hj h) h1
    · have e6 : ∃ (a1 : Option Addr) (c1 : Nat) (a2 : Option Addr) (c2 : Nat), t 38 = .tuple #[.agg #[.string RR.k, .slice a1 RR.l.length c1, .int .i64 RR.r.s, .slice a2 RR.r.l.length c2, .string RR.r.b, .int .i64 RR.asked, .int .i64 RR.got, .int .i64 RR.ep], .bool rb] ∧ HasF x w2.heap.size (.slice a1 RR.l.length c1) RR.l ∧ HasF x w2.heap.size (.slice a2 RR.r.l.length c2) RR.r.l := hdep { on := 6, ground := Ground.data } (by simp) rfl
      obtain ⟨a1, c1, a2, c2, e6, h6a, h6b⟩ := e6
      have HK : Hid (K ((frRa o r RR rb asked got y1 y2 pa ua xa pc uc xc w.heap.size w2.heap.size t).put (some 31) (.tuple #[.agg #[.string RR.k, .slice a1 RR.l.length c1, .int .i64 RR.r.s, .slice a2 RR.r.l.length c2, .string RR.r.b, .int .i64 RR.asked, .int .i64 RR.got, .int .i64 RR.ep], .bool rb])) x) := hK _ _ (hS.upd (by decide) (by decide) (Below.refl _ _)) (fun j u hj hne h => h) ⟨a1, c1, a2, c2, rfl, h6a, h6b⟩
      have h2 := HK.out
      unfold frRa at h2 ⊢
      go_simp
      simpa [Act.put, e6] using h2
    · have e7 : ∃ (a1 : Option Addr) (c1 : Nat) (a2 : Option Addr) (c2 : Nat), t 31 = .tuple #[.agg #[.string RR.k, .slice a1 RR.l.length c1, .int .i64 RR.r.s, .slice a2 RR.r.l.length c2, .string RR.r.b, .int .i64 RR.asked, .int .i64 RR.got, .int .i64 RR.ep], .bool rb] ∧ HasF x w2.heap.size (.slice a1 RR.l.length c1) RR.l ∧ HasF x w2.heap.size (.slice a2 RR.r.l.length c2) RR.r.l := hdep { on := 7, ground := Ground.data } (by simp) rfl
      obtain ⟨a1, c1, a2, c2, e7, h6a, h6b⟩ := e7
      have HK : Hid (K ((frRa o r RR rb asked got y1 y2 pa ua xa pc uc xc w.heap.size w2.heap.size t).put (some 39) (.agg #[.string RR.k, .slice a1 RR.l.length c1, .int .i64 RR.r.s, .slice a2 RR.r.l.length c2, .string RR.r.b, .int .i64 RR.asked, .int .i64 RR.got, .int .i64 RR.ep])) x) := hK _ _ (hS.upd (by decide) (by decide) (Below.refl _ _)) (fun j u hj hne h => h) ⟨a1, c1, a2, c2, rfl, h6a, h6b⟩
      have h2 := HK.out
      unfold frRa at h2 ⊢
      go_simp
      simpa [Act.put, e7] using h2
    · have e7 : ∃ (a1 : Option Addr) (c1 : Nat) (a2 : Option Addr) (c2 : Nat), t 31 = .tuple #[.agg #[.string RR.k, .slice a1 RR.l.length c1, .int .i64 RR.r.s, .slice a2 RR.r.l.length c2, .string RR.r.b, .int .i64 RR.asked, .int .i64 RR.got, .int .i64 RR.ep], .bool rb] ∧ HasF x w2.heap.size (.slice a1 RR.l.length c1) RR.l ∧ HasF x w2.heap.size (.slice a2 RR.r.l.length c2) RR.r.l := hdep { on := 7, ground := Ground.data } (by simp) rfl
      obtain ⟨a1, c1, a2, c2, e7, h6a, h6b⟩ := e7
      have HK : Hid (K ((frRa o r RR rb asked got y1 y2 pa ua xa pc uc xc w.heap.size w2.heap.size t).put (some 40) (.bool rb)) x) := hK _ _ (hS.upd (by decide) (by decide) (Below.refl _ _)) (fun j u hj hne h => h) rfl
      have h2 := HK.out
      unfold frRa at h2 ⊢
      go_simp
      simpa [Act.put, e7] using h2
    · have h11 : listed.getD 11 false = false := by
        cases hq : listed.getD 11 false with
        | false => rfl
        | true =>
          have := hcl 11 _ rfl hq { on := 10, ground := Ground.data } (by simp) rfl
          rw [hnl] at this
          cases this
      have hba := (Below.refl x.heap.size x).alloc (Nat.le_refl _) (.cells #[.string ⟨#[]⟩, .slice none 0 0, .int .i64 0, .slice none 0 0, .string ⟨#[]⟩, .int .i64 0, .int .i64 0, .int .i64 0] 33)
      have HK : Hid (K ((frRa o r RR rb asked got y1 y2 pa ua xa pc uc xc w.heap.size w2.heap.size t).put (some 10) (.pointer (some ⟨x.heap.size, 0, none⟩))) (x.alloc (.cells #[.string ⟨#[]⟩, .slice none 0 0, .int .i64 0, .slice none 0 0, .string ⟨#[]⟩, .int .i64 0, .int .i64 0, .int .i64 0] 33))) := hK _ _ (hS.new (by decide) h11 hba) (fun j u hj hne h => GRa.keep o r RR rb asked got y1 y2 pa ua xa pc uc xc w.heap.size w2.heap.size (Kps.of hba) j u hj h) ⟨x.heap.size, rfl, ⟨_, newAt x _, rfl⟩, hS.1.size⟩
      unfold frRa
      go_simp
      exact HK.out
    · have e8 : ∃ (a1 : Option Addr) (c1 : Nat) (a2 : Option Addr) (c2 : Nat), t 39 = (.agg #[.string RR.k, .slice a1 RR.l.length c1, .int .i64 RR.r.s, .slice a2 RR.r.l.length c2, .string RR.r.b, .int .i64 RR.asked, .int .i64 RR.got, .int .i64 RR.ep]) ∧ HasF x w2.heap.size (.slice a1 RR.l.length c1) RR.l ∧ HasF x w2.heap.size (.slice a2 RR.r.l.length c2) RR.r.l := hdep { on := 8, ground := Ground.data } (by simp) rfl
      obtain ⟨a1, c1, a2, c2, e8, h8a, h8b⟩ := e8
      have e10 : ∃ gb, t 10 = .pointer (some ⟨gb, 0, none⟩) ∧ OBk x gb ∧ w2.heap.size ≤ gb := hdep { on := 10, ground := Ground.data } (by simp) rfl
      obtain ⟨gb, e10, hX, hgb⟩ := e10
      have hkp := Kps.puL hX (obL RR (.slice a1 RR.l.length c1) (.slice a2 RR.r.l.length c2)) 0
      have hS2 : S8 w2 RR 10 (listed.setIfInBounds 11 true) (updH t (dRa 11) undef) (putL x gb (obL RR (.slice a1 RR.l.length c1) (.slice a2 RR.r.l.length c2)) 0) := ⟨putL_below hgb _ 0 hS.1, fun _ => ⟨gb, a1, c1, a2, c2, by rw [updH_other _ _ (by decide)]; exact e10, hgb, hX.puts RR _ _, h8a.kps hkp, h8b.kps hkp⟩⟩
      have HK : Hid (K ((frRa o r RR rb asked got y1 y2 pa ua xa pc uc xc w.heap.size w2.heap.size t).put none undef) (putL x gb (obL RR (.slice a1 RR.l.length c1) (.slice a2 RR.r.l.length c2)) 0)) := hK _ _ hS2 (fun j u hj hne h => GRa.keep o r RR rb asked got y1 y2 pa ua xa pc uc xc w.heap.size w2.heap.size hkp j u hj h) trivial
      obtain ⟨cc, hc1, hc2⟩ := hX
      obtain ⟨q0, q1, q2, q3, q4, q5, q6, q7, rfl⟩ := array8m hc2
      have z0 : x.cell? ⟨gb, 0, none⟩ = some q0 := rowCell hc1
      have z1 : x.cell? ⟨gb, 1, none⟩ = some q1 := rowCell hc1
      have z2 : x.cell? ⟨gb, 2, none⟩ = some q2 := rowCell hc1
      have z3 : x.cell? ⟨gb, 3, none⟩ = some q3 := rowCell hc1
      have z4 : x.cell? ⟨gb, 4, none⟩ = some q4 := rowCell hc1
      have z5 : x.cell? ⟨gb, 5, none⟩ = some q5 := rowCell hc1
      have z6 : x.cell? ⟨gb, 6, none⟩ = some q6 := rowCell hc1
      have z7 : x.cell? ⟨gb, 7, none⟩ = some q7 := rowCell hc1
      have zf : ∀ k, x.frozen? ⟨gb, k, none⟩ = false := fun k => by simp [World.frozen?, hc1]
      have h2 := HK.out
      unfold frRa at h2 ⊢
      simp only [obL, putL, Nat.zero_add, Nat.reduceAdd] at h2
      go_simp
      simpa [Act.put, e8, e10, z0, z1, z2, z3, z4, z5, z6, z7, zf] using h2
  case hS => exact ⟨⟨rfl, rfl, rfl, Nat.le_refl _, fun _ _ => rfl⟩, fun h => by cases h⟩
  case done =>
    intro listed t x hall hS hG
    have e40 : t 40 = .bool rb := hG 9 (by decide)
    obtain ⟨gb, a1, c1, a2, c2, e10, hgb, zX, zA, zB⟩ := hS.2 (hall 11 (by decide))
    have Zb3 : Hid (ObB x gb RR (.slice a1 RR.l.length c1) (.slice a2 RR.r.l.length c2)) := zX.ob
    have Zp3 : Hid (HasF x w2.heap.size (.slice a1 RR.l.length c1) RR.l) := zA
    have Zu3 : Hid (HasF x w2.heap.size (.slice a2 RR.r.l.length c2) RR.r.l) := zB
    have B3 : Hid (Below w.heap.size w x) := past6 B2.out hS.1
    have Q3 : Hid (ObB x w.heap.size o (.slice pa o.l.length pc) (.slice ua o.r.l.length uc)) := Q2.out.next hS.1
    have R3 : Hid (RsB x (w.heap.size + 1) r (.slice xa r.l.length xc)) := R2.out.next hS.1
    clear zA zB zX hS hG hall Q2 R2 B2
    obtain ⟨w3, rfl⟩ : ∃ z, z = x := ⟨x, rfl⟩
    show wpList Tryd.prog _ _ [_] _ w3
    unfold frRa
    rw [e40, e10]
    clear e40 e10
    go_upto_region 9 with fail
    have hgb3 := Zb3.out.hi
    have hz3 : w.heap.size + 1 < w3.heap.size := R3.out.hi
    have HX6 : Hid (∀ k, (Value.ownBlock (.slice a1 RR.l.length c1)) = some k → k < w3.heap.size) := Zp3.out.under
    have HX7 : Hid (∀ k, (Value.ownBlock (.slice a2 RR.r.l.length c2)) = some k → k < w3.heap.size) := Zu3.out.under
    clear hgb
    obtain ⟨q0, q1, q2, q3, q4, q5, q6, q7, qf, qh⟩ := Q3.out
    have jT := fun W hW hU => lawToOb o (.slice pa o.l.length pc) (.slice ua o.r.l.length uc) W hW hU hl1 hl2
    unfold obV at jT
    go_wp2_with fail
    refine (jT _ (KA.out.1.1.kept B3.out) (KA.out.1.2.2.2.1.1.kept B3.out)).mono ?_
    rintro e w4 ⟨v12, u12, rfl, xA, xB, hd12, hb4⟩
    obtain ⟨a3, c3, rfl, _, _⟩ := xA.form
    obtain ⟨a4, c4, rfl, _, _⟩ := xB.form
    clear q0 q1 q2 q3 q4 q5 q6 q7 qf qh
    have Q4 : Hid (ObB w4 w.heap.size o (.slice pa o.l.length pc) (.slice ua o.r.l.length uc)) := Q3.out.next hb4
    have R4 : Hid (RsB w4 (w.heap.size + 1) r (.slice xa r.l.length xc)) := R3.out.next hb4
    have B4 : Hid (Below w.heap.size w w4) := past6 B3.out hb4
    have Zb4 : Hid (ObB w4 gb RR (.slice a1 RR.l.length c1) (.slice a2 RR.r.l.length c2)) := Zb3.out.next hb4
    have Zp4 : Hid (HasF w4 w2.heap.size (.slice a1 RR.l.length c1) RR.l) := Zp3.out.kept hb4
    have Zu4 : Hid (HasF w4 w2.heap.size (.slice a2 RR.r.l.length c2) RR.r.l) := Zu3.out.kept hb4
    clear Q3 R3 B3 Zb3 Zp3 Zu3
    have hz4 := hb4.size
    have x12 : ∀ k, (Value.ownBlock (.slice a3 o.l.length c3)) = some k → w3.heap.size ≤ k ∧ k < w4.heap.size := fun k hk => ⟨xA.has.from k hk, xA.has.under k hk⟩
    have x12' : ∀ k, (Value.ownBlock (.slice a4 o.r.l.length c4)) = some k → w3.heap.size ≤ k ∧ k < w4.heap.size := fun k hk => ⟨xB.has.from k hk, xB.has.under k hk⟩
    have HX1 : Hid (∀ k, (Value.ownBlock (.slice a3 o.l.length c3)) = some k → w3.heap.size ≤ k ∧ k < w4.heap.size) := x12
    have HX2 : Hid (∀ k, (Value.ownBlock (.slice a4 o.r.l.length c4)) = some k → w3.heap.size ≤ k ∧ k < w4.heap.size) := x12'
    have HD12 : Hid (∀ g, (Value.ownBlock (.slice a3 o.l.length c3)) = some g → (Value.ownBlock (.slice a4 o.r.l.length c4)) ≠ some g) := hd12
    have bb := (Below.refl w4.heap.size w4).alloc (Nat.le_refl _) (.cells #[.string o.k, .slice a3 o.l.length c3, .int .i64 o.r.s, .slice a4 o.r.l.length c4, .string o.r.b, .int .i64 o.asked, .int .i64 o.got, .int .i64 o.ep] 33)
    have Xb5 : Hid (ObB (w4.alloc (.cells #[.string o.k, .slice a3 o.l.length c3, .int .i64 o.r.s, .slice a4 o.r.l.length c4, .string o.r.b, .int .i64 o.asked, .int .i64 o.got, .int .i64 o.ep] 33)) w4.heap.size o (.slice a3 o.l.length c3) (.slice a4 o.r.l.length c4)) := ObB.new w4 o _ _ _
    have Xp5 : Hid (HasF (w4.alloc (.cells #[.string o.k, .slice a3 o.l.length c3, .int .i64 o.r.s, .slice a4 o.r.l.length c4, .string o.r.b, .int .i64 o.asked, .int .i64 o.got, .int .i64 o.ep] 33)) w3.heap.size (.slice a3 o.l.length c3) o.l) := xA.has.kept bb
    have Xu5 : Hid (HasF (w4.alloc (.cells #[.string o.k, .slice a3 o.l.length c3, .int .i64 o.r.s, .slice a4 o.r.l.length c4, .string o.r.b, .int .i64 o.asked, .int .i64 o.got, .int .i64 o.ep] 33)) w3.heap.size (.slice a4 o.r.l.length c4) o.r.l) := xB.has.kept bb
    have Q5 : Hid (ObB (w4.alloc (.cells #[.string o.k, .slice a3 o.l.length c3, .int .i64 o.r.s, .slice a4 o.r.l.length c4, .string o.r.b, .int .i64 o.asked, .int .i64 o.got, .int .i64 o.ep] 33)) w.heap.size o (.slice pa o.l.length pc) (.slice ua o.r.l.length uc)) := Q4.out.next bb
    have R5 : Hid (RsB (w4.alloc (.cells #[.string o.k, .slice a3 o.l.length c3, .int .i64 o.r.s, .slice a4 o.r.l.length c4, .string o.r.b, .int .i64 o.asked, .int .i64 o.got, .int .i64 o.ep] 33)) (w.heap.size + 1) r (.slice xa r.l.length xc)) := R4.out.next bb
    have B5 : Hid (Below w.heap.size w (w4.alloc (.cells #[.string o.k, .slice a3 o.l.length c3, .int .i64 o.r.s, .slice a4 o.r.l.length c4, .string o.r.b, .int .i64 o.asked, .int .i64 o.got, .int .i64 o.ep] 33))) := past6 B4.out bb
    have Zb5 : Hid (ObB (w4.alloc (.cells #[.string o.k, .slice a3 o.l.length c3, .int .i64 o.r.s, .slice a4 o.r.l.length c4, .string o.r.b, .int .i64 o.asked, .int .i64 o.got, .int .i64 o.ep] 33)) gb RR (.slice a1 RR.l.length c1) (.slice a2 RR.r.l.length c2)) := Zb4.out.next bb
    have Zp5 : Hid (HasF (w4.alloc (.cells #[.string o.k, .slice a3 o.l.length c3, .int .i64 o.r.s, .slice a4 o.r.l.length c4, .string o.r.b, .int .i64 o.asked, .int .i64 o.got, .int .i64 o.ep] 33)) w2.heap.size (.slice a1 RR.l.length c1) RR.l) := Zp4.out.kept bb
    have Zu5 : Hid (HasF (w4.alloc (.cells #[.string o.k, .slice a3 o.l.length c3, .int .i64 o.r.s, .slice a4 o.r.l.length c4, .string o.r.b, .int .i64 o.asked, .int .i64 o.got, .int .i64 o.ep] 33)) w2.heap.size (.slice a2 RR.r.l.length c2) RR.r.l) := Zu4.out.kept bb
    clear Q4 R4 B4 Zb4 Zp4 Zu4
    clear bb xA xB hb4 jT x12 x12' hd12
    go_upto_region 10 with fail
    have hz5 : w4.heap.size < (w4.alloc (.cells #[.string o.k, .slice a3 o.l.length c3, .int .i64 o.r.s, .slice a4 o.r.l.length c4, .string o.r.b, .int .i64 o.asked, .int .i64 o.got, .int .i64 o.ep] 33)).heap.size := by simp
    generalize (w4.alloc (.cells #[.string o.k, .slice a3 o.l.length c3, .int .i64 o.r.s, .slice a4 o.r.l.length c4, .string o.r.b, .int .i64 o.asked, .int .i64 o.got, .int .i64 o.ep] 33)) = w5 at Q5 R5 B5 Zb5 Zp5 Zu5 Xb5 Xp5 Xu5 hz5 ⊢
    obtain ⟨y0, yy1, yy2, yf, yh⟩ := R5.out
    have jT := fun W hW => lawToRs r (.slice xa r.l.length xc) W hW hl3
    unfold rsV at jT
    go_wp2_with fail
    refine (jT _ (KA.out.2.1.kept B5.out)).mono ?_
    rintro e w6 ⟨u13, rfl, xA, hb6⟩
    obtain ⟨a5, c5, rfl, _, _⟩ := xA.form
    clear y0 yy1 yy2 yf yh
    have Q6 : Hid (ObB w6 w.heap.size o (.slice pa o.l.length pc) (.slice ua o.r.l.length uc)) := Q5.out.next hb6
    have R6 : Hid (RsB w6 (w.heap.size + 1) r (.slice xa r.l.length xc)) := R5.out.next hb6
    have B6 : Hid (Below w.heap.size w w6) := past6 B5.out hb6
    have Zb6 : Hid (ObB w6 gb RR (.slice a1 RR.l.length c1) (.slice a2 RR.r.l.length c2)) := Zb5.out.next hb6
    have Zp6 : Hid (HasF w6 w2.heap.size (.slice a1 RR.l.length c1) RR.l) := Zp5.out.kept hb6
    have Zu6 : Hid (HasF w6 w2.heap.size (.slice a2 RR.r.l.length c2) RR.r.l) := Zu5.out.kept hb6
    have Xb6 : Hid (ObB w6 w4.heap.size o (.slice a3 o.l.length c3) (.slice a4 o.r.l.length c4)) := Xb5.out.next hb6
    have Xp6 : Hid (HasF w6 w3.heap.size (.slice a3 o.l.length c3) o.l) := Xp5.out.kept hb6
    have Xu6 : Hid (HasF w6 w3.heap.size (.slice a4 o.r.l.length c4) o.r.l) := Xu5.out.kept hb6
    clear Q5 R5 B5 Zb5 Zp5 Zu5 Xb5 Xp5 Xu5
    have hz6 := hb6.size
    have HX3 : Hid (∀ k, (Value.ownBlock (.slice a5 r.l.length c5)) = some k → w5.heap.size ≤ k ∧ k < w6.heap.size) := fun k hk => ⟨xA.has.from k hk, xA.has.under k hk⟩
    have bb := (Below.refl w6.heap.size w6).alloc (Nat.le_refl _) (.cells #[.int .i64 r.s, .slice a5 r.l.length c5, .string r.b] 31)
    have Yb7 : Hid (RsB (w6.alloc (.cells #[.int .i64 r.s, .slice a5 r.l.length c5, .string r.b] 31)) w6.heap.size r (.slice a5 r.l.length c5)) := RsB.new w6 r _ _
    have Yp7 : Hid (HasF (w6.alloc (.cells #[.int .i64 r.s, .slice a5 r.l.length c5, .string r.b] 31)) w5.heap.size (.slice a5 r.l.length c5) r.l) := xA.has.kept bb
    have Q7 : Hid (ObB (w6.alloc (.cells #[.int .i64 r.s, .slice a5 r.l.length c5, .string r.b] 31)) w.heap.size o (.slice pa o.l.length pc) (.slice ua o.r.l.length uc)) := Q6.out.next bb
    have R7 : Hid (RsB (w6.alloc (.cells #[.int .i64 r.s, .slice a5 r.l.length c5, .string r.b] 31)) (w.heap.size + 1) r (.slice xa r.l.length xc)) := R6.out.next bb
    have B7 : Hid (Below w.heap.size w (w6.alloc (.cells #[.int .i64 r.s, .slice a5 r.l.length c5, .string r.b] 31))) := past6 B6.out bb
    have Zb7 : Hid (ObB (w6.alloc (.cells #[.int .i64 r.s, .slice a5 r.l.length c5, .string r.b] 31)) gb RR (.slice a1 RR.l.length c1) (.slice a2 RR.r.l.length c2)) := Zb6.out.next bb
    have Zp7 : Hid (HasF (w6.alloc (.cells #[.int .i64 r.s, .slice a5 r.l.length c5, .string r.b] 31)) w2.heap.size (.slice a1 RR.l.length c1) RR.l) := Zp6.out.kept bb
    have Zu7 : Hid (HasF (w6.alloc (.cells #[.int .i64 r.s, .slice a5 r.l.length c5, .string r.b] 31)) w2.heap.size (.slice a2 RR.r.l.length c2) RR.r.l) := Zu6.out.kept bb
    have Xb7 : Hid (ObB (w6.alloc (.cells #[.int .i64 r.s, .slice a5 r.l.length c5, .string r.b] 31)) w4.heap.size o (.slice a3 o.l.length c3) (.slice a4 o.r.l.length c4)) := Xb6.out.next bb
    have Xp7 : Hid (HasF (w6.alloc (.cells #[.int .i64 r.s, .slice a5 r.l.length c5, .string r.b] 31)) w3.heap.size (.slice a3 o.l.length c3) o.l) := Xp6.out.kept bb
    have Xu7 : Hid (HasF (w6.alloc (.cells #[.int .i64 r.s, .slice a5 r.l.length c5, .string r.b] 31)) w3.heap.size (.slice a4 o.r.l.length c4) o.r.l) := Xu6.out.kept bb
    clear Q6 R6 B6 Zb6 Zp6 Zu6 Xb6 Xp6 Xu6
    clear bb xA hb6 jT
    go_upto_region 11 with fail
    have hz7 : w6.heap.size < (w6.alloc (.cells #[.int .i64 r.s, .slice a5 r.l.length c5, .string r.b] 31)).heap.size := by simp
    generalize (w6.alloc (.cells #[.int .i64 r.s, .slice a5 r.l.length c5, .string r.b] 31)) = w7 at Q7 R7 B7 Zb7 Zp7 Zu7 Xb7 Xp7 Xu7 Yb7 Yp7 hz7 ⊢
    have jR := HIR.out w7 w3.heap.size (.slice a3 o.l.length c3) (.slice a4 o.r.l.length c4) (.slice a5 r.l.length c5) B7.out Xp7.out Xu7.out (Yp7.out.low (by omega))
    unfold obV rsV at jR
    obtain ⟨x0, x1, x2, x3, x4, x5, x6, x7, xf, xh⟩ := Xb7.out
    obtain ⟨v0, v1, v2, vf, vh⟩ := Yb7.out
    go_wp2_with fail
    refine jR.mono ?_
    rintro e w8 ⟨v14, u14, rfl, xA, xB, hd14, hb8⟩
    obtain ⟨a6, c6, rfl, _⟩ := xA.form
    obtain ⟨a7, c7, rfl, _⟩ := xB.form
    clear x0 x1 x2 x3 x4 x5 x6 x7 xf xh
    clear v0 v1 v2 vf vh
    have Q8 : Hid (ObB w8 w.heap.size o (.slice pa o.l.length pc) (.slice ua o.r.l.length uc)) := Q7.out.next hb8
    have R8 : Hid (RsB w8 (w.heap.size + 1) r (.slice xa r.l.length xc)) := R7.out.next hb8
    have B8 : Hid (Below w.heap.size w w8) := past6 B7.out hb8
    have Zb8 : Hid (ObB w8 gb RR (.slice a1 RR.l.length c1) (.slice a2 RR.r.l.length c2)) := Zb7.out.next hb8
    have Zp8 : Hid (HasF w8 w2.heap.size (.slice a1 RR.l.length c1) RR.l) := Zp7.out.kept hb8
    have Zu8 : Hid (HasF w8 w2.heap.size (.slice a2 RR.r.l.length c2) RR.r.l) := Zu7.out.kept hb8
    have Xb8 : Hid (ObB w8 w4.heap.size o (.slice a3 o.l.length c3) (.slice a4 o.r.l.length c4)) := Xb7.out.next hb8
    have Xp8 : Hid (HasF w8 w3.heap.size (.slice a3 o.l.length c3) o.l) := Xp7.out.kept hb8
    have Xu8 : Hid (HasF w8 w3.heap.size (.slice a4 o.r.l.length c4) o.r.l) := Xu7.out.kept hb8
    have Yb8 : Hid (RsB w8 w6.heap.size r (.slice a5 r.l.length c5)) := Yb7.out.next hb8
    have Yp8 : Hid (HasF w8 w5.heap.size (.slice a5 r.l.length c5) r.l) := Yp7.out.kept hb8
    clear Q7 R7 B7 Zb7 Zp7 Zu7 Xb7 Xp7 Xu7 Yb7 Yp7
    have hz8 := hb8.size
    have HX4 : Hid (∀ k, (Value.ownBlock (.slice a6 RR.l.length c6)) = some k → w7.heap.size ≤ k ∧ k < w8.heap.size) := fun k hk => ⟨xA.from k hk, xA.under k hk⟩
    have HX5 : Hid (∀ k, (Value.ownBlock (.slice a7 RR.r.l.length c7)) = some k → w7.heap.size ≤ k ∧ k < w8.heap.size) := fun k hk => ⟨xB.from k hk, xB.under k hk⟩
    have HD14 : Hid (∀ g, (Value.ownBlock (.slice a6 RR.l.length c6)) = some g → (Value.ownBlock (.slice a7 RR.r.l.length c7)) ≠ some g) := hd14
    have bb := (Below.refl w8.heap.size w8).alloc (Nat.le_refl _) (.cells #[.string RR.k, .slice a6 RR.l.length c6, .int .i64 RR.r.s, .slice a7 RR.r.l.length c7, .string RR.r.b, .int .i64 RR.asked, .int .i64 RR.got, .int .i64 RR.ep] 33)
    have Gb9 : Hid (ObB (w8.alloc (.cells #[.string RR.k, .slice a6 RR.l.length c6, .int .i64 RR.r.s, .slice a7 RR.r.l.length c7, .string RR.r.b, .int .i64 RR.asked, .int .i64 RR.got, .int .i64 RR.ep] 33)) w8.heap.size RR (.slice a6 RR.l.length c6) (.slice a7 RR.r.l.length c7)) := ObB.new w8 RR _ _ _
    have Gp9 : Hid (HasF (w8.alloc (.cells #[.string RR.k, .slice a6 RR.l.length c6, .int .i64 RR.r.s, .slice a7 RR.r.l.length c7, .string RR.r.b, .int .i64 RR.asked, .int .i64 RR.got, .int .i64 RR.ep] 33)) w7.heap.size (.slice a6 RR.l.length c6) RR.l) := xA.kept bb
    have Gu9 : Hid (HasF (w8.alloc (.cells #[.string RR.k, .slice a6 RR.l.length c6, .int .i64 RR.r.s, .slice a7 RR.r.l.length c7, .string RR.r.b, .int .i64 RR.asked, .int .i64 RR.got, .int .i64 RR.ep] 33)) w7.heap.size (.slice a7 RR.r.l.length c7) RR.r.l) := xB.kept bb
    have Q9 : Hid (ObB (w8.alloc (.cells #[.string RR.k, .slice a6 RR.l.length c6, .int .i64 RR.r.s, .slice a7 RR.r.l.length c7, .string RR.r.b, .int .i64 RR.asked, .int .i64 RR.got, .int .i64 RR.ep] 33)) w.heap.size o (.slice pa o.l.length pc) (.slice ua o.r.l.length uc)) := Q8.out.next bb
    have R9 : Hid (RsB (w8.alloc (.cells #[.string RR.k, .slice a6 RR.l.length c6, .int .i64 RR.r.s, .slice a7 RR.r.l.length c7, .string RR.r.b, .int .i64 RR.asked, .int .i64 RR.got, .int .i64 RR.ep] 33)) (w.heap.size + 1) r (.slice xa r.l.length xc)) := R8.out.next bb
    have B9 : Hid (Below w.heap.size w (w8.alloc (.cells #[.string RR.k, .slice a6 RR.l.length c6, .int .i64 RR.r.s, .slice a7 RR.r.l.length c7, .string RR.r.b, .int .i64 RR.asked, .int .i64 RR.got, .int .i64 RR.ep] 33))) := past6 B8.out bb
    have Zb9 : Hid (ObB (w8.alloc (.cells #[.string RR.k, .slice a6 RR.l.length c6, .int .i64 RR.r.s, .slice a7 RR.r.l.length c7, .string RR.r.b, .int .i64 RR.asked, .int .i64 RR.got, .int .i64 RR.ep] 33)) gb RR (.slice a1 RR.l.length c1) (.slice a2 RR.r.l.length c2)) := Zb8.out.next bb
    have Zp9 : Hid (HasF (w8.alloc (.cells #[.string RR.k, .slice a6 RR.l.length c6, .int .i64 RR.r.s, .slice a7 RR.r.l.length c7, .string RR.r.b, .int .i64 RR.asked, .int .i64 RR.got, .int .i64 RR.ep] 33)) w2.heap.size (.slice a1 RR.l.length c1) RR.l) := Zp8.out.kept bb
    have Zu9 : Hid (HasF (w8.alloc (.cells #[.string RR.k, .slice a6 RR.l.length c6, .int .i64 RR.r.s, .slice a7 RR.r.l.length c7, .string RR.r.b, .int .i64 RR.asked, .int .i64 RR.got, .int .i64 RR.ep] 33)) w2.heap.size (.slice a2 RR.r.l.length c2) RR.r.l) := Zu8.out.kept bb
    have Xb9 : Hid (ObB (w8.alloc (.cells #[.string RR.k, .slice a6 RR.l.length c6, .int .i64 RR.r.s, .slice a7 RR.r.l.length c7, .string RR.r.b, .int .i64 RR.asked, .int .i64 RR.got, .int .i64 RR.ep] 33)) w4.heap.size o (.slice a3 o.l.length c3) (.slice a4 o.r.l.length c4)) := Xb8.out.next bb
    have Xp9 : Hid (HasF (w8.alloc (.cells #[.string RR.k, .slice a6 RR.l.length c6, .int .i64 RR.r.s, .slice a7 RR.r.l.length c7, .string RR.r.b, .int .i64 RR.asked, .int .i64 RR.got, .int .i64 RR.ep] 33)) w3.heap.size (.slice a3 o.l.length c3) o.l) := Xp8.out.kept bb
    have Xu9 : Hid (HasF (w8.alloc (.cells #[.string RR.k, .slice a6 RR.l.length c6, .int .i64 RR.r.s, .slice a7 RR.r.l.length c7, .string RR.r.b, .int .i64 RR.asked, .int .i64 RR.got, .int .i64 RR.ep] 33)) w3.heap.size (.slice a4 o.r.l.length c4) o.r.l) := Xu8.out.kept bb
    have Yb9 : Hid (RsB (w8.alloc (.cells #[.string RR.k, .slice a6 RR.l.length c6, .int .i64 RR.r.s, .slice a7 RR.r.l.length c7, .string RR.r.b, .int .i64 RR.asked, .int .i64 RR.got, .int .i64 RR.ep] 33)) w6.heap.size r (.slice a5 r.l.length c5)) := Yb8.out.next bb
    have Yp9 : Hid (HasF (w8.alloc (.cells #[.string RR.k, .slice a6 RR.l.length c6, .int .i64 RR.r.s, .slice a7 RR.r.l.length c7, .string RR.r.b, .int .i64 RR.asked, .int .i64 RR.got, .int .i64 RR.ep] 33)) w5.heap.size (.slice a5 r.l.length c5) r.l) := Yp8.out.kept bb
    clear Q8 R8 B8 Zb8 Zp8 Zu8 Xb8 Xp8 Xu8 Yb8 Yp8
    clear bb xA xB hb8 jR hd14
    go_upto_region 12 with fail
    have hz9 : w8.heap.size < (w8.alloc (.cells #[.string RR.k, .slice a6 RR.l.length c6, .int .i64 RR.r.s, .slice a7 RR.r.l.length c7, .string RR.r.b, .int .i64 RR.asked, .int .i64 RR.got, .int .i64 RR.ep] 33)).heap.size := by simp
    generalize (w8.alloc (.cells #[.string RR.k, .slice a6 RR.l.length c6, .int .i64 RR.r.s, .slice a7 RR.r.l.length c7, .string RR.r.b, .int .i64 RR.asked, .int .i64 RR.got, .int .i64 RR.ep] 33)) = w9 at Q9 R9 B9 Zb9 Zp9 Zu9 Xb9 Xp9 Xu9 Yb9 Yp9 Gb9 Gp9 Gu9 hz9 ⊢
    have jE := fun W ha hb ra rb => lawEqOb RR (.slice a6 RR.l.length c6) (.slice a1 RR.l.length c1) (.slice a7 RR.r.l.length c7) (.slice a2 RR.r.l.length c2) W ha hb ra rb (by omega) (by omega) (by omega)
    unfold obV at jE
    obtain ⟨x0, x1, x2, x3, x4, x5, x6, x7, xf, xh⟩ := Gb9.out
    obtain ⟨z0, z1, z2, z3, z4, z5, z6, z7, zf, zh⟩ := Zb9.out
    have drb : (rb != rb) = false := by simp
    go_wp2_with fail
    refine (jE _ Gp9.out.fls Zp9.out.fls Gu9.out.fls Zu9.out.fls).mono ?_
    rintro e w10 ⟨rfl, hb10⟩
    clear x0 x1 x2 x3 x4 x5 x6 x7 xf xh
    clear z0 z1 z2 z3 z4 z5 z6 z7 zf zh
    have Q10 : Hid (ObB w10 w.heap.size o (.slice pa o.l.length pc) (.slice ua o.r.l.length uc)) := Q9.out.next hb10
    have R10 : Hid (RsB w10 (w.heap.size + 1) r (.slice xa r.l.length xc)) := R9.out.next hb10
    have B10 : Hid (Below w.heap.size w w10) := past6 B9.out hb10
    have Zb10 : Hid (ObB w10 gb RR (.slice a1 RR.l.length c1) (.slice a2 RR.r.l.length c2)) := Zb9.out.next hb10
    have Zp10 : Hid (HasF w10 w2.heap.size (.slice a1 RR.l.length c1) RR.l) := Zp9.out.kept hb10
    have Zu10 : Hid (HasF w10 w2.heap.size (.slice a2 RR.r.l.length c2) RR.r.l) := Zu9.out.kept hb10
    have Xb10 : Hid (ObB w10 w4.heap.size o (.slice a3 o.l.length c3) (.slice a4 o.r.l.length c4)) := Xb9.out.next hb10
    have Xp10 : Hid (HasF w10 w3.heap.size (.slice a3 o.l.length c3) o.l) := Xp9.out.kept hb10
    have Xu10 : Hid (HasF w10 w3.heap.size (.slice a4 o.r.l.length c4) o.r.l) := Xu9.out.kept hb10
    have Yb10 : Hid (RsB w10 w6.heap.size r (.slice a5 r.l.length c5)) := Yb9.out.next hb10
    have Yp10 : Hid (HasF w10 w5.heap.size (.slice a5 r.l.length c5) r.l) := Yp9.out.kept hb10
    have Gb10 : Hid (ObB w10 w8.heap.size RR (.slice a6 RR.l.length c6) (.slice a7 RR.r.l.length c7)) := Gb9.out.next hb10
    have Gp10 : Hid (HasF w10 w7.heap.size (.slice a6 RR.l.length c6) RR.l) := Gp9.out.kept hb10
    have Gu10 : Hid (HasF w10 w7.heap.size (.slice a7 RR.r.l.length c7) RR.r.l) := Gu9.out.kept hb10
    clear Q9 R9 B9 Zb9 Zp9 Zu9 Xb9 Xp9 Xu9 Yb9 Yp9 Gb9 Gp9 Gu9
    clear hb10 jE
    go_upto_region 14 with fail
    generalize hA : Act.mk _ _ = A
    obtain ⟨s, hs, s2, s3, s4, s5, s8, s10, s11, s12, s13, s14, s15⟩ : ∃ s : Nat → Value, A = frRb s o r pa ua xa a3 a4 a5 pc uc xc c3 c4 c5 w10.heap.size (fun _ => undef) ∧ s 2 = .int .i64 asked ∧ s 3 = .int .i64 got ∧ s 4 = .pointer (some ⟨w.heap.size, 0, none⟩) ∧ s 5 = .pointer (some ⟨w.heap.size + 1, 0, none⟩) ∧ s 8 = .bool false ∧ s 10 = .pointer (some ⟨gb, 0, none⟩) ∧ s 11 = .bool rb ∧ s 12 = .pointer (some ⟨w4.heap.size, 0, none⟩) ∧ s 13 = .pointer (some ⟨w6.heap.size, 0, none⟩) ∧ s 14 = .pointer (some ⟨w8.heap.size, 0, none⟩) ∧ s 15 = .bool rb := by
      refine ⟨fun i => A.tmps.getD i undef, ?_, ?_, ?_, ?_, ?_, ?_, ?_, ?_, ?_, ?_, ?_, ?_⟩ <;> rw [← hA] <;> rfl
    rw [hs]
    clear hs hA
    refine region_heads 4 mixed (by decide) (by kernel_rfl) (by kernel_rfl) (by kernel_rfl) (by kernel_rfl) (frRb s o r pa ua xa a3 a4 a5 pc uc xc c3 c4 c5 w10.heap.size) dRb (Below w10.heap.size w10) (GRb s o r pa ua xa a3 a4 a5 pc uc xc c3 c4 c5 w10.heap.size) (fun i j hi hj h => dRb_ne hi hj h) ?put (fun _ => undef) rfl ?hS ?step ?done
    case put =>
      intro i o hi ho t v
      rcases (show i = 0 ∨ i = 1 ∨ i = 2 ∨ i = 3 by omega) with rfl | rfl | rfl | rfl
      all_goals
        obtain rfl := Option.some.inj ho
        rfl
    case step =>
      intro i o hi ho t x hS hdep K hK
      rcases (show i = 0 ∨ i = 1 ∨ i = 2 ∨ i = 3 by omega) with rfl | rfl | rfl | rfl
      all_goals obtain rfl := Option.some.inj ho
      · obtain ⟨c0, c1, c2, c33, c44, c55, c6, c7, _, _⟩ := Xb10.out.next hS
        have HK : Hid (K ((frRb s o r pa ua xa a3 a4 a5 pc uc xc c3 c4 c5 w10.heap.size t).put (some 62) (.agg #[.string o.k, .slice a3 o.l.length c3, .int .i64 o.r.s, .slice a4 o.r.l.length c4, .string o.r.b, .int .i64 o.asked, .int .i64 o.got, .int .i64 o.ep])) x) := hK _ _ hS (fun j u hj hne h => h) rfl
        have h2 := HK.out
        unfold frRb at h2 ⊢
        go_simp
        simpa [Act.put, s2, s3, s4, s5, s8, s10, s11, s12, s13, s14, s15, c0, c1, c2, c33, c44, c55, c6, c7] using h2
      · obtain ⟨c0, c1, c2, c33, c44, c55, c6, c7, _, _⟩ := Q10.out.next hS
        have HK : Hid (K ((frRb s o r pa ua xa a3 a4 a5 pc uc xc c3 c4 c5 w10.heap.size t).put (some 63) (.agg #[.string o.k, .slice pa o.l.length pc, .int .i64 o.r.s, .slice ua o.r.l.length uc, .string o.r.b, .int .i64 o.asked, .int .i64 o.got, .int .i64 o.ep])) x) := hK _ _ hS (fun j u hj hne h => h) rfl
        have h2 := HK.out
        unfold frRb at h2 ⊢
        go_simp
        simpa [Act.put, s2, s3, s4, s5, s8, s10, s11, s12, s13, s14, s15, c0, c1, c2, c33, c44, c55, c6, c7] using h2
      · have e1 : t 63 = (.agg #[.string o.k, .slice pa o.l.length pc, .int .i64 o.r.s, .slice ua o.r.l.length uc, .string o.r.b, .int .i64 o.asked, .int .i64 o.got, .int .i64 o.ep]) := hdep { on := 1, ground := Ground.data } (by simp) rfl
        refine step_call1 rfl 7 (.tmp 63) _ rfl (.agg #[.string o.k, .slice pa o.l.length pc, .int .i64 o.r.s, .slice ua o.r.l.length uc, .string o.r.b, .int .i64 o.asked, .int .i64 o.got, .int .i64 o.ep]) e1 (Go.Proofs.enters_of Tryd.func7 (by kernel_rfl) rfl _) (fun v y => (∃ (a1 : Option Addr) (c1 : Nat) (a2 : Option Addr) (c2 : Nat), v = (.agg #[.string o.k, .slice a1 o.l.length c1, .int .i64 o.r.s, .slice a2 o.r.l.length c2, .string o.r.b, .int .i64 o.asked, .int .i64 o.got, .int .i64 o.ep]) ∧ HasF y w10.heap.size (.slice a1 o.l.length c1) o.l ∧ HasF y w10.heap.size (.slice a2 o.r.l.length c2) o.r.l) ∧ Below x.heap.size x y) ((lawToOb o (.slice pa o.l.length pc) (.slice ua o.r.l.length uc) x (KA.out.1.1.kept (past6 B10.out hS)) (KA.out.1.2.2.2.1.1.kept (past6 B10.out hS)) hl1 hl2).mono ?_) ?_
        · rintro e y ⟨v2, u2, h0, h1, h2, _, h3⟩
          obtain ⟨a1, c1, rfl, _⟩ := h1.form
          obtain ⟨a2, c2, rfl, _⟩ := h2.form
          exact ⟨_, h0, ⟨a1, c1, a2, c2, rfl, (h1.low hS.size).has, (h2.low hS.size).has⟩, h3⟩
        · rintro v y ⟨h1, h2⟩
          exact hK v y (hS.trans (h2.mono hS.size)) (fun j u hj hne h => GRb.keep s o r pa ua xa a3 a4 a5 pc uc xc c3 c4 c5 w10.heap.size h2 j u hj h) h1
      · have e0 : t 62 = (.agg #[.string o.k, .slice a3 o.l.length c3, .int .i64 o.r.s, .slice a4 o.r.l.length c4, .string o.r.b, .int .i64 o.asked, .int .i64 o.got, .int .i64 o.ep]) := hdep { on := 0, ground := Ground.data } (by simp) rfl
        have e2 : ∃ (a1 : Option Addr) (c1 : Nat) (a2 : Option Addr) (c2 : Nat), t 64 = (.agg #[.string o.k, .slice a1 o.l.length c1, .int .i64 o.r.s, .slice a2 o.r.l.length c2, .string o.r.b, .int .i64 o.asked, .int .i64 o.got, .int .i64 o.ep]) ∧ HasF x w10.heap.size (.slice a1 o.l.length c1) o.l ∧ HasF x w10.heap.size (.slice a2 o.r.l.length c2) o.r.l := hdep { on := 2, ground := Ground.data } (by simp) rfl
        obtain ⟨p1, d1, p2, d2, e2, h1a, h1b⟩ := e2
        refine step_call2 rfl 9 (.tmp 62) (.tmp 64) _ rfl _ _ e0 e2 (Go.Proofs.enters_of Tryd.func9 (by kernel_rfl) rfl _) (fun v y => v = .bool true ∧ Below x.heap.size x y) ((lawEqOb o (.slice a3 o.l.length c3) _ (.slice a4 o.r.l.length c4) _ x (Xp10.out.kept hS).fls h1a.fls (Xu10.out.kept hS).fls h1b.fls hl1 hl2 hk1).mono ?_) ?_
        · rintro e y ⟨h0, h2⟩
          exact ⟨_, h0, rfl, h2⟩
        · rintro v y ⟨h1, h2⟩
          exact hK v y (hS.trans (h2.mono hS.size)) (fun j u hj hne h => GRb.keep s o r pa ua xa a3 a4 a5 pc uc xc c3 c4 c5 w10.heap.size h2 j u hj h) h1
    case hS => exact ⟨rfl, rfl, rfl, Nat.le_refl _, fun _ _ => rfl⟩
    case done =>
    intro t x hS hG
    have e65 : t 65 = .bool true := hG 3 (by decide)
    obtain ⟨w11, rfl⟩ : ∃ z, z = x := ⟨x, rfl⟩
    have Q11 : Hid (ObB w11 w.heap.size o (.slice pa o.l.length pc) (.slice ua o.r.l.length uc)) := Q10.out.next hS
    have R11 : Hid (RsB w11 (w.heap.size + 1) r (.slice xa r.l.length xc)) := R10.out.next hS
    have B11 : Hid (Below w.heap.size w w11) := past6 B10.out hS
    have Zb11 : Hid (ObB w11 gb RR (.slice a1 RR.l.length c1) (.slice a2 RR.r.l.length c2)) := Zb10.out.next hS
    have Zp11 : Hid (HasF w11 w2.heap.size (.slice a1 RR.l.length c1) RR.l) := Zp10.out.kept hS
    have Zu11 : Hid (HasF w11 w2.heap.size (.slice a2 RR.r.l.length c2) RR.r.l) := Zu10.out.kept hS
    have Xb11 : Hid (ObB w11 w4.heap.size o (.slice a3 o.l.length c3) (.slice a4 o.r.l.length c4)) := Xb10.out.next hS
    have Xp11 : Hid (HasF w11 w3.heap.size (.slice a3 o.l.length c3) o.l) := Xp10.out.kept hS
    have Xu11 : Hid (HasF w11 w3.heap.size (.slice a4 o.r.l.length c4) o.r.l) := Xu10.out.kept hS
    have Yb11 : Hid (RsB w11 w6.heap.size r (.slice a5 r.l.length c5)) := Yb10.out.next hS
    have Yp11 : Hid (HasF w11 w5.heap.size (.slice a5 r.l.length c5) r.l) := Yp10.out.kept hS
    have Gb11 : Hid (ObB w11 w8.heap.size RR (.slice a6 RR.l.length c6) (.slice a7 RR.r.l.length c7)) := Gb10.out.next hS
    have Gp11 : Hid (HasF w11 w7.heap.size (.slice a6 RR.l.length c6) RR.l) := Gp10.out.kept hS
    have Gu11 : Hid (HasF w11 w7.heap.size (.slice a7 RR.r.l.length c7) RR.r.l) := Gu10.out.kept hS
    clear Q10 R10 B10 Zb10 Zp10 Zu10 Xb10 Xp10 Xu10 Yb10 Yp10 Gb10 Gp10 Gu10
    clear hG hS
    show wpList Tryd.prog _ _ [_] _ w11
    unfold frRb
    rw [e65]
    clear e65
    go_upto_region 16 with fail
    generalize hA : Act.mk _ _ = A
    obtain ⟨s', hs, y_2, y_3, y_4, y_5, y_8, y_10, y_11, y_12, y_13, y_14, y_15⟩ : ∃ s : Nat → Value, A = frRc s o r pa ua xa a3 a4 a5 pc uc xc c3 c4 c5 w11.heap.size (fun _ => undef) ∧ s 2 = .int .i64 asked ∧ s 3 = .int .i64 got ∧ s 4 = .pointer (some ⟨w.heap.size, 0, none⟩) ∧ s 5 = .pointer (some ⟨w.heap.size + 1, 0, none⟩) ∧ s 8 = .bool false ∧ s 10 = .pointer (some ⟨gb, 0, none⟩) ∧ s 11 = .bool rb ∧ s 12 = .pointer (some ⟨w4.heap.size, 0, none⟩) ∧ s 13 = .pointer (some ⟨w6.heap.size, 0, none⟩) ∧ s 14 = .pointer (some ⟨w8.heap.size, 0, none⟩) ∧ s 15 = .bool rb := by
      refine ⟨fun i => A.tmps.getD i undef, ?_, ?_, ?_, ?_, ?_, ?_, ?_, ?_, ?_, ?_, ?_, ?_⟩ <;> rw [← hA] <;> rfl
    rw [hs]
    clear hs hA
    clear s2 s3 s4 s5 s8 s10 s11 s12 s13 s14 s15
    obtain ⟨s, rfl⟩ : ∃ z, z = s' := ⟨s', rfl⟩
    have s2 := y_2
    have s3 := y_3
    have s4 := y_4
    have s5 := y_5
    have s8 := y_8
    have s10 := y_10
    have s11 := y_11
    have s12 := y_12
    have s13 := y_13
    have s14 := y_14
    have s15 := y_15
    clear y_2 y_3 y_4 y_5 y_8 y_10 y_11 y_12 y_13 y_14 y_15
    refine region_heads 4 mixed (by decide) (by kernel_rfl) (by kernel_rfl) (by kernel_rfl) (by kernel_rfl) (frRc s o r pa ua xa a3 a4 a5 pc uc xc c3 c4 c5 w11.heap.size) dRc (Below w11.heap.size w11) (GRc s o r pa ua xa a3 a4 a5 pc uc xc c3 c4 c5 w11.heap.size) (fun i j hi hj h => dRc_ne hi hj h) ?put (fun _ => undef) rfl ?hS ?step ?done
    case put =>
      intro i o hi ho t v
      rcases (show i = 0 ∨ i = 1 ∨ i = 2 ∨ i = 3 by omega) with rfl | rfl | rfl | rfl
      all_goals
        obtain rfl := Option.some.inj ho
        rfl
    case step =>
      intro i o hi ho t x hS hdep K hK
      rcases (show i = 0 ∨ i = 1 ∨ i = 2 ∨ i = 3 by omega) with rfl | rfl | rfl | rfl
      all_goals obtain rfl := Option.some.inj ho
      · obtain ⟨c0, c1, c2, _, _⟩ := Yb11.out.next hS
        have HK : Hid (K ((frRc s o r pa ua xa a3 a4 a5 pc uc xc c3 c4 c5 w11.heap.size t).put (some 67) (.agg #[.int .i64 r.s, .slice a5 r.l.length c5, .string r.b])) x) := hK _ _ hS (fun j u hj hne h => h) rfl
        have h2 := HK.out
        unfold frRc at h2 ⊢
        go_simp
        simpa [Act.put, s2, s3, s4, s5, s8, s10, s11, s12, s13, s14, s15, c0, c1, c2] using h2
      · obtain ⟨c0, c1, c2, _, _⟩ := R11.out.next hS
        have HK : Hid (K ((frRc s o r pa ua xa a3 a4 a5 pc uc xc c3 c4 c5 w11.heap.size t).put (some 68) (.agg #[.int .i64 r.s, .slice xa r.l.length xc, .string r.b])) x) := hK _ _ hS (fun j u hj hne h => h) rfl
        have h2 := HK.out
        unfold frRc at h2 ⊢
        go_simp
        simpa [Act.put, s2, s3, s4, s5, s8, s10, s11, s12, s13, s14, s15, c0, c1, c2] using h2
      · have e1 : t 68 = (.agg #[.int .i64 r.s, .slice xa r.l.length xc, .string r.b]) := hdep { on := 1, ground := Ground.data } (by simp) rfl
        refine step_call1 rfl 12 (.tmp 68) _ rfl (.agg #[.int .i64 r.s, .slice xa r.l.length xc, .string r.b]) e1 (Go.Proofs.enters_of Tryd.func12 (by kernel_rfl) rfl _) (fun v y => (∃ (a1 : Option Addr) (c1 : Nat), v = (.agg #[.int .i64 r.s, .slice a1 r.l.length c1, .string r.b]) ∧ HasF y w11.heap.size (.slice a1 r.l.length c1) r.l) ∧ Below x.heap.size x y) ((lawToRs r (.slice xa r.l.length xc) x (KA.out.2.1.kept (past6 B11.out hS)) hl3).mono ?_) ?_
        · rintro e y ⟨u2, h0, h1, h3⟩
          obtain ⟨a1, c1, rfl, _⟩ := h1.form
          exact ⟨_, h0, ⟨a1, c1, rfl, (h1.low hS.size).has⟩, h3⟩
        · rintro v y ⟨h1, h2⟩
          exact hK v y (hS.trans (h2.mono hS.size)) (fun j u hj hne h => GRc.keep s o r pa ua xa a3 a4 a5 pc uc xc c3 c4 c5 w11.heap.size h2 j u hj h) h1
      · have e0 : t 67 = (.agg #[.int .i64 r.s, .slice a5 r.l.length c5, .string r.b]) := hdep { on := 0, ground := Ground.data } (by simp) rfl
        have e2 : ∃ (a1 : Option Addr) (c1 : Nat), t 69 = (.agg #[.int .i64 r.s, .slice a1 r.l.length c1, .string r.b]) ∧ HasF x w11.heap.size (.slice a1 r.l.length c1) r.l := hdep { on := 2, ground := Ground.data } (by simp) rfl
        obtain ⟨p1, d1, e2, h1a⟩ := e2
        refine step_call2 rfl 14 (.tmp 67) (.tmp 69) _ rfl _ _ e0 e2 (Go.Proofs.enters_of Tryd.func14 (by kernel_rfl) rfl _) (fun v y => v = .bool true ∧ Below x.heap.size x y) ((lawEqRs r (.slice a5 r.l.length c5) _ x (Yp11.out.kept hS).fls h1a.fls hl3).mono ?_) ?_
        · rintro e y ⟨h0, h2⟩
          exact ⟨_, h0, rfl, h2⟩
        · rintro v y ⟨h1, h2⟩
          exact hK v y (hS.trans (h2.mono hS.size)) (fun j u hj hne h => GRc.keep s o r pa ua xa a3 a4 a5 pc uc xc c3 c4 c5 w11.heap.size h2 j u hj h) h1
    case hS => exact ⟨rfl, rfl, rfl, Nat.le_refl _, fun _ _ => rfl⟩
    case done =>
    intro t x hS hG
    have e70 : t 70 = .bool true := hG 3 (by decide)
    obtain ⟨w12, rfl⟩ : ∃ z, z = x := ⟨x, rfl⟩
    have Q12 : Hid (ObB w12 w.heap.size o (.slice pa o.l.length pc) (.slice ua o.r.l.length uc)) := Q11.out.next hS
    have R12 : Hid (RsB w12 (w.heap.size + 1) r (.slice xa r.l.length xc)) := R11.out.next hS
    have B12 : Hid (Below w.heap.size w w12) := past6 B11.out hS
    have Zb12 : Hid (ObB w12 gb RR (.slice a1 RR.l.length c1) (.slice a2 RR.r.l.length c2)) := Zb11.out.next hS
    have Zp12 : Hid (HasF w12 w2.heap.size (.slice a1 RR.l.length c1) RR.l) := Zp11.out.kept hS
    have Zu12 : Hid (HasF w12 w2.heap.size (.slice a2 RR.r.l.length c2) RR.r.l) := Zu11.out.kept hS
    have Xb12 : Hid (ObB w12 w4.heap.size o (.slice a3 o.l.length c3) (.slice a4 o.r.l.length c4)) := Xb11.out.next hS
    have Xp12 : Hid (HasF w12 w3.heap.size (.slice a3 o.l.length c3) o.l) := Xp11.out.kept hS
    have Xu12 : Hid (HasF w12 w3.heap.size (.slice a4 o.r.l.length c4) o.r.l) := Xu11.out.kept hS
    have Yb12 : Hid (RsB w12 w6.heap.size r (.slice a5 r.l.length c5)) := Yb11.out.next hS
    have Yp12 : Hid (HasF w12 w5.heap.size (.slice a5 r.l.length c5) r.l) := Yp11.out.kept hS
    have Gb12 : Hid (ObB w12 w8.heap.size RR (.slice a6 RR.l.length c6) (.slice a7 RR.r.l.length c7)) := Gb11.out.next hS
    have Gp12 : Hid (HasF w12 w7.heap.size (.slice a6 RR.l.length c6) RR.l) := Gp11.out.kept hS
    have Gu12 : Hid (HasF w12 w7.heap.size (.slice a7 RR.r.l.length c7) RR.r.l) := Gu11.out.kept hS
    clear Q11 R11 B11 Zb11 Zp11 Zu11 Xb11 Xp11 Xu11 Yb11 Yp11 Gb11 Gp11 Gu11
    clear hG hS
    show wpList Tryd.prog _ _ [_] _ w12
    unfold frRc
    rw [e70]
    clear e70
    go_upto_region 19 with fail
    have jM : Calls Tryd.prog 15 #[(.agg #[.string o.k, .slice a3 o.l.length c3, .int .i64 o.r.s, .slice a4 o.r.l.length c4, .string o.r.b, .int .i64 o.asked, .int .i64 o.got, .int .i64 o.ep]), .int .i64 1] w12 fun e w' => e = .returned (.int .i64 (1 + 2 * (o.l.length : Int) + 2 * (o.r.l.length : Int))) ∧ HasF w' w3.heap.size (.slice a3 o.l.length c3) (marksN 1 o.l.length) ∧ HasF w' w3.heap.size (.slice a4 o.r.l.length c4) (marksN (1 + 2 * o.l.length) o.r.l.length) ∧ Two w12 w' (Value.ownBlock (.slice a3 o.l.length c3)) (Value.ownBlock (.slice a4 o.r.l.length c4)) := markO 1 (by decide) (by decide) o (.slice a3 o.l.length c3) (.slice a4 o.r.l.length c4) w3.heap.size w12 Xp12.out Xu12.out HD12.out hl1 hl2
    obtain ⟨x0, x1, x2, x3, x4, x5, x6, x7, xf, xh⟩ := Xb12.out
    go_wp2_with fail
    refine jM.mono ?_
    rintro e w13 ⟨rfl, _, _, hT⟩
    clear x0 x1 x2 x3 x4 x5 x6 x7 xf xh
    have FX : ∀ k, k < w12.heap.size → (k < w3.heap.size ∨ w4.heap.size ≤ k) → w13.heap[k]? = w12.heap[k]? := fun k hk hh => hT.block k hk (fun e => by have := HX1.out k e.symm; omega) (fun e => by have := HX2.out k e.symm; omega)
    have B13 : Hid (Below w.heap.size w w13) := B12.out.trans (hT.below (fun k hk => by have := HX1.out k hk; omega) (fun k hk => by have := HX2.out k hk; omega) B12.out.size)
    have Q13 : Hid (ObB w13 w.heap.size o (.slice pa o.l.length pc) (.slice ua o.r.l.length uc)) := Q12.out.same (FX _ Q12.out.hi (by omega)) hT.size
    have R13 : Hid (RsB w13 (w.heap.size + 1) r (.slice xa r.l.length xc)) := R12.out.same (FX _ R12.out.hi (by omega)) hT.size
    have Zb13 : Hid (ObB w13 gb RR (.slice a1 RR.l.length c1) (.slice a2 RR.r.l.length c2)) := Zb12.out.same (FX _ Zb12.out.hi (by omega)) hT.size
    have Zp13 : Hid (HasF w13 w2.heap.size (.slice a1 RR.l.length c1) RR.l) := Zp12.out.off hT.size (fun k hk => FX k (Zp12.out.under k hk) (by have := HX6.out k hk; omega))
    have Zu13 : Hid (HasF w13 w2.heap.size (.slice a2 RR.r.l.length c2) RR.r.l) := Zu12.out.off hT.size (fun k hk => FX k (Zu12.out.under k hk) (by have := HX7.out k hk; omega))
    have Yb13 : Hid (RsB w13 w6.heap.size r (.slice a5 r.l.length c5)) := Yb12.out.same (FX _ Yb12.out.hi (by omega)) hT.size
    have Yp13 : Hid (HasF w13 w5.heap.size (.slice a5 r.l.length c5) r.l) := Yp12.out.off hT.size (fun k hk => FX k (Yp12.out.under k hk) (by have := HX3.out k hk; omega))
    have Gb13 : Hid (ObB w13 w8.heap.size RR (.slice a6 RR.l.length c6) (.slice a7 RR.r.l.length c7)) := Gb12.out.same (FX _ Gb12.out.hi (by omega)) hT.size
    have Gp13 : Hid (HasF w13 w7.heap.size (.slice a6 RR.l.length c6) RR.l) := Gp12.out.off hT.size (fun k hk => FX k (Gp12.out.under k hk) (by have := HX4.out k hk; omega))
    have Gu13 : Hid (HasF w13 w7.heap.size (.slice a7 RR.r.l.length c7) RR.r.l) := Gu12.out.off hT.size (fun k hk => FX k (Gu12.out.under k hk) (by have := HX5.out k hk; omega))
    clear Q12 R12 Zb12 Zp12 Zu12 Yb12 Yp12 Gb12 Gp12 Gu12
    clear FX hT B12 Xb12 Xp12 Xu12 HX1 HX2 HD12 jM
    have jM : Calls Tryd.prog 16 #[(.agg #[.int .i64 r.s, .slice a5 r.l.length c5, .string r.b]), .int .i64 (1 + 2 * (o.l.length : Int) + 2 * (o.r.l.length : Int))] w13 fun e w' => e = .returned (.int .i64 ((1 + 2 * (o.l.length : Int) + 2 * (o.r.l.length : Int)) + 2 * (r.l.length : Int))) ∧ HasF w' w5.heap.size (.slice a5 r.l.length c5) (marksN (1 + 2 * o.l.length + 2 * o.r.l.length) r.l.length) ∧ w13.grownBy w' (Value.ownBlock (.slice a5 r.l.length c5)) := by
      have := markRsN (1 + 2 * o.l.length + 2 * o.r.l.length) (by omega) (by omega) r (.slice a5 r.l.length c5) w5.heap.size w13 Yp13.out hl3
      have ec : ((1 + 2 * o.l.length + 2 * o.r.l.length : Nat) : Int) = (1 + 2 * (o.l.length : Int) + 2 * (o.r.l.length : Int)) := by omega
      rw [ec] at this
      exact this
    have nk : ¬ ((1 + 2 * (o.l.length : Int) + 2 * (o.r.l.length : Int)) + 2 * (r.l.length : Int)) < 0 := by omega
    generalize (1 + 2 * (o.l.length : Int) + 2 * (o.r.l.length : Int)) + 2 * (r.l.length : Int) = kz at jM nk
    obtain ⟨v0, v1, v2, vf, vh⟩ := Yb13.out
    go_wp2_with fail
    refine jM.mono ?_
    rintro e w14 ⟨rfl, _, hg⟩
    clear v0 v1 v2 vf vh
    have FX : ∀ k, k < w13.heap.size → (k < w5.heap.size ∨ w6.heap.size ≤ k) → w14.heap[k]? = w13.heap[k]? := fun k hk hh => hg.block k hk (fun e => by have := HX3.out k e.symm; omega)
    have B14 : Hid (Below w.heap.size w w14) := belowE10 B13.out hg B13.out.size (fun k hk => by have := HX3.out k hk; omega)
    have Q14 : Hid (ObB w14 w.heap.size o (.slice pa o.l.length pc) (.slice ua o.r.l.length uc)) := Q13.out.same (FX _ Q13.out.hi (by omega)) hg.size
    have R14 : Hid (RsB w14 (w.heap.size + 1) r (.slice xa r.l.length xc)) := R13.out.same (FX _ R13.out.hi (by omega)) hg.size
    have Zb14 : Hid (ObB w14 gb RR (.slice a1 RR.l.length c1) (.slice a2 RR.r.l.length c2)) := Zb13.out.same (FX _ Zb13.out.hi (by omega)) hg.size
    have Zp14 : Hid (HasF w14 w2.heap.size (.slice a1 RR.l.length c1) RR.l) := Zp13.out.off hg.size (fun k hk => FX k (Zp13.out.under k hk) (by have := HX6.out k hk; omega))
    have Zu14 : Hid (HasF w14 w2.heap.size (.slice a2 RR.r.l.length c2) RR.r.l) := Zu13.out.off hg.size (fun k hk => FX k (Zu13.out.under k hk) (by have := HX7.out k hk; omega))
    have Gb14 : Hid (ObB w14 w8.heap.size RR (.slice a6 RR.l.length c6) (.slice a7 RR.r.l.length c7)) := Gb13.out.same (FX _ Gb13.out.hi (by omega)) hg.size
    have Gp14 : Hid (HasF w14 w7.heap.size (.slice a6 RR.l.length c6) RR.l) := Gp13.out.off hg.size (fun k hk => FX k (Gp13.out.under k hk) (by have := HX4.out k hk; omega))
    have Gu14 : Hid (HasF w14 w7.heap.size (.slice a7 RR.r.l.length c7) RR.r.l) := Gu13.out.off hg.size (fun k hk => FX k (Gu13.out.under k hk) (by have := HX5.out k hk; omega))
    clear Q13 R13 Zb13 Zp13 Zu13 Gb13 Gp13 Gu13
    clear FX hg B13 Yb13 Yp13 HX3 jM
    have jE := fun W ha hb ra rb => lawEqOb RR (.slice a6 RR.l.length c6) (.slice a1 RR.l.length c1) (.slice a7 RR.r.l.length c7) (.slice a2 RR.r.l.length c2) W ha hb ra rb (by omega) (by omega) (by omega)
    unfold obV at jE
    obtain ⟨x0, x1, x2, x3, x4, x5, x6, x7, xf, xh⟩ := Gb14.out
    obtain ⟨z0, z1, z2, z3, z4, z5, z6, z7, zf, zh⟩ := Zb14.out
    go_wp2_with fail
    refine (jE _ Gp14.out.fls Zp14.out.fls Gu14.out.fls Zu14.out.fls).mono ?_
    rintro e w15 ⟨rfl, hb15⟩
    clear x0 x1 x2 x3 x4 x5 x6 x7 xf xh
    clear z0 z1 z2 z3 z4 z5 z6 z7 zf zh
    have Q15 : Hid (ObB w15 w.heap.size o (.slice pa o.l.length pc) (.slice ua o.r.l.length uc)) := Q14.out.next hb15
    have R15 : Hid (RsB w15 (w.heap.size + 1) r (.slice xa r.l.length xc)) := R14.out.next hb15
    have B15 : Hid (Below w.heap.size w w15) := past6 B14.out hb15
    have Zb15 : Hid (ObB w15 gb RR (.slice a1 RR.l.length c1) (.slice a2 RR.r.l.length c2)) := Zb14.out.next hb15
    have Zp15 : Hid (HasF w15 w2.heap.size (.slice a1 RR.l.length c1) RR.l) := Zp14.out.kept hb15
    have Zu15 : Hid (HasF w15 w2.heap.size (.slice a2 RR.r.l.length c2) RR.r.l) := Zu14.out.kept hb15
    have Gb15 : Hid (ObB w15 w8.heap.size RR (.slice a6 RR.l.length c6) (.slice a7 RR.r.l.length c7)) := Gb14.out.next hb15
    have Gp15 : Hid (HasF w15 w7.heap.size (.slice a6 RR.l.length c6) RR.l) := Gp14.out.kept hb15
    have Gu15 : Hid (HasF w15 w7.heap.size (.slice a7 RR.r.l.length c7) RR.r.l) := Gu14.out.kept hb15
    clear Q14 R14 B14 Zb14 Zp14 Zu14 Gb14 Gp14 Gu14
    clear hb15 jE
    go_upto_region 24 with fail
    have jM : Calls Tryd.prog 15 #[(.agg #[.string RR.k, .slice a6 RR.l.length c6, .int .i64 RR.r.s, .slice a7 RR.r.l.length c7, .string RR.r.b, .int .i64 RR.asked, .int .i64 RR.got, .int .i64 RR.ep]), .int .i64 1] w15 fun e w' => e = .returned (.int .i64 (1 + 2 * (RR.l.length : Int) + 2 * (RR.r.l.length : Int))) ∧ HasF w' w7.heap.size (.slice a6 RR.l.length c6) (marksN 1 RR.l.length) ∧ HasF w' w7.heap.size (.slice a7 RR.r.l.length c7) (marksN (1 + 2 * RR.l.length) RR.r.l.length) ∧ Two w15 w' (Value.ownBlock (.slice a6 RR.l.length c6)) (Value.ownBlock (.slice a7 RR.r.l.length c7)) := markO 1 (by decide) (by decide) RR (.slice a6 RR.l.length c6) (.slice a7 RR.r.l.length c7) w7.heap.size w15 Gp15.out Gu15.out HD14.out (by omega) (by omega)
    have jH : ∀ W, HasF W w7.heap.size (.slice a6 RR.l.length c6) (marksN 1 RR.l.length) → HasF W w7.heap.size (.slice a7 RR.r.l.length c7) (marksN (1 + 2 * RR.l.length) RR.r.l.length) → Calls Tryd.prog 17 #[(.agg #[.string RR.k, .slice a6 RR.l.length c6, .int .i64 RR.r.s, .slice a7 RR.r.l.length c7, .string RR.r.b, .int .i64 RR.asked, .int .i64 RR.got, .int .i64 RR.ep]), .int .i64 1] W fun e w' => e = .returned (.int .i64 (1 + 2 * (RR.l.length : Int) + 2 * (RR.r.l.length : Int))) ∧ Below W.heap.size W w' := fun W a b => heldO 1 (by decide) (by decide) RR (.slice a6 RR.l.length c6) (.slice a7 RR.r.l.length c7) w7.heap.size W a b (by omega) (by omega)
    have nm : ¬ (1 + 2 * (RR.l.length : Int) + 2 * (RR.r.l.length : Int)) < 0 := by omega
    generalize (1 + 2 * (RR.l.length : Int) + 2 * (RR.r.l.length : Int)) = mz at jM jH nm
    have dm : (mz != mz) = false := by simp
    obtain ⟨x0, x1, x2, x3, x4, x5, x6, x7, xf, xh⟩ := Gb15.out
    go_wp2_with fail
    refine jM.mono ?_
    rintro e w16 ⟨rfl, mA, mB, hT⟩
    clear x0 x1 x2 x3 x4 x5 x6 x7 xf xh
    have FX : ∀ k, k < w15.heap.size → (k < w7.heap.size ∨ w8.heap.size ≤ k) → w16.heap[k]? = w15.heap[k]? := fun k hk hh => hT.block k hk (fun e => by have := HX4.out k e.symm; omega) (fun e => by have := HX5.out k e.symm; omega)
    have B16 : Hid (Below w.heap.size w w16) := B15.out.trans (hT.below (fun k hk => by have := HX4.out k hk; omega) (fun k hk => by have := HX5.out k hk; omega) B15.out.size)
    have Q16 : Hid (ObB w16 w.heap.size o (.slice pa o.l.length pc) (.slice ua o.r.l.length uc)) := Q15.out.same (FX _ Q15.out.hi (by omega)) hT.size
    have R16 : Hid (RsB w16 (w.heap.size + 1) r (.slice xa r.l.length xc)) := R15.out.same (FX _ R15.out.hi (by omega)) hT.size
    have Zb16 : Hid (ObB w16 gb RR (.slice a1 RR.l.length c1) (.slice a2 RR.r.l.length c2)) := Zb15.out.same (FX _ Zb15.out.hi (by omega)) hT.size
    have Zp16 : Hid (HasF w16 w2.heap.size (.slice a1 RR.l.length c1) RR.l) := Zp15.out.off hT.size (fun k hk => FX k (Zp15.out.under k hk) (by have := HX6.out k hk; omega))
    have Zu16 : Hid (HasF w16 w2.heap.size (.slice a2 RR.r.l.length c2) RR.r.l) := Zu15.out.off hT.size (fun k hk => FX k (Zu15.out.under k hk) (by have := HX7.out k hk; omega))
    have Gb16 : Hid (ObB w16 w8.heap.size RR (.slice a6 RR.l.length c6) (.slice a7 RR.r.l.length c7)) := Gb15.out.same (FX _ Gb15.out.hi (by omega)) hT.size
    clear Q15 R15 Zb15 Zp15 Zu15 Gb15
    have Mp16 : Hid (HasF w16 w7.heap.size (.slice a6 RR.l.length c6) (marksN 1 RR.l.length)) := mA
    have Mu16 : Hid (HasF w16 w7.heap.size (.slice a7 RR.r.l.length c7) (marksN (1 + 2 * RR.l.length) RR.r.l.length)) := mB
    clear FX hT B15 Gp15 Gu15 HX4 HX5 HD14 jM mA mB
    obtain ⟨x0, x1, x2, x3, x4, x5, x6, x7, xf, xh⟩ := Gb16.out
    go_wp2_with fail
    refine (jH _ Mp16.out Mu16.out).mono ?_
    rintro e w17 ⟨rfl, hb17⟩
    clear x0 x1 x2 x3 x4 x5 x6 x7 xf xh
    have Q17 : Hid (ObB w17 w.heap.size o (.slice pa o.l.length pc) (.slice ua o.r.l.length uc)) := Q16.out.next hb17
    have R17 : Hid (RsB w17 (w.heap.size + 1) r (.slice xa r.l.length xc)) := R16.out.next hb17
    have B17 : Hid (Below w.heap.size w w17) := past6 B16.out hb17
    have Zb17 : Hid (ObB w17 gb RR (.slice a1 RR.l.length c1) (.slice a2 RR.r.l.length c2)) := Zb16.out.next hb17
    have Zp17 : Hid (HasF w17 w2.heap.size (.slice a1 RR.l.length c1) RR.l) := Zp16.out.kept hb17
    have Zu17 : Hid (HasF w17 w2.heap.size (.slice a2 RR.r.l.length c2) RR.r.l) := Zu16.out.kept hb17
    have Gb17 : Hid (ObB w17 w8.heap.size RR (.slice a6 RR.l.length c6) (.slice a7 RR.r.l.length c7)) := Gb16.out.next hb17
    have Mp17 : Hid (HasF w17 w7.heap.size (.slice a6 RR.l.length c6) (marksN 1 RR.l.length)) := Mp16.out.kept hb17
    have Mu17 : Hid (HasF w17 w7.heap.size (.slice a7 RR.r.l.length c7) (marksN (1 + 2 * RR.l.length) RR.r.l.length)) := Mu16.out.kept hb17
    clear Q16 R16 B16 Zb16 Zp16 Zu16 Gb16 Mp16 Mu16
    clear hb17
    go_upto_region 31 with fail
    generalize hA : Act.mk _ _ = A
    obtain ⟨s', hs, y_2, y_3, y_4, y_5, y_8, y_10, y_11, y_14, y_15, y_17⟩ : ∃ s : Nat → Value, A = frRd s o r RR rb asked got pa ua xa pc uc xc w.heap.size w17.heap.size s ∧ s 2 = .int .i64 asked ∧ s 3 = .int .i64 got ∧ s 4 = .pointer (some ⟨w.heap.size, 0, none⟩) ∧ s 5 = .pointer (some ⟨w.heap.size + 1, 0, none⟩) ∧ s 8 = .bool false ∧ s 10 = .pointer (some ⟨gb, 0, none⟩) ∧ s 11 = .bool rb ∧ s 14 = .pointer (some ⟨w8.heap.size, 0, none⟩) ∧ s 15 = .bool rb ∧ s 17 = .int .i64 mz := by
      refine ⟨fun i => A.tmps.getD i undef, ?_, ?_, ?_, ?_, ?_, ?_, ?_, ?_, ?_, ?_, ?_⟩ <;> rw [← hA] <;> rfl
    rw [hs]
    clear hs hA
    clear s2 s3 s4 s5 s8 s10 s11 s12 s13 s14 s15
    obtain ⟨s, rfl⟩ : ∃ z, z = s' := ⟨s', rfl⟩
    have s2 := y_2
    have s3 := y_3
    have s4 := y_4
    have s5 := y_5
    have s8 := y_8
    have s10 := y_10
    have s11 := y_11
    have s14 := y_14
    have s15 := y_15
    have s17 := y_17
    clear y_2 y_3 y_4 y_5 y_8 y_10 y_11 y_14 y_15 y_17
    refine region_headsL 12 mixed (by decide) (by kernel_rfl) (by kernel_rfl) (by kernel_rfl) (by kernel_rfl) (frRd s o r RR rb asked got pa ua xa pc uc xc w.heap.size w17.heap.size) dRd (S8 w17 RR 19) (GRd s o r RR rb asked got pa ua xa pc uc xc w.heap.size w17.heap.size) (fun i j hi hj h => dRd_ne hi hj h) ?put s rfl ?hS ?step ?done
    case put =>
      intro i o hi ho t v
      rcases (show i = 0 ∨ i = 1 ∨ i = 2 ∨ i = 3 ∨ i = 4 ∨ i = 5 ∨ i = 6 ∨ i = 7 ∨ i = 8 ∨ i = 9 ∨ i = 10 ∨ i = 11 by omega) with rfl | rfl | rfl | rfl | rfl | rfl | rfl | rfl | rfl | rfl | rfl | rfl
      all_goals
        obtain rfl := Option.some.inj ho
        rfl
    case step =>
      intro i o hi ho listed hnl hcl hls t x hS hdep K hK
      rcases (show i = 0 ∨ i = 1 ∨ i = 2 ∨ i = 3 ∨ i = 4 ∨ i = 5 ∨ i = 6 ∨ i = 7 ∨ i = 8 ∨ i = 9 ∨ i = 10 ∨ i = 11 by omega) with rfl | rfl | rfl | rfl | rfl | rfl | rfl | rfl | rfl | rfl | rfl | rfl
      all_goals obtain rfl := Option.some.inj ho
      · obtain ⟨c0, c1, c2, c3, c4, c5, c6, c7, _, _⟩ := Q17.out.next hS.1
        have HK : Hid (K ((frRd s o r RR rb asked got pa ua xa pc uc xc w.heap.size w17.heap.size t).put (some 103) (.agg #[.string o.k, .slice pa o.l.length pc, .int .i64 o.r.s, .slice ua o.r.l.length uc, .string o.r.b, .int .i64 o.asked, .int .i64 o.got, .int .i64 o.ep])) x) := hK _ _ (hS.upd (by decide) (by decide) (Below.refl _ _)) (fun j u hj hne h => h) rfl
        have h2 := HK.out
        unfold frRd at h2 ⊢
        go_simp
        simpa [Act.put, c0, c1, c2, c3, c4, c5, c6, c7, s2, s3, s4, s5, s8, s10, s11, s14, s15, s17] using h2
      · have e0 : t 103 = (.agg #[.string o.k, .slice pa o.l.length pc, .int .i64 o.r.s, .slice ua o.r.l.length uc, .string o.r.b, .int .i64 o.asked, .int .i64 o.got, .int .i64 o.ep]) := hdep { on := 0, ground := Ground.data } (by simp) rfl
        refine step_call1 rfl 7 (.tmp 103) _ rfl (.agg #[.string o.k, .slice pa o.l.length pc, .int .i64 o.r.s, .slice ua o.r.l.length uc, .string o.r.b, .int .i64 o.asked, .int .i64 o.got, .int .i64 o.ep]) e0 (Go.Proofs.enters_of Tryd.func7 (by kernel_rfl) rfl _) (fun v y => (∃ (a1 : Option Addr) (c1 : Nat) (a2 : Option Addr) (c2 : Nat), v = (.agg #[.string o.k, .slice a1 o.l.length c1, .int .i64 o.r.s, .slice a2 o.r.l.length c2, .string o.r.b, .int .i64 o.asked, .int .i64 o.got, .int .i64 o.ep]) ∧ HasF y w17.heap.size (.slice a1 o.l.length c1) o.l ∧ HasF y w17.heap.size (.slice a2 o.r.l.length c2) o.r.l) ∧ Below x.heap.size x y) ((lawToOb o (.slice pa o.l.length pc) (.slice ua o.r.l.length uc) x (KA.out.1.1.kept (past6 B17.out hS.1)) (KA.out.1.2.2.2.1.1.kept (past6 B17.out hS.1)) hl1 hl2).mono ?_) ?_
        · rintro e y ⟨v2, u2, h0, h1, h2, _, h3⟩
          obtain ⟨a1, c1, rfl, _⟩ := h1.form
          obtain ⟨a2, c2, rfl, _⟩ := h2.form
          exact ⟨_, h0, ⟨a1, c1, a2, c2, rfl, (h1.low hS.1.size).has, (h2.low hS.1.size).has⟩, h3⟩
        · rintro v y ⟨h1, h2⟩
          exact hK v y (hS.upd (by decide) (by decide) h2) (fun j u hj hne h => GRd.keep s o r RR rb asked got pa ua xa pc uc xc w.heap.size w17.heap.size (Kps.of h2) j u hj h) h1
      · obtain ⟨c0, c1, c2, _, _⟩ := R17.out.next hS.1
        have HK : Hid (K ((frRd s o r RR rb asked got pa ua xa pc uc xc w.heap.size w17.heap.size t).put (some 105) (.agg #[.int .i64 r.s, .slice xa r.l.length xc, .string r.b])) x) := hK _ _ (hS.upd (by decide) (by decide) (Below.refl _ _)) (fun j u hj hne h => h) rfl
        have h2 := HK.out
        unfold frRd at h2 ⊢
        go_simp
        simpa [Act.put, c0, c1, c2, s2, s3, s4, s5, s8, s10, s11, s14, s15, s17] using h2
      · have e2 : t 105 = (.agg #[.int .i64 r.s, .slice xa r.l.length xc, .string r.b]) := hdep { on := 2, ground := Ground.data } (by simp) rfl
        refine step_call1 rfl 12 (.tmp 105) _ rfl (.agg #[.int .i64 r.s, .slice xa r.l.length xc, .string r.b]) e2 (Go.Proofs.enters_of Tryd.func12 (by kernel_rfl) rfl _) (fun v y => (∃ (a1 : Option Addr) (c1 : Nat), v = (.agg #[.int .i64 r.s, .slice a1 r.l.length c1, .string r.b]) ∧ HasF y w17.heap.size (.slice a1 r.l.length c1) r.l) ∧ Below x.heap.size x y) ((lawToRs r (.slice xa r.l.length xc) x (KA.out.2.1.kept (past6 B17.out hS.1)) hl3).mono ?_) ?_
        · rintro e y ⟨u2, h0, h1, h3⟩
          obtain ⟨a1, c1, rfl, _⟩ := h1.form
          exact ⟨_, h0, ⟨a1, c1, rfl, (h1.low hS.1.size).has⟩, h3⟩
        · rintro v y ⟨h1, h2⟩
          exact hK v y (hS.upd (by decide) (by decide) h2) (fun j u hj hne h => GRd.keep s o r RR rb asked got pa ua xa pc uc xc w.heap.size w17.heap.size (Kps.of h2) j u hj h) h1
      · have HK : Hid (K ((frRd s o r RR rb asked got pa ua xa pc uc xc w.heap.size w17.heap.size t).put (some 107) (.int .i64 asked)) x) := hK _ _ (hS.upd (by decide) (by decide) (Below.refl _ _)) (fun j u hj hne h => h) rfl
        have h2 := HK.out
        unfold frRd at h2 ⊢
        go_simp
        simpa [Act.put, s2, s3, s4, s5, s8, s10, s11, s14, s15, s17] using h2
      · have HK : Hid (K ((frRd s o r RR rb asked got pa ua xa pc uc xc w.heap.size w17.heap.size t).put (some 108) (.int .i64 got)) x) := hK _ _ (hS.upd (by decide) (by decide) (Below.refl _ _)) (fun j u hj hne h => h) rfl
        have h2 := HK.out
        unfold frRd at h2 ⊢
        go_simp
        simpa [Act.put, s2, s3, s4, s5, s8, s10, s11, s14, s15, s17] using h2
      · have e1 : ∃ (a1 : Option Addr) (c1 : Nat) (a2 : Option Addr) (c2 : Nat), t 104 = (.agg #[.string o.k, .slice a1 o.l.length c1, .int .i64 o.r.s, .slice a2 o.r.l.length c2, .string o.r.b, .int .i64 o.asked, .int .i64 o.got, .int .i64 o.ep]) ∧ HasF x w17.heap.size (.slice a1 o.l.length c1) o.l ∧ HasF x w17.heap.size (.slice a2 o.r.l.length c2) o.r.l := hdep { on := 1, ground := Ground.data } (by simp) rfl
        obtain ⟨p1, d1, p2, d2, e1, h1a, h1b⟩ := e1
        have e3 : ∃ (a1 : Option Addr) (c1 : Nat), t 106 = (.agg #[.int .i64 r.s, .slice a1 r.l.length c1, .string r.b]) ∧ HasF x w17.heap.size (.slice a1 r.l.length c1) r.l := hdep { on := 3, ground := Ground.data } (by simp) rfl
        obtain ⟨p3, d3, e3, h3a⟩ := e3
        have e4 : t 107 = (.int .i64 asked) := hdep { on := 4, ground := Ground.data } (by simp) rfl
        have e5 : t 108 = (.int .i64 got) := hdep { on := 5, ground := Ground.data } (by simp) rfl
        have k1 : (frRd s o r RR rb asked got pa ua xa pc uc xc w.heap.size w17.heap.size t).eval (.tmp 104) = (.agg #[.string o.k, .slice p1 o.l.length d1, .int .i64 o.r.s, .slice p2 o.r.l.length d2, .string o.r.b, .int .i64 o.asked, .int .i64 o.got, .int .i64 o.ep]) := e1
        have k3 : (frRd s o r RR rb asked got pa ua xa pc uc xc w.heap.size w17.heap.size t).eval (.tmp 106) = (.agg #[.int .i64 r.s, .slice p3 r.l.length d3, .string r.b]) := e3
        have k4 : (frRd s o r RR rb asked got pa ua xa pc uc xc w.heap.size w17.heap.size t).eval (.tmp 107) = .int .i64 asked := e4
        have k5 : (frRd s o r RR rb asked got pa ua xa pc uc xc w.heap.size w17.heap.size t).eval (.tmp 108) = .int .i64 got := e5
        refine step_call rfl 13 #[.tmp 104, .tmp 106, .tmp 107, .tmp 108] _ rfl #[(.agg #[.string o.k, .slice p1 o.l.length d1, .int .i64 o.r.s, .slice p2 o.r.l.length d2, .string o.r.b, .int .i64 o.asked, .int .i64 o.got, .int .i64 o.ep]), (.agg #[.int .i64 r.s, .slice p3 r.l.length d3, .string r.b]), .int .i64 asked, .int .i64 got] (by simp [k1, k3, k4, k5]) (Go.Proofs.enters_of Tryd.func13 (by kernel_rfl) rfl _) (fun v y => (∃ (a1 : Option Addr) (c1 : Nat) (a2 : Option Addr) (c2 : Nat), v = .tuple #[.agg #[.string RR.k, .slice a1 RR.l.length c1, .int .i64 RR.r.s, .slice a2 RR.r.l.length c2, .string RR.r.b, .int .i64 RR.asked, .int .i64 RR.got, .int .i64 RR.ep], .bool rb] ∧ HasF y w17.heap.size (.slice a1 RR.l.length c1) RR.l ∧ HasF y w17.heap.size (.slice a2 RR.r.l.length c2) RR.r.l) ∧ Below x.heap.size x y) ((HIR.out x _ _ _ _ (past6 B17.out hS.1) h1a h1b h3a).mono ?_) ?_
        · rintro e y ⟨v2, u2, h0, h1, h2, _, h3⟩
          obtain ⟨a1, c1, rfl, _⟩ := h1.form
          obtain ⟨a2, c2, rfl, _⟩ := h2.form
          exact ⟨_, h0, ⟨a1, c1, a2, c2, rfl, (h1.low hS.1.size), (h2.low hS.1.size)⟩, h3⟩
        · rintro v y ⟨h1, h2⟩
          exact hK v y (hS.upd (by decide) (by decide) h2) (fun j u hj hne h => GRd.keep s o r RR rb asked got pa ua xa pc uc xc w.heap.size w17.heap.size (Kps.of h2) j u hj h) h1
      · have e6 : ∃ (a1 : Option Addr) (c1 : Nat) (a2 : Option Addr) (c2 : Nat), t 109 = .tuple #[.agg #[.string RR.k, .slice a1 RR.l.length c1, .int .i64 RR.r.s, .slice a2 RR.r.l.length c2, .string RR.r.b, .int .i64 RR.asked, .int .i64 RR.got, .int .i64 RR.ep], .bool rb] ∧ HasF x w17.heap.size (.slice a1 RR.l.length c1) RR.l ∧ HasF x w17.heap.size (.slice a2 RR.r.l.length c2) RR.r.l := hdep { on := 6, ground := Ground.data } (by simp) rfl
        obtain ⟨a1, c1, a2, c2, e6, h6a, h6b⟩ := e6
        have HK : Hid (K ((frRd s o r RR rb asked got pa ua xa pc uc xc w.heap.size w17.heap.size t).put (some 102) (.tuple #[.agg #[.string RR.k, .slice a1 RR.l.length c1, .int .i64 RR.r.s, .slice a2 RR.r.l.length c2, .string RR.r.b, .int .i64 RR.asked, .int .i64 RR.got, .int .i64 RR.ep], .bool rb])) x) := hK _ _ (hS.upd (by decide) (by decide) (Below.refl _ _)) (fun j u hj hne h => h) ⟨a1, c1, a2, c2, rfl, h6a, h6b⟩
        have h2 := HK.out
        unfold frRd at h2 ⊢
        go_simp
        simpa [Act.put, e6, s2, s3, s4, s5, s8, s10, s11, s14, s15, s17] using h2
      · have e7 : ∃ (a1 : Option Addr) (c1 : Nat) (a2 : Option Addr) (c2 : Nat), t 102 = .tuple #[.agg #[.string RR.k, .slice a1 RR.l.length c1, .int .i64 RR.r.s, .slice a2 RR.r.l.length c2, .string RR.r.b, .int .i64 RR.asked, .int .i64 RR.got, .int .i64 RR.ep], .bool rb] ∧ HasF x w17.heap.size (.slice a1 RR.l.length c1) RR.l ∧ HasF x w17.heap.size (.slice a2 RR.r.l.length c2) RR.r.l := hdep { on := 7, ground := Ground.data } (by simp) rfl
        obtain ⟨a1, c1, a2, c2, e7, h6a, h6b⟩ := e7
        have HK : Hid (K ((frRd s o r RR rb asked got pa ua xa pc uc xc w.heap.size w17.heap.size t).put (some 110) (.agg #[.string RR.k, .slice a1 RR.l.length c1, .int .i64 RR.r.s, .slice a2 RR.r.l.length c2, .string RR.r.b, .int .i64 RR.asked, .int .i64 RR.got, .int .i64 RR.ep])) x) := hK _ _ (hS.upd (by decide) (by decide) (Below.refl _ _)) (fun j u hj hne h => h) ⟨a1, c1, a2, c2, rfl, h6a, h6b⟩
        have h2 := HK.out
        unfold frRd at h2 ⊢
        go_simp
        simpa [Act.put, e7, s2, s3, s4, s5, s8, s10, s11, s14, s15, s17] using h2
      · have e7 : ∃ (a1 : Option Addr) (c1 : Nat) (a2 : Option Addr) (c2 : Nat), t 102 = .tuple #[.agg #[.string RR.k, .slice a1 RR.l.length c1, .int .i64 RR.r.s, .slice a2 RR.r.l.length c2, .string RR.r.b, .int .i64 RR.asked, .int .i64 RR.got, .int .i64 RR.ep], .bool rb] ∧ HasF x w17.heap.size (.slice a1 RR.l.length c1) RR.l ∧ HasF x w17.heap.size (.slice a2 RR.r.l.length c2) RR.r.l := hdep { on := 7, ground := Ground.data } (by simp) rfl
        obtain ⟨a1, c1, a2, c2, e7, h6a, h6b⟩ := e7
        have HK : Hid (K ((frRd s o r RR rb asked got pa ua xa pc uc xc w.heap.size w17.heap.size t).put (some 111) (.bool rb)) x) := hK _ _ (hS.upd (by decide) (by decide) (Below.refl _ _)) (fun j u hj hne h => h) rfl
        have h2 := HK.out
        unfold frRd at h2 ⊢
        go_simp
        simpa [Act.put, e7, s2, s3, s4, s5, s8, s10, s11, s14, s15, s17] using h2
      · have h11 : listed.getD 11 false = false := by
          cases hq : listed.getD 11 false with
          | false => rfl
          | true =>
            have := hcl 11 _ rfl hq { on := 10, ground := Ground.data } (by simp) rfl
            rw [hnl] at this
            cases this
        have hba := (Below.refl x.heap.size x).alloc (Nat.le_refl _) (.cells #[.string ⟨#[]⟩, .slice none 0 0, .int .i64 0, .slice none 0 0, .string ⟨#[]⟩, .int .i64 0, .int .i64 0, .int .i64 0] 33)
        have HK : Hid (K ((frRd s o r RR rb asked got pa ua xa pc uc xc w.heap.size w17.heap.size t).put (some 19) (.pointer (some ⟨x.heap.size, 0, none⟩))) (x.alloc (.cells #[.string ⟨#[]⟩, .slice none 0 0, .int .i64 0, .slice none 0 0, .string ⟨#[]⟩, .int .i64 0, .int .i64 0, .int .i64 0] 33))) := hK _ _ (hS.new (by decide) h11 hba) (fun j u hj hne h => GRd.keep s o r RR rb asked got pa ua xa pc uc xc w.heap.size w17.heap.size (Kps.of hba) j u hj h) ⟨x.heap.size, rfl, ⟨_, newAt x _, rfl⟩, hS.1.size⟩
        have h2 := HK.out
        unfold frRd at h2 ⊢
        go_simp
        simpa [Act.put, s2, s3, s4, s5, s8, s10, s11, s14, s15, s17] using h2
      · have e8 : ∃ (a1 : Option Addr) (c1 : Nat) (a2 : Option Addr) (c2 : Nat), t 110 = (.agg #[.string RR.k, .slice a1 RR.l.length c1, .int .i64 RR.r.s, .slice a2 RR.r.l.length c2, .string RR.r.b, .int .i64 RR.asked, .int .i64 RR.got, .int .i64 RR.ep]) ∧ HasF x w17.heap.size (.slice a1 RR.l.length c1) RR.l ∧ HasF x w17.heap.size (.slice a2 RR.r.l.length c2) RR.r.l := hdep { on := 8, ground := Ground.data } (by simp) rfl
        obtain ⟨a1, c1, a2, c2, e8, h8a, h8b⟩ := e8
        have e10 : ∃ gb, t 19 = .pointer (some ⟨gb, 0, none⟩) ∧ OBk x gb ∧ w17.heap.size ≤ gb := hdep { on := 10, ground := Ground.data } (by simp) rfl
        obtain ⟨gb, e10, hX, hgb⟩ := e10
        have hkp := Kps.puL hX (obL RR (.slice a1 RR.l.length c1) (.slice a2 RR.r.l.length c2)) 0
        have hS2 : S8 w17 RR 19 (listed.setIfInBounds 11 true) (updH t (dRd 11) undef) (putL x gb (obL RR (.slice a1 RR.l.length c1) (.slice a2 RR.r.l.length c2)) 0) := ⟨putL_below hgb _ 0 hS.1, fun _ => ⟨gb, a1, c1, a2, c2, by rw [updH_other _ _ (by decide)]; exact e10, hgb, hX.puts RR _ _, h8a.kps hkp, h8b.kps hkp⟩⟩
        have HK : Hid (K ((frRd s o r RR rb asked got pa ua xa pc uc xc w.heap.size w17.heap.size t).put none undef) (putL x gb (obL RR (.slice a1 RR.l.length c1) (.slice a2 RR.r.l.length c2)) 0)) := hK _ _ hS2 (fun j u hj hne h => GRd.keep s o r RR rb asked got pa ua xa pc uc xc w.heap.size w17.heap.size hkp j u hj h) trivial
        obtain ⟨cc, hc1, hc2⟩ := hX
        obtain ⟨q0, q1, q2, q3, q4, q5, q6, q7, rfl⟩ := array8m hc2
        have z0 : x.cell? ⟨gb, 0, none⟩ = some q0 := rowCell hc1
        have z1 : x.cell? ⟨gb, 1, none⟩ = some q1 := rowCell hc1
        have z2 : x.cell? ⟨gb, 2, none⟩ = some q2 := rowCell hc1
        have z3 : x.cell? ⟨gb, 3, none⟩ = some q3 := rowCell hc1
        have z4 : x.cell? ⟨gb, 4, none⟩ = some q4 := rowCell hc1
        have z5 : x.cell? ⟨gb, 5, none⟩ = some q5 := rowCell hc1
        have z6 : x.cell? ⟨gb, 6, none⟩ = some q6 := rowCell hc1
        have z7 : x.cell? ⟨gb, 7, none⟩ = some q7 := rowCell hc1
        have zf : ∀ k, x.frozen? ⟨gb, k, none⟩ = false := fun k => by simp [World.frozen?, hc1]
        have h2 := HK.out
        unfold frRd at h2 ⊢
        simp only [obL, putL, Nat.zero_add, Nat.reduceAdd] at h2
        go_simp
        simpa [Act.put, e8, e10, z0, z1, z2, z3, z4, z5, z6, z7, zf, s2, s3, s4, s5, s8, s10, s11, s14, s15, s17] using h2
    case hS => exact ⟨⟨rfl, rfl, rfl, Nat.le_refl _, fun _ _ => rfl⟩, fun h => by cases h⟩
    case done =>
    intro listed t x hall hS hG
    have e111 : t 111 = .bool rb := hG 9 (by decide)
    obtain ⟨gh, b1, d1, b2, d2, e19, hgh, hXX, hA', hB'⟩ := hS.2 (hall 11 (by decide))
    have Hb18 : Hid (ObB x gh RR (.slice b1 RR.l.length d1) (.slice b2 RR.r.l.length d2)) := hXX.ob
    have Hp18 : Hid (HasF x w17.heap.size (.slice b1 RR.l.length d1) RR.l) := hA'
    have Hu18 : Hid (HasF x w17.heap.size (.slice b2 RR.r.l.length d2) RR.r.l) := hB'
    have hS' := hS.1
    obtain ⟨w18, rfl⟩ : ∃ z, z = x := ⟨x, rfl⟩
    have Q18 : Hid (ObB w18 w.heap.size o (.slice pa o.l.length pc) (.slice ua o.r.l.length uc)) := Q17.out.next hS'
    have R18 : Hid (RsB w18 (w.heap.size + 1) r (.slice xa r.l.length xc)) := R17.out.next hS'
    have B18 : Hid (Below w.heap.size w w18) := past6 B17.out hS'
    have Zb18 : Hid (ObB w18 gb RR (.slice a1 RR.l.length c1) (.slice a2 RR.r.l.length c2)) := Zb17.out.next hS'
    have Zp18 : Hid (HasF w18 w2.heap.size (.slice a1 RR.l.length c1) RR.l) := Zp17.out.kept hS'
    have Zu18 : Hid (HasF w18 w2.heap.size (.slice a2 RR.r.l.length c2) RR.r.l) := Zu17.out.kept hS'
    have Gb18 : Hid (ObB w18 w8.heap.size RR (.slice a6 RR.l.length c6) (.slice a7 RR.r.l.length c7)) := Gb17.out.next hS'
    have Mp18 : Hid (HasF w18 w7.heap.size (.slice a6 RR.l.length c6) (marksN 1 RR.l.length)) := Mp17.out.kept hS'
    have Mu18 : Hid (HasF w18 w7.heap.size (.slice a7 RR.r.l.length c7) (marksN (1 + 2 * RR.l.length) RR.r.l.length)) := Mu17.out.kept hS'
    clear Q17 R17 B17 Zb17 Zp17 Zu17 Gb17 Mp17 Mu17
    clear hA' hB' hXX hS hG hall hS'
    show wpList Tryd.prog _ _ [_] _ w18
    unfold frRd
    rw [e111, e19]
    clear e111 e19
    go_upto_region 32 with fail
    have jE := fun W ha hb ra rb => lawEqOb RR (.slice b1 RR.l.length d1) (.slice a1 RR.l.length c1) (.slice b2 RR.r.l.length d2) (.slice a2 RR.r.l.length c2) W ha hb ra rb (by omega) (by omega) (by omega)
    unfold obV at jE
    obtain ⟨x0, x1, x2, x3, x4, x5, x6, x7, xf, xh⟩ := Hb18.out
    obtain ⟨z0, z1, z2, z3, z4, z5, z6, z7, zf, zh⟩ := Zb18.out
    go_wp2_with fail
    refine (jE _ Hp18.out.fls Zp18.out.fls Hu18.out.fls Zu18.out.fls).mono ?_
    rintro e w19 ⟨rfl, hb19⟩
    clear x0 x1 x2 x3 x4 x5 x6 x7 xf xh
    clear z0 z1 z2 z3 z4 z5 z6 z7 zf zh
    have Q19 : Hid (ObB w19 w.heap.size o (.slice pa o.l.length pc) (.slice ua o.r.l.length uc)) := Q18.out.next hb19
    have R19 : Hid (RsB w19 (w.heap.size + 1) r (.slice xa r.l.length xc)) := R18.out.next hb19
    have B19 : Hid (Below w.heap.size w w19) := past6 B18.out hb19
    have Zb19 : Hid (ObB w19 gb RR (.slice a1 RR.l.length c1) (.slice a2 RR.r.l.length c2)) := Zb18.out.next hb19
    have Zp19 : Hid (HasF w19 w2.heap.size (.slice a1 RR.l.length c1) RR.l) := Zp18.out.kept hb19
    have Zu19 : Hid (HasF w19 w2.heap.size (.slice a2 RR.r.l.length c2) RR.r.l) := Zu18.out.kept hb19
    have Gb19 : Hid (ObB w19 w8.heap.size RR (.slice a6 RR.l.length c6) (.slice a7 RR.r.l.length c7)) := Gb18.out.next hb19
    have Mp19 : Hid (HasF w19 w7.heap.size (.slice a6 RR.l.length c6) (marksN 1 RR.l.length)) := Mp18.out.kept hb19
    have Mu19 : Hid (HasF w19 w7.heap.size (.slice a7 RR.r.l.length c7) (marksN (1 + 2 * RR.l.length) RR.r.l.length)) := Mu18.out.kept hb19
    clear Q18 R18 B18 Zb18 Zp18 Zu18 Gb18 Mp18 Mu18
    clear hb19 jE Hb18 Hp18 Hu18
    obtain ⟨x0, x1, x2, x3, x4, x5, x6, x7, xf, xh⟩ := Gb19.out
    go_wp2_with fail
    refine (jH _ Mp19.out Mu19.out).mono ?_
    rintro e w20 ⟨rfl, hb20⟩
    have B20 : Hid (Below w.heap.size w w20) := past6 B19.out hb20
    clear x0 x1 x2 x3 x4 x5 x6 x7 xf xh
    clear hb20
    go_wp2
    go_ret
    exact ⟨rfl, B20.out⟩
end Go.Proofs.YtkaogmdhjcgcdaaDoor
