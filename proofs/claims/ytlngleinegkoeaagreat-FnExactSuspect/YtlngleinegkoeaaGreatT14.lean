/-
  A struct in a block, whatever its cells.
  A region that draws its order, whose operations only read but for a few at its end that wait for all the others, walked once: what is read first, in the text's order, then the end.
  The specification's ControlOk and Tighter by their contracts; the laws' own helpers on control.
-/
import Derived.Test.YtlngleinegkoeaaGreatT13
import Derived.Test.YtlngleinegkoeaaGreatRows
import Derived.StillTail
import Derived.Deep.QuietTactic
import Derived.Lib.QuietBelow
import Derived.BigQuiet
namespace Go.Proofs.YtlngleinegkoeaaGreat
open Go.RowKit
set_option linter.unusedVariables false

/-- The struct x lies in the block b. -/
structure BlkE {α : Type} (E : Enc α) (w : World) (b : Nat) (x : α) : Prop where
  c : ∀ i u, (E.c x)[i]? = some u → w.cell? ⟨b, i, Option.none⟩ = some u
  fz : ∀ k, w.frozen? ⟨b, k, Option.none⟩ = false
  hi : b < w.heap.size
theorem BlkE.new {α : Type} {E : Enc α} (w : World) (x : α) (C : Array Value) (t : TypeId) (h : C.toList = E.c x) : BlkE E (w.alloc (.cells C t)) w.heap.size x where
  c := fun i u hu => by rw [World.cell?_alloc_mark]; rw [← h] at hu; simpa using hu
  fz := fun k => by rw [World.frozen?_alloc_mark]; simp
  hi := by simp
theorem BlkE.same {α : Type} {E : Enc α} {w w' : World} {b : Nat} {x : α} (h : BlkE E w b x) (e : w'.heap[b]? = w.heap[b]?) (hs : w.heap.size ≤ w'.heap.size) : BlkE E w' b x where
  c := fun i u hu => (World.cell?_of_block (a := ⟨b, i, Option.none⟩) e).trans (h.c i u hu)
  fz := fun k => (World.frozen?_of_block (a := ⟨b, k, Option.none⟩) e).trans (h.fz k)
  hi := Nat.lt_of_lt_of_le h.hi hs
theorem BlkE.kept {α : Type} {E : Enc α} {w w' : World} {b : Nat} {x : α} (h : BlkE E w b x) (hb : Below w.heap.size w w') : BlkE E w' b x := h.same (hb.block b h.hi) hb.size
theorem BlkE.alloc {α : Type} {E : Enc α} {w : World} {b : Nat} {x : α} (h : BlkE E w b x) (o : Obj) : BlkE E (w.alloc o) b x := h.kept ((Below.refl _ w).alloc (Nat.le_refl _) o)
theorem BlkE.drewN {α : Type} {E : Enc α} {w : World} {b : Nat} {x : α} (h : BlkE E w b x) (n : Nat) : BlkE E (w.drewN n) b x := h.same rfl (Nat.le_refl _)
/-- One cell stored. -/
theorem BlkE.put {α : Type} {E : Enc α} {w : World} {b : Nat} {x : α} (h : BlkE E w b x) {i : Nat} (hi : i < E.k) (u : Value) (y : α) (hy : E.c y = (E.c x).set i u) : BlkE E (w.setCell ⟨b, i, Option.none⟩ u) b y where
  c := fun j v hv => by
    rw [hy] at hv
    by_cases e : j = i
    · subst e
      have hlt : j < (E.c x).length := by rw [E.len]; exact hi
      have e2 : v = u := by rw [List.getElem?_set_self hlt] at hv; exact (Option.some.inj hv).symm
      subst e2
      exact World.cell?_setCell_same _ _ _ (h.c j ((E.c x)[j]'hlt) (List.getElem?_eq_getElem hlt))
    · rw [List.getElem?_set_ne (fun h => e h.symm)] at hv
      rw [World.cell?_setCell_other _ _ _ _ (by simp <;> omega)]
      exact h.c j v hv
  fz := fun k => by rw [World.frozen?_setCell]; exact h.fz k
  hi := by rw [World.size_setCell]; exact h.hi
/-- A cell of another block stored. -/
theorem BlkE.other {α : Type} {E : Enc α} {w : World} {b : Nat} {x : α} (h : BlkE E w b x) (a : Addr) (u : Value) (hne : b ≠ a.block) : BlkE E (w.setCell a u) b x := h.same (Below.heap_setCell _ _ _ _ hne) (by rw [World.size_setCell]; exact Nat.le_refl _)
/-- All its cells stored, one behind the other. -/
def putL (w : World) (b : Nat) : List Value → Nat → World
  | [], _ => w
  | v :: vs, i => putL (w.setCell ⟨b, i, Option.none⟩ v) b vs (i + 1)
theorem putL_block (b : Nat) : ∀ (vs : List Value) (i : Nat) (w : World) (k : Nat), k ≠ b → (putL w b vs i).heap[k]? = w.heap[k]?
  | [], _, _, _, _ => rfl
  | v :: vs, i, w, k, hk => (putL_block b vs (i + 1) _ k hk).trans (Below.heap_setCell _ _ _ _ hk)
theorem putL_size (b : Nat) : ∀ (vs : List Value) (i : Nat) (w : World), (putL w b vs i).heap.size = w.heap.size
  | [], _, _ => rfl
  | v :: vs, i, w => (putL_size b vs (i + 1) _).trans (World.size_setCell _ _ _)
theorem putL_below {B b : Nat} (hB : B ≤ b) {w0 : World} : ∀ (vs : List Value) (i : Nat) {w : World}, Below B w0 w → Below B w0 (putL w b vs i)
  | [], _, _, h => h
  | v :: vs, i, _, h => putL_below hB vs (i + 1) (h.setCell (p := ⟨b, i, Option.none⟩) hB v)
theorem putL_cells {w0 : World} (b : Nat) : ∀ (vs : List Value) (i : Nat) (w : World), (∀ j, i ≤ j → j < i + vs.length → ∃ u, w.cell? ⟨b, j, Option.none⟩ = some u) → ∀ j, (∀ v, (vs[j - i]? = some v ∧ i ≤ j) → (putL w b vs i).cell? ⟨b, j, Option.none⟩ = some v) ∧ (j < i → (putL w b vs i).cell? ⟨b, j, Option.none⟩ = w.cell? ⟨b, j, Option.none⟩)
  | [], i, w, _, j => ⟨fun v h => by simp at h, fun _ => rfl⟩
  | v :: vs, i, w, hc, j => by
    have ih := putL_cells (w0 := w0) b vs (i + 1) (w.setCell ⟨b, i, Option.none⟩ v) (fun q h1 h2 => by
      obtain ⟨u, hu⟩ := hc q (by omega) (by simp at h2 ⊢; omega)
      exact ⟨u, by rw [World.cell?_setCell_other _ _ _ _ (by simp <;> omega)]; exact hu⟩) j
    obtain ⟨u0, hu0⟩ := hc i (Nat.le_refl _) (by simp)
    refine ⟨fun x hx => ?_, fun hj => ?_⟩
    · by_cases e : j = i
      · subst e
        have : x = v := by have := hx.1; simp at this; exact this.symm
        subst this
        show (putL (w.setCell ⟨b, j, Option.none⟩ x) b vs (j + 1)).cell? _ = _
        rw [ih.2 (by omega)]
        exact World.cell?_setCell_same _ _ _ hu0
      · refine ih.1 x ⟨?_, by omega⟩
        have h1 := hx.1
        rw [show j - i = (j - (i + 1)) + 1 by omega, List.getElem?_cons_succ] at h1
        exact h1
    · show (putL (w.setCell ⟨b, i, Option.none⟩ v) b vs (i + 1)).cell? _ = _
      rw [ih.2 (by omega), World.cell?_setCell_other _ _ _ _ (by simp <;> omega)]
theorem putL_frozen (b : Nat) : ∀ (vs : List Value) (i : Nat) (w : World) (k : Nat), (putL w b vs i).frozen? ⟨b, k, Option.none⟩ = w.frozen? ⟨b, k, Option.none⟩
  | [], _, _, _ => rfl
  | v :: vs, i, w, k => (putL_frozen b vs (i + 1) _ k).trans (World.frozen?_setCell _ _ _ _)
theorem BlkE.puts {α : Type} {E : Enc α} {w : World} {b : Nat} {x : α} (h : BlkE E w b x) (y : α) : BlkE E (putL w b (E.c y) 0) b y where
  c := fun i u hu => by
    refine (putL_cells (w0 := w) b (E.c y) 0 w (fun j _ h2 => ?_) i).1 u ⟨by simpa using hu, Nat.zero_le _⟩
    have hlt : j < (E.c x).length := by rw [E.len]; rw [E.len] at h2; omega
    exact ⟨_, h.c j _ (List.getElem?_eq_getElem hlt)⟩
  fz := fun k => by rw [putL_frozen]; exact h.fz k
  hi := by rw [putL_size]; exact h.hi
end Go.Proofs.YtlngleinegkoeaaGreat
namespace Go.Proofs.YtlngleinegkoeaaGreat
open Go Go.RowKit Go.Sort
set_option linter.unusedVariables false

section
variable {P : Program} {ops : Array Oper} {md : Region.Mode} {C : World → Prop}
/-- So many operations ahead of number n are still to come, whichever comes next; then L. -/
def Ahead (P : Program) (md : Region.Mode) (ops : Array Oper) (C : World → Prop) (n : Nat) (L : Array Bool → Act → Prop) : Nat → Array Bool → Act → Prop
  | 0, listed, a => L listed a
  | f + 1, listed, a => ¬ Region.ready md ops listed = [] ∧ ∀ i ∈ Region.ready md ops listed, i < n ∧ qOp P ops C i (fun a' => Ahead P md ops C n L f (listed.setIfInBounds i true) a') a
theorem Ahead.any {n g : Nat} {L : Array Bool → Act → Prop} {Q : Exit → Act → World → Prop} (hL : ∀ listed a w, C w → L listed a → wpAny P md ops Q g listed a w) :
    ∀ (f : Nat) (listed : Array Bool) (a : Act) (w : World), C w → Ahead P md ops C n L f listed a → wpAny P md ops Q (f + g) listed a w := by
  intro f
  induction f with
  | zero => intro listed a w hw h; rw [Nat.zero_add]; exact hL _ _ _ hw h
  | succ f ih =>
    intro listed a w hw h
    rw [show f + 1 + g = (f + g) + 1 by omega]
    exact ⟨fun h0 => absurd h0 h.1, fun i hi => wpOp_of_qOp hw (fun a' w' hw' h' => ih _ a' w' hw' h') (h.2 i hi).2⟩
/-- None of the end may come up while one ahead of it has not. -/
theorem ahead_lt {n i : Nat} {listed : Array Bool} (hs : Region.sinkB md ops n = true) (hc : Region.chainB md ops n = true) (hn : n < ops.size) (inv : HeadInv md ops n listed) (hin : i < n) (hr : i ∈ Region.ready md ops listed) {j : Nat} (hj : j ∈ Region.ready md ops listed) : j < n := by
  rcases Nat.lt_or_ge j n with h | h
  · exact h
  · exact absurd hj (tail_waits hs hc hn inv _ i rfl hin (mem_ready.1 hr).1 j h)
theorem Ahead.first {n i : Nat} {oi : Oper} {v : Value} {L : Array Bool → Act → Prop} (hi : ops[i]? = some oi) (hsel : ∀ (j : Nat) (o : Oper) cs b, ops[j]? = some o → o.op ≠ .select cs b)
    (hs : Region.sinkB md ops n = true) (hc : Region.chainB md ops n = true) (hn : n < ops.size) (hin : i < n) (hdone : ∀ listed a, L listed a → ∀ j ∈ Region.ready md ops listed, n ≤ j) :
    ∀ (f : Nat) (listed : Array Bool) (a : Act), HeadInv md ops n listed →
      (∀ j oj, ops[j]? = some oj → j ≠ i → listed.getD j true = false → (∀ e ∈ oj.after, Region.binds md e = true → e.on ≠ i) → oi.apart ops oj = true) →
      i ∈ Region.ready md ops listed → YieldsIn P ops C oi v a → Ahead P md ops C n L f (listed.setIfInBounds i true) (a.put oi.dst v) → Ahead P md ops C n L (f + 1) listed a := by
  intro f
  induction f with
  | zero =>
    intro listed a inv _ hr hy H
    refine ⟨fun h => (by rw [h] at hr; cases hr), fun j hj => ⟨ahead_lt hs hc hn inv hin hr hj, ?_⟩⟩
    by_cases hji : j = i
    · subst hji; exact hy.qOp hi H
    · have h1 := hdone _ _ H j (ready_mono hj hji)
      have h2 := ahead_lt hs hc hn inv hin hr hj
      omega
  | succ f ih =>
    intro listed a inv hfree hr hy H
    have hun := (mem_ready.1 hr).1
    refine ⟨fun h => (by rw [h] at hr; cases hr), fun j hj => ⟨ahead_lt hs hc hn inv hin hr hj, ?_⟩⟩
    by_cases hji : j = i
    · subst hji; exact hy.qOp hi H
    · have h1 := (H.2 j (ready_mono hj hji)).2
      obtain ⟨hjun, oj, hoj, hall⟩ := mem_ready.1 hj
      have hnot : ∀ e ∈ oj.after, Region.binds md e = true → e.on ≠ i := fun e he hb heq => by
        have h3 := hall e he hb
        rw [heq, getD_both hun] at h3
        cases h3
      have h2 := qOp_put hoj (hfree j oj hoj hji hjun hnot) (fun cs b => hsel i oi cs b hi) (fun cs b => hsel j oj cs b hoj) hy h1
      refine qOp_mono (fun a' h3 => ih (listed.setIfInBounds j true) a' (inv.set hj (ahead_lt hs hc hn inv hin hr hj)) (fun k ok hk hki hku hno => ?_) (ready_mono hr (Ne.symm hji)) h3.1 ?_) h2
      · refine hfree k ok hk hki ?_ hno
        by_cases hjk : j = k
        · subst hjk; exact hjun
        · rw [getD_set_ne true hjk] at hku; exact hku
      · rw [Array.setIfInBounds_comm _ _ hji]
        exact h3.2
end
end Go.Proofs.YtlngleinegkoeaaGreat
namespace Go.Proofs.YtlngleinegkoeaaGreat
open Go.RowKit Go.Sort
set_option linter.unusedVariables false

def ctE : Enc Ct where
  k := 7
  pos := by decide
  c := fun x => [.int .i64 x.a, .int .i64 x.s, .int .i64 x.t, .bool x.ns, .bool x.nc, .bool x.pr, .bool x.mu]
  len := fun _ => rfl
  one := fun x u hu => by simp at hu; rcases hu with rfl | rfl | rfl | rfl | rfl | rfl | rfl <;> rfl
abbrev CtB := BlkE ctE
theorem CtB.born (w : World) (x : Ct) (t : TypeId) : CtB (w.alloc (.cells #[.int .i64 x.a, .int .i64 x.s, .int .i64 x.t, .bool x.ns, .bool x.nc, .bool x.pr, .bool x.mu] t)) w.heap.size x := BlkE.new w x _ t rfl
theorem CtB.all {w : World} {b : Nat} {x : Ct} (h : CtB w b x) : w.cell? ⟨b, 0, Option.none⟩ = some (.int .i64 x.a) ∧ w.cell? ⟨b, 1, Option.none⟩ = some (.int .i64 x.s) ∧ w.cell? ⟨b, 2, Option.none⟩ = some (.int .i64 x.t) ∧ w.cell? ⟨b, 3, Option.none⟩ = some (.bool x.ns) ∧ w.cell? ⟨b, 4, Option.none⟩ = some (.bool x.nc) ∧ w.cell? ⟨b, 5, Option.none⟩ = some (.bool x.pr) ∧ w.cell? ⟨b, 6, Option.none⟩ = some (.bool x.mu) :=
  ⟨h.c 0 _ rfl, h.c 1 _ rfl, h.c 2 _ rfl, h.c 3 _ rfl, h.c 4 _ rfl, h.c 5 _ rfl, h.c 6 _ rfl⟩
end Go.Proofs.YtlngleinegkoeaaGreat
