/-
  The walk of FnExactNewReplica, given both sides' NewReplica.
  A replica of a call's own, in memory: its ten cells, its rows in blocks of their own; what is stored in it.
  The program's askFor and beNormal.
-/
import Derived.Test.YtlngleinegkoeaaGreatT30
import Derived.Test.YtlngleinegkoeaaGreatT33
import Derived.Test.YtlngleinegkoeaaGreatT34
import Derived.Test.YtlngleinegkoeaaGreatT22
import Derived.Test.YtlngleinegkoeaaGreatT31
import Derived.Test.YtlngleinegkoeaaGreatT17
import Derived.Great.Walk
import Derived.Laws.Tables
namespace Go.Proofs.YtlngleinegkoeaaGreat.Rl
open Go.RowKit Go.Sort
set_option linter.unusedVariables false
set_option linter.unusedSimpArgs false

theorem markRp1 {r : Rp} {u : Rv} {lo hi : Nat} (hf : Fit r) (hc : 1 + cR r ≤ 50000000) (W : World) (h : RpF lo hi u r W) (hap : RpAp u) :
    Calls Tryz.prog 59 #[rpA r u, .int .i64 1] W fun e w' => e = .returned (.int .i64 (kR r)) ∧ RpF lo hi (mkRv 1 r u) (mkRp 1 r u.T) w' ∧ Chg lo hi W w' :=
  (markRp 1 (by decide) r u lo hc W h.1 hap hf).mono fun e w' ⟨h1, h2, h3⟩ =>
    ⟨h1, ⟨h2, fun v hv => h.2 v (by rw [mkRv_rows] at hv; exact hv)⟩, h3.chg (fun k ⟨v, hv, hk⟩ => ⟨h.1.from v hv k hk, h.2 v hv k hk⟩)⟩
theorem heldRp1 {r : Rp} {u : Rv} {lo hi : Nat} (hf : Fit r) (hc : 1 + cR r ≤ 50000000) (W : World) (h : RpF lo hi (mkRv 1 r u) (mkRp 1 r u.T) W) (ht : u.T.map (·.m) = r.te) :
    Calls Tryz.prog 61 #[rpA r u, .int .i64 1] W fun e w' => e = .returned (.int .i64 (kR r)) ∧ Below W.heap.size W w' :=
  heldRp 1 (by decide) r u hc W h.1.got ht hf
end Go.Proofs.YtlngleinegkoeaaGreat.Rl
namespace Go.Proofs.YtlngleinegkoeaaGreat.Rl
open Go.RowKit Go.Sort
set_option linter.unusedVariables false
set_option linter.unusedSimpArgs false

theorem OwnsE.off {α : Type} {E : Enc α} {ty : TypeId} {w w' : World} {B : Nat} {v : Value} {l : List α} (h : OwnsE E ty w B v l) (hk : ∀ k, v.ownBlock = some k → w'.heap[k]? = w.heap[k]?) : OwnsE E ty w' B v l := by
  refine ⟨h.1, ?_⟩
  rcases h.2 with h0 | ⟨g, cap, cur, hv, hbg, hg, rest⟩
  · exact .inl h0
  · exact .inr ⟨g, cap, cur, hv, hbg, by rw [hk g (by rw [hv]; rfl)]; exact hg, rest⟩
/-- The rows of a replica, each the call's own. -/
structure RpOw (w : World) (B : Nat) (u : Rv) (r : Rp) : Prop where
  l : HasX w B u.l r.l
  ok : HasN w B u.ok r.ok
  ch : OwnsN w B u.ch r.ch
  t : u.T.map (·.m) = r.te
  te : OwnsM w B u.te u.T
  tl : ∀ x ∈ u.T, HasX w B x.u x.m.l
theorem RpOw.has {w : World} {B : Nat} {u : Rv} {r : Rp} (h : RpOw w B u r) : RpHas w B u r := ⟨h.l, h.ok, h.ch.has, h.t, h.te.has, fun x hx => h.tl x hx⟩
theorem RpOw.got {w : World} {B : Nat} {u : Rv} {r : Rp} (h : RpOw w B u r) : RpGot w u r := h.has.got
theorem RpOw.kept {w w' : World} {B : Nat} {u : Rv} {r : Rp} (h : RpOw w B u r) (hb : Below w.heap.size w w') : RpOw w' B u r := ⟨h.l.kept hb, h.ok.kept hb, h.ch.kept hb, h.t, h.te.kept hb, fun x hx => (h.tl x hx).kept hb⟩
theorem RpOw.low {w : World} {B B' : Nat} {u : Rv} {r : Rp} (h : RpOw w B u r) (hB : B' ≤ B) : RpOw w B' u r := ⟨h.l.low hB, h.ok.low hB, h.ch.low hB, h.t, h.te.low hB, fun x hx => (h.tl x hx).low hB⟩
theorem RpOw.off {w w' : World} {B : Nat} {u : Rv} {r : Rp} (h : RpOw w B u r) (hk : ∀ v ∈ u.rows, ∀ k, v.ownBlock = some k → w'.heap[k]? = w.heap[k]?) : RpOw w' B u r :=
  ⟨h.l.off (hk _ (by simp [Rv.rows])), h.ok.off (hk _ (by simp [Rv.rows])), OwnsE.off h.ch (hk _ (by simp [Rv.rows])), h.t, OwnsE.off h.te (hk _ (by simp [Rv.rows])), fun x hx => (h.tl x hx).off (hk _ (by simp only [Rv.rows, List.mem_cons, List.mem_map]; exact .inr (.inr (.inr (.inr ⟨x, hx, rfl⟩)))))⟩
def rpC (r : Rp) (u : Rv) : Array Value := #[.int .i64 r.id, .int .i64 r.p, .int .i64 r.v, .bool r.n, .int .i64 r.la, u.l, .int .i64 r.c, u.ok, u.ch, u.te]
/-- A replica at b. -/
structure RpAt (w : World) (B b : Nat) (u : Rv) (r : Rp) : Prop where
  c : RpB w b r u
  o : RpOw w B u r
  apt : RpAp u
  hb : B ≤ b
theorem RpAt.got {w : World} {B b : Nat} {u : Rv} {r : Rp} (h : RpAt w B b u r) : RpGot w u r := h.o.got
theorem RpAt.lt {w : World} {B b : Nat} {u : Rv} {r : Rp} (h : RpAt w B b u r) : b < w.heap.size := Bx.lt h.c
theorem RpAt.le {w : World} {B b : Nat} {u : Rv} {r : Rp} (h : RpAt w B b u r) : B ≤ w.heap.size := by have := h.lt; have := h.hb; omega
theorem RpAt.kept {w w' : World} {B b : Nat} {u : Rv} {r : Rp} (h : RpAt w B b u r) (hb : Below w.heap.size w w') : RpAt w' B b u r := ⟨Bx.kept h.c hb, h.o.kept hb, h.apt, h.hb⟩
theorem RpAt.low {w : World} {B B' b : Nat} {u : Rv} {r : Rp} (h : RpAt w B b u r) (hB : B' ≤ B) : RpAt w B' b u r := ⟨h.c, h.o.low hB, h.apt, Nat.le_trans hB h.hb⟩
theorem RpAt.under {w : World} {B b : Nat} {u : Rv} {r : Rp} (h : RpAt w B b u r) : ∀ v ∈ u.rows, ∀ k, v.ownBlock = some k → k < w.heap.size := h.o.has.under
/-- No row lies in the replica's own block: another type lies there. -/
theorem RpOw.ne {w : World} {B b : Nat} {u u' : Rv} {r r' : Rp} (h : RpOw w B u r) (hc : RpB w b r' u') : ∀ v ∈ u.rows, ∀ k, v.ownBlock = some k → k ≠ b := by
  intro v hv
  have hc : w.heap[b]? = some (.cells _ 28 (0, 0)) := hc
  simp only [Rv.rows, List.mem_cons, List.mem_map] at hv
  rcases hv with rfl | rfl | rfl | rfl | ⟨x, hx, rfl⟩
  · exact OwnsE.ne_of h.l hc (by decide)
  · exact OwnsE.ne_of h.ok hc (by decide)
  · exact OwnsE.ne_of h.ch.has hc (by decide)
  · exact OwnsE.ne_of h.te.has hc (by decide)
  · exact OwnsE.ne_of (h.tl x hx) hc (by decide)
theorem RpAt.put {w : World} {B b : Nat} {u u' : Rv} {r r' : Rp} (h : RpAt w B b u r) (i : Nat) (v : Value) (hc : (rpC r u).setIfInBounds i v = rpC r' u') (ho : RpOw w B u' r') (hap : RpAp u') : RpAt (w.setCell ⟨b, i, none⟩ v) B b u' r' where
  c := by
    have := Bx.put h.c i v
    show Bx _ _ _ (rpC r' u')
    rw [← hc]
    exact this
  o := ho.off fun x hx k hk => Below.heap_setCell _ _ _ _ (ho.ne h.c x hx k hk)
  apt := hap
  hb := h.hb
theorem RpAt.setV {w : World} {B b : Nat} {u : Rv} {r : Rp} (h : RpAt w B b u r) (z : Int) : RpAt (w.setCell ⟨b, 2, none⟩ (.int .i64 z)) B b u { r with v := z } := h.put 2 _ rfl ⟨h.o.l, h.o.ok, h.o.ch, h.o.t, h.o.te, h.o.tl⟩ h.apt
theorem RpAt.setN {w : World} {B b : Nat} {u : Rv} {r : Rp} (h : RpAt w B b u r) (z : Bool) : RpAt (w.setCell ⟨b, 3, none⟩ (.bool z)) B b u { r with n := z } := h.put 3 _ rfl ⟨h.o.l, h.o.ok, h.o.ch, h.o.t, h.o.te, h.o.tl⟩ h.apt
theorem RpAt.setLa {w : World} {B b : Nat} {u : Rv} {r : Rp} (h : RpAt w B b u r) (z : Int) : RpAt (w.setCell ⟨b, 4, none⟩ (.int .i64 z)) B b u { r with la := z } := h.put 4 _ rfl ⟨h.o.l, h.o.ok, h.o.ch, h.o.t, h.o.te, h.o.tl⟩ h.apt
theorem RpAt.setC {w : World} {B b : Nat} {u : Rv} {r : Rp} (h : RpAt w B b u r) (z : Int) : RpAt (w.setCell ⟨b, 6, none⟩ (.int .i64 z)) B b u { r with c := z } := h.put 6 _ rfl ⟨h.o.l, h.o.ok, h.o.ch, h.o.t, h.o.te, h.o.tl⟩ h.apt
theorem apN {w : World} {u : Rv} {v : Value} (h : ∀ x ∈ u.rows, ∀ k, x.ownBlock = some k → k < w.heap.size) (hv : ∀ k, v.ownBlock = some k → w.heap.size ≤ k) : ∀ x ∈ u.rows, ap x v ∧ ap v x := fun x hx => ⟨fun k h1 h2 => by have := h x hx k h1; have := hv k h2; omega, fun k h1 h2 => by have := h x hx k h2; have := hv k h1; omega⟩
theorem RpAp.iff {u : Rv} : RpAp u ↔ (∀ v ∈ u.ok :: u.ch :: u.te :: u.T.map Mx.u, ap u.l v) ∧ (∀ v ∈ u.ch :: u.te :: u.T.map Mx.u, ap u.ok v) ∧ (∀ v ∈ u.te :: u.T.map Mx.u, ap u.ch v) ∧ (∀ v ∈ u.T.map Mx.u, ap u.te v) ∧ (u.T.map Mx.u).Pairwise ap := by
  unfold RpAp Rv.rows
  simp only [List.pairwise_cons]
theorem rows_l (u : Rv) : u.l ∈ u.rows := by simp [Rv.rows]
theorem rows_ok (u : Rv) : u.ok ∈ u.rows := by simp [Rv.rows]
theorem rows_ch (u : Rv) : u.ch ∈ u.rows := by simp [Rv.rows]
theorem rows_te (u : Rv) : u.te ∈ u.rows := by simp [Rv.rows]
theorem rows_T {u : Rv} {v : Value} (h : v ∈ u.T.map Mx.u) : v ∈ u.rows := by simp only [Rv.rows, List.mem_cons]; exact .inr (.inr (.inr (.inr h)))
/-- A row made behind all that is there is stored in the place of one. -/
theorem RpAt.newL {w w1 : World} {B b : Nat} {u : Rv} {r : Rp} (h : RpAt w B b u r) (hb : Below w.heap.size w w1) {v : Value} {l : List ByteArray} (hv : HasX w1 w.heap.size v l) : RpAt (w1.setCell ⟨b, 5, none⟩ v) B b { u with l := v } { r with l := l } := by
  have h1 := h.kept hb
  have hn := apN h.under hv.from
  obtain ⟨a1, a2, a3, a4, a5⟩ := RpAp.iff.1 h.apt
  refine h1.put 5 _ rfl ⟨hv.low h.le, h1.o.ok, h1.o.ch, h1.o.t, h1.o.te, h1.o.tl⟩ (RpAp.iff.2 ⟨fun x hx => (hn x ?_).2, a2, a3, a4, a5⟩)
  simp only [List.mem_cons] at hx
  rcases hx with rfl | rfl | rfl | hx
  · exact rows_ok u
  · exact rows_ch u
  · exact rows_te u
  · exact rows_T hx
theorem RpAt.newOk {w w1 : World} {B b : Nat} {u : Rv} {r : Rp} (h : RpAt w B b u r) (hb : Below w.heap.size w w1) {v : Value} {l : List Int} (hv : HasN w1 w.heap.size v l) : RpAt (w1.setCell ⟨b, 7, none⟩ v) B b { u with ok := v } { r with ok := l } := by
  have h1 := h.kept hb
  have hn := apN h.under hv.from
  obtain ⟨a1, a2, a3, a4, a5⟩ := RpAp.iff.1 h.apt
  refine h1.put 7 _ rfl ⟨h1.o.l, hv.low h.le, h1.o.ch, h1.o.t, h1.o.te, h1.o.tl⟩ (RpAp.iff.2 ⟨fun x hx => ?_, fun x hx => (hn x ?_).2, a3, a4, a5⟩)
  · simp only [List.mem_cons] at hx
    rcases hx with rfl | hx
    · exact (hn _ (rows_l u)).1
    · exact a1 x (by simp only [List.mem_cons]; exact .inr hx)
  · simp only [List.mem_cons] at hx
    rcases hx with rfl | rfl | hx
    · exact rows_ch u
    · exact rows_te u
    · exact rows_T hx
theorem RpAt.newCh {w w1 : World} {B b : Nat} {u : Rv} {r : Rp} (h : RpAt w B b u r) (hb : Below w.heap.size w w1) {v : Value} {l : List Int} (hv : OwnsN w1 w.heap.size v l) : RpAt (w1.setCell ⟨b, 8, none⟩ v) B b { u with ch := v } { r with ch := l } := by
  have h1 := h.kept hb
  have hn := apN h.under hv.from
  obtain ⟨a1, a2, a3, a4, a5⟩ := RpAp.iff.1 h.apt
  refine h1.put 8 _ rfl ⟨h1.o.l, h1.o.ok, hv.low h.le, h1.o.t, h1.o.te, h1.o.tl⟩ (RpAp.iff.2 ⟨fun x hx => ?_, fun x hx => ?_, fun x hx => (hn x ?_).2, a4, a5⟩)
  · simp only [List.mem_cons] at hx
    rcases hx with rfl | rfl | hx
    · exact a1 _ (by simp)
    · exact (hn _ (rows_l u)).1
    · exact a1 x (by simp only [List.mem_cons]; exact .inr (.inr hx))
  · simp only [List.mem_cons] at hx
    rcases hx with rfl | hx
    · exact (hn _ (rows_ok u)).1
    · exact a2 x (by simp only [List.mem_cons]; exact .inr hx)
  · simp only [List.mem_cons] at hx
    rcases hx with rfl | hx
    · exact rows_te u
    · exact rows_T hx
/-- .. a row of messages, each with a log that lies behind, too, or is one of those that it had, once. -/
theorem RpAt.newTe {w w1 : World} {B b : Nat} {u : Rv} {r : Rp} (h : RpAt w B b u r) (hb : Below w.heap.size w w1) {v : Value} {T : List Mx} {L : List Ms} (hv : OwnsM w1 w.heap.size v T) (hL : T.map (·.m) = L)
    (hl : ∀ x ∈ T, HasX w1 B x.u x.m.l) (hx : ∀ x ∈ T, ap v x.u ∧ ap u.l x.u ∧ ap u.ok x.u ∧ ap u.ch x.u) (hp : (T.map Mx.u).Pairwise ap) : RpAt (w1.setCell ⟨b, 9, none⟩ v) B b { u with te := v, T := T } { r with te := L } := by
  have h1 := h.kept hb
  have hn := apN h.under hv.from
  obtain ⟨a1, a2, a3, a4, a5⟩ := RpAp.iff.1 h.apt
  refine h1.put 9 _ rfl ⟨h1.o.l, h1.o.ok, h1.o.ch, hL, hv.low h.le, hl⟩ (RpAp.iff.2 ⟨fun x hm => ?_, fun x hm => ?_, fun x hm => ?_, fun x hm => ?_, hp⟩)
  · simp only [List.mem_cons, List.mem_map] at hm
    rcases hm with rfl | rfl | rfl | ⟨y, hy, rfl⟩
    · exact a1 _ (by simp)
    · exact a1 _ (by simp)
    · exact (hn _ (rows_l u)).1
    · exact (hx y hy).2.1
  · simp only [List.mem_cons, List.mem_map] at hm
    rcases hm with rfl | rfl | ⟨y, hy, rfl⟩
    · exact a2 _ (by simp)
    · exact (hn _ (rows_ok u)).1
    · exact (hx y hy).2.2.1
  · simp only [List.mem_cons, List.mem_map] at hm
    rcases hm with rfl | ⟨y, hy, rfl⟩
    · exact (hn _ (rows_ch u)).1
    · exact (hx y hy).2.2.2
  · obtain ⟨y, hy, rfl⟩ := List.mem_map.1 hm
    exact (hx y hy).1
theorem RpAt.noTe {w w1 : World} {B b : Nat} {u : Rv} {r : Rp} (h : RpAt w B b u r) (hb : Below w.heap.size w w1) {v : Value} (hv : OwnsM w1 w.heap.size v []) : RpAt (w1.setCell ⟨b, 9, none⟩ v) B b { u with te := v, T := [] } { r with te := [] } :=
  h.newTe hb hv rfl (fun x hx => by cases hx) (fun x hx => by cases hx) List.Pairwise.nil

section
variable {P : Program}
theorem run_storeVar_at (w : World) (b i : Nat) (ty : TypeId) (v : Value) (hi : (P.info? ty).map (·.size) = some 1) (h1 : v.oneCell' = true) (hc : ∃ old, w.cell? ⟨b, i, none⟩ = some old) (hf : w.frozen? ⟨b, i, none⟩ = false) :
    (storeVar ty ⟨b, i, none⟩ v).run P w = .ok () (w.setCell ⟨b, i, none⟩ v) := by
  obtain ⟨old, hc⟩ := hc
  cases hq : P.info? ty with
  | none => simp [hq] at hi
  | some z =>
    have hs : z.size = 1 := by simpa [hq] using hi
    have hcs : v.cells = #[v] := by cases v <;> first | rfl | (cases h1; done)
    have ha : (⟨b, i, none⟩ : Addr).add 0 = ⟨b, i, none⟩ := rfl
    have hst : (store (⟨b, i, none⟩ : Addr) v).run P w = .ok () (w.setCell ⟨b, i, none⟩ v) := by
      cases v <;> first | (simp [store, Sem.run, hc, hf]; done) | cases h1
    simp [storeVar, sizeOf, typeInfo, hq, hcs, hs, storeCells, ha, hst]
theorem wp_put1 {o : Oper} {a : Act} {w : World} {K : Act → World → Prop} {Q : Exit → Act → World → Prop} (ty : TypeId) (x y : Operand) (ho : o.op = .store ty x y) (b i : Nat) (v : Value) (hx : a.eval x = .pointer (some ⟨b, i, none⟩)) (hy : a.eval y = v)
    (hi : (P.info? ty).map (·.size) = some 1) (h1 : v.oneCell' = true) {tb : TypeId} {vs : Array Value} (hB : Bx w b tb vs) (hlt : i < vs.size)
    (h : K (a.put o.dst undef) (w.setCell ⟨b, i, none⟩ v)) : o.wp P a w K Q := by
  unfold Oper.wp execOp
  simp only [ho, hx, hy, Instr.storeAt, Instr.sureAddr, Sem.run_bind, Sem.run_pure, Result.andThen_ok, run_storeVar_at w b i ty v hi h1 ⟨_, (hB.cell i).trans (Array.getElem?_eq_getElem hlt)⟩ (hB.free i)]
  exact h
/-- One cell of a block stored. -/
theorem wpList_put1 {ops : Array Oper} {rest : List Oper} {o : Oper} {a : Act} {w : World} {Q : Exit → Act → World → Prop} (hgd : o.guard = none) (hd : o.dst = none) (ty : TypeId) (x y : Operand) (ho : o.op = .store ty x y) (b i : Nat) (v : Value) (hx : a.eval x = .pointer (some ⟨b, i, none⟩)) (hy : a.eval y = v)
    (hi : (P.info? ty).map (·.size) = some 1) (h1 : v.oneCell' = true) {tb : TypeId} {vs : Array Value} (hB : Bx w b tb vs) (hlt : i < vs.size)
    (h : wpList P ops Q rest a (w.setCell ⟨b, i, none⟩ v)) : wpList P ops Q (o :: rest) a w :=
  wpList_plain hgd fun _ hK => wp_put1 ty x y ho b i v hx hy hi h1 hB hlt (hK _ _ (by rw [hd]; exact h))
end
theorem Tryz.rsz2 : (Tryz.prog.info? 2).map (·.size) = some 1 := by kernel_rfl
theorem Tryz.rsz4 : (Tryz.prog.info? 4).map (·.size) = some 1 := by kernel_rfl
theorem Tryz.rszS : (Tryz.prog.info? 24).map (·.size) = some 1 := by kernel_rfl
theorem Tryz.rszI : (Tryz.prog.info? 25).map (·.size) = some 1 := by kernel_rfl
theorem Tryz.rszM : (Tryz.prog.info? 26).map (·.size) = some 1 := by kernel_rfl
theorem Tryz.rszR : (Tryz.prog.info? 28).map (·.size) = some 10 := by kernel_rfl
theorem rpC_size (r : Rp) (u : Rv) : (rpC r u).size = 10 := rfl
/-- The same stores, as the walk meets them: the world behind is known by what lies there alone. -/
theorem wpList_rpV {ops : Array Oper} {rest : List Oper} {o : Oper} {a : Act} {Q : Exit → Act → World → Prop} {w w1 : World} {B b : Nat} {u : Rv} {r : Rp} (h : RpAt w B b u r) (hb : Below w.heap.size w w1) (hgd : o.guard = none) (hd : o.dst = none) (x y : Operand) (ho : o.op = .store 2 x y) (z : Int)
    (hx : a.eval x = .pointer (some ⟨b, 2, none⟩)) (hy : a.eval y = .int .i64 z) (hh : ∀ W, RpAt W B b u { r with v := z } → Below B w W → wpList Tryz.prog ops Q rest a W) : wpList Tryz.prog ops Q (o :: rest) a w1 :=
  wpList_put1 hgd hd 2 x y ho b 2 _ hx hy Tryz.rsz2 rfl (h.kept hb).c (show 2 < (rpC r u).size by rw [rpC_size]; decide) (hh _ ((h.kept hb).setV z) ((hb.mono h.le).setCell (p := ⟨b, 2, none⟩) h.hb _))
theorem wpList_rpN {ops : Array Oper} {rest : List Oper} {o : Oper} {a : Act} {Q : Exit → Act → World → Prop} {w w1 : World} {B b : Nat} {u : Rv} {r : Rp} (h : RpAt w B b u r) (hb : Below w.heap.size w w1) (hgd : o.guard = none) (hd : o.dst = none) (x y : Operand) (ho : o.op = .store 4 x y) (z : Bool)
    (hx : a.eval x = .pointer (some ⟨b, 3, none⟩)) (hy : a.eval y = .bool z) (hh : ∀ W, RpAt W B b u { r with n := z } → Below B w W → wpList Tryz.prog ops Q rest a W) : wpList Tryz.prog ops Q (o :: rest) a w1 :=
  wpList_put1 hgd hd 4 x y ho b 3 _ hx hy Tryz.rsz4 rfl (h.kept hb).c (show 3 < (rpC r u).size by rw [rpC_size]; decide) (hh _ ((h.kept hb).setN z) ((hb.mono h.le).setCell (p := ⟨b, 3, none⟩) h.hb _))
theorem wpList_rpLa {ops : Array Oper} {rest : List Oper} {o : Oper} {a : Act} {Q : Exit → Act → World → Prop} {w w1 : World} {B b : Nat} {u : Rv} {r : Rp} (h : RpAt w B b u r) (hb : Below w.heap.size w w1) (hgd : o.guard = none) (hd : o.dst = none) (x y : Operand) (ho : o.op = .store 2 x y) (z : Int)
    (hx : a.eval x = .pointer (some ⟨b, 4, none⟩)) (hy : a.eval y = .int .i64 z) (hh : ∀ W, RpAt W B b u { r with la := z } → Below B w W → wpList Tryz.prog ops Q rest a W) : wpList Tryz.prog ops Q (o :: rest) a w1 :=
  wpList_put1 hgd hd 2 x y ho b 4 _ hx hy Tryz.rsz2 rfl (h.kept hb).c (show 4 < (rpC r u).size by rw [rpC_size]; decide) (hh _ ((h.kept hb).setLa z) ((hb.mono h.le).setCell (p := ⟨b, 4, none⟩) h.hb _))
theorem wpList_rpC {ops : Array Oper} {rest : List Oper} {o : Oper} {a : Act} {Q : Exit → Act → World → Prop} {w w1 : World} {B b : Nat} {u : Rv} {r : Rp} (h : RpAt w B b u r) (hb : Below w.heap.size w w1) (hgd : o.guard = none) (hd : o.dst = none) (x y : Operand) (ho : o.op = .store 2 x y) (z : Int)
    (hx : a.eval x = .pointer (some ⟨b, 6, none⟩)) (hy : a.eval y = .int .i64 z) (hh : ∀ W, RpAt W B b u { r with c := z } → Below B w W → wpList Tryz.prog ops Q rest a W) : wpList Tryz.prog ops Q (o :: rest) a w1 :=
  wpList_put1 hgd hd 2 x y ho b 6 _ hx hy Tryz.rsz2 rfl (h.kept hb).c (show 6 < (rpC r u).size by rw [rpC_size]; decide) (hh _ ((h.kept hb).setC z) ((hb.mono h.le).setCell (p := ⟨b, 6, none⟩) h.hb _))
theorem wpList_rpL {ops : Array Oper} {rest : List Oper} {o : Oper} {a : Act} {Q : Exit → Act → World → Prop} {w w1 : World} {B b : Nat} {u : Rv} {r : Rp} (h : RpAt w B b u r) (hb : Below w.heap.size w w1) (hgd : o.guard = none) (hd : o.dst = none) (x y : Operand) (ho : o.op = .store 24 x y) {v : Value} {l : List ByteArray} (hv : HasX w1 w.heap.size v l)
    (hx : a.eval x = .pointer (some ⟨b, 5, none⟩)) (hy : a.eval y = v) (hh : ∀ W, RpAt W B b { u with l := v } { r with l := l } → Below B w W → wpList Tryz.prog ops Q rest a W) : wpList Tryz.prog ops Q (o :: rest) a w1 :=
  wpList_put1 hgd hd 24 x y ho b 5 _ hx hy Tryz.rszS (by obtain ⟨_, _, e, _⟩ := hv.form; rw [e]; rfl) (h.kept hb).c (show 5 < (rpC r u).size by rw [rpC_size]; decide) (hh _ (h.newL hb hv) ((hb.mono h.le).setCell (p := ⟨b, 5, none⟩) h.hb _))
theorem wpList_rpOk {ops : Array Oper} {rest : List Oper} {o : Oper} {a : Act} {Q : Exit → Act → World → Prop} {w w1 : World} {B b : Nat} {u : Rv} {r : Rp} (h : RpAt w B b u r) (hb : Below w.heap.size w w1) (hgd : o.guard = none) (hd : o.dst = none) (x y : Operand) (ho : o.op = .store 25 x y) {v : Value} {l : List Int} (hv : HasN w1 w.heap.size v l)
    (hx : a.eval x = .pointer (some ⟨b, 7, none⟩)) (hy : a.eval y = v) (hh : ∀ W, RpAt W B b { u with ok := v } { r with ok := l } → Below B w W → wpList Tryz.prog ops Q rest a W) : wpList Tryz.prog ops Q (o :: rest) a w1 :=
  wpList_put1 hgd hd 25 x y ho b 7 _ hx hy Tryz.rszI (by obtain ⟨_, _, e, _⟩ := hv.form; rw [e]; rfl) (h.kept hb).c (show 7 < (rpC r u).size by rw [rpC_size]; decide) (hh _ (h.newOk hb hv) ((hb.mono h.le).setCell (p := ⟨b, 7, none⟩) h.hb _))
theorem wpList_rpCh {ops : Array Oper} {rest : List Oper} {o : Oper} {a : Act} {Q : Exit → Act → World → Prop} {w w1 : World} {B b : Nat} {u : Rv} {r : Rp} (h : RpAt w B b u r) (hb : Below w.heap.size w w1) (hgd : o.guard = none) (hd : o.dst = none) (x y : Operand) (ho : o.op = .store 25 x y) {v : Value} {l : List Int} (hv : OwnsN w1 w.heap.size v l)
    (hx : a.eval x = .pointer (some ⟨b, 8, none⟩)) (hy : a.eval y = v) (hh : ∀ W, RpAt W B b { u with ch := v } { r with ch := l } → Below B w W → wpList Tryz.prog ops Q rest a W) : wpList Tryz.prog ops Q (o :: rest) a w1 :=
  wpList_put1 hgd hd 25 x y ho b 8 _ hx hy Tryz.rszI (by obtain ⟨_, _, e, _⟩ := hv.form; rw [e]; rfl) (h.kept hb).c (show 8 < (rpC r u).size by rw [rpC_size]; decide) (hh _ (h.newCh hb hv) ((hb.mono h.le).setCell (p := ⟨b, 8, none⟩) h.hb _))
theorem wpList_rpTe0 {ops : Array Oper} {rest : List Oper} {o : Oper} {a : Act} {Q : Exit → Act → World → Prop} {w w1 : World} {B b : Nat} {u : Rv} {r : Rp} (h : RpAt w B b u r) (hb : Below w.heap.size w w1) (hgd : o.guard = none) (hd : o.dst = none) (x y : Operand) (ho : o.op = .store 26 x y) {v : Value} (hv : OwnsM w1 w.heap.size v [])
    (hx : a.eval x = .pointer (some ⟨b, 9, none⟩)) (hy : a.eval y = v) (hh : ∀ W, RpAt W B b { u with te := v, T := [] } { r with te := [] } → Below B w W → wpList Tryz.prog ops Q rest a W) : wpList Tryz.prog ops Q (o :: rest) a w1 :=
  wpList_put1 hgd hd 26 x y ho b 9 _ hx hy Tryz.rszM (by obtain ⟨_, _, e, _⟩ := hv.form; rw [e]; rfl) (h.kept hb).c (show 9 < (rpC r u).size by rw [rpC_size]; decide) (hh _ (h.noTe hb hv) ((hb.mono h.le).setCell (p := ⟨b, 9, none⟩) h.hb _))
theorem ownsN_one (w : World) (x : Int) : OwnsN (w.alloc (.cells #[.int .i64 x] 2)) w.heap.size (.slice (some ⟨w.heap.size, 0, none⟩) 1 1) [x] := ownsN_lit w x
end Go.Proofs.YtlngleinegkoeaaGreat.Rl
namespace Go.Proofs.YtlngleinegkoeaaGreat.Rl
open Go.RowKit Go.Sort Go.Shelf
set_option linter.unusedVariables false
set_option linter.unusedSimpArgs false

set_option maxRecDepth 100000 in
set_option maxHeartbeats 8000000 in
theorem implAsk (r : Rp) (u : Rv) (B b : Nat) (z : Int) (w : World) (h : RpAt w B b u r) :
    Calls Tryz.prog 174 #[.pointer (some ⟨b, 0, none⟩), .int .i64 z] w fun e w' => e = .returned (.tuple #[]) ∧ ∃ u', RpAt w' B b u' (askF r z) ∧ Below B w w' := by
  have H0 : Hid (RpAt w B b u r) := h
  have D0 : Hid (Below B w w) := (show Hid _ from Below.refl _ _)
  clear h
  go_enter Tryz.func174, Tryz.ntmps174
  go_upto_region 1 with (refine wpList_rpV H0.out (Below.refl _ _) rfl rfl _ _ rfl z rfl rfl ?_; intro w1 h1 b1)
  have H1 : Hid (RpAt w1 B b u { r with v := z }) := h1
  have D1 : Hid (Below B w w1) := (show Hid _ from D0.out.trans b1)
  clear h1 b1 H0 D0
  go_upto_region 2 with (refine wpList_rpN H1.out (Below.refl _ _) rfl rfl _ _ rfl false rfl rfl ?_; intro w2 h2 b2)
  have H2 : Hid (RpAt w2 B b u { r with v := z, n := false }) := h2
  have D2 : Hid (Below B w w2) := (show Hid _ from D1.out.trans b2)
  clear h2 b2 H1 D1
  have q0 := H2.out.c.cells.1
  change w2.cell? ⟨b, 0, none⟩ = some (.int .i64 r.id) at q0
  go_upto_region 3 with (refine wpList_rpCh H2.out ((Below.refl _ w2).alloc (Nat.le_refl _) _) rfl rfl _ _ rfl (ownsN_one w2 r.id) rfl rfl ?_; intro w3 h3 b3)
  have H3 : Hid (RpAt w3 B b { u with ch := .slice (some ⟨w2.heap.size, 0, none⟩) 1 1 } { r with v := z, n := false, ch := [r.id] }) := h3
  have D3 : Hid (Below B w w3) := (show Hid _ from D2.out.trans b3)
  clear h3 b3 H2 D2 q0
  go_upto_region 4 with (refine wpList_rpOk H3.out ((Below.refl _ w3).alloc (Nat.le_refl _) _) rfl rfl _ _ rfl (OwnsE.born w3).has rfl rfl ?_; intro w4 h4 b4)
  have H4 : Hid (RpAt w4 B b _ { r with v := z, n := false, ch := [r.id], ok := [] }) := (show Hid _ from h4)
  have D4 : Hid (Below B w w4) := (show Hid _ from D3.out.trans b4)
  clear h4 b4 H3 D3
  go_wp2_with (refine wpList_rpTe0 H4.out ((Below.refl _ w4).alloc (Nat.le_refl _) _) rfl rfl _ _ rfl (OwnsE.born w4) rfl rfl ?_; intro w5 h5 b5)
  have H5 : Hid (RpAt w5 B b _ (askF r z)) := (show Hid _ from h5)
  have D5 : Hid (Below B w w5) := (show Hid _ from D4.out.trans b5)
  clear h5 b5 H4 D4
  go_wp2
  go_end0
  first | exact ⟨rfl, _, H5.out, D5.out⟩ | exact ⟨rfl, ⟨_, H5.out⟩, D5.out⟩
theorem anew_same (r : Rp) : (anew r).l = r.l ∧ (anew r).ch = r.ch ∧ (anew r).te = r.te := by
  unfold anew
  split <;> exact ⟨rfl, rfl, rfl⟩
/-- Counted anew: another row of what is told. -/
theorem RpAt.anewed {r : Rp} {u : Rv} {B b : Nat} {w w' : World} {v : Value} (h : RpAt w B b u r) (h1 : RpB w' b (anew r) { u with ok := v }) (h2 : HasN w' w.heap.size v (anew r).ok) (h3 : ChS (fun k => k = b) w w') : RpAt w' B b { u with ok := v } (anew r) := by
  obtain ⟨e1, e2, e3⟩ := anew_same r
  have hn := apN h.under h2.from
  obtain ⟨a1, a2, a3, a4, a5⟩ := RpAp.iff.1 h.apt
  have hk : ∀ x ∈ u.rows, ∀ k, x.ownBlock = some k → w'.heap[k]? = w.heap[k]? := fun x hx k hk => h3.block k (h.under x hx k hk) (h.o.ne h.c x hx k hk)
  have h4 := h.o.off hk
  refine ⟨h1, ⟨by rw [e1]; exact h4.l, h2.low h.le, by rw [e2]; exact h4.ch, by rw [e3]; exact h4.t, h4.te, h4.tl⟩, RpAp.iff.2 ⟨fun x hx => ?_, fun x hx => (hn x ?_).2, a3, a4, a5⟩, h.hb⟩
  · simp only [List.mem_cons] at hx
    rcases hx with rfl | hx
    · exact (hn _ (rows_l u)).1
    · exact a1 x (by simp only [List.mem_cons]; exact .inr hx)
  · simp only [List.mem_cons] at hx
    rcases hx with rfl | rfl | hx
    · exact rows_ch u
    · exact rows_te u
    · exact rows_T hx
/-- Counted: what is told stands in its own row. -/
theorem RpAt.counted {r : Rp} {u : Rv} {B b : Nat} {w w' : World} (h : RpAt w B b u r) (h1 : RpB w' b (cntd r) u) (h2 : HasN w' B u.ok (cntd r).ok) (h3 : ChS (fun k => k = b ∨ u.ok.ownBlock = some k) w w') : RpAt w' B b u (cntd r) ∧ Below B w w' := by
  obtain ⟨a1, a2, a3, a4, a5⟩ := RpAp.iff.1 h.apt
  have hk : ∀ x ∈ u.rows, ap u.ok x → ∀ k, x.ownBlock = some k → w'.heap[k]? = w.heap[k]? := fun x hx ha k hk => h3.block k (h.under x hx k hk) (fun e => by
    rcases e with e | e
    · exact h.o.ne h.c x hx k hk e
    · exact ha k e hk)
  have hl : ap u.ok u.l := (a1 u.ok (by simp)).comm
  refine ⟨⟨h1, ⟨h.o.l.off (hk _ (rows_l u) hl), h2, OwnsE.off h.o.ch (hk _ (rows_ch u) (a2 _ (by simp))), h.o.t, OwnsE.off h.o.te (hk _ (rows_te u) (a2 _ (by simp))), fun x hx => (h.o.tl x hx).off (hk _ (rows_T (List.mem_map_of_mem hx)) (a2 _ (by simp only [List.mem_cons]; exact .inr (.inr (List.mem_map_of_mem hx)))))⟩, h.apt, h.hb⟩, h3.below (Below.refl _ _) h.le (fun k e => ?_)⟩
  rcases e with rfl | e
  · exact h.hb
  · exact h.o.ok.from k e
theorem RpAt.lslice {r : Rp} {u : Rv} {B b : Nat} {w : World} (h : RpAt w B b u r) : ∃ a c, u.l = .slice a r.l.length c := by
  obtain ⟨a, c, e, _⟩ := h.o.l.form
  exact ⟨a, c, e⟩
theorem implAnewAt (r : Rp) (u : Rv) (B b : Nat) (w : World) (h : RpAt w B b u r) (hp : pOk r.p) (hid : 0 ≤ r.id ∧ r.id < r.p) (hv : 0 ≤ r.v ∧ r.v ≤ 20000) (hc : 0 ≤ r.c) (hlen : r.l.length ≤ 1048576) :
    Calls Tryz.prog 118 #[.pointer (some ⟨b, 0, none⟩)] w fun e w' => e = .returned (.tuple #[]) ∧ ∃ u', RpAt w' B b u' (anew r) ∧ Below B w w' :=
  (implAnew r u b w h.c h.lslice hp hid hv hc hlen).mono fun e w' ⟨h0, v, h1, h2, h3⟩ => ⟨h0, _, h.anewed h1 h2 h3, h3.below (Below.refl _ _) h.le (fun k hk => by have := h.hb; omega)⟩
/-- Normal in its view, with the log that it has. -/
noncomputable def beN (r : Rp) : Rp := anew { r with n := true, la := r.v, ch := [], te := [] }
end Go.Proofs.YtlngleinegkoeaaGreat.Rl
