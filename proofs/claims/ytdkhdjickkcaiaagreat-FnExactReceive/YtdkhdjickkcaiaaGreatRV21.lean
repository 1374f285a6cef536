/-
  The walk of FnExactNewReplica, given both sides' NewReplica.
  A replica of a call's own, in memory: its ten cells, its rows in blocks of their own; what is stored in it.
  The program's askFor and beNormal.
  The library's Grow and Concat, and inFront, over numbers.
  The library's Grow and Concat over numbers, none of them too.
  The program's newReplica: it shares no memory with the one that it is made of.
-/
import Derived.Test.YtdkhdjickkcaiaaGreatRVS
import Derived.Test.YtdkhdjickkcaiaaGreatRV18
import Derived.Test.YtdkhdjickkcaiaaGreatRV20
import Derived.Test.YtdkhdjickkcaiaaGreatRV14
import Derived.Test.YtdkhdjickkcaiaaGreatRV19
import Derived.Test.YtdkhdjickkcaiaaGreatRV12
import Derived.Great.Walk
import Derived.Laws.Tables
import Derived.Test.YtdkhdjickkcaiaaGreatRV17
import Derived.Lib.AppendZerosOnto
import Derived.Laws.AppendOwnNone
import Derived.Deep.RegionWith
set_option linter.unusedVariables false
set_option linter.unusedSimpArgs false
set_option maxRecDepth 100000
set_option maxHeartbeats 64000000
namespace Go.Proofs.YtdkhdjickkcaiaaGreat.Rl
open Go.RowKit Go.Sort

theorem markRp1 {r : Rp} {u : Rv} {lo hi : Nat} (hf : Fit r) (hc : 1 + cR r ≤ 50000000) (W : World) (h : RpF lo hi u r W) (hap : RpAp u) :
  Calls Tryz.prog 36 #[rpA r u, .int .i64 1] W fun e w' => e = .returned (.int .i64 (kR r)) ∧ RpF lo hi (mkRv 1 r u) (mkRp 1 r u.T) w' ∧ Chg lo hi W w' :=
 (markRp 1 (by decide) r u lo hc W h.1 hap hf).mono fun e w' ⟨h1, h2, h3⟩ =>
  ⟨h1, ⟨h2, fun v hv => h.2 v (by rw [mkRv_rows] at hv; exact hv)⟩, h3.chg (fun k ⟨v, hv, hk⟩ => ⟨h.1.from v hv k hk, h.2 v hv k hk⟩)⟩
theorem heldRp1 {r : Rp} {u : Rv} {lo hi : Nat} (hf : Fit r) (hc : 1 + cR r ≤ 50000000) (W : World) (h : RpF lo hi (mkRv 1 r u) (mkRp 1 r u.T) W) (ht : u.T.map (·.m) = r.te) :
  Calls Tryz.prog 39 #[rpA r u, .int .i64 1] W fun e w' => e = .returned (.int .i64 (kR r)) ∧ Below W.heap.size W w' :=
 heldRp 1 (by decide) r u hc W h.1.got ht hf
open Go.RowKit Go.Sort

theorem OwnsE.off {α : Type} {E : Enc α} {ty : TypeId} {w w' : World} {B : Nat} {v : Value} {l : List α} (h : OwnsE E ty w B v l) (hk : ∀ k, v.ownBlock = some k → w'.heap[k]? = w.heap[k]?) : OwnsE E ty w' B v l := by
 refine ⟨h.1, ?_⟩
 rcases h.2 with h0 | ⟨g, cap, cur, hv, hbg, hg, rest⟩
 ·
  exact .inl h0
 ·
  exact .inr ⟨g, cap, cur, hv, hbg, by rw [hk g (by rw [hv]; rfl)]; exact hg, rest⟩
structure RpOw (w : World) (B : Nat) (u : Rv) (r : Rp) : Prop where
 l : HasX w B u.l r.l
 ok : HasN w B u.ok r.ok
 ch : OwnsN w B u.ch r.ch
 t : u.T.map (·.m) = r.te
 te : OwnsM w B u.te u.T
 tl : ∀ x ∈ u.T, HasX w B x.u x.m.l
theorem RpOw.has {w : World} {B : Nat} {u : Rv} {r : Rp} (h : RpOw w B u r) : RpHas w B u r := ⟨h.l, h.ok, h.ch.has, h.t, h.te.has, fun x hx => h.tl x hx⟩
theorem RpOw.got {w : World} {B : Nat} {u : Rv} {r : Rp} (h : RpOw w B u r) : RpGot w u r := h.has.got
theorem RpOw.kept {w w' : World} {B : Nat} {u : Rv} {r : Rp} (h : RpOw w B u r) (hb : Below w.heap.size w w') : RpOw w' B u r := ⟨h.l.kept hb, h.ok.kept hb, h.ch.kept hb, h.t, h.te.kept hb, fun x hx => (h.tl x hx).kept hb⟩
theorem RpOw.low {w : World} {B B' : Nat} {u : Rv} {r : Rp} (h : RpOw w B u r) (hB : B' ≤ B) : RpOw w B' u r := ⟨h.l.low hB, h.ok.low hB, h.ch.low hB, h.t, h.te.low hB, fun x hx => (h.tl x hx).low hB⟩
theorem RpOw.off {w w' : World} {B : Nat} {u : Rv} {r : Rp} (h : RpOw w B u r) (hk : ∀ v ∈ u.rows, ∀ k, v.ownBlock = some k → w'.heap[k]? = w.heap[k]?) : RpOw w' B u r :=
 ⟨h.l.off (hk _ (by simp [Rv.rows])), h.ok.off (hk _ (by simp [Rv.rows])), OwnsE.off h.ch (hk _ (by simp [Rv.rows])), h.t, OwnsE.off h.te (hk _ (by simp [Rv.rows])), fun x hx => (h.tl x hx).off (hk _ (by simp only [Rv.rows, List.mem_cons, List.mem_map]; exact .inr (.inr (.inr (.inr ⟨x, hx, rfl⟩)))))⟩
def rpC (r : Rp) (u : Rv) : Array Value := #[.int .i64 r.id, .int .i64 r.p, .int .i64 r.v, .bool r.n, .int .i64 r.la, u.l, .int .i64 r.c, u.ok, u.ch, u.te]
structure RpAt (w : World) (B b : Nat) (u : Rv) (r : Rp) : Prop where
 c : RpB w b r u
 o : RpOw w B u r
 apt : RpAp u
 hb : B ≤ b
theorem RpAt.lt {w : World} {B b : Nat} {u : Rv} {r : Rp} (h : RpAt w B b u r) : b < w.heap.size := Bx.lt h.c
theorem RpAt.le {w : World} {B b : Nat} {u : Rv} {r : Rp} (h : RpAt w B b u r) : B ≤ w.heap.size := by have := h.lt; have := h.hb; omega
theorem RpAt.kept {w w' : World} {B b : Nat} {u : Rv} {r : Rp} (h : RpAt w B b u r) (hb : Below w.heap.size w w') : RpAt w' B b u r := ⟨Bx.kept h.c hb, h.o.kept hb, h.apt, h.hb⟩
theorem RpAt.low {w : World} {B B' b : Nat} {u : Rv} {r : Rp} (h : RpAt w B b u r) (hB : B' ≤ B) : RpAt w B' b u r := ⟨h.c, h.o.low hB, h.apt, Nat.le_trans hB h.hb⟩
theorem RpAt.under {w : World} {B b : Nat} {u : Rv} {r : Rp} (h : RpAt w B b u r) : ∀ v ∈ u.rows, ∀ k, v.ownBlock = some k → k < w.heap.size := h.o.has.under
theorem RpOw.ne {w : World} {B b : Nat} {u u' : Rv} {r r' : Rp} (h : RpOw w B u r) (hc : RpB w b r' u') : ∀ v ∈ u.rows, ∀ k, v.ownBlock = some k → k ≠ b := by
 intro v hv
 have hc : w.heap[b]? = some (.cells _ 28 (0, 0)) := hc
 simp only [Rv.rows, List.mem_cons, List.mem_map] at hv
 rcases hv with rfl | rfl | rfl | rfl | ⟨x, hx, rfl⟩
 ·
  exact OwnsE.ne_of h.l hc (by decide)
 ·
  exact OwnsE.ne_of h.ok hc (by decide)
 ·
  exact OwnsE.ne_of h.ch.has hc (by decide)
 ·
  exact OwnsE.ne_of h.te.has hc (by decide)
 ·
  exact OwnsE.ne_of (h.tl x hx) hc (by decide)
theorem RpAt.put {w : World} {B b : Nat} {u u' : Rv} {r r' : Rp} (h : RpAt w B b u r) (i : Nat) (v : Value) (hc : (rpC r u).setIfInBounds i v = rpC r' u') (ho : RpOw w B u' r') (hap : RpAp u') : RpAt (w.setCell ⟨b, i, none⟩ v) B b u' r' where
 c := by
  have := Bx.put h.c i v
  show Bx _ _ _ (rpC r' u')
  rw [← hc]
  exact this
 o := ho.off fun x hx k hk => Below.heap_setCell _ _ _ _ (ho.ne h.c x hx k hk)
 apt := hap
 hb := h.hb
theorem RpAt.setV {w : World} {B b : Nat} {u : Rv} {r : Rp} (h : RpAt w B b u r) (z : Int) : RpAt (w.setCell ⟨b, 2, none⟩ (.int .i64 z)) B b u { r with v := z } := h.put 2 _ rfl ⟨h.o.l, h.o.ok, h.o.ch, h.o.t, h.o.te, h.o.tl⟩ h.apt
theorem RpAt.setN {w : World} {B b : Nat} {u : Rv} {r : Rp} (h : RpAt w B b u r) (z : Bool) : RpAt (w.setCell ⟨b, 3, none⟩ (.bool z)) B b u { r with n := z } := h.put 3 _ rfl ⟨h.o.l, h.o.ok, h.o.ch, h.o.t, h.o.te, h.o.tl⟩ h.apt
theorem apN {w : World} {u : Rv} {v : Value} (h : ∀ x ∈ u.rows, ∀ k, x.ownBlock = some k → k < w.heap.size) (hv : ∀ k, v.ownBlock = some k → w.heap.size ≤ k) : ∀ x ∈ u.rows, ap x v ∧ ap v x := fun x hx => ⟨fun k h1 h2 => by have := h x hx k h1; have := hv k h2; omega, fun k h1 h2 => by have := h x hx k h2; have := hv k h1; omega⟩
theorem RpAp.iff {u : Rv} : RpAp u ↔ (∀ v ∈ u.ok :: u.ch :: u.te :: u.T.map Mx.u, ap u.l v) ∧ (∀ v ∈ u.ch :: u.te :: u.T.map Mx.u, ap u.ok v) ∧ (∀ v ∈ u.te :: u.T.map Mx.u, ap u.ch v) ∧ (∀ v ∈ u.T.map Mx.u, ap u.te v) ∧ (u.T.map Mx.u).Pairwise ap := by
 unfold RpAp Rv.rows
 simp only [List.pairwise_cons]
theorem rows_l (u : Rv) : u.l ∈ u.rows := by simp [Rv.rows]
theorem rows_ok (u : Rv) : u.ok ∈ u.rows := by simp [Rv.rows]
theorem rows_ch (u : Rv) : u.ch ∈ u.rows := by simp [Rv.rows]
theorem rows_te (u : Rv) : u.te ∈ u.rows := by simp [Rv.rows]
theorem rows_T {u : Rv} {v : Value} (h : v ∈ u.T.map Mx.u) : v ∈ u.rows := by simp only [Rv.rows, List.mem_cons]; exact .inr (.inr (.inr (.inr h)))
theorem RpAt.newOk {w w1 : World} {B b : Nat} {u : Rv} {r : Rp} (h : RpAt w B b u r) (hb : Below w.heap.size w w1) {v : Value} {l : List Int} (hv : HasN w1 w.heap.size v l) : RpAt (w1.setCell ⟨b, 7, none⟩ v) B b { u with ok := v } { r with ok := l } := by
 have h1 := h.kept hb
 have hn := apN h.under hv.from
 obtain ⟨a1, a2, a3, a4, a5⟩ := RpAp.iff.1 h.apt
 refine h1.put 7 _ rfl ⟨h1.o.l, hv.low h.le, h1.o.ch, h1.o.t, h1.o.te, h1.o.tl⟩ (RpAp.iff.2 ⟨fun x hx => ?_, fun x hx => (hn x ?_).2, a3, a4, a5⟩)
 ·
  simp only [List.mem_cons] at hx
  rcases hx with rfl | hx
  ·
   exact (hn _ (rows_l u)).1
  ·
   exact a1 x (by simp only [List.mem_cons]; exact .inr hx)
 ·
  simp only [List.mem_cons] at hx
  rcases hx with rfl | rfl | hx
  ·
   exact rows_ch u
  ·
   exact rows_te u
  ·
   exact rows_T hx
theorem RpAt.newCh {w w1 : World} {B b : Nat} {u : Rv} {r : Rp} (h : RpAt w B b u r) (hb : Below w.heap.size w w1) {v : Value} {l : List Int} (hv : OwnsN w1 w.heap.size v l) : RpAt (w1.setCell ⟨b, 8, none⟩ v) B b { u with ch := v } { r with ch := l } := by
 have h1 := h.kept hb
 have hn := apN h.under hv.from
 obtain ⟨a1, a2, a3, a4, a5⟩ := RpAp.iff.1 h.apt
 refine h1.put 8 _ rfl ⟨h1.o.l, h1.o.ok, hv.low h.le, h1.o.t, h1.o.te, h1.o.tl⟩ (RpAp.iff.2 ⟨fun x hx => ?_, fun x hx => ?_, fun x hx => (hn x ?_).2, a4, a5⟩)
 ·
  simp only [List.mem_cons] at hx
  rcases hx with rfl | rfl | hx
  ·
   exact a1 _ (by simp)
  ·
   exact (hn _ (rows_l u)).1
  ·
   exact a1 x (by simp only [List.mem_cons]; exact .inr (.inr hx))
 ·
  simp only [List.mem_cons] at hx
  rcases hx with rfl | hx
  ·
   exact (hn _ (rows_ok u)).1
  ·
   exact a2 x (by simp only [List.mem_cons]; exact .inr hx)
 ·
  simp only [List.mem_cons] at hx
  rcases hx with rfl | hx
  ·
   exact rows_te u
  ·
   exact rows_T hx
theorem RpAt.newTe {w w1 : World} {B b : Nat} {u : Rv} {r : Rp} (h : RpAt w B b u r) (hb : Below w.heap.size w w1) {v : Value} {T : List Mx} {L : List Ms} (hv : OwnsM w1 w.heap.size v T) (hL : T.map (·.m) = L)
  (hl : ∀ x ∈ T, HasX w1 B x.u x.m.l) (hx : ∀ x ∈ T, ap v x.u ∧ ap u.l x.u ∧ ap u.ok x.u ∧ ap u.ch x.u) (hp : (T.map Mx.u).Pairwise ap) : RpAt (w1.setCell ⟨b, 9, none⟩ v) B b { u with te := v, T := T } { r with te := L } := by
 have h1 := h.kept hb
 have hn := apN h.under hv.from
 obtain ⟨a1, a2, a3, a4, a5⟩ := RpAp.iff.1 h.apt
 refine h1.put 9 _ rfl ⟨h1.o.l, h1.o.ok, h1.o.ch, hL, hv.low h.le, hl⟩ (RpAp.iff.2 ⟨fun x hm => ?_, fun x hm => ?_, fun x hm => ?_, fun x hm => ?_, hp⟩)
 ·
  simp only [List.mem_cons, List.mem_map] at hm
  rcases hm with rfl | rfl | rfl | ⟨y, hy, rfl⟩
  ·
   exact a1 _ (by simp)
  ·
   exact a1 _ (by simp)
  ·
   exact (hn _ (rows_l u)).1
  ·
   exact (hx y hy).2.1
 ·
  simp only [List.mem_cons, List.mem_map] at hm
  rcases hm with rfl | rfl | ⟨y, hy, rfl⟩
  ·
   exact a2 _ (by simp)
  ·
   exact (hn _ (rows_ok u)).1
  ·
   exact (hx y hy).2.2.1
 ·
  simp only [List.mem_cons, List.mem_map] at hm
  rcases hm with rfl | ⟨y, hy, rfl⟩
  ·
   exact (hn _ (rows_ch u)).1
  ·
   exact (hx y hy).2.2.2
 ·
  obtain ⟨y, hy, rfl⟩ := List.mem_map.1 hm
  exact (hx y hy).1
theorem RpAt.noTe {w w1 : World} {B b : Nat} {u : Rv} {r : Rp} (h : RpAt w B b u r) (hb : Below w.heap.size w w1) {v : Value} (hv : OwnsM w1 w.heap.size v []) : RpAt (w1.setCell ⟨b, 9, none⟩ v) B b { u with te := v, T := [] } { r with te := [] } :=
 h.newTe hb hv rfl (fun x hx => by cases hx) (fun x hx => by cases hx) List.Pairwise.nil

section
variable {P : Program}
theorem run_storeVar_at (w : World) (b i : Nat) (ty : TypeId) (v : Value) (hi : (P.info? ty).map (·.size) = some 1) (h1 : v.oneCell' = true) (hc : ∃ old, w.cell? ⟨b, i, none⟩ = some old) (hf : w.frozen? ⟨b, i, none⟩ = false) :
  (storeVar ty ⟨b, i, none⟩ v).run P w = .ok () (w.setCell ⟨b, i, none⟩ v) := by
 obtain ⟨old, hc⟩ := hc
 cases hq : P.info? ty with
 | none => simp [hq] at hi
 | some z =>
  have hs : z.size = 1 := by simpa [hq] using hi
  have hcs : v.cells = #[v] := by cases v <;> first | rfl | (cases h1; done)
  have ha : (⟨b, i, none⟩ : Addr).add 0 = ⟨b, i, none⟩ := rfl
  have hst : (store (⟨b, i, none⟩ : Addr) v).run P w = .ok () (w.setCell ⟨b, i, none⟩ v) := by
   cases v <;> first | (simp [store, Sem.run, hc, hf]; done) | cases h1
  simp [storeVar, sizeOf, typeInfo, hq, hcs, hs, storeCells, ha, hst]
theorem wp_put1 {o : Oper} {a : Act} {w : World} {K : Act → World → Prop} {Q : Exit → Act → World → Prop} (ty : TypeId) (x y : Operand) (ho : o.op = .store ty x y) (b i : Nat) (v : Value) (hx : a.eval x = .pointer (some ⟨b, i, none⟩)) (hy : a.eval y = v)
  (hi : (P.info? ty).map (·.size) = some 1) (h1 : v.oneCell' = true) {tb : TypeId} {vs : Array Value} (hB : Bx w b tb vs) (hlt : i < vs.size)
  (h : K (a.put o.dst undef) (w.setCell ⟨b, i, none⟩ v)) : o.wp P a w K Q := by
 unfold Oper.wp execOp
 simp only [ho, hx, hy, Instr.storeAt, Instr.sureAddr, Sem.run_bind, Sem.run_pure, Result.andThen_ok, run_storeVar_at w b i ty v hi h1 ⟨_, (hB.cell i).trans (Array.getElem?_eq_getElem hlt)⟩ (hB.free i)]
 exact h
theorem wpList_put1 {ops : Array Oper} {rest : List Oper} {o : Oper} {a : Act} {w : World} {Q : Exit → Act → World → Prop} (hgd : o.guard = none) (hd : o.dst = none) (ty : TypeId) (x y : Operand) (ho : o.op = .store ty x y) (b i : Nat) (v : Value) (hx : a.eval x = .pointer (some ⟨b, i, none⟩)) (hy : a.eval y = v)
  (hi : (P.info? ty).map (·.size) = some 1) (h1 : v.oneCell' = true) {tb : TypeId} {vs : Array Value} (hB : Bx w b tb vs) (hlt : i < vs.size)
  (h : wpList P ops Q rest a (w.setCell ⟨b, i, none⟩ v)) : wpList P ops Q (o :: rest) a w :=
 wpList_plain hgd fun _ hK => wp_put1 ty x y ho b i v hx hy hi h1 hB hlt (hK _ _ (by rw [hd]; exact h))
end
theorem Tryz.rsz2 : (Tryz.prog.info? 2).map (·.size) = some 1 := by kernel_rfl
theorem Tryz.rsz4 : (Tryz.prog.info? 4).map (·.size) = some 1 := by kernel_rfl
theorem Tryz.rszS : (Tryz.prog.info? 24).map (·.size) = some 1 := by kernel_rfl
theorem Tryz.rszI : (Tryz.prog.info? 25).map (·.size) = some 1 := by kernel_rfl
theorem Tryz.rszM : (Tryz.prog.info? 26).map (·.size) = some 1 := by kernel_rfl
theorem Tryz.rszR : (Tryz.prog.info? 28).map (·.size) = some 10 := by kernel_rfl
theorem rpC_size (r : Rp) (u : Rv) : (rpC r u).size = 10 := rfl
theorem wpList_rpV {ops : Array Oper} {rest : List Oper} {o : Oper} {a : Act} {Q : Exit → Act → World → Prop} {w w1 : World} {B b : Nat} {u : Rv} {r : Rp} (h : RpAt w B b u r) (hb : Below w.heap.size w w1) (hgd : o.guard = none) (hd : o.dst = none) (x y : Operand) (ho : o.op = .store 2 x y) (z : Int)
  (hx : a.eval x = .pointer (some ⟨b, 2, none⟩)) (hy : a.eval y = .int .i64 z) (hh : ∀ W, RpAt W B b u { r with v := z } → Below B w W → wpList Tryz.prog ops Q rest a W) : wpList Tryz.prog ops Q (o :: rest) a w1 :=
 wpList_put1 hgd hd 2 x y ho b 2 _ hx hy Tryz.rsz2 rfl (h.kept hb).c (show 2 < (rpC r u).size by rw [rpC_size]; decide) (hh _ ((h.kept hb).setV z) ((hb.mono h.le).setCell (p := ⟨b, 2, none⟩) h.hb _))
theorem wpList_rpN {ops : Array Oper} {rest : List Oper} {o : Oper} {a : Act} {Q : Exit → Act → World → Prop} {w w1 : World} {B b : Nat} {u : Rv} {r : Rp} (h : RpAt w B b u r) (hb : Below w.heap.size w w1) (hgd : o.guard = none) (hd : o.dst = none) (x y : Operand) (ho : o.op = .store 4 x y) (z : Bool)
  (hx : a.eval x = .pointer (some ⟨b, 3, none⟩)) (hy : a.eval y = .bool z) (hh : ∀ W, RpAt W B b u { r with n := z } → Below B w W → wpList Tryz.prog ops Q rest a W) : wpList Tryz.prog ops Q (o :: rest) a w1 :=
 wpList_put1 hgd hd 4 x y ho b 3 _ hx hy Tryz.rsz4 rfl (h.kept hb).c (show 3 < (rpC r u).size by rw [rpC_size]; decide) (hh _ ((h.kept hb).setN z) ((hb.mono h.le).setCell (p := ⟨b, 3, none⟩) h.hb _))
theorem wpList_rpOk {ops : Array Oper} {rest : List Oper} {o : Oper} {a : Act} {Q : Exit → Act → World → Prop} {w w1 : World} {B b : Nat} {u : Rv} {r : Rp} (h : RpAt w B b u r) (hb : Below w.heap.size w w1) (hgd : o.guard = none) (hd : o.dst = none) (x y : Operand) (ho : o.op = .store 25 x y) {v : Value} {l : List Int} (hv : HasN w1 w.heap.size v l)
  (hx : a.eval x = .pointer (some ⟨b, 7, none⟩)) (hy : a.eval y = v) (hh : ∀ W, RpAt W B b { u with ok := v } { r with ok := l } → Below B w W → wpList Tryz.prog ops Q rest a W) : wpList Tryz.prog ops Q (o :: rest) a w1 :=
 wpList_put1 hgd hd 25 x y ho b 7 _ hx hy Tryz.rszI (by obtain ⟨_, _, e, _⟩ := hv.form; rw [e]; rfl) (h.kept hb).c (show 7 < (rpC r u).size by rw [rpC_size]; decide) (hh _ (h.newOk hb hv) ((hb.mono h.le).setCell (p := ⟨b, 7, none⟩) h.hb _))
theorem wpList_rpCh {ops : Array Oper} {rest : List Oper} {o : Oper} {a : Act} {Q : Exit → Act → World → Prop} {w w1 : World} {B b : Nat} {u : Rv} {r : Rp} (h : RpAt w B b u r) (hb : Below w.heap.size w w1) (hgd : o.guard = none) (hd : o.dst = none) (x y : Operand) (ho : o.op = .store 25 x y) {v : Value} {l : List Int} (hv : OwnsN w1 w.heap.size v l)
  (hx : a.eval x = .pointer (some ⟨b, 8, none⟩)) (hy : a.eval y = v) (hh : ∀ W, RpAt W B b { u with ch := v } { r with ch := l } → Below B w W → wpList Tryz.prog ops Q rest a W) : wpList Tryz.prog ops Q (o :: rest) a w1 :=
 wpList_put1 hgd hd 25 x y ho b 8 _ hx hy Tryz.rszI (by obtain ⟨_, _, e, _⟩ := hv.form; rw [e]; rfl) (h.kept hb).c (show 8 < (rpC r u).size by rw [rpC_size]; decide) (hh _ (h.newCh hb hv) ((hb.mono h.le).setCell (p := ⟨b, 8, none⟩) h.hb _))
theorem wpList_rpTe0 {ops : Array Oper} {rest : List Oper} {o : Oper} {a : Act} {Q : Exit → Act → World → Prop} {w w1 : World} {B b : Nat} {u : Rv} {r : Rp} (h : RpAt w B b u r) (hb : Below w.heap.size w w1) (hgd : o.guard = none) (hd : o.dst = none) (x y : Operand) (ho : o.op = .store 26 x y) {v : Value} (hv : OwnsM w1 w.heap.size v [])
  (hx : a.eval x = .pointer (some ⟨b, 9, none⟩)) (hy : a.eval y = v) (hh : ∀ W, RpAt W B b { u with te := v, T := [] } { r with te := [] } → Below B w W → wpList Tryz.prog ops Q rest a W) : wpList Tryz.prog ops Q (o :: rest) a w1 :=
 wpList_put1 hgd hd 26 x y ho b 9 _ hx hy Tryz.rszM (by obtain ⟨_, _, e, _⟩ := hv.form; rw [e]; rfl) (h.kept hb).c (show 9 < (rpC r u).size by rw [rpC_size]; decide) (hh _ (h.noTe hb hv) ((hb.mono h.le).setCell (p := ⟨b, 9, none⟩) h.hb _))
theorem ownsN_one (w : World) (x : Int) : OwnsN (w.alloc (.cells #[.int .i64 x] 2)) w.heap.size (.slice (some ⟨w.heap.size, 0, none⟩) 1 1) [x] := ownsN_lit w x
open Go.RowKit Go.Sort Go.Shelf

theorem anew_same (r : Rp) : (anew r).l = r.l ∧ (anew r).ch = r.ch ∧ (anew r).te = r.te := by
 unfold anew
 split <;> exact ⟨rfl, rfl, rfl⟩
noncomputable def beN (r : Rp) : Rp := anew { r with n := true, la := r.v, ch := [], te := [] }
end Go.Proofs.YtdkhdjickkcaiaaGreat.Rl
namespace Go.Proofs.YtdkhdjickkcaiaaGreat
open Go.RowKit Go.Sort Rom

theorem wpList_none_at {P : Program} {w : World} {ops : Array Oper} {rest : List Oper} {o : Oper} {a : Act} {Q : Exit → Act → World → Prop} (hgd : o.guard = none) (s x : Operand) (t : TypeId)
  (ho : o.op = .call { callee := .builtin .append, args := #[s, x], argTypes := #[t, t] })
  (base : Nat) (e : TypeId) (i : TypeInfo) (size : Nat) (ht : P.underlying t = some (.slice e)) (hi : P.info? e = some i)
  (v : Value) (n c : Nat) (xs : List Value) (hs : a.eval s = v) (hown : w.ownsRow base e size v n xs) (hx : a.eval x = .slice none 0 c)
  (h : wpList P ops Q rest (a.put o.dst v) w) : wpList P ops Q (o :: rest) a w := by
 refine wpList_plain hgd fun K hK => ?_
 have hrun : (Builtin.append_ #[t, t] o.type #[v, .slice none 0 c]).run P w = .ok v w := by
  rcases hown.2 with ⟨rfl, rfl⟩ | ⟨g, cap, cur, rfl, _, _, hnc, _⟩
  ·
   simp [Builtin.append_, run_underlying ht, sizeOf, typeInfo, hi, Builtin.lenOf, Builtin.firstCells]
  ·
   simp [Builtin.append_, run_underlying ht, sizeOf, typeInfo, hi, Builtin.lenOf, Builtin.firstCells, hnc, storeCells]
 unfold Oper.wp
 simp [execOp, ho, resolve, invoke, builtin, hs, hx, hrun, Result.andThen]
 exact hK _ _ h
theorem wpList_noneN {w : World} {ops : Array Oper} {rest : List Oper} {o : Oper} {a : Act} {Q : Exit → Act → World → Prop} (hgd : o.guard = none) (s x : Operand)
  (ho : o.op = .call { callee := .builtin .append, args := #[s, x], argTypes := #[25, 25] }) (B : Nat) (v : Value) (l : List Int) (hs : a.eval s = v) (hown : OwnsE intE 2 w B v l) (c : Nat) (hx : a.eval x = .slice none 0 c)
  (h : wpList Tryz.prog ops Q rest (a.put o.dst v) w) : wpList Tryz.prog ops Q (o :: rest) a w := by
 obtain ⟨i0, hi, _⟩ := info_parts Tryz.infoN2
 exact wpList_none_at hgd s x 25 ho B 2 i0 (intE).k Tryz.underlying25 hi v l.length c _ hs hown hx h

theorem growN (n : Nat) (w : World) (h1 : 1 ≤ n) (h2 : n ≤ 100000) :
  Calls Tryz.prog 133 #[.slice none 0 0, .int .i64 (n : Int)] w fun e w' => ∃ g cap, e = .returned (.slice (some ⟨g, 0, none⟩) 0 cap) ∧ OwnsE intE 2 w' w.heap.size (.slice (some ⟨g, 0, none⟩) 0 cap) [] ∧ Below w.heap.size w w' := by
 obtain ⟨i0, hi, hz0, hz1, hz2⟩ := info_parts Tryz.infoN2
 have hrz : ∀ ty, (Builtin.append_ #[25, 3] ty #[.slice none 0 0, .int .i64 (n : Int)]).run Tryz.prog w = _ := fun ty => Lib.run_append_grow_zeros w 25 3 ty 2 i0 (.int .i64 0) .i64 .i64 Tryz.underlying25 Tryz.underlying3 hi hz0 none 0 0 [] (run_firstCells_none w.drew i0.size 0 0 0) n (by omega) (by rw [hz1]; decide) (by omega) (by omega) (by rw [hz2]; omega) (growslice_fits (by omega) (by rw [hz2]; omega))
 have hGn : 0 + n ≤ grownCap w (0 + n) 0 2 := grownCap_ge w _ _ _
 have hGm := grownCap_le_maxLen w (0 + n) 0 2 (by unfold maxLen; omega)
 generalize grownCap w (0 + n) 0 2 = G at hrz hGn hGm
 have hG63 : G ≤ 9223372036854775807 := by
  unfold maxLen at hGm
  omega
 have HO : Hid (OwnsE intE 2 (w.drew.alloc (.cells (([] : List Value).toArray ++ Builtin.zeroCells ((.int .i64 0) : Value).cells n ++ Builtin.zeroCells ((.int .i64 0) : Value).cells (G - (0 + n))) 2)) w.heap.size (.slice (some ⟨w.heap.size, 0, none⟩) 0 G) ([] : List Int)) := by
  refine (show Hid _ from ⟨by simp [cellsE], .inr ⟨w.heap.size, G, _, rfl, Nat.le_refl _, heap_alloc_new w.drew _, Nat.zero_le _, hGm, ?_, by simp [cellsE]⟩⟩)
  rw [Array.size_append, Array.size_append, size_zeroCells, size_zeroCells]
  simp only [List.size_toArray, List.length_nil, Nat.zero_add, ← Nat.add_mul]
  show (n + (G - n)) * 1 = G * 1
  rw [show n + (G - n) = G from by omega]
 have HB : Hid (Below w.heap.size w (w.drew.alloc (.cells (([] : List Value).toArray ++ Builtin.zeroCells ((.int .i64 0) : Value).cells n ++ Builtin.zeroCells ((.int .i64 0) : Value).cells (G - (0 + n))) 2))) := by
  have h0 := dwB w
  exact (show Hid _ from h0.alloc (Nat.le_refl _) _)
 generalize (w.drew.alloc (.cells (([] : List Value).toArray ++ Builtin.zeroCells ((.int .i64 0) : Value).cells n ++ Builtin.zeroCells ((.int .i64 0) : Value).cells (G - (0 + n))) 2)) = w1 at hrz HO HB
 rw [Nat.zero_add] at hrz hGn
 clear hi hz0 hz1 hz2 i0
 have hn0 : ¬ ((n : Int) < 0) := by omega
 have hn1 : 0 < (n : Int) := by omega
 go_enter Tryz.func133, Tryz.ntmps133
 go_wp2_with (at_builtin; refine Lib.wpList_append_run _ rfl _ _ _ _ rfl _ _ rfl rfl _ _ (hrz _) ?_)
 all_goals (go_ret; exact ⟨w.heap.size, G, rfl, HO.out, HB.out⟩)

def catLN (ps : List (Value × List Int)) (k : Nat) : List Int := ((ps.take k).map (·.2)).flatten
theorem catLN_next {ps : List (Value × List Int)} {k : Nat} (h : k < ps.length) : catLN ps (k + 1) = catLN ps k ++ ps[k].2 := by
 unfold catLN
 rw [List.take_succ_eq_append_getElem h, List.map_append, List.flatten_append]
 simp
theorem catLN_le (ps : List (Value × List Int)) (k : Nat) : (catLN ps k).length ≤ (catLN ps ps.length).length := by
 by_cases h : k ≤ ps.length
 ·
  have e : catLN ps ps.length = catLN ps k ++ ((ps.drop k).map (·.2)).flatten := by
   unfold catLN
   rw [← List.flatten_append, ← List.map_append, List.take_append_drop, List.take_of_length_le (Nat.le_refl _)]
  rw [e, List.length_append]
  omega
 ·
  unfold catLN
  rw [List.take_of_length_le (by omega), List.take_of_length_le (Nat.le_refl _)]
  exact Nat.le_refl _
open Go.RowKit Go.Sort Rom

theorem grow0N (w : World) : Calls Tryz.prog 133 #[.slice none 0 0, .int .i64 0] w fun e w' => e = .returned (.slice none 0 0) ∧ w = w' := by
 go_enter Tryz.func133, Tryz.ntmps133
 go_wp2
 go_ret
 exact ⟨rfl, rfl⟩
theorem growPN (n : Nat) (w : World) (h2 : n ≤ 100000) :
  Calls Tryz.prog 133 #[.slice none 0 0, .int .i64 (n : Int)] w fun e w' => ∃ a cap, e = .returned (.slice a 0 cap) ∧ OwnsE intE 2 w' w.heap.size (.slice a 0 cap) [] ∧ Below w.heap.size w w' := by
 by_cases h : n = 0
 ·
  subst h
  exact (grow0N w).mono fun e w' ⟨h1, h2⟩ => ⟨none, 0, h1, OwnsE.none _ _, h2 ▸ Below.refl _ _⟩
 ·
  exact (growN n w (by omega) h2).mono fun e w' ⟨g, c, h1, h2, h3⟩ => ⟨_, c, h1, h2, h3⟩
theorem catPN (gb n : Nat) (ps : List (Value × List Int)) (w : World) (hn : n = ps.length) (hn3 : n ≤ 3) (hgb : gb < w.heap.size)
  (hc : ∀ j (hj : j < ps.length), w.cell? ⟨gb, j, none⟩ = some ps[j].1) (hs : ∀ j (hj : j < ps.length), Sls intE w ps[j].1 ps[j].2)
  (hz : (catLN ps ps.length).length ≤ 1100) :
  Calls Tryz.prog 101 #[.slice (some ⟨gb, 0, none⟩) n n] w fun e w' => ∃ u, e = .returned u ∧ OwnsE intE 2 w' w.heap.size u (catLN ps ps.length) ∧ Below w.heap.size w w' := by
 subst hn
 have HC : Hid (∀ W, Below w.heap.size w W → ∀ j (hj : j < ps.length), W.cell? ⟨gb, j, none⟩ = some ps[j].1) := fun W hW j hj => (hW.cell (p := ⟨gb, j, none⟩) hgb).trans (hc j hj)
 have HS : Hid (∀ W, Below w.heap.size w W → ∀ j (hj : j < ps.length), Sls intE W ps[j].1 ps[j].2) := fun W hW j hj => (hs j hj).kept hW
 clear hc hs
 have HZ : Hid (∀ k, (catLN ps k).length ≤ (catLN ps ps.length).length) := catLN_le ps
 obtain ⟨L, hL⟩ : ∃ L, L = catLN ps ps.length := ⟨_, rfl⟩
 rw [← hL] at hz HZ ⊢
 have HL : Hid (L = catLN ps ps.length) := hL
 clear hL
 go_enter Tryz.func101, Tryz.ntmps101
 go_wp2
 go_loop [3, 11] (fun s i => ∃ k : Nat, k ≤ ps.length ∧ i = .int .i64 k ∧ s = .int .i64 ((catLN ps k).length : Int)) (fun _ i => ps.length - (intOf i).toNat)
 case atStart => exact ⟨0, Nat.zero_le _, rfl, rfl⟩
 case round =>
  obtain ⟨k, hk, rfl, rfl⟩ := hrel
  by_cases hlt : k < ps.length
  ·
   have c1 := HC.out w (Below.refl _ _) k hlt
   have s1 := HS.out w (Below.refl _ _) k hlt
   have HN : Hid (catLN ps (k + 1) = catLN ps k ++ ps[k].2) := catLN_next hlt
   have hz1 := HZ.out (k + 1)
   rw [HN.out, List.length_append] at hz1
   generalize ps[k] = p at c1 s1 HN hz1
   obtain ⟨v, m⟩ := p
   obtain ⟨a, cap, hv, _⟩ := s1
   dsimp only at hv c1 HN hz1
   subst hv
   have HN2 : Hid ((catLN ps (k + 1)).length = (catLN ps k).length + m.length) := by show _ = _; rw [HN.out, List.length_append]
   generalize (catLN ps k).length = z at hz1 HN2
   clear HN HC HS HZ
   go_wp2
   go_round
   case rel => exact ⟨k + 1, by omega, by go_num, by rw [HN2.out]; go_num⟩
   case measure => simp [intOf]; omega
  ·
   obtain rfl : k = ps.length := by omega
   rw [← HL.out]
   go_wp2_with (go_at_call 133; refine (growPN L.length w (by omega)).mono ?_; rintro e w1 ⟨g1, cap1, rfl, ho1, hb1⟩)
   have HO1 : Hid _ := ho1
   have HB1 : Hid _ := hb1
   clear ho1 hb1
   go_loopw [6, 27] (fun s i wr => ∃ (k : Nat) (sa : Option Addr) (sc : Nat), k ≤ ps.length ∧ i = .int .i64 k ∧ s = .slice sa (catLN ps k).length sc ∧ Hid (OwnsE intE 2 wr w.heap.size (.slice sa (catLN ps k).length sc) (catLN ps k)) ∧ Hid (Below w.heap.size w wr)) (fun _ i _ => ps.length - (intOf i).toNat)
   case atStart => exact ⟨0, _, _, Nat.zero_le _, rfl, rfl, HO1, HB1⟩
   case round =>
    clear HO1 HB1
    obtain ⟨k, sa, sc, hk, rfl, rfl, ho, hb⟩ := hrel
    by_cases hlt : k < ps.length
    ·
     have c1 := HC.out wr hb.out k hlt
     have s1 := HS.out wr hb.out k hlt
     have HN : Hid (catLN ps (k + 1) = catLN ps k ++ ps[k].2) := catLN_next hlt
     have hz1 := HZ.out (k + 1)
     rw [HN.out, List.length_append] at hz1
     generalize ps[k] = p at c1 s1 HN hz1
     obtain ⟨v, m⟩ := p
     obtain ⟨a, cap, hv, hm1, hm2, hm3⟩ := s1
     dsimp only at hv c1 HN hz1 hm1 hm2 hm3
     subst hv
     generalize catLN ps k = C at ho HN hz1
     unfold maxLen at hm2
     clear HC HS HZ
     cases a with
     | none =>
      obtain rfl : m = [] := by
       rcases m with _ | ⟨y, m⟩
       ·
        rfl
       ·
        obtain ⟨_, _, h, _⟩ := hm3 (by simp)
        cases h
      have HN2 : Hid (catLN ps (k + 1) = C) := by show _ = _; rw [HN.out, List.append_nil]
      clear HN hm3
      go_wp2_with (at_builtin; refine wpList_noneN rfl (.tmp 31) (.tmp 32) rfl w.heap.size _ _ rfl ho.out _ rfl ?_)
      go_roundw
      case rel => exact ⟨k + 1, sa, sc, by omega, by go_num, by rw [HN2.out], by rw [HN2.out]; exact ho, hb⟩
      case measure => simp [intOf]; omega
     | some ad =>
      have HM : Hid (∀ j u, (cellsE intE m)[j]? = some u → wr.cell? (ad.add j) = some u) := by
       intro j u hu
       by_cases hm0 : 0 < m.length
       ·
        obtain ⟨g, o, e, _, h⟩ := hm3 hm0
        injection e with e
        subst e
        rw [addr_add]
        exact h j u hu
       ·
        have : m = [] := List.eq_nil_of_length_eq_zero (by omega)
        rw [this] at hu
        simp [cellsE] at hu
      have hbs := hb.out.size
      clear hm3
      go_wp2_with (at_builtin; refine wpList_rowE (E := intE) _ rfl (.tmp 31) (.tmp 32) 25 2 (.int .i64 0) 8 Tryz.underlying25 Tryz.infoN2 rfl rfl w.heap.size _ C rfl ho.out ad cap m rfl HM.out (by unfold maxLen; omega) (by omega) hbs ?_; intro v4 w4 ho4 hg4 _; obtain ⟨a4, c4, hv4, _, _⟩ := ho4.form; subst hv4)
      go_roundw
      case rel => exact ⟨k + 1, a4, c4, by omega, by go_num, by rw [HN.out, List.length_append], by rw [HN.out]; exact ho4, (show Hid _ from belowE hb.out hg4 hbs (OwnsE.from ho.out))⟩
      case measure => simp [intOf]; omega
    ·
     obtain rfl : k = ps.length := by omega
     rw [← HL.out] at ho ⊢
     go_wp2
     go_ret
     exact ⟨_, rfl, ho.out, hb.out⟩
end Go.Proofs.YtdkhdjickkcaiaaGreat
namespace Go.Proofs.YtdkhdjickkcaiaaGreat.Rl
open Go.RowKit Go.Sort Go.Shelf

theorem OwnsE.of_has {α : Type} {E : Enc α} {ty : TypeId} {w : World} {B g n cap : Nat} {l : List α} (h : HasE E ty w B (.slice (some ⟨g, 0, none⟩) n cap) l) (hz : ∀ cur, w.heap[g]? = some (.cells cur ty (0, 0)) → cur.size = cap * E.k) : OwnsE E ty w B (.slice (some ⟨g, 0, none⟩) n cap) l := by
 rcases h with ⟨h0, _⟩ | ⟨g', cap', cur, hv, hB, hg, hc, hm, hz', ht⟩
 ·
  cases h0
 ·
  simp only [Value.slice.injEq, Option.some.injEq, Addr.mk.injEq, and_true] at hv
  obtain ⟨rfl, rfl, rfl⟩ := hv
  exact ⟨cellsE_length E l, .inr ⟨g, cap, cur, rfl, hB, hg, hc, hm, hz cur hg, ht⟩⟩
theorem OwnsE.puts {α : Type} {E : Enc α} {ty : TypeId} {w : World} {B g n cap : Nat} {l : List α} (h : OwnsE E ty w B (.slice (some ⟨g, 0, none⟩) n cap) l) {j : Nat} (hj : j < l.length) (y : α) : OwnsE E ty (putL w g (E.c y) (j * E.k)) B (.slice (some ⟨g, 0, none⟩) n cap) (l.set j y) := by
 refine OwnsE.of_has (HasM.puts h.has hj y) (fun cur hg => ?_)
 rcases h.2 with ⟨h0, _⟩ | ⟨g', cap', cur0, hv, hB, hg0, hc, hm, hz, rest⟩
 ·
  cases h0
 ·
  simp only [Value.slice.injEq, Option.some.injEq, Addr.mk.injEq, and_true] at hv
  obtain ⟨rfl, _, rfl⟩ := hv
  obtain ⟨c', k1, k2, k3⟩ := putM_heap (E.c y) (j * E.k) w cur0 hg0
  rw [k1] at hg
  injection hg with hg
  injection hg with hg _ _
  rw [← hg, k3]
  exact hz
structure LogO (w : World) (B : Nat) (T : List Mx) : Prop where
 l : ∀ x ∈ T, OwnsX w B x.u x.m.l
 ap : (T.map Mx.u).Pairwise ap
theorem LogO.logs {w : World} {B : Nat} {T : List Mx} (h : LogO w B T) : Logs w B T := ⟨fun x hx => (h.l x hx).has, h.ap⟩
theorem LogO.kept {w w' : World} {B : Nat} {T : List Mx} (h : LogO w B T) (hb : Below w.heap.size w w') : LogO w' B T := ⟨fun x hx => (h.l x hx).kept hb, h.ap⟩
theorem LogO.nil (w : World) (B : Nat) : LogO w B [] := ⟨fun x hx => (by cases hx), List.Pairwise.nil⟩
theorem LogO.under {w : World} {B : Nat} {T : List Mx} (h : LogO w B T) : ∀ x ∈ T, ∀ k, x.u.ownBlock = some k → k < w.heap.size := fun x hx => (h.l x hx).under
theorem LogO.snoc {w : World} {B : Nat} {T : List Mx} (h : LogO w B T) {y : Mx} {C : Nat} (hy : OwnsX w B y.u y.m.l) (h1 : ∀ x ∈ T, ∀ k, x.u.ownBlock = some k → k < C) (h2 : ∀ k, y.u.ownBlock = some k → C ≤ k) : LogO w B (T ++ [y]) where
 l := fun x hx => by
  rcases List.mem_append.1 hx with hx | hx
  ·
   exact h.l x hx
  ·
   obtain rfl := List.mem_singleton.1 hx; exact hy
 ap := (h.logs.snoc hy.has h1 h2).ap
theorem LogO.off {w w' : World} {B : Nat} {T : List Mx} (h : LogO w B T) (hk : ∀ x ∈ T, ∀ k, x.u.ownBlock = some k → w'.heap[k]? = w.heap[k]?) : LogO w' B T := ⟨fun x hx => OwnsE.off (h.l x hx) (hk x hx), h.ap⟩
theorem LogO.puts {w : World} {B g : Nat} {T : List Mx} (h : LogO w B T) (hg : g < B) (vs : List Value) (i : Nat) : LogO (putL w g vs i) B T := h.off fun x hx k hk => putL_block _ _ _ _ _ (by have := (h.l x hx).from k hk; omega)
theorem catOne (v : Value) (l : List Int) : catLN [(v, l)] [(v, l)].length = l := by simp [catLN]
theorem implCat1 (v : Value) (l : List Int) (W : World) (h : Sls intE W v l) (hl : l.length ≤ 1000) :
  Calls Tryz.prog 101 #[.slice (some ⟨W.heap.size, 0, none⟩) 1 1] (W.alloc (.cells #[v] 25)) fun e w' => ∃ u, e = .returned u ∧ OwnsN w' (W.heap.size + 1) u l ∧ Below (W.heap.size + 1) (W.alloc (.cells #[v] 25)) w' := by
 have e := catOne v l
 have h1 := (Sls.kept h ((Below.refl _ W).alloc (Nat.le_refl _) (.cells #[v] 25)))
 have := catPN W.heap.size 1 [(v, l)] (W.alloc (.cells #[v] 25)) rfl (by decide) (by simp) (fun j hj => by
  have : j = 0 := by simp at hj; omega
  subst this
  rw [World.cell?_alloc_mark]
  simp) (fun j hj => by
  have : j = 0 := by simp at hj; omega
  subst this
  exact h1) (by rw [e]; omega)
 rw [e] at this
 have e2 : (W.alloc (.cells #[v] 25)).heap.size = W.heap.size + 1 := by simp
 rw [e2] at this
 exact this
theorem implNewRp (r : Rp) (u : Rv) (w : World) (h : RpGot w u r) (hf : Fit r) (hs : r.ok.length ≤ 1000 ∧ r.ch.length ≤ 1000) :
  Calls Tryz.prog 47 #[rpA r u] w fun e w' => e = .returned (.pointer (some ⟨w.heap.size, 0, none⟩)) ∧ ∃ u', RpAt w' w.heap.size w.heap.size u' r ∧ OwnsX w' w.heap.size u'.l r.l ∧ Below w.heap.size w w' := by
 obtain ⟨la, lc, oa, oc, ca, cc, ta, tc, T, rfl⟩ := h.form
 have htl : r.te.length = T.length := h.tlen.symm
 have hn5 : T.length ≤ 1048576 := by rw [← htl]; exact hf.te.1
 rw [htl] at h ⊢
 have HG : Hid (RpGot w ⟨.slice la r.l.length lc, .slice oa r.ok.length oc, .slice ca r.ch.length cc, .slice ta T.length tc, T⟩ r) := h
 have HF : Hid (Fit r) := hf
 have HZ : Hid (r.ok.length ≤ 1000 ∧ r.ch.length ≤ 1000) := hs
 obtain ⟨w1, hw1⟩ : ∃ w1, w1 = w.alloc (.cells #[.int .i64 r.id, .int .i64 r.p, .int .i64 r.v, .bool r.n, .int .i64 r.la, .slice la r.l.length lc, .int .i64 r.c, .slice oa r.ok.length oc, .slice ca r.ch.length cc, .slice ta T.length tc] 28) := ⟨_, rfl⟩
 have HB1 : Hid (Bx w1 w.heap.size 28 #[.int .i64 r.id, .int .i64 r.p, .int .i64 r.v, .bool r.n, .int .i64 r.la, .slice la r.l.length lc, .int .i64 r.c, .slice oa r.ok.length oc, .slice ca r.ch.length cc, .slice ta T.length tc]) := hH_ (by rw [hw1]; exact Bx.new _ _ _)
 have B1 : Hid (Below w.heap.size w w1) := hH_ (by rw [hw1]; exact (Below.refl _ w).alloc (Nat.le_refl _) _)
 have S1 : w1.heap.size = w.heap.size + 1 := by rw [hw1]; simp
 obtain ⟨i0, hi, hz0, hz1, hz2⟩ := info_parts Tryz.infoMSV
 obtain ⟨w0, hrun, hown, hgr⟩ := run_make_full (P := Tryz.prog) w1 w1.heap.size 26 30 i0 (.agg #[.int .i64 0, .int .i64 0, .int .i64 0, .int .i64 0, .int .i64 0, .slice none 0 0, .int .i64 0]) 7 Tryz.underlying26 hi hz0 hz1 .i64 .i64 T.length (by rw [hz2]; omega) (by unfold maxLen; omega) (Nat.le_refl _)
 rw [madeMx] at hown
 rw [S1] at hown hrun
 have hown0 : Hid (OwnsM w0 (w.heap.size + 1) (.slice (some ⟨w.heap.size + 1, 0, Option.none⟩) T.length T.length) ([] ++ List.replicate (T.length - 0) mxZ)) := (show OwnsM w0 (w.heap.size + 1) (.slice (some ⟨w.heap.size + 1, 0, Option.none⟩) T.length T.length) (List.replicate T.length mxZ) from by
  show w0.ownsRow _ _ 7 _ _ _
  rw [List.length_replicate]
  exact hown)
 have hb0 : Below w1.heap.size w1 w0 := (Below.refl _ w1).grown hgr (Nat.le_refl _) (fun j hj => by cases hj)
 have HB0 := hH_ (HB1.out.kept hb0)
 have B0 := hH_ (B1.out.trans (hb0.mono B1.out.size))
 have HTL : Hid (r.te.length = T.length) := htl
 have HN5 : Hid (T.length ≤ 1048576) := hn5
 have q9a := HB1.out.cell 9
 have q9b := HB0.out.cell 9
 unfold rpA
 simp only
 clear h hf hs htl hown hgr hi hz0 hz1 hz2 hb0 hn5 S1
 go_enter Tryz.func47, Tryz.ntmps47
 go_upto_region 1 with fail
 rw [← hw1]
 clear hw1
 go_wp2_with fail
 clear q9a q9b hrun HB1 B1
 go_loopw [13] (fun i wr => ∃ (M : List Mx), M.length ≤ T.length ∧ i = .int .i64 M.length ∧ Hid (OwnsM wr (w.heap.size + 1) (.slice (some ⟨w.heap.size + 1, 0, Option.none⟩) T.length T.length) (M ++ List.replicate (T.length - M.length) mxZ)) ∧ Hid (SameH (T.take M.length) M) ∧ Hid (LogO wr (w.heap.size + 2) M) ∧ Hid (Bx wr w.heap.size 28 #[.int .i64 r.id, .int .i64 r.p, .int .i64 r.v, .bool r.n, .int .i64 r.la, .slice la r.l.length lc, .int .i64 r.c, .slice oa r.ok.length oc, .slice ca r.ch.length cc, .slice ta T.length tc]) ∧ Hid (Below w.heap.size w wr)) (fun i _ => T.length - (intOf i).toNat)
 case atStart => exact ⟨[], Nat.zero_le _, rfl, hown0, (show SameH (T.take 0) [] from rfl), (show Hid _ from LogO.nil _ _), HB0, B0⟩
 case round =>
  clear hown0 HB0 B0
  obtain ⟨M, hk, rfl, ho, hsm, hm, hbx, hb⟩ := hrel
  by_cases hlt : M.length < T.length
  ·
   have HA2 : TeGot wr (.slice ta T.length tc) T := HG.out.te.kept (hb.out.mono (Nat.le_refl _))
   obtain ⟨g, q, rfl⟩ := mxAt HA2.1 (by omega)
   have CK := mxCells HA2.1 hlt
   have rx := HA2.2 T[M.length] (List.getElem_mem hlt)
   have sx : T[M.length].m.l.length ≤ 1048576 ∧ ∀ y ∈ T[M.length].m.l, y.size ≤ 1048576 := HF.out.te.2 _ (by rw [← HG.out.t]; exact List.mem_map_of_mem (List.getElem_mem hlt))
   have hnx : Hid (∀ y : Mx, y.m = T[M.length].m → SameH (T.take (M.length + 1)) (M ++ [y])) := fun y hy => by
    unfold SameH
    rw [List.take_succ_eq_append_getElem hlt, List.map_append, List.map_append, ← hsm.out]
    simp [hy]
   generalize T[M.length] = x at CK rx sx hnx
   obtain ⟨mx, pax, pcx⟩ := x
   have ht := fun W (hW : Below wr.heap.size wr W) => implNms mx _ W (MsGot.kept rx hW) sx.1 sx.2
   have hlw : w.heap.size + 1 < wr.heap.size := ho.out.under _ rfl
   unfold msA at ht
   unfold Mx.u at CK ht
   simp only at CK ht hnx
   obtain ⟨c0, c1, c2, c3, c4, c5, c6⟩ := CK
   clear rx sx HA2
   go_wp2_with fail
   refine (ht _ ((Below.refl _ wr).alloc (Nat.le_refl _) _)).mono ?_
   rintro e w1 ⟨v2, rfl, hv2, hb1⟩
   obtain ⟨a1, p1, rfl, _⟩ := hv2.form
   have hbz : Below wr.heap.size wr w1 := ((Below.refl _ wr).alloc (Nat.le_refl _) _).trans (hb1.mono (by simp))
   have ho1 := hH_ (ho.out.kept hbz)
   have fz := ho1.out.has.free
   have dz := mxCells ho1.out.sls (j := M.length) (by simp; omega)
   have f0 := fz (M.length * 7)
   have f1 := fz (M.length * 7 + 1)
   have f2 := fz (M.length * 7 + 2)
   have f3 := fz (M.length * 7 + 3)
   have f4 := fz (M.length * 7 + 4)
   have f5 := fz (M.length * 7 + 5)
   have f6 := fz (M.length * 7 + 6)
   simp only [Nat.zero_add] at dz
   obtain ⟨d0, d1, d2, d3, d4, d5, d6⟩ := dz
   have hp := OwnsE.puts ho1.out (j := M.length) (by simp; omega) ⟨mx, a1, p1⟩
   rw [turnM_next _ _ _ hlt] at hp
   have hq := ((hm.out.kept hbz).snoc (y := ⟨mx, a1, p1⟩) (hv2.low (by simp; omega)) (C := wr.heap.size) (fun x hx k hk => hm.out.under x hx k hk) (fun k hk => by have := hv2.from k hk; simp at this; omega)).puts (show w.heap.size + 1 < w.heap.size + 2 by omega) (mxC ⟨mx, a1, p1⟩) (M.length * 7)
   have hB := putL_below (show w.heap.size ≤ w.heap.size + 1 by omega) (mxC ⟨mx, a1, p1⟩) (M.length * 7) (hb.out.trans (hbz.mono hb.out.size))
   have hX : Bx (putL w1 (w.heap.size + 1) (mxC ⟨mx, a1, p1⟩) (M.length * 7)) w.heap.size 28 _ := (putL_block _ _ _ _ _ (by omega)).trans (hbx.out.kept hbz)
   have hN := hnx.out ⟨mx, a1, p1⟩ rfl
   have hlen : (M ++ [(⟨mx, a1, p1⟩ : Mx)]).length = M.length + 1 := by simp
   rw [← hlen] at hp hN
   have HP : Hid _ := hp
   have HQ : Hid _ := hq
   have HBB : Hid _ := hB
   have HXX : Hid _ := hX
   have HN : Hid _ := hN
   clear hp hq hB hX hN fz ho hm hbx hb hbz hb1 hv2 hnx ht c0 c1 c2 c3 c4 c5 c6
   have hn5 := HN5.out
   go_wp2_with fail
   go_roundw
   case rel =>
    refine ⟨M ++ [(⟨mx, a1, p1⟩ : Mx)], by omega, by rw [hlen]; go_num, ?_, ?_, ?_, ?_, ?_⟩
    ·
     exact HP
    ·
     exact HN
    ·
     exact HQ
    ·
     exact HXX
    ·
     exact HBB
   case measure => simp [intOf]; omega
  ·
   have hkk : M.length = T.length := by omega
   have HO : Hid (OwnsM wr (w.heap.size + 1) (.slice (some ⟨w.heap.size + 1, 0, Option.none⟩) T.length T.length) M) := (show Hid _ from by
    have := ho.out
    rw [hkk, Nat.sub_self, List.replicate_zero, List.append_nil] at this
    exact this)
   have HS : Hid (M.map (·.m) = r.te) := (show _ = _ from by
    have := hsm.out
    rw [hkk, List.take_length] at this
    unfold SameH at this
    first | exact this.symm.trans HG.out.t | exact this.trans HG.out.t)
   have HM : Hid (LogO wr (w.heap.size + 2) M) := hm
   have HX : Hid (Bx wr w.heap.size 28 #[.int .i64 r.id, .int .i64 r.p, .int .i64 r.v, .bool r.n, .int .i64 r.la, .slice la r.l.length lc, .int .i64 r.c, .slice oa r.ok.length oc, .slice ca r.ch.length cc, .slice ta T.length tc]) := hbx
   have BB : Hid (Below w.heap.size w wr) := hb
   have S0 : Hid (w.heap.size + 2 ≤ wr.heap.size) := hH_ (ho.out.under _ rfl)
   clear ho hsm hm hbx hb
   have jn := fun W hW => implNlg (.slice la r.l.length lc) r.l W (HG.out.l.kept hW) HF.out.l.1 HF.out.l.2
   have qq := HX.out.cell 5
   have UM : Hid (∀ x ∈ M, ∀ k, x.u.ownBlock = some k → w.heap.size + 2 ≤ k ∧ k < wr.heap.size) := hH_ (fun x hx k hk => ⟨(HM.out.l x hx).from k hk, HM.out.under x hx k hk⟩)
   go_wp2_with fail
   refine (jn _ BB.out).mono ?_
   rintro e w2 ⟨v2, rfl, ho, hb⟩
   obtain ⟨a2, c2, rfl, _⟩ := ho.form
   have hbz : Below wr.heap.size wr w2 := hb
   have OL : Hid (OwnsX w2 wr.heap.size (.slice a2 r.l.length c2) r.l) := ho
   have UL : Hid (∀ k, (Value.slice a2 r.l.length c2).ownBlock = some k → wr.heap.size ≤ k ∧ k < w2.heap.size) := hH_ (fun k hk => ⟨by have := ho.from k hk; omega, ho.under k hk⟩)
   have Z2 : Hid (wr.heap.size ≤ w2.heap.size) := hH_ (hbz.size)
   replace HX := hH_ (HX.out.kept hbz)
   replace HO := hH_ (HO.out.kept hbz)
   replace HM := hH_ (HM.out.kept hbz)
   replace BB := hH_ (BB.out.trans (hbz.mono BB.out.size))
   clear ho hb hbz jn qq
   go_upto_region 8 with (refine wpList_put1 rfl rfl _ _ _ rfl w.heap.size 5 (.slice a2 r.l.length c2) rfl rfl Tryz.rszS rfl HX.out (show 5 < 10 by decide) ?_; generalize hw : w2.setCell ⟨w.heap.size, 5, none⟩ (.slice a2 r.l.length c2) = w3)
   have SW : Hid (ChS (fun k => k = w.heap.size) w2 w3) := hH_ (by rw [← hw]; exact (ChS.refl _ _).set _ _ rfl)
   have SZw3 : Hid (w3.heap.size = w2.heap.size) := hH_ (by rw [← hw]; simp)
   have HX3 : Hid (Bx w3 w.heap.size 28 #[.int .i64 r.id, .int .i64 r.p, .int .i64 r.v, .bool r.n, .int .i64 r.la, .slice a2 r.l.length c2, .int .i64 r.c, .slice oa r.ok.length oc, .slice ca r.ch.length cc, .slice ta T.length tc]) := hH_ (by rw [← hw]; exact Bx.put HX.out 5 _)
   have HO3 : Hid (OwnsM w3 (w.heap.size + 1) (.slice (some ⟨w.heap.size + 1, 0, none⟩) T.length T.length) M) := hH_ (OwnsE.off HO.out (fun k hk => SW.out.block k (HO.out.under k hk) (by have := HO.out.from k hk; omega)))
   have OL3 : Hid (OwnsX w3 wr.heap.size (.slice a2 r.l.length c2) r.l) := hH_ (OwnsE.off OL.out (fun k hk => SW.out.block k (OL.out.under k hk) (by have := OL.out.from k hk; have:=S0.out;omega)))
   have HM3 : Hid (LogO w3 (w.heap.size + 2) M) := hH_ (HM.out.off (fun x hx k hk => SW.out.block k (HM.out.under x hx k hk) (by have := (HM.out.l x hx).from k hk; omega)))
   have B3 : Hid (Below w.heap.size w w3) := hH_ (SW.out.below BB.out BB.out.size (fun k hk => by omega))
   clear hw SW HX HO OL HM BB
   have jc := fun W hW => implCat1 (.slice oa r.ok.length oc) r.ok W (HG.out.ok.kept hW) HZ.out.1
   have qq := HX3.out.cell 7
   go_wp2_with fail
   refine (jc _ B3.out).mono ?_
   rintro e w4 ⟨v4, rfl, ho, hb⟩
   obtain ⟨a3, c3, rfl, _⟩ := ho.form
   have hbz : Below w3.heap.size w3 w4 := ((Below.refl _ w3).alloc (Nat.le_refl _) _).trans (hb.mono (by omega))
   have OK : Hid (OwnsN w4 (w3.heap.size + 1) (.slice a3 r.ok.length c3) r.ok) := ho
   have UK : Hid (∀ k, (Value.slice a3 r.ok.length c3).ownBlock = some k → w3.heap.size ≤ k ∧ k < w4.heap.size) := hH_ (fun k hk => ⟨by have := ho.from k hk; omega, ho.under k hk⟩)
   have Z4 : Hid (w3.heap.size ≤ w4.heap.size) := hH_ (hbz.size)
   replace HX3 := hH_ (HX3.out.kept hbz)
   replace HO3 := hH_ (HO3.out.kept hbz)
   replace OL3 := hH_ (OL3.out.kept hbz)
   replace HM3 := hH_ (HM3.out.kept hbz)
   replace B3 := hH_ (B3.out.trans (hbz.mono B3.out.size))
   clear ho hb hbz jc qq
   go_upto_region 9 with (refine wpList_put1 rfl rfl _ _ _ rfl w.heap.size 7 (.slice a3 r.ok.length c3) rfl rfl Tryz.rszI rfl HX3.out (show 7 < 10 by decide) ?_; generalize hw : w4.setCell ⟨w.heap.size, 7, none⟩ (.slice a3 r.ok.length c3) = w5)
   have SW : Hid (ChS (fun k => k = w.heap.size) w4 w5) := hH_ (by rw [← hw]; exact (ChS.refl _ _).set _ _ rfl)
   have SZw5 : Hid (w5.heap.size = w4.heap.size) := hH_ (by rw [← hw]; simp)
   have HX5 : Hid (Bx w5 w.heap.size 28 #[.int .i64 r.id, .int .i64 r.p, .int .i64 r.v, .bool r.n, .int .i64 r.la, .slice a2 r.l.length c2, .int .i64 r.c, .slice a3 r.ok.length c3, .slice ca r.ch.length cc, .slice ta T.length tc]) := hH_ (by rw [← hw]; exact Bx.put HX3.out 7 _)
   have HO5 : Hid (OwnsM w5 (w.heap.size + 1) (.slice (some ⟨w.heap.size + 1, 0, none⟩) T.length T.length) M) := hH_ (OwnsE.off HO3.out (fun k hk => SW.out.block k (HO3.out.under k hk) (by have := HO3.out.from k hk; omega)))
   have OL5 : Hid (OwnsX w5 wr.heap.size (.slice a2 r.l.length c2) r.l) := hH_ (OwnsE.off OL3.out (fun k hk => SW.out.block k (OL3.out.under k hk) (by have := OL3.out.from k hk; have:=S0.out;omega)))
   have OK5 : Hid (OwnsN w5 (w3.heap.size + 1) (.slice a3 r.ok.length c3) r.ok) := hH_ (OwnsE.off OK.out (fun k hk => SW.out.block k (OK.out.under k hk) (by have := OK.out.from k hk; have:=S0.out;have:=Z2.out;have:=SZw3.out;omega)))
   have HM5 : Hid (LogO w5 (w.heap.size + 2) M) := hH_ (HM3.out.off (fun x hx k hk => SW.out.block k (HM3.out.under x hx k hk) (by have := (HM3.out.l x hx).from k hk; omega)))
   have B5 : Hid (Below w.heap.size w w5) := hH_ (SW.out.below B3.out B3.out.size (fun k hk => by omega))
   clear hw SW HX3 HO3 OL3 OK HM3 B3
   have jc := fun W hW => implCat1 (.slice ca r.ch.length cc) r.ch W (HG.out.ch.kept hW) HZ.out.2
   have qq := HX5.out.cell 8
   go_wp2_with fail
   refine (jc _ B5.out).mono ?_
   rintro e w6 ⟨v6, rfl, ho, hb⟩
   obtain ⟨a4, c4, rfl, _⟩ := ho.form
   have hbz : Below w5.heap.size w5 w6 := ((Below.refl _ w5).alloc (Nat.le_refl _) _).trans (hb.mono (by omega))
   have OC : Hid (OwnsN w6 (w5.heap.size + 1) (.slice a4 r.ch.length c4) r.ch) := ho
   have UC : Hid (∀ k, (Value.slice a4 r.ch.length c4).ownBlock = some k → w5.heap.size ≤ k ∧ k < w6.heap.size) := hH_ (fun k hk => ⟨by have := ho.from k hk; omega, ho.under k hk⟩)
   have Z6 : Hid (w5.heap.size ≤ w6.heap.size) := hH_ (hbz.size)
   replace HX5 := hH_ (HX5.out.kept hbz)
   replace HO5 := hH_ (HO5.out.kept hbz)
   replace OL5 := hH_ (OL5.out.kept hbz)
   replace OK5 := hH_ (OK5.out.kept hbz)
   replace HM5 := hH_ (HM5.out.kept hbz)
   replace B5 := hH_ (B5.out.trans (hbz.mono B5.out.size))
   clear ho hb hbz jc qq
   go_upto_region 10 with (refine wpList_put1 rfl rfl _ _ _ rfl w.heap.size 8 (.slice a4 r.ch.length c4) rfl rfl Tryz.rszI rfl HX5.out (show 8 < 10 by decide) ?_; generalize hw : w6.setCell ⟨w.heap.size, 8, none⟩ (.slice a4 r.ch.length c4) = w7)
   have SW : Hid (ChS (fun k => k = w.heap.size) w6 w7) := hH_ (by rw [← hw]; exact (ChS.refl _ _).set _ _ rfl)
   have SZw7 : Hid (w7.heap.size = w6.heap.size) := hH_ (by rw [← hw]; simp)
   have HX7 : Hid (Bx w7 w.heap.size 28 #[.int .i64 r.id, .int .i64 r.p, .int .i64 r.v, .bool r.n, .int .i64 r.la, .slice a2 r.l.length c2, .int .i64 r.c, .slice a3 r.ok.length c3, .slice a4 r.ch.length c4, .slice ta T.length tc]) := hH_ (by rw [← hw]; exact Bx.put HX5.out 8 _)
   have HO7 : Hid (OwnsM w7 (w.heap.size + 1) (.slice (some ⟨w.heap.size + 1, 0, none⟩) T.length T.length) M) := hH_ (OwnsE.off HO5.out (fun k hk => SW.out.block k (HO5.out.under k hk) (by have := HO5.out.from k hk; omega)))
   have OL7 : Hid (OwnsX w7 wr.heap.size (.slice a2 r.l.length c2) r.l) := hH_ (OwnsE.off OL5.out (fun k hk => SW.out.block k (OL5.out.under k hk) (by have := OL5.out.from k hk; have:=S0.out;omega)))
   have OK7 : Hid (OwnsN w7 (w3.heap.size + 1) (.slice a3 r.ok.length c3) r.ok) := hH_ (OwnsE.off OK5.out (fun k hk => SW.out.block k (OK5.out.under k hk) (by have := OK5.out.from k hk; have:=S0.out;have:=Z2.out;have:=SZw3.out;omega)))
   have OC7 : Hid (OwnsN w7 (w5.heap.size + 1) (.slice a4 r.ch.length c4) r.ch) := hH_ (OwnsE.off OC.out (fun k hk => SW.out.block k (OC.out.under k hk) (by have := OC.out.from k hk; have:=S0.out;have:=Z2.out;have:=SZw3.out;have:=Z4.out;have:=SZw5.out;omega)))
   have HM7 : Hid (LogO w7 (w.heap.size + 2) M) := hH_ (HM5.out.off (fun x hx k hk => SW.out.block k (HM5.out.under x hx k hk) (by have := (HM5.out.l x hx).from k hk; omega)))
   have B7 : Hid (Below w.heap.size w w7) := hH_ (SW.out.below B5.out B5.out.size (fun k hk => by omega))
   clear hw SW HX5 HO5 OL5 OK5 OC HM5 B5
   go_wp2_with (refine wpList_put1 rfl rfl _ _ _ rfl w.heap.size 9 (.slice (some ⟨w.heap.size + 1, 0, none⟩) T.length T.length) rfl rfl Tryz.rszM rfl HX7.out (show 9 < 10 by decide) ?_; generalize hw : w7.setCell ⟨w.heap.size, 9, none⟩ (.slice (some ⟨w.heap.size + 1, 0, none⟩) T.length T.length) = w9)
   have SW : Hid (ChS (fun k => k = w.heap.size) w7 w9) := hH_ (by rw [← hw]; exact (ChS.refl _ _).set _ _ rfl)
   have SZw9 : Hid (w9.heap.size = w7.heap.size) := hH_ (by rw [← hw]; simp)
   have HX9 : Hid (Bx w9 w.heap.size 28 #[.int .i64 r.id, .int .i64 r.p, .int .i64 r.v, .bool r.n, .int .i64 r.la, .slice a2 r.l.length c2, .int .i64 r.c, .slice a3 r.ok.length c3, .slice a4 r.ch.length c4, .slice (some ⟨w.heap.size + 1, 0, none⟩) T.length T.length]) := hH_ (by rw [← hw]; exact Bx.put HX7.out 9 _)
   have HO9 : Hid (OwnsM w9 (w.heap.size + 1) (.slice (some ⟨w.heap.size + 1, 0, none⟩) T.length T.length) M) := hH_ (OwnsE.off HO7.out (fun k hk => SW.out.block k (HO7.out.under k hk) (by have := HO7.out.from k hk; omega)))
   have OL9 : Hid (OwnsX w9 wr.heap.size (.slice a2 r.l.length c2) r.l) := hH_ (OwnsE.off OL7.out (fun k hk => SW.out.block k (OL7.out.under k hk) (by have := OL7.out.from k hk; have:=S0.out;omega)))
   have OK9 : Hid (OwnsN w9 (w3.heap.size + 1) (.slice a3 r.ok.length c3) r.ok) := hH_ (OwnsE.off OK7.out (fun k hk => SW.out.block k (OK7.out.under k hk) (by have := OK7.out.from k hk; have:=S0.out;have:=Z2.out;have:=SZw3.out;omega)))
   have OC9 : Hid (OwnsN w9 (w5.heap.size + 1) (.slice a4 r.ch.length c4) r.ch) := hH_ (OwnsE.off OC7.out (fun k hk => SW.out.block k (OC7.out.under k hk) (by have := OC7.out.from k hk; have:=S0.out;have:=Z2.out;have:=SZw3.out;have:=Z4.out;have:=SZw5.out;omega)))
   have HM9 : Hid (LogO w9 (w.heap.size + 2) M) := hH_ (HM7.out.off (fun x hx k hk => SW.out.block k (HM7.out.under x hx k hk) (by have := (HM7.out.l x hx).from k hk; omega)))
   have B9 : Hid (Below w.heap.size w w9) := hH_ (SW.out.below B7.out B7.out.size (fun k hk => by omega))
   clear hw SW HX7 HO7 OL7 OK7 OC7 HM7 B7
   have HR : Hid (RpAt w9 w.heap.size w.heap.size ⟨.slice a2 r.l.length c2, .slice a3 r.ok.length c3, .slice a4 r.ch.length c4, .slice (some ⟨w.heap.size + 1, 0, none⟩) T.length T.length, M⟩ r) := (show RpAt _ _ _ _ _ from by
    have hs0 := S0.out
    have hz2 := Z2.out
    have hz3 := SZw3.out
    have hz4 := Z4.out
    have hz5 := SZw5.out
    have hT : ∀ k, (Value.slice (some ⟨w.heap.size + 1, 0, none⟩) T.length T.length).ownBlock = some k → k = w.heap.size + 1 := fun k hk => by
     have : w.heap.size + 1 = k := by simpa [Value.ownBlock] using hk
     omega
    refine ⟨HX9.out, ⟨(OwnsE.low OL9.out (by omega)).has, (OwnsE.low OK9.out (by omega)).has, OwnsE.low OC9.out (by omega), HS.out, OwnsE.low HO9.out (by omega), fun x hx => (OwnsE.low (HM9.out.l x hx) (by omega)).has⟩, RpAp.iff.2 ⟨fun v hv => ?_, fun v hv => ?_, fun v hv => ?_, fun v hv => ?_, HM9.out.ap⟩, Nat.le_refl _⟩
    ·
     intro k h1 h2
     have := UL.out k h1
     simp only [List.mem_cons, List.mem_map] at hv
     rcases hv with rfl | rfl | rfl | ⟨x, hx, rfl⟩
     ·
      have := UK.out k h2; omega
     ·
      have := UC.out k h2; omega
     ·
      have := hT k h2; omega
     ·
      have := UM.out x hx k h2; omega
    ·
     intro k h1 h2
     have := UK.out k h1
     simp only [List.mem_cons, List.mem_map] at hv
     rcases hv with rfl | rfl | ⟨x, hx, rfl⟩
     ·
      have := UC.out k h2; omega
     ·
      have := hT k h2; omega
     ·
      have := UM.out x hx k h2; omega
    ·
     intro k h1 h2
     have := UC.out k h1
     simp only [List.mem_cons, List.mem_map] at hv
     rcases hv with rfl | ⟨x, hx, rfl⟩
     ·
      have := hT k h2; omega
     ·
      have := UM.out x hx k h2; omega
    ·
     intro k h1 h2
     have := hT k h1
     simp only [List.mem_map] at hv
     obtain ⟨x, hx, rfl⟩ := hv
     have := UM.out x hx k h2
     omega)
   have OLF : Hid (OwnsX w9 w.heap.size (.slice a2 r.l.length c2) r.l) := hH_ (OwnsE.low OL9.out (by have:=S0.out;omega))
   clear HX9 HO9 HM9 OL9 OK9 OC9 UL UK UC UM HS
   go_wp2
   go_ret
   first | exact ⟨rfl, _, HR.out, OLF.out, B9.out⟩ | exact ⟨rfl, ⟨_, HR.out, OLF.out⟩, B9.out⟩
end Go.Proofs.YtdkhdjickkcaiaaGreat.Rl
