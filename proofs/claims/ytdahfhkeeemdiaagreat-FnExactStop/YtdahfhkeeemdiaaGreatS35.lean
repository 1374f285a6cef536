/-
  A replica of a call's own, in memory: its ten cells, its rows in blocks of their own; what is stored in it.
  The program's askFor and beNormal.
  The library's Grow and Concat, and inFront, over numbers.
-/
import Derived.Test.YtdahfhkeeemdiaaGreatS22
import Derived.Test.YtdahfhkeeemdiaaGreatS31
import Derived.Test.YtdahfhkeeemdiaaGreatS17
import Derived.Great.Walk
import Derived.Laws.Tables
import Derived.Test.YtdahfhkeeemdiaaGreatS34
import Derived.Test.YtdahfhkeeemdiaaGreatS27
import Derived.Lib.AppendZerosOnto
import Derived.Laws.AppendOwnNone
import Derived.Deep.RegionWith
namespace Go.Proofs.YtdahfhkeeemdiaaGreat.Rl
open Go.RowKit Go.Sort
set_option linter.unusedVariables false
set_option linter.unusedSimpArgs false

theorem OwnsE.off {α : Type} {E : Enc α} {ty : TypeId} {w w' : World} {B : Nat} {v : Value} {l : List α} (h : OwnsE E ty w B v l) (hk : ∀ k, v.ownBlock = some k → w'.heap[k]? = w.heap[k]?) : OwnsE E ty w' B v l := by
  refine ⟨h.1, ?_⟩
  rcases h.2 with h0 | ⟨g, cap, cur, hv, hbg, hg, rest⟩
  · exact .inl h0
  · exact .inr ⟨g, cap, cur, hv, hbg, by rw [hk g (by rw [hv]; rfl)]; exact hg, rest⟩
/-- The rows of a replica, each the call's own. -/
structure RpOw (w : World) (B : Nat) (u : Rv) (r : Rp) : Prop where
  l : OwnsX w B u.l r.l
  ok : HasN w B u.ok r.ok
  ch : OwnsN w B u.ch r.ch
  t : u.T.map (·.m) = r.te
  te : OwnsM w B u.te u.T
  tl : ∀ x ∈ u.T, OwnsX w B x.u x.m.l
theorem RpOw.has {w : World} {B : Nat} {u : Rv} {r : Rp} (h : RpOw w B u r) : RpHas w B u r := ⟨h.l.has, h.ok, h.ch.has, h.t, h.te.has, fun x hx => (h.tl x hx).has⟩
theorem RpOw.got {w : World} {B : Nat} {u : Rv} {r : Rp} (h : RpOw w B u r) : RpGot w u r := h.has.got
theorem RpOw.kept {w w' : World} {B : Nat} {u : Rv} {r : Rp} (h : RpOw w B u r) (hb : Below w.heap.size w w') : RpOw w' B u r := ⟨h.l.kept hb, h.ok.kept hb, h.ch.kept hb, h.t, h.te.kept hb, fun x hx => (h.tl x hx).kept hb⟩
theorem RpOw.low {w : World} {B B' : Nat} {u : Rv} {r : Rp} (h : RpOw w B u r) (hB : B' ≤ B) : RpOw w B' u r := ⟨h.l.low hB, h.ok.low hB, h.ch.low hB, h.t, h.te.low hB, fun x hx => (h.tl x hx).low hB⟩
theorem RpOw.off {w w' : World} {B : Nat} {u : Rv} {r : Rp} (h : RpOw w B u r) (hk : ∀ v ∈ u.rows, ∀ k, v.ownBlock = some k → w'.heap[k]? = w.heap[k]?) : RpOw w' B u r :=
  ⟨OwnsE.off h.l (hk _ (by simp [Rv.rows])), h.ok.off (hk _ (by simp [Rv.rows])), OwnsE.off h.ch (hk _ (by simp [Rv.rows])), h.t, OwnsE.off h.te (hk _ (by simp [Rv.rows])), fun x hx => OwnsE.off (h.tl x hx) (hk _ (by simp only [Rv.rows, List.mem_cons, List.mem_map]; exact .inr (.inr (.inr (.inr ⟨x, hx, rfl⟩)))))⟩
def rpC (r : Rp) (u : Rv) : Array Value := #[.int .i64 r.id, .int .i64 r.p, .int .i64 r.v, .bool r.n, .int .i64 r.la, u.l, .int .i64 r.c, u.ok, u.ch, u.te]
/-- A replica at b. -/
structure RpAt (w : World) (B b : Nat) (u : Rv) (r : Rp) : Prop where
  c : RpB w b r u
  o : RpOw w B u r
  apt : RpAp u
  hb : B ≤ b
theorem RpAt.got {w : World} {B b : Nat} {u : Rv} {r : Rp} (h : RpAt w B b u r) : RpGot w u r := h.o.got
theorem RpAt.lt {w : World} {B b : Nat} {u : Rv} {r : Rp} (h : RpAt w B b u r) : b < w.heap.size := Bx.lt h.c
theorem RpAt.le {w : World} {B b : Nat} {u : Rv} {r : Rp} (h : RpAt w B b u r) : B ≤ w.heap.size := by have := h.lt; have := h.hb; omega
theorem RpAt.kept {w w' : World} {B b : Nat} {u : Rv} {r : Rp} (h : RpAt w B b u r) (hb : Below w.heap.size w w') : RpAt w' B b u r := ⟨Bx.kept h.c hb, h.o.kept hb, h.apt, h.hb⟩
theorem RpAt.low {w : World} {B B' b : Nat} {u : Rv} {r : Rp} (h : RpAt w B b u r) (hB : B' ≤ B) : RpAt w B' b u r := ⟨h.c, h.o.low hB, h.apt, Nat.le_trans hB h.hb⟩
theorem RpAt.under {w : World} {B b : Nat} {u : Rv} {r : Rp} (h : RpAt w B b u r) : ∀ v ∈ u.rows, ∀ k, v.ownBlock = some k → k < w.heap.size := h.o.has.under
/-- No row lies in the replica's own block: another type lies there. -/
theorem RpOw.ne {w : World} {B b : Nat} {u u' : Rv} {r r' : Rp} (h : RpOw w B u r) (hc : RpB w b r' u') : ∀ v ∈ u.rows, ∀ k, v.ownBlock = some k → k ≠ b := by
  intro v hv
  have hc : w.heap[b]? = some (.cells _ 28 (0, 0)) := hc
  simp only [Rv.rows, List.mem_cons, List.mem_map] at hv
  rcases hv with rfl | rfl | rfl | rfl | ⟨x, hx, rfl⟩
  · exact OwnsE.ne_of h.l.has hc (by decide)
  · exact OwnsE.ne_of h.ok hc (by decide)
  · exact OwnsE.ne_of h.ch.has hc (by decide)
  · exact OwnsE.ne_of h.te.has hc (by decide)
  · exact OwnsE.ne_of (h.tl x hx).has hc (by decide)
theorem RpAt.put {w : World} {B b : Nat} {u u' : Rv} {r r' : Rp} (h : RpAt w B b u r) (i : Nat) (v : Value) (hc : (rpC r u).setIfInBounds i v = rpC r' u') (ho : RpOw w B u' r') (hap : RpAp u') : RpAt (w.setCell ⟨b, i, none⟩ v) B b u' r' where
  c := by
    have := Bx.put h.c i v
    show Bx _ _ _ (rpC r' u')
    rw [← hc]
    exact this
  o := ho.off fun x hx k hk => Below.heap_setCell _ _ _ _ (ho.ne h.c x hx k hk)
  apt := hap
  hb := h.hb
theorem RpAt.setV {w : World} {B b : Nat} {u : Rv} {r : Rp} (h : RpAt w B b u r) (z : Int) : RpAt (w.setCell ⟨b, 2, none⟩ (.int .i64 z)) B b u { r with v := z } := h.put 2 _ rfl ⟨h.o.l, h.o.ok, h.o.ch, h.o.t, h.o.te, h.o.tl⟩ h.apt
theorem RpAt.setN {w : World} {B b : Nat} {u : Rv} {r : Rp} (h : RpAt w B b u r) (z : Bool) : RpAt (w.setCell ⟨b, 3, none⟩ (.bool z)) B b u { r with n := z } := h.put 3 _ rfl ⟨h.o.l, h.o.ok, h.o.ch, h.o.t, h.o.te, h.o.tl⟩ h.apt
theorem RpAt.setLa {w : World} {B b : Nat} {u : Rv} {r : Rp} (h : RpAt w B b u r) (z : Int) : RpAt (w.setCell ⟨b, 4, none⟩ (.int .i64 z)) B b u { r with la := z } := h.put 4 _ rfl ⟨h.o.l, h.o.ok, h.o.ch, h.o.t, h.o.te, h.o.tl⟩ h.apt
theorem RpAt.setC {w : World} {B b : Nat} {u : Rv} {r : Rp} (h : RpAt w B b u r) (z : Int) : RpAt (w.setCell ⟨b, 6, none⟩ (.int .i64 z)) B b u { r with c := z } := h.put 6 _ rfl ⟨h.o.l, h.o.ok, h.o.ch, h.o.t, h.o.te, h.o.tl⟩ h.apt
theorem apN {w : World} {u : Rv} {v : Value} (h : ∀ x ∈ u.rows, ∀ k, x.ownBlock = some k → k < w.heap.size) (hv : ∀ k, v.ownBlock = some k → w.heap.size ≤ k) : ∀ x ∈ u.rows, ap x v ∧ ap v x := fun x hx => ⟨fun k h1 h2 => by have := h x hx k h1; have := hv k h2; omega, fun k h1 h2 => by have := h x hx k h2; have := hv k h1; omega⟩
theorem RpAp.iff {u : Rv} : RpAp u ↔ (∀ v ∈ u.ok :: u.ch :: u.te :: u.T.map Mx.u, ap u.l v) ∧ (∀ v ∈ u.ch :: u.te :: u.T.map Mx.u, ap u.ok v) ∧ (∀ v ∈ u.te :: u.T.map Mx.u, ap u.ch v) ∧ (∀ v ∈ u.T.map Mx.u, ap u.te v) ∧ (u.T.map Mx.u).Pairwise ap := by
  unfold RpAp Rv.rows
  simp only [List.pairwise_cons]
theorem rows_l (u : Rv) : u.l ∈ u.rows := by simp [Rv.rows]
theorem rows_ok (u : Rv) : u.ok ∈ u.rows := by simp [Rv.rows]
theorem rows_ch (u : Rv) : u.ch ∈ u.rows := by simp [Rv.rows]
theorem rows_te (u : Rv) : u.te ∈ u.rows := by simp [Rv.rows]
theorem rows_T {u : Rv} {v : Value} (h : v ∈ u.T.map Mx.u) : v ∈ u.rows := by simp only [Rv.rows, List.mem_cons]; exact .inr (.inr (.inr (.inr h)))
theorem RpAt.newOk {w w1 : World} {B b : Nat} {u : Rv} {r : Rp} (h : RpAt w B b u r) (hb : Below w.heap.size w w1) {v : Value} {l : List Int} (hv : HasN w1 w.heap.size v l) : RpAt (w1.setCell ⟨b, 7, none⟩ v) B b { u with ok := v } { r with ok := l } := by
  have h1 := h.kept hb
  have hn := apN h.under hv.from
  obtain ⟨a1, a2, a3, a4, a5⟩ := RpAp.iff.1 h.apt
  refine h1.put 7 _ rfl ⟨h1.o.l, hv.low h.le, h1.o.ch, h1.o.t, h1.o.te, h1.o.tl⟩ (RpAp.iff.2 ⟨fun x hx => ?_, fun x hx => (hn x ?_).2, a3, a4, a5⟩)
  · simp only [List.mem_cons] at hx
    rcases hx with rfl | hx
    · exact (hn _ (rows_l u)).1
    · exact a1 x (by simp only [List.mem_cons]; exact .inr hx)
  · simp only [List.mem_cons] at hx
    rcases hx with rfl | rfl | hx
    · exact rows_ch u
    · exact rows_te u
    · exact rows_T hx
theorem RpAt.newCh {w w1 : World} {B b : Nat} {u : Rv} {r : Rp} (h : RpAt w B b u r) (hb : Below w.heap.size w w1) {v : Value} {l : List Int} (hv : OwnsN w1 w.heap.size v l) : RpAt (w1.setCell ⟨b, 8, none⟩ v) B b { u with ch := v } { r with ch := l } := by
  have h1 := h.kept hb
  have hn := apN h.under hv.from
  obtain ⟨a1, a2, a3, a4, a5⟩ := RpAp.iff.1 h.apt
  refine h1.put 8 _ rfl ⟨h1.o.l, h1.o.ok, hv.low h.le, h1.o.t, h1.o.te, h1.o.tl⟩ (RpAp.iff.2 ⟨fun x hx => ?_, fun x hx => ?_, fun x hx => (hn x ?_).2, a4, a5⟩)
  · simp only [List.mem_cons] at hx
    rcases hx with rfl | rfl | hx
    · exact a1 _ (by simp)
    · exact (hn _ (rows_l u)).1
    · exact a1 x (by simp only [List.mem_cons]; exact .inr (.inr hx))
  · simp only [List.mem_cons] at hx
    rcases hx with rfl | hx
    · exact (hn _ (rows_ok u)).1
    · exact a2 x (by simp only [List.mem_cons]; exact .inr hx)
  · simp only [List.mem_cons] at hx
    rcases hx with rfl | hx
    · exact rows_te u
    · exact rows_T hx
/-- .. a row of messages, each with a log that lies behind, too, or is one of those that it had, once. -/
theorem RpAt.newTe {w w1 : World} {B b : Nat} {u : Rv} {r : Rp} (h : RpAt w B b u r) (hb : Below w.heap.size w w1) {v : Value} {T : List Mx} {L : List Ms} (hv : OwnsM w1 w.heap.size v T) (hL : T.map (·.m) = L)
    (hl : ∀ x ∈ T, OwnsX w1 B x.u x.m.l) (hx : ∀ x ∈ T, ap v x.u ∧ ap u.l x.u ∧ ap u.ok x.u ∧ ap u.ch x.u) (hp : (T.map Mx.u).Pairwise ap) : RpAt (w1.setCell ⟨b, 9, none⟩ v) B b { u with te := v, T := T } { r with te := L } := by
  have h1 := h.kept hb
  have hn := apN h.under hv.from
  obtain ⟨a1, a2, a3, a4, a5⟩ := RpAp.iff.1 h.apt
  refine h1.put 9 _ rfl ⟨h1.o.l, h1.o.ok, h1.o.ch, hL, hv.low h.le, hl⟩ (RpAp.iff.2 ⟨fun x hm => ?_, fun x hm => ?_, fun x hm => ?_, fun x hm => ?_, hp⟩)
  · simp only [List.mem_cons, List.mem_map] at hm
    rcases hm with rfl | rfl | rfl | ⟨y, hy, rfl⟩
    · exact a1 _ (by simp)
    · exact a1 _ (by simp)
    · exact (hn _ (rows_l u)).1
    · exact (hx y hy).2.1
  · simp only [List.mem_cons, List.mem_map] at hm
    rcases hm with rfl | rfl | ⟨y, hy, rfl⟩
    · exact a2 _ (by simp)
    · exact (hn _ (rows_ok u)).1
    · exact (hx y hy).2.2.1
  · simp only [List.mem_cons, List.mem_map] at hm
    rcases hm with rfl | ⟨y, hy, rfl⟩
    · exact (hn _ (rows_ch u)).1
    · exact (hx y hy).2.2.2
  · obtain ⟨y, hy, rfl⟩ := List.mem_map.1 hm
    exact (hx y hy).1
theorem RpAt.noTe {w w1 : World} {B b : Nat} {u : Rv} {r : Rp} (h : RpAt w B b u r) (hb : Below w.heap.size w w1) {v : Value} (hv : OwnsM w1 w.heap.size v []) : RpAt (w1.setCell ⟨b, 9, none⟩ v) B b { u with te := v, T := [] } { r with te := [] } :=
  h.newTe hb hv rfl (fun x hx => by cases hx) (fun x hx => by cases hx) List.Pairwise.nil

section
variable {P : Program}
theorem run_storeVar_at (w : World) (b i : Nat) (ty : TypeId) (v : Value) (hi : (P.info? ty).map (·.size) = some 1) (h1 : v.oneCell' = true) (hc : ∃ old, w.cell? ⟨b, i, none⟩ = some old) (hf : w.frozen? ⟨b, i, none⟩ = false) :
    (storeVar ty ⟨b, i, none⟩ v).run P w = .ok () (w.setCell ⟨b, i, none⟩ v) := by
  obtain ⟨old, hc⟩ := hc
  cases hq : P.info? ty with
  | none => simp [hq] at hi
  | some z =>
    have hs : z.size = 1 := by simpa [hq] using hi
    have hcs : v.cells = #[v] := by cases v <;> first | rfl | (cases h1; done)
    have ha : (⟨b, i, none⟩ : Addr).add 0 = ⟨b, i, none⟩ := rfl
    have hst : (store (⟨b, i, none⟩ : Addr) v).run P w = .ok () (w.setCell ⟨b, i, none⟩ v) := by
      cases v <;> first | (simp [store, Sem.run, hc, hf]; done) | cases h1
    simp [storeVar, sizeOf, typeInfo, hq, hcs, hs, storeCells, ha, hst]
theorem wp_put1 {o : Oper} {a : Act} {w : World} {K : Act → World → Prop} {Q : Exit → Act → World → Prop} (ty : TypeId) (x y : Operand) (ho : o.op = .store ty x y) (b i : Nat) (v : Value) (hx : a.eval x = .pointer (some ⟨b, i, none⟩)) (hy : a.eval y = v)
    (hi : (P.info? ty).map (·.size) = some 1) (h1 : v.oneCell' = true) {tb : TypeId} {vs : Array Value} (hB : Bx w b tb vs) (hlt : i < vs.size)
    (h : K (a.put o.dst undef) (w.setCell ⟨b, i, none⟩ v)) : o.wp P a w K Q := by
  unfold Oper.wp execOp
  simp only [ho, hx, hy, Instr.storeAt, Instr.sureAddr, Sem.run_bind, Sem.run_pure, Result.andThen_ok, run_storeVar_at w b i ty v hi h1 ⟨_, (hB.cell i).trans (Array.getElem?_eq_getElem hlt)⟩ (hB.free i)]
  exact h
/-- One cell of a block stored. -/
theorem wpList_put1 {ops : Array Oper} {rest : List Oper} {o : Oper} {a : Act} {w : World} {Q : Exit → Act → World → Prop} (hgd : o.guard = none) (hd : o.dst = none) (ty : TypeId) (x y : Operand) (ho : o.op = .store ty x y) (b i : Nat) (v : Value) (hx : a.eval x = .pointer (some ⟨b, i, none⟩)) (hy : a.eval y = v)
    (hi : (P.info? ty).map (·.size) = some 1) (h1 : v.oneCell' = true) {tb : TypeId} {vs : Array Value} (hB : Bx w b tb vs) (hlt : i < vs.size)
    (h : wpList P ops Q rest a (w.setCell ⟨b, i, none⟩ v)) : wpList P ops Q (o :: rest) a w :=
  wpList_plain hgd fun _ hK => wp_put1 ty x y ho b i v hx hy hi h1 hB hlt (hK _ _ (by rw [hd]; exact h))
end
theorem Tryz.rsz2 : (Tryz.prog.info? 2).map (·.size) = some 1 := by kernel_rfl
theorem Tryz.rsz4 : (Tryz.prog.info? 4).map (·.size) = some 1 := by kernel_rfl
theorem Tryz.rszS : (Tryz.prog.info? 24).map (·.size) = some 1 := by kernel_rfl
theorem Tryz.rszI : (Tryz.prog.info? 25).map (·.size) = some 1 := by kernel_rfl
theorem Tryz.rszM : (Tryz.prog.info? 26).map (·.size) = some 1 := by kernel_rfl
theorem Tryz.rszR : (Tryz.prog.info? 28).map (·.size) = some 10 := by kernel_rfl
theorem rpC_size (r : Rp) (u : Rv) : (rpC r u).size = 10 := rfl
/-- The same stores, as the walk meets them: the world behind is known by what lies there alone. -/
theorem wpList_rpV {ops : Array Oper} {rest : List Oper} {o : Oper} {a : Act} {Q : Exit → Act → World → Prop} {w w1 : World} {B b : Nat} {u : Rv} {r : Rp} (h : RpAt w B b u r) (hb : Below w.heap.size w w1) (hgd : o.guard = none) (hd : o.dst = none) (x y : Operand) (ho : o.op = .store 2 x y) (z : Int)
    (hx : a.eval x = .pointer (some ⟨b, 2, none⟩)) (hy : a.eval y = .int .i64 z) (hh : ∀ W, RpAt W B b u { r with v := z } → Below B w W → wpList Tryz.prog ops Q rest a W) : wpList Tryz.prog ops Q (o :: rest) a w1 :=
  wpList_put1 hgd hd 2 x y ho b 2 _ hx hy Tryz.rsz2 rfl (h.kept hb).c (show 2 < (rpC r u).size by rw [rpC_size]; decide) (hh _ ((h.kept hb).setV z) ((hb.mono h.le).setCell (p := ⟨b, 2, none⟩) h.hb _))
theorem wpList_rpN {ops : Array Oper} {rest : List Oper} {o : Oper} {a : Act} {Q : Exit → Act → World → Prop} {w w1 : World} {B b : Nat} {u : Rv} {r : Rp} (h : RpAt w B b u r) (hb : Below w.heap.size w w1) (hgd : o.guard = none) (hd : o.dst = none) (x y : Operand) (ho : o.op = .store 4 x y) (z : Bool)
    (hx : a.eval x = .pointer (some ⟨b, 3, none⟩)) (hy : a.eval y = .bool z) (hh : ∀ W, RpAt W B b u { r with n := z } → Below B w W → wpList Tryz.prog ops Q rest a W) : wpList Tryz.prog ops Q (o :: rest) a w1 :=
  wpList_put1 hgd hd 4 x y ho b 3 _ hx hy Tryz.rsz4 rfl (h.kept hb).c (show 3 < (rpC r u).size by rw [rpC_size]; decide) (hh _ ((h.kept hb).setN z) ((hb.mono h.le).setCell (p := ⟨b, 3, none⟩) h.hb _))
theorem wpList_rpLa {ops : Array Oper} {rest : List Oper} {o : Oper} {a : Act} {Q : Exit → Act → World → Prop} {w w1 : World} {B b : Nat} {u : Rv} {r : Rp} (h : RpAt w B b u r) (hb : Below w.heap.size w w1) (hgd : o.guard = none) (hd : o.dst = none) (x y : Operand) (ho : o.op = .store 2 x y) (z : Int)
    (hx : a.eval x = .pointer (some ⟨b, 4, none⟩)) (hy : a.eval y = .int .i64 z) (hh : ∀ W, RpAt W B b u { r with la := z } → Below B w W → wpList Tryz.prog ops Q rest a W) : wpList Tryz.prog ops Q (o :: rest) a w1 :=
  wpList_put1 hgd hd 2 x y ho b 4 _ hx hy Tryz.rsz2 rfl (h.kept hb).c (show 4 < (rpC r u).size by rw [rpC_size]; decide) (hh _ ((h.kept hb).setLa z) ((hb.mono h.le).setCell (p := ⟨b, 4, none⟩) h.hb _))
theorem wpList_rpC {ops : Array Oper} {rest : List Oper} {o : Oper} {a : Act} {Q : Exit → Act → World → Prop} {w w1 : World} {B b : Nat} {u : Rv} {r : Rp} (h : RpAt w B b u r) (hb : Below w.heap.size w w1) (hgd : o.guard = none) (hd : o.dst = none) (x y : Operand) (ho : o.op = .store 2 x y) (z : Int)
    (hx : a.eval x = .pointer (some ⟨b, 6, none⟩)) (hy : a.eval y = .int .i64 z) (hh : ∀ W, RpAt W B b u { r with c := z } → Below B w W → wpList Tryz.prog ops Q rest a W) : wpList Tryz.prog ops Q (o :: rest) a w1 :=
  wpList_put1 hgd hd 2 x y ho b 6 _ hx hy Tryz.rsz2 rfl (h.kept hb).c (show 6 < (rpC r u).size by rw [rpC_size]; decide) (hh _ ((h.kept hb).setC z) ((hb.mono h.le).setCell (p := ⟨b, 6, none⟩) h.hb _))
theorem wpList_rpOk {ops : Array Oper} {rest : List Oper} {o : Oper} {a : Act} {Q : Exit → Act → World → Prop} {w w1 : World} {B b : Nat} {u : Rv} {r : Rp} (h : RpAt w B b u r) (hb : Below w.heap.size w w1) (hgd : o.guard = none) (hd : o.dst = none) (x y : Operand) (ho : o.op = .store 25 x y) {v : Value} {l : List Int} (hv : HasN w1 w.heap.size v l)
    (hx : a.eval x = .pointer (some ⟨b, 7, none⟩)) (hy : a.eval y = v) (hh : ∀ W, RpAt W B b { u with ok := v } { r with ok := l } → Below B w W → wpList Tryz.prog ops Q rest a W) : wpList Tryz.prog ops Q (o :: rest) a w1 :=
  wpList_put1 hgd hd 25 x y ho b 7 _ hx hy Tryz.rszI (by obtain ⟨_, _, e, _⟩ := hv.form; rw [e]; rfl) (h.kept hb).c (show 7 < (rpC r u).size by rw [rpC_size]; decide) (hh _ (h.newOk hb hv) ((hb.mono h.le).setCell (p := ⟨b, 7, none⟩) h.hb _))
theorem wpList_rpCh {ops : Array Oper} {rest : List Oper} {o : Oper} {a : Act} {Q : Exit → Act → World → Prop} {w w1 : World} {B b : Nat} {u : Rv} {r : Rp} (h : RpAt w B b u r) (hb : Below w.heap.size w w1) (hgd : o.guard = none) (hd : o.dst = none) (x y : Operand) (ho : o.op = .store 25 x y) {v : Value} {l : List Int} (hv : OwnsN w1 w.heap.size v l)
    (hx : a.eval x = .pointer (some ⟨b, 8, none⟩)) (hy : a.eval y = v) (hh : ∀ W, RpAt W B b { u with ch := v } { r with ch := l } → Below B w W → wpList Tryz.prog ops Q rest a W) : wpList Tryz.prog ops Q (o :: rest) a w1 :=
  wpList_put1 hgd hd 25 x y ho b 8 _ hx hy Tryz.rszI (by obtain ⟨_, _, e, _⟩ := hv.form; rw [e]; rfl) (h.kept hb).c (show 8 < (rpC r u).size by rw [rpC_size]; decide) (hh _ (h.newCh hb hv) ((hb.mono h.le).setCell (p := ⟨b, 8, none⟩) h.hb _))
theorem wpList_rpTe0 {ops : Array Oper} {rest : List Oper} {o : Oper} {a : Act} {Q : Exit → Act → World → Prop} {w w1 : World} {B b : Nat} {u : Rv} {r : Rp} (h : RpAt w B b u r) (hb : Below w.heap.size w w1) (hgd : o.guard = none) (hd : o.dst = none) (x y : Operand) (ho : o.op = .store 26 x y) {v : Value} (hv : OwnsM w1 w.heap.size v [])
    (hx : a.eval x = .pointer (some ⟨b, 9, none⟩)) (hy : a.eval y = v) (hh : ∀ W, RpAt W B b { u with te := v, T := [] } { r with te := [] } → Below B w W → wpList Tryz.prog ops Q rest a W) : wpList Tryz.prog ops Q (o :: rest) a w1 :=
  wpList_put1 hgd hd 26 x y ho b 9 _ hx hy Tryz.rszM (by obtain ⟨_, _, e, _⟩ := hv.form; rw [e]; rfl) (h.kept hb).c (show 9 < (rpC r u).size by rw [rpC_size]; decide) (hh _ (h.noTe hb hv) ((hb.mono h.le).setCell (p := ⟨b, 9, none⟩) h.hb _))
theorem ownsN_one (w : World) (x : Int) : OwnsN (w.alloc (.cells #[.int .i64 x] 2)) w.heap.size (.slice (some ⟨w.heap.size, 0, none⟩) 1 1) [x] := ownsN_lit w x
end Go.Proofs.YtdahfhkeeemdiaaGreat.Rl
namespace Go.Proofs.YtdahfhkeeemdiaaGreat.Rl
open Go.RowKit Go.Sort Go.Shelf
set_option linter.unusedVariables false
set_option linter.unusedSimpArgs false

set_option maxRecDepth 100000 in
set_option maxHeartbeats 8000000 in
theorem implAsk (r : Rp) (u : Rv) (B b : Nat) (z : Int) (w : World) (h : RpAt w B b u r) :
    Calls Tryz.prog 124 #[.pointer (some ⟨b, 0, none⟩), .int .i64 z] w fun e w' => e = .returned (.tuple #[]) ∧ ∃ u', RpAt w' B b u' (askF r z) ∧ Below B w w' := by
  have H0 : Hid (RpAt w B b u r) := h
  have D0 : Hid (Below B w w) := (show Hid _ from Below.refl _ _)
  clear h
  go_enter Tryz.func124, Tryz.ntmps124
  go_upto_region 1 with (refine wpList_rpV H0.out (Below.refl _ _) rfl rfl _ _ rfl z rfl rfl ?_; intro w1 h1 b1)
  have H1 : Hid (RpAt w1 B b u { r with v := z }) := h1
  have D1 : Hid (Below B w w1) := (show Hid _ from D0.out.trans b1)
  clear h1 b1 H0 D0
  go_upto_region 2 with (refine wpList_rpN H1.out (Below.refl _ _) rfl rfl _ _ rfl false rfl rfl ?_; intro w2 h2 b2)
  have H2 : Hid (RpAt w2 B b u { r with v := z, n := false }) := h2
  have D2 : Hid (Below B w w2) := (show Hid _ from D1.out.trans b2)
  clear h2 b2 H1 D1
  have q0 := H2.out.c.cells.1
  change w2.cell? ⟨b, 0, none⟩ = some (.int .i64 r.id) at q0
  go_upto_region 3 with (refine wpList_rpCh H2.out ((Below.refl _ w2).alloc (Nat.le_refl _) _) rfl rfl _ _ rfl (ownsN_one w2 r.id) rfl rfl ?_; intro w3 h3 b3)
  have H3 : Hid (RpAt w3 B b { u with ch := .slice (some ⟨w2.heap.size, 0, none⟩) 1 1 } { r with v := z, n := false, ch := [r.id] }) := h3
  have D3 : Hid (Below B w w3) := (show Hid _ from D2.out.trans b3)
  clear h3 b3 H2 D2 q0
  go_upto_region 4 with (refine wpList_rpOk H3.out ((Below.refl _ w3).alloc (Nat.le_refl _) _) rfl rfl _ _ rfl (OwnsE.born w3).has rfl rfl ?_; intro w4 h4 b4)
  have H4 : Hid (RpAt w4 B b _ { r with v := z, n := false, ch := [r.id], ok := [] }) := (show Hid _ from h4)
  have D4 : Hid (Below B w w4) := (show Hid _ from D3.out.trans b4)
  clear h4 b4 H3 D3
  go_wp2_with (refine wpList_rpTe0 H4.out ((Below.refl _ w4).alloc (Nat.le_refl _) _) rfl rfl _ _ rfl (OwnsE.born w4) rfl rfl ?_; intro w5 h5 b5)
  have H5 : Hid (RpAt w5 B b _ (askF r z)) := (show Hid _ from h5)
  have D5 : Hid (Below B w w5) := (show Hid _ from D4.out.trans b5)
  clear h5 b5 H4 D4
  go_wp2
  go_end0
  first | exact ⟨rfl, _, H5.out, D5.out⟩ | exact ⟨rfl, ⟨_, H5.out⟩, D5.out⟩
theorem anew_same (r : Rp) : (anew r).l = r.l ∧ (anew r).ch = r.ch ∧ (anew r).te = r.te := by
  unfold anew
  split <;> exact ⟨rfl, rfl, rfl⟩
/-- Counted anew: another row of what is told. -/
theorem RpAt.anewed {r : Rp} {u : Rv} {B b : Nat} {w w' : World} {v : Value} (h : RpAt w B b u r) (h1 : RpB w' b (anew r) { u with ok := v }) (h2 : HasN w' w.heap.size v (anew r).ok) (h3 : ChS (fun k => k = b) w w') : RpAt w' B b { u with ok := v } (anew r) := by
  obtain ⟨e1, e2, e3⟩ := anew_same r
  have hn := apN h.under h2.from
  obtain ⟨a1, a2, a3, a4, a5⟩ := RpAp.iff.1 h.apt
  have hk : ∀ x ∈ u.rows, ∀ k, x.ownBlock = some k → w'.heap[k]? = w.heap[k]? := fun x hx k hk => h3.block k (h.under x hx k hk) (h.o.ne h.c x hx k hk)
  have h4 := h.o.off hk
  refine ⟨h1, ⟨by rw [e1]; exact h4.l, h2.low h.le, by rw [e2]; exact h4.ch, by rw [e3]; exact h4.t, h4.te, h4.tl⟩, RpAp.iff.2 ⟨fun x hx => ?_, fun x hx => (hn x ?_).2, a3, a4, a5⟩, h.hb⟩
  · simp only [List.mem_cons] at hx
    rcases hx with rfl | hx
    · exact (hn _ (rows_l u)).1
    · exact a1 x (by simp only [List.mem_cons]; exact .inr hx)
  · simp only [List.mem_cons] at hx
    rcases hx with rfl | rfl | hx
    · exact rows_ch u
    · exact rows_te u
    · exact rows_T hx
/-- Counted: what is told stands in its own row. -/
theorem RpAt.counted {r : Rp} {u : Rv} {B b : Nat} {w w' : World} (h : RpAt w B b u r) (h1 : RpB w' b (cntd r) u) (h2 : HasN w' B u.ok (cntd r).ok) (h3 : ChS (fun k => k = b ∨ u.ok.ownBlock = some k) w w') : RpAt w' B b u (cntd r) ∧ Below B w w' := by
  obtain ⟨a1, a2, a3, a4, a5⟩ := RpAp.iff.1 h.apt
  have hk : ∀ x ∈ u.rows, ap u.ok x → ∀ k, x.ownBlock = some k → w'.heap[k]? = w.heap[k]? := fun x hx ha k hk => h3.block k (h.under x hx k hk) (fun e => by
    rcases e with e | e
    · exact h.o.ne h.c x hx k hk e
    · exact ha k e hk)
  have hl : ap u.ok u.l := (a1 u.ok (by simp)).comm
  refine ⟨⟨h1, ⟨OwnsE.off h.o.l (hk _ (rows_l u) hl), h2, OwnsE.off h.o.ch (hk _ (rows_ch u) (a2 _ (by simp))), h.o.t, OwnsE.off h.o.te (hk _ (rows_te u) (a2 _ (by simp))), fun x hx => OwnsE.off (h.o.tl x hx) (hk _ (rows_T (List.mem_map_of_mem hx)) (a2 _ (by simp only [List.mem_cons]; exact .inr (.inr (List.mem_map_of_mem hx)))))⟩, h.apt, h.hb⟩, h3.below (Below.refl _ _) h.le (fun k e => ?_)⟩
  rcases e with rfl | e
  · exact h.hb
  · exact h.o.ok.from k e
theorem RpAt.lslice {r : Rp} {u : Rv} {B b : Nat} {w : World} (h : RpAt w B b u r) : ∃ a c, u.l = .slice a r.l.length c := by
  obtain ⟨a, c, e, _⟩ := h.o.l.form
  exact ⟨a, c, e⟩
theorem implAnewAt (r : Rp) (u : Rv) (B b : Nat) (w : World) (h : RpAt w B b u r) (hp : pOk r.p) (hid : 0 ≤ r.id ∧ r.id < r.p) (hv : 0 ≤ r.v ∧ r.v ≤ 20000) (hc : 0 ≤ r.c) (hlen : r.l.length ≤ 1048576) :
    Calls Tryz.prog 82 #[.pointer (some ⟨b, 0, none⟩)] w fun e w' => e = .returned (.tuple #[]) ∧ ∃ u', RpAt w' B b u' (anew r) ∧ Below B w w' :=
  (implAnew r u b w h.c h.lslice hp hid hv hc hlen).mono fun e w' ⟨h0, v, h1, h2, h3⟩ => ⟨h0, _, h.anewed h1 h2 h3, h3.below (Below.refl _ _) h.le (fun k hk => by have := h.hb; omega)⟩
/-- Normal in its view, with the log that it has. -/
noncomputable def beN (r : Rp) : Rp := anew { r with n := true, la := r.v, ch := [], te := [] }
set_option maxRecDepth 100000 in
set_option maxHeartbeats 8000000 in
theorem implBeN (r : Rp) (u : Rv) (B b : Nat) (w : World) (h : RpAt w B b u r) (hp : pOk r.p) (hid : 0 ≤ r.id ∧ r.id < r.p) (hv : 0 ≤ r.v ∧ r.v ≤ 20000) (hc : 0 ≤ r.c) (hlen : r.l.length ≤ 1048576) :
    Calls Tryz.prog 126 #[.pointer (some ⟨b, 0, none⟩)] w fun e w' => e = .returned (.tuple #[]) ∧ ∃ u', RpAt w' B b u' (beN r) ∧ Below B w w' := by
  have H0 : Hid (RpAt w B b u r) := h
  have D0 : Hid (Below B w w) := (show Hid _ from Below.refl _ _)
  have jA := fun u W hW => implAnewAt { r with n := true, la := r.v, ch := [], te := [] } u B b W hW hp hid hv hc hlen
  clear h hp hid hv hc hlen
  go_enter Tryz.func126, Tryz.ntmps126
  go_upto_region 1 with (refine wpList_rpN H0.out (Below.refl _ _) rfl rfl _ _ rfl true rfl rfl ?_; intro w1 h1 b1)
  have H1 : Hid (RpAt w1 B b u { r with n := true }) := h1
  have D1 : Hid (Below B w w1) := (show Hid _ from D0.out.trans b1)
  clear h1 b1 H0 D0
  have q2 := H1.out.c.cells.2.2.1
  change w1.cell? ⟨b, 2, none⟩ = some (.int .i64 r.v) at q2
  go_upto_region 2 with (refine wpList_rpLa H1.out (Below.refl _ _) rfl rfl _ _ rfl r.v rfl rfl ?_; intro w2 h2 b2)
  have H2 : Hid (RpAt w2 B b u { r with n := true, la := r.v }) := h2
  have D2 : Hid (Below B w w2) := (show Hid _ from D1.out.trans b2)
  clear h2 b2 H1 D1 q2
  go_upto_region 3 with (refine wpList_rpCh H2.out ((Below.refl _ w2).alloc (Nat.le_refl _) _) rfl rfl _ _ rfl (OwnsE.born w2) rfl rfl ?_; intro w3 h3 b3)
  have H3 : Hid (RpAt w3 B b _ { r with n := true, la := r.v, ch := [] }) := (show Hid _ from h3)
  have D3 : Hid (Below B w w3) := (show Hid _ from D2.out.trans b3)
  clear h3 b3 H2 D2
  go_upto_region 4 with (refine wpList_rpTe0 H3.out ((Below.refl _ w3).alloc (Nat.le_refl _) _) rfl rfl _ _ rfl (OwnsE.born w3) rfl rfl ?_; intro w4 h4 b4)
  have H4 : Hid (RpAt w4 B b _ { r with n := true, la := r.v, ch := [], te := [] }) := (show Hid _ from h4)
  have D4 : Hid (Below B w w4) := (show Hid _ from D3.out.trans b4)
  clear h4 b4 H3 D3
  go_wp2_with fail
  refine (jA _ _ H4.out).mono ?_
  rintro e w5 ⟨rfl, u5, h5, b5⟩
  have H5 : Hid (RpAt w5 B b u5 (beN r)) := (show Hid _ from h5)
  have D5 : Hid (Below B w w5) := (show Hid _ from D4.out.trans b5)
  clear h5 b5 H4 D4 jA
  go_wp2
  go_end0
  first | exact ⟨rfl, _, H5.out, D5.out⟩ | exact ⟨rfl, ⟨_, H5.out⟩, D5.out⟩
end Go.Proofs.YtdahfhkeeemdiaaGreat.Rl
namespace Go.Proofs.YtdahfhkeeemdiaaGreat
open Go.RowKit Go.Sort Rom
set_option linter.unusedVariables false
set_option linter.unusedSimpArgs false

/-- What lies behind the first k of a slice. -/
theorem Sls.rest {α : Type} {E : Enc α} {w : World} {g o n cap k : Nat} {l : List α} (h : Sls E w (.slice (some ⟨g, o, Option.none⟩) n cap) l) (hk : k ≤ l.length) : ∃ A : Addr, (if cap = k then some (⟨g, o, Option.none⟩ : Addr) else some ⟨g, o + k * E.k, Option.none⟩) = some A ∧ Sls E w (.slice (some A) (l.length - k) (cap - k)) (l.drop k) := by
  obtain ⟨a', cap', e, h1, h2, h3⟩ := h
  injection e with e1 e2 e3
  subst e1; subst e3; subst e2
  have hl : (l.drop k).length = l.length - k := List.length_drop
  by_cases e : cap = k
  · refine ⟨_, by rw [if_pos e], _, _, by rw [hl], by omega, by omega, fun h0 => absurd h0 (by omega)⟩
  · refine ⟨_, by rw [if_neg e], _, _, by rw [hl], by omega, by omega, fun h0 => ?_⟩
    obtain ⟨g', o', e2, hg, hc⟩ := h3 (by omega)
    injection e2 with e2
    injection e2 with e3 e4
    subst e3; subst e4
    refine ⟨g, o + k * E.k, rfl, hg, fun j u hu => ?_⟩
    rw [cellsE_drop E l k hk, List.getElem?_drop] at hu
    rw [Nat.add_assoc]
    exact hc _ u hu
theorem wpList_none_at {P : Program} {w : World} {ops : Array Oper} {rest : List Oper} {o : Oper} {a : Act} {Q : Exit → Act → World → Prop} (hgd : o.guard = none) (s x : Operand) (t : TypeId)
    (ho : o.op = .call { callee := .builtin .append, args := #[s, x], argTypes := #[t, t] })
    (base : Nat) (e : TypeId) (i : TypeInfo) (size : Nat) (ht : P.underlying t = some (.slice e)) (hi : P.info? e = some i)
    (v : Value) (n c : Nat) (xs : List Value) (hs : a.eval s = v) (hown : w.ownsRow base e size v n xs) (hx : a.eval x = .slice none 0 c)
    (h : wpList P ops Q rest (a.put o.dst v) w) : wpList P ops Q (o :: rest) a w := by
  refine wpList_plain hgd fun K hK => ?_
  have hrun : (Builtin.append_ #[t, t] o.type #[v, .slice none 0 c]).run P w = .ok v w := by
    rcases hown.2 with ⟨rfl, rfl⟩ | ⟨g, cap, cur, rfl, _, _, hnc, _⟩
    · simp [Builtin.append_, run_underlying ht, sizeOf, typeInfo, hi, Builtin.lenOf, Builtin.firstCells]
    · simp [Builtin.append_, run_underlying ht, sizeOf, typeInfo, hi, Builtin.lenOf, Builtin.firstCells, hnc, storeCells]
  unfold Oper.wp
  simp [execOp, ho, resolve, invoke, builtin, hs, hx, hrun, Result.andThen]
  exact hK _ _ h
theorem wpList_noneN {w : World} {ops : Array Oper} {rest : List Oper} {o : Oper} {a : Act} {Q : Exit → Act → World → Prop} (hgd : o.guard = none) (s x : Operand)
    (ho : o.op = .call { callee := .builtin .append, args := #[s, x], argTypes := #[25, 25] }) (B : Nat) (v : Value) (l : List Int) (hs : a.eval s = v) (hown : OwnsE intE 2 w B v l) (c : Nat) (hx : a.eval x = .slice none 0 c)
    (h : wpList Tryz.prog ops Q rest (a.put o.dst v) w) : wpList Tryz.prog ops Q (o :: rest) a w := by
  obtain ⟨i0, hi, _⟩ := info_parts Tryz.infoN2
  exact wpList_none_at hgd s x 25 ho B 2 i0 (intE).k Tryz.underlying25 hi v l.length c _ hs hown hx h

theorem growN (n : Nat) (w : World) (h1 : 1 ≤ n) (h2 : n ≤ 100000) :
    Calls Tryz.prog 136 #[.slice none 0 0, .int .i64 (n : Int)] w fun e w' => ∃ g cap, e = .returned (.slice (some ⟨g, 0, none⟩) 0 cap) ∧ OwnsE intE 2 w' w.heap.size (.slice (some ⟨g, 0, none⟩) 0 cap) [] ∧ Below w.heap.size w w' := by
  obtain ⟨i0, hi, hz0, hz1, hz2⟩ := info_parts Tryz.infoN2
  have hrz : ∀ ty, (Builtin.append_ #[25, 3] ty #[.slice none 0 0, .int .i64 (n : Int)]).run Tryz.prog w = _ := fun ty => Lib.run_append_grow_zeros w 25 3 ty 2 i0 (.int .i64 0) .i64 .i64 Tryz.underlying25 Tryz.underlying3 hi hz0 none 0 0 [] (run_firstCells_none w.drew i0.size 0 0 0) n (by omega) (by rw [hz1]; decide) (by omega) (by omega) (by rw [hz2]; omega) (growslice_fits (by omega) (by rw [hz2]; omega))
  have hGn : 0 + n ≤ grownCap w (0 + n) 0 2 := grownCap_ge w _ _ _
  have hGm := grownCap_le_maxLen w (0 + n) 0 2 (by unfold maxLen; omega)
  generalize grownCap w (0 + n) 0 2 = G at hrz hGn hGm
  have hG63 : G ≤ 9223372036854775807 := by
    unfold maxLen at hGm
    omega
  have HO : Hid (OwnsE intE 2 (w.drew.alloc (.cells (([] : List Value).toArray ++ Builtin.zeroCells ((.int .i64 0) : Value).cells n ++ Builtin.zeroCells ((.int .i64 0) : Value).cells (G - (0 + n))) 2)) w.heap.size (.slice (some ⟨w.heap.size, 0, none⟩) 0 G) ([] : List Int)) := by
    refine (show Hid _ from ⟨by simp [cellsE], .inr ⟨w.heap.size, G, _, rfl, Nat.le_refl _, heap_alloc_new w.drew _, Nat.zero_le _, hGm, ?_, by simp [cellsE]⟩⟩)
    rw [Array.size_append, Array.size_append, size_zeroCells, size_zeroCells]
    simp only [List.size_toArray, List.length_nil, Nat.zero_add, ← Nat.add_mul]
    show (n + (G - n)) * 1 = G * 1
    rw [show n + (G - n) = G from by omega]
  have HB : Hid (Below w.heap.size w (w.drew.alloc (.cells (([] : List Value).toArray ++ Builtin.zeroCells ((.int .i64 0) : Value).cells n ++ Builtin.zeroCells ((.int .i64 0) : Value).cells (G - (0 + n))) 2))) := by
    have h0 : Below w.heap.size w w.drew := ⟨rfl, rfl, rfl, Nat.le_refl _, fun _ _ => rfl⟩
    exact (show Hid _ from h0.alloc (Nat.le_refl _) _)
  generalize (w.drew.alloc (.cells (([] : List Value).toArray ++ Builtin.zeroCells ((.int .i64 0) : Value).cells n ++ Builtin.zeroCells ((.int .i64 0) : Value).cells (G - (0 + n))) 2)) = w1 at hrz HO HB
  rw [Nat.zero_add] at hrz hGn
  clear hi hz0 hz1 hz2 i0
  have hn0 : ¬ ((n : Int) < 0) := by omega
  have hn1 : 0 < (n : Int) := by omega
  go_enter Tryz.func136, Tryz.ntmps136
  go_wp2_with (at_builtin; refine Lib.wpList_append_run _ rfl _ _ _ _ rfl _ _ rfl rfl _ _ (hrz _) ?_)
  all_goals (go_ret; exact ⟨w.heap.size, G, rfl, HO.out, HB.out⟩)

/-- What the first k of them hold, one behind the other. -/
def catLN (ps : List (Value × List Int)) (k : Nat) : List Int := ((ps.take k).map (·.2)).flatten
theorem catLN_next {ps : List (Value × List Int)} {k : Nat} (h : k < ps.length) : catLN ps (k + 1) = catLN ps k ++ ps[k].2 := by
  unfold catLN
  rw [List.take_succ_eq_append_getElem h, List.map_append, List.flatten_append]
  simp
theorem catLN_le (ps : List (Value × List Int)) (k : Nat) : (catLN ps k).length ≤ (catLN ps ps.length).length := by
  by_cases h : k ≤ ps.length
  · have e : catLN ps ps.length = catLN ps k ++ ((ps.drop k).map (·.2)).flatten := by
      unfold catLN
      rw [← List.flatten_append, ← List.map_append, List.take_append_drop, List.take_of_length_le (Nat.le_refl _)]
    rw [e, List.length_append]
    omega
  · unfold catLN
    rw [List.take_of_length_le (by omega), List.take_of_length_le (Nat.le_refl _)]
    exact Nat.le_refl _
end Go.Proofs.YtdahfhkeeemdiaaGreat
