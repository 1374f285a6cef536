/-
  The walk of FnExactNewReplica, given both sides' NewReplica.
  A replica of a call's own, in memory: its ten cells, its rows in blocks of their own; what is stored in it.
  The program's askFor and beNormal.
-/
import Derived.Test.YtdahfhkeeemdiaaGreatT30
import Derived.Test.YtdahfhkeeemdiaaGreatT33
import Derived.Test.YtdahfhkeeemdiaaGreatT34
import Derived.Test.YtdahfhkeeemdiaaGreatT22
import Derived.Test.YtdahfhkeeemdiaaGreatT31
import Derived.Test.YtdahfhkeeemdiaaGreatT17
import Derived.Great.Walk
import Derived.Laws.Tables
namespace Go.Proofs.YtdahfhkeeemdiaaGreat.Rl
open Go.RowKit Go.Sort
set_option linter.unusedVariables false
set_option linter.unusedSimpArgs false

theorem markRp1 {r : Rp} {u : Rv} {lo hi : Nat} (hf : Fit r) (hc : 1 + cR r ≤ 50000000) (W : World) (h : RpF lo hi u r W) (hap : RpAp u) :
    Calls Tryz.prog 36 #[rpA r u, .int .i64 1] W fun e w' => e = .returned (.int .i64 (kR r)) ∧ RpF lo hi (mkRv 1 r u) (mkRp 1 r u.T) w' ∧ Chg lo hi W w' :=
  (markRp 1 (by decide) r u lo hc W h.1 hap hf).mono fun e w' ⟨h1, h2, h3⟩ =>
    ⟨h1, ⟨h2, fun v hv => h.2 v (by rw [mkRv_rows] at hv; exact hv)⟩, h3.chg (fun k ⟨v, hv, hk⟩ => ⟨h.1.from v hv k hk, h.2 v hv k hk⟩)⟩
theorem heldRp1 {r : Rp} {u : Rv} {lo hi : Nat} (hf : Fit r) (hc : 1 + cR r ≤ 50000000) (W : World) (h : RpF lo hi (mkRv 1 r u) (mkRp 1 r u.T) W) (ht : u.T.map (·.m) = r.te) :
    Calls Tryz.prog 38 #[rpA r u, .int .i64 1] W fun e w' => e = .returned (.int .i64 (kR r)) ∧ Below W.heap.size W w' :=
  heldRp 1 (by decide) r u hc W h.1.got ht hf
end Go.Proofs.YtdahfhkeeemdiaaGreat.Rl
namespace Go.Proofs.YtdahfhkeeemdiaaGreat.Rl
open Go.RowKit Go.Sort
set_option linter.unusedVariables false
set_option linter.unusedSimpArgs false

theorem OwnsE.off {α : Type} {E : Enc α} {ty : TypeId} {w w' : World} {B : Nat} {v : Value} {l : List α} (h : OwnsE E ty w B v l) (hk : ∀ k, v.ownBlock = some k → w'.heap[k]? = w.heap[k]?) : OwnsE E ty w' B v l := by
  refine ⟨h.1, ?_⟩
  rcases h.2 with h0 | ⟨g, cap, cur, hv, hbg, hg, rest⟩
  · exact .inl h0
  · exact .inr ⟨g, cap, cur, hv, hbg, by rw [hk g (by rw [hv]; rfl)]; exact hg, rest⟩
/-- The rows of a replica, each the call's own. -/
structure RpOw (w : World) (B : Nat) (u : Rv) (r : Rp) : Prop where
  l : HasX w B u.l r.l
  ok : HasN w B u.ok r.ok
  ch : OwnsN w B u.ch r.ch
  t : u.T.map (·.m) = r.te
  te : OwnsM w B u.te u.T
  tl : ∀ x ∈ u.T, HasX w B x.u x.m.l
theorem RpOw.has {w : World} {B : Nat} {u : Rv} {r : Rp} (h : RpOw w B u r) : RpHas w B u r := ⟨h.l, h.ok, h.ch.has, h.t, h.te.has, fun x hx => h.tl x hx⟩
theorem RpOw.got {w : World} {B : Nat} {u : Rv} {r : Rp} (h : RpOw w B u r) : RpGot w u r := h.has.got
theorem RpOw.kept {w w' : World} {B : Nat} {u : Rv} {r : Rp} (h : RpOw w B u r) (hb : Below w.heap.size w w') : RpOw w' B u r := ⟨h.l.kept hb, h.ok.kept hb, h.ch.kept hb, h.t, h.te.kept hb, fun x hx => (h.tl x hx).kept hb⟩
theorem RpOw.low {w : World} {B B' : Nat} {u : Rv} {r : Rp} (h : RpOw w B u r) (hB : B' ≤ B) : RpOw w B' u r := ⟨h.l.low hB, h.ok.low hB, h.ch.low hB, h.t, h.te.low hB, fun x hx => (h.tl x hx).low hB⟩
theorem RpOw.off {w w' : World} {B : Nat} {u : Rv} {r : Rp} (h : RpOw w B u r) (hk : ∀ v ∈ u.rows, ∀ k, v.ownBlock = some k → w'.heap[k]? = w.heap[k]?) : RpOw w' B u r :=
  ⟨h.l.off (hk _ (by simp [Rv.rows])), h.ok.off (hk _ (by simp [Rv.rows])), OwnsE.off h.ch (hk _ (by simp [Rv.rows])), h.t, OwnsE.off h.te (hk _ (by simp [Rv.rows])), fun x hx => (h.tl x hx).off (hk _ (by simp only [Rv.rows, List.mem_cons, List.mem_map]; exact .inr (.inr (.inr (.inr ⟨x, hx, rfl⟩)))))⟩
def rpC (r : Rp) (u : Rv) : Array Value := #[.int .i64 r.id, .int .i64 r.p, .int .i64 r.v, .bool r.n, .int .i64 r.la, u.l, .int .i64 r.c, u.ok, u.ch, u.te]
/-- A replica at b. -/
structure RpAt (w : World) (B b : Nat) (u : Rv) (r : Rp) : Prop where
  c : RpB w b r u
  o : RpOw w B u r
  apt : RpAp u
  hb : B ≤ b
theorem RpAt.got {w : World} {B b : Nat} {u : Rv} {r : Rp} (h : RpAt w B b u r) : RpGot w u r := h.o.got
theorem RpAt.lt {w : World} {B b : Nat} {u : Rv} {r : Rp} (h : RpAt w B b u r) : b < w.heap.size := Bx.lt h.c
theorem RpAt.le {w : World} {B b : Nat} {u : Rv} {r : Rp} (h : RpAt w B b u r) : B ≤ w.heap.size := by have := h.lt; have := h.hb; omega
theorem RpAt.kept {w w' : World} {B b : Nat} {u : Rv} {r : Rp} (h : RpAt w B b u r) (hb : Below w.heap.size w w') : RpAt w' B b u r := ⟨Bx.kept h.c hb, h.o.kept hb, h.apt, h.hb⟩
theorem RpAt.low {w : World} {B B' b : Nat} {u : Rv} {r : Rp} (h : RpAt w B b u r) (hB : B' ≤ B) : RpAt w B' b u r := ⟨h.c, h.o.low hB, h.apt, Nat.le_trans hB h.hb⟩
theorem RpAt.under {w : World} {B b : Nat} {u : Rv} {r : Rp} (h : RpAt w B b u r) : ∀ v ∈ u.rows, ∀ k, v.ownBlock = some k → k < w.heap.size := h.o.has.under
/-- No row lies in the replica's own block: another type lies there. -/
theorem RpOw.ne {w : World} {B b : Nat} {u u' : Rv} {r r' : Rp} (h : RpOw w B u r) (hc : RpB w b r' u') : ∀ v ∈ u.rows, ∀ k, v.ownBlock = some k → k ≠ b := by
  intro v hv
  have hc : w.heap[b]? = some (.cells _ 28 (0, 0)) := hc
  simp only [Rv.rows, List.mem_cons, List.mem_map] at hv
  rcases hv with rfl | rfl | rfl | rfl | ⟨x, hx, rfl⟩
  · exact OwnsE.ne_of h.l hc (by decide)
  · exact OwnsE.ne_of h.ok hc (by decide)
  · exact OwnsE.ne_of h.ch.has hc (by decide)
  · exact OwnsE.ne_of h.te.has hc (by decide)
  · exact OwnsE.ne_of (h.tl x hx) hc (by decide)
theorem RpAt.put {w : World} {B b : Nat} {u u' : Rv} {r r' : Rp} (h : RpAt w B b u r) (i : Nat) (v : Value) (hc : (rpC r u).setIfInBounds i v = rpC r' u') (ho : RpOw w B u' r') (hap : RpAp u') : RpAt (w.setCell ⟨b, i, none⟩ v) B b u' r' where
  c := by
    have := Bx.put h.c i v
    show Bx _ _ _ (rpC r' u')
    rw [← hc]
    exact this
  o := ho.off fun x hx k hk => Below.heap_setCell _ _ _ _ (ho.ne h.c x hx k hk)
  apt := hap
  hb := h.hb
theorem RpAp.iff {u : Rv} : RpAp u ↔ (∀ v ∈ u.ok :: u.ch :: u.te :: u.T.map Mx.u, ap u.l v) ∧ (∀ v ∈ u.ch :: u.te :: u.T.map Mx.u, ap u.ok v) ∧ (∀ v ∈ u.te :: u.T.map Mx.u, ap u.ch v) ∧ (∀ v ∈ u.T.map Mx.u, ap u.te v) ∧ (u.T.map Mx.u).Pairwise ap := by
  unfold RpAp Rv.rows
  simp only [List.pairwise_cons]
theorem rows_l (u : Rv) : u.l ∈ u.rows := by simp [Rv.rows]
theorem rows_ok (u : Rv) : u.ok ∈ u.rows := by simp [Rv.rows]
theorem rows_ch (u : Rv) : u.ch ∈ u.rows := by simp [Rv.rows]
theorem rows_te (u : Rv) : u.te ∈ u.rows := by simp [Rv.rows]
theorem rows_T {u : Rv} {v : Value} (h : v ∈ u.T.map Mx.u) : v ∈ u.rows := by simp only [Rv.rows, List.mem_cons]; exact .inr (.inr (.inr (.inr h)))
section
variable {P : Program}
theorem run_storeVar_at (w : World) (b i : Nat) (ty : TypeId) (v : Value) (hi : (P.info? ty).map (·.size) = some 1) (h1 : v.oneCell' = true) (hc : ∃ old, w.cell? ⟨b, i, none⟩ = some old) (hf : w.frozen? ⟨b, i, none⟩ = false) :
    (storeVar ty ⟨b, i, none⟩ v).run P w = .ok () (w.setCell ⟨b, i, none⟩ v) := by
  obtain ⟨old, hc⟩ := hc
  cases hq : P.info? ty with
  | none => simp [hq] at hi
  | some z =>
    have hs : z.size = 1 := by simpa [hq] using hi
    have hcs : v.cells = #[v] := by cases v <;> first | rfl | (cases h1; done)
    have ha : (⟨b, i, none⟩ : Addr).add 0 = ⟨b, i, none⟩ := rfl
    have hst : (store (⟨b, i, none⟩ : Addr) v).run P w = .ok () (w.setCell ⟨b, i, none⟩ v) := by
      cases v <;> first | (simp [store, Sem.run, hc, hf]; done) | cases h1
    simp [storeVar, sizeOf, typeInfo, hq, hcs, hs, storeCells, ha, hst]
theorem wp_put1 {o : Oper} {a : Act} {w : World} {K : Act → World → Prop} {Q : Exit → Act → World → Prop} (ty : TypeId) (x y : Operand) (ho : o.op = .store ty x y) (b i : Nat) (v : Value) (hx : a.eval x = .pointer (some ⟨b, i, none⟩)) (hy : a.eval y = v)
    (hi : (P.info? ty).map (·.size) = some 1) (h1 : v.oneCell' = true) {tb : TypeId} {vs : Array Value} (hB : Bx w b tb vs) (hlt : i < vs.size)
    (h : K (a.put o.dst undef) (w.setCell ⟨b, i, none⟩ v)) : o.wp P a w K Q := by
  unfold Oper.wp execOp
  simp only [ho, hx, hy, Instr.storeAt, Instr.sureAddr, Sem.run_bind, Sem.run_pure, Result.andThen_ok, run_storeVar_at w b i ty v hi h1 ⟨_, (hB.cell i).trans (Array.getElem?_eq_getElem hlt)⟩ (hB.free i)]
  exact h
/-- One cell of a block stored. -/
theorem wpList_put1 {ops : Array Oper} {rest : List Oper} {o : Oper} {a : Act} {w : World} {Q : Exit → Act → World → Prop} (hgd : o.guard = none) (hd : o.dst = none) (ty : TypeId) (x y : Operand) (ho : o.op = .store ty x y) (b i : Nat) (v : Value) (hx : a.eval x = .pointer (some ⟨b, i, none⟩)) (hy : a.eval y = v)
    (hi : (P.info? ty).map (·.size) = some 1) (h1 : v.oneCell' = true) {tb : TypeId} {vs : Array Value} (hB : Bx w b tb vs) (hlt : i < vs.size)
    (h : wpList P ops Q rest a (w.setCell ⟨b, i, none⟩ v)) : wpList P ops Q (o :: rest) a w :=
  wpList_plain hgd fun _ hK => wp_put1 ty x y ho b i v hx hy hi h1 hB hlt (hK _ _ (by rw [hd]; exact h))
end
theorem Tryz.rszS : (Tryz.prog.info? 24).map (·.size) = some 1 := by kernel_rfl
theorem Tryz.rszI : (Tryz.prog.info? 25).map (·.size) = some 1 := by kernel_rfl
theorem Tryz.rszM : (Tryz.prog.info? 26).map (·.size) = some 1 := by kernel_rfl
theorem Tryz.rszR : (Tryz.prog.info? 28).map (·.size) = some 10 := by kernel_rfl
theorem rpC_size (r : Rp) (u : Rv) : (rpC r u).size = 10 := rfl
end Go.Proofs.YtdahfhkeeemdiaaGreat.Rl
namespace Go.Proofs.YtdahfhkeeemdiaaGreat.Rl
open Go.RowKit Go.Sort Go.Shelf
set_option linter.unusedVariables false
set_option linter.unusedSimpArgs false

/-- Counted: what is told stands in its own row. -/
theorem RpAt.counted {r : Rp} {u : Rv} {B b : Nat} {w w' : World} (h : RpAt w B b u r) (h1 : RpB w' b (cntd r) u) (h2 : HasN w' B u.ok (cntd r).ok) (h3 : ChS (fun k => k = b ∨ u.ok.ownBlock = some k) w w') : RpAt w' B b u (cntd r) ∧ Below B w w' := by
  obtain ⟨a1, a2, a3, a4, a5⟩ := RpAp.iff.1 h.apt
  have hk : ∀ x ∈ u.rows, ap u.ok x → ∀ k, x.ownBlock = some k → w'.heap[k]? = w.heap[k]? := fun x hx ha k hk => h3.block k (h.under x hx k hk) (fun e => by
    rcases e with e | e
    · exact h.o.ne h.c x hx k hk e
    · exact ha k e hk)
  have hl : ap u.ok u.l := (a1 u.ok (by simp)).comm
  refine ⟨⟨h1, ⟨h.o.l.off (hk _ (rows_l u) hl), h2, OwnsE.off h.o.ch (hk _ (rows_ch u) (a2 _ (by simp))), h.o.t, OwnsE.off h.o.te (hk _ (rows_te u) (a2 _ (by simp))), fun x hx => (h.o.tl x hx).off (hk _ (rows_T (List.mem_map_of_mem hx)) (a2 _ (by simp only [List.mem_cons]; exact .inr (.inr (List.mem_map_of_mem hx)))))⟩, h.apt, h.hb⟩, h3.below (Below.refl _ _) h.le (fun k e => ?_)⟩
  rcases e with rfl | e
  · exact h.hb
  · exact h.o.ok.from k e
theorem RpAt.lslice {r : Rp} {u : Rv} {B b : Nat} {w : World} (h : RpAt w B b u r) : ∃ a c, u.l = .slice a r.l.length c := by
  obtain ⟨a, c, e, _⟩ := h.o.l.form
  exact ⟨a, c, e⟩
theorem implCntAt (r : Rp) (u : Rv) (B b : Nat) (w : World) (h : RpAt w B b u r) (hp : pOk r.p) (hol : (r.ok.length : Int) = r.p) (hid : 0 ≤ r.id ∧ r.id < r.p) (hc : 0 ≤ r.c) (hx : ∀ x ∈ r.ok, x ≤ (r.l.length : Int)) (hlen : r.l.length ≤ 1048576) :
    Calls Tryz.prog 123 #[.pointer (some ⟨b, 0, none⟩)] w fun e w' => e = .returned (.tuple #[]) ∧ RpAt w' B b u (cntd r) ∧ Below B w w' :=
  (implCnt r u b B w h.c h.o.ok h.lslice (h.o.ne h.c _ (rows_ok u)) hp hol hid hc hx hlen).mono fun e w' ⟨h0, h1, h2, h3⟩ => ⟨h0, h.counted h1 h2 h3⟩
end Go.Proofs.YtdahfhkeeemdiaaGreat.Rl
