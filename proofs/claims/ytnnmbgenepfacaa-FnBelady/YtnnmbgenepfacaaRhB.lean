/-
  The program's heap of what comes again: Push and Pop.
-/
import Derived.Test.YtnnmbgenepfacaaRhA
import Derived.Test.YtnnmbgenepfacaaRowA
import Derived.Stop.Asserts
namespace Go.Proofs.Ytnnmbgenepfacaa
open Go.RowKit Go.Sort Rom
set_option linter.unusedVariables false
set_option linter.unusedSimpArgs false

/-- An append onto one's own row as one step of a region that draws its order, and where the new row lies. -/
theorem step_rowE_at {α : Type} {E : Enc α} {P : Program} {ops : Array Oper} {o : Oper} {a : Act} {w : World} {K : Act → World → Prop} {Q : Exit → Act → World → Prop} {X : Prop} (hgd : o.guard = Option.none) (s x : Operand) (ts te : TypeId) (z : Value) (bytes : Nat)
    (hts : P.underlying ts = some (.slice te)) (hinfo : (P.info? te).map (fun i => (i.zero, i.size, i.bytes)) = some (some z, E.k, bytes)) (hz : z.cells.size = E.k)
    (ho : o.op = .call { callee := .builtin .append, args := #[s, x], argTypes := #[ts, ts] }) (B : Nat) (v : Value) (l : List α) (hs : a.eval s = v) (hown : OwnsE E te w B v l)
    (ad : Addr) (c : Nat) (m : List α) (hx : a.eval x = .slice (some ad) m.length c) (hcell : ∀ j u, (cellsE E m)[j]? = some u → w.cell? (ad.add j) = some u)
    (h63 : l.length + m.length ≤ maxLen) (hbytes : (l.length + m.length) * bytes ≤ 140737488355328) (hB : B ≤ w.heap.size)
    (h : ∀ v' w', OwnsE E te w' B v' (l ++ m) → w.grownBy w' v.ownBlock → (v'.ownBlock = v.ownBlock ∨ v'.ownBlock = some w.heap.size) → K (a.put o.dst v') w') :
    if Region.wanted o (yielded ops a.tmps) = true then Oper.wp P o a w K Q else X := by
  have hw : Region.wanted o (yielded ops a.tmps) = true := by simp [Region.wanted, hgd]
  rw [if_pos hw]
  obtain ⟨i0, hi, hz0, hz1, hz2⟩ := info_parts hinfo
  obtain ⟨v', w', hr, h2, h3, h4, h5⟩ := run_append_own_at (P := P) w B ts o.type te i0 z E.k bytes hts hi hz0 hz1 hz2 hz E.pos v l.length (cellsE E l) hown ad m.length c (cellsE E m) (cellsE_length E m) hcell (cellsE_one E m) h63 hbytes hB
  unfold Oper.wp execOp
  simp only [ho, resolve, invoke, builtin, Sem.run_bind, Sem.run_pure, Result.andThen_ok, List.map_toArray, List.map_cons, List.map_nil, hs, hx, hr]
  refine h v' w' ?_ h3 h5
  unfold OwnsE
  rw [cellsE_append, List.length_append]
  exact h2
theorem asC (v : Value) (w : World) : (Instr.typeAssert (.iface 74 v) 20 74 false).run Try.prog w = .ok v w := by kernel_rfl
theorem cell_frozen {w w' : World} {b : Nat} {v : Value} (e : w'.heap[b]? = w.heap[b]?) (h : w.cell? ⟨b, 0, none⟩ = some v) (f : w.frozen? ⟨b, 0, none⟩ = false) : w'.cell? ⟨b, 0, none⟩ = some v ∧ w'.frozen? ⟨b, 0, none⟩ = false := by
  constructor
  · rw [← h]; simp only [World.cell?]; rw [e]
  · rw [← f]; simp only [World.frozen?]; rw [e]
/-- The heap behind a new row stored. -/
theorem HpB.store {w w1 : World} {B b : Nat} {l l' : List Co} {v v' : Value} (h : HpB w B b l v) (e : w1.heap[b]? = w.heap[b]?) (hz : w.heap.size ≤ w1.heap.size) (ho : OwnsC8 w1 B v' l') (hn : ∀ k, v'.ownBlock = some k → k ≠ b) (ho1 : v'.oneCell' = true) : HpB (w1.setCell ⟨b, 0, none⟩ v') B b l' v' := by
  obtain ⟨c1, f1⟩ := cell_frozen e h.c h.f
  have hs : (w1.setCell ⟨b, 0, none⟩ v').heap.size = w1.heap.size := by simp [World.setCell]
  refine ⟨?_, ?_, h.lo, by rw [hs]; have := h.hi; omega, ho.other _ _ (fun k hk => hn k hk), hn⟩
  · simp [go_sem, c1]
  · simp [go_sem, f1]
set_option maxHeartbeats 2000000 in
theorem implPushM (b B : Nat) (l : List Co) (v : Value) (x : Co) (w : World) (h : HpB w B b l v) (hl : l.length ≤ 100) :
    Calls Try.prog 119 #[.pointer (some ⟨b, 0, none⟩), .iface 74 (coV x)] w fun e w' => e = .returned (.tuple #[]) ∧ ∃ v', HpB w' B b (l ++ [x]) v' ∧ Below B w w' := by
  obtain ⟨a, cap, rfl, h1, h2, h3⟩ := h.o.form
  have H : Hid (HpB w B b l (.slice a l.length cap)) := h
  have c0 := h.c
  have f0 := h.f
  have hb := h.hi
  have hB := h.lo
  have has := asC
  unfold coV
  unfold maxLen at h2
  clear h h3
  go_enter Try.func119, Try.ntmps119
  go_wp2_with fail
  go_region_law (refine step_rowE_at (E := coE) rfl (.tmp 7) (.tmp 10) 72 74 (.agg #[.int .i64 0, .int .i64 0]) 16 Try.underlying72 Try.infoCO rfl rfl B (.slice a l.length cap) l (by simp [Act.eval]) (OwnsE.alloc H.out.o _) ⟨_, 0, none⟩ 1 [x] (by simp [Act.eval]) (fresh_cell _ x _ _ rfl) (by unfold maxLen; simp; omega) (by simp; omega) (by simp; omega) ?_; intro v4 w4 ho4 hg4 hat4; have e4 : w4.heap[b]? = w.heap[b]? := (hg4.block b (by simp; omega) (fun e => H.out.ne b e.symm rfl)).trans (Below.heap_alloc _ _ _ hb); have hz4 := hg4.size; simp at hz4; have BL : Hid (Below B w w4) := belowE (w1 := w.alloc (.cells #[.int .i64 x.1, .int .i64 x.2] 74)) ((Below.refl _ w).alloc (by omega) _) (by exact ⟨hg4.os, hg4.tape, hg4.output, hg4.size, hg4.block⟩) (by simp; omega) (OwnsE.from H.out.o); have NE : Hid (∀ k, v4.ownBlock = some k → k ≠ b) := (fun k hk => by rcases hat4 with q | q; exact H.out.ne k (q.symm.trans hk); (have q2 := q.symm.trans hk; simp at q2; omega)); obtain ⟨a4, c4, hv4, _, _⟩ := ho4.form; subst hv4; obtain ⟨c5, f5⟩ := cell_frozen e4 c0 f0; have HP : Hid _ := H.out.store e4 (by omega) ho4 NE.out rfl; clear e4 ho4 hg4 hat4)
  all_goals
    go_wp2
    go_returns
    exact ⟨rfl, _, by simpa using HP.out, BL.out.setCell hB _⟩
set_option maxHeartbeats 1000000 in
theorem implPopM (b B : Nat) (l : List Co) (v : Value) (w : World) (h : HpB w B b l v) (hl : l.length ≤ 100) (h0 : 0 < l.length) :
    Calls Try.prog 118 #[.pointer (some ⟨b, 0, none⟩)] w fun e w' => (∃ u, e = .returned u) ∧ ∃ v', HpB w' B b (l.take (l.length - 1)) v' ∧ Below B w w' := by
  obtain ⟨a, cap, rfl, h1, h2, h3⟩ := h.o.form
  obtain ⟨g, rfl⟩ : ∃ g, a = some ⟨g, 0, none⟩ := by
    rcases h3 with ⟨_, rfl⟩ | q
    · omega
    · exact q
  obtain ⟨m, hm⟩ : ∃ m, l.length = m + 1 := ⟨l.length - 1, by omega⟩
  obtain ⟨x1, x2⟩ := ownsC_at h.o m (by omega)
  have c0 := h.c
  have f0 := h.f
  have hb := h.hi
  have hB := h.lo
  have hne := h.ne g rfl
  have hg := h.o.under g rfl
  have hw : IntKind.i64.wrap ((l.length : Int) - 1) = (m : Int) := by rw [IntKind.wrap_i64]; omega
  have hmc : m ≤ cap := by omega
  have hml : (m : Int) < (l.length : Int) := by omega
  have HP0 : HpB (w.setCell ⟨b, 0, none⟩ (.slice (some ⟨g, 0, none⟩) m cap)) B b (l.take m) (.slice (some ⟨g, 0, none⟩) m cap) :=
    h.store rfl (Nat.le_refl _) (h.o.less rfl m (by omega)) (fun k hk => h.ne k hk) rfl
  have HP : Hid (HpB ((w.setCell ⟨b, 0, none⟩ (.slice (some ⟨g, 0, none⟩) m cap)).alloc (.cells #[.int .i64 l[m].1, .int .i64 l[m].2] 74)) B b (l.take m) (.slice (some ⟨g, 0, none⟩) m cap)) := HP0.kept ((Below.refl _ _).alloc (Nat.le_refl _) _)
  have BL : Hid (Below B w ((w.setCell ⟨b, 0, none⟩ (.slice (some ⟨g, 0, none⟩) m cap)).alloc (.cells #[.int .i64 l[m].1, .int .i64 l[m].2] 74))) := (show Hid _ from ((Below.refl B w).setCell hB _).alloc (by simp [World.setCell]; omega) _)
  have HT : Hid (l.length - 1 = m) := (show _ = _ from by omega)
  rw [HT.out]
  generalize l[m] = p at x1 x2 HP BL
  obtain ⟨p1, p2⟩ := p
  dsimp only at x1 x2 HP BL
  clear h h3 HP0 HT hm
  go_enter Try.func118, Try.ntmps118
  go_wp2
  go_ret
  exact ⟨⟨_, rfl⟩, _, HP.out, BL.out⟩
end Go.Proofs.Ytnnmbgenepfacaa
