/-
  The program's heap of servers: Push and Pop.
-/
import Derived.Test.YtdbeoloonoodkaaDoorIhA
import Derived.Test.YtdbeoloonoodkaaDoorRowA
import Derived.Test.YtdbeoloonoodkaaDoorRomA
import Derived.Stop.Asserts
namespace Go.Proofs.YtdbeoloonoodkaaDoor.Ih
open Go.RowKit Go.Sort Ow
set_option linter.unusedVariables false
set_option linter.unusedSimpArgs false
variable {H : Hw}

/-- An append onto one's own row as one step of a region that draws its order, and where the new row lies. -/
theorem step_rowE_at {α : Type} {E : Enc α} {P : Program} {ops : Array Oper} {o : Oper} {a : Act} {w : World} {K : Act → World → Prop} {Q : Exit → Act → World → Prop} {X : Prop} (hgd : o.guard = Option.none) (s x : Operand) (ts te : TypeId) (z : Value) (bytes : Nat)
    (hts : P.underlying ts = some (.slice te)) (hinfo : (P.info? te).map (fun i => (i.zero, i.size, i.bytes)) = some (some z, E.k, bytes)) (hz : z.cells.size = E.k)
    (ho : o.op = .call { callee := .builtin .append, args := #[s, x], argTypes := #[ts, ts] }) (B : Nat) (v : Value) (l : List α) (hs : a.eval s = v) (hown : OwnsE E te w B v l)
    (ad : Addr) (c : Nat) (m : List α) (hx : a.eval x = .slice (some ad) m.length c) (hcell : ∀ j u, (cellsE E m)[j]? = some u → w.cell? (ad.add j) = some u)
    (h63 : l.length + m.length ≤ maxLen) (hbytes : (l.length + m.length) * bytes ≤ 140737488355328) (hB : B ≤ w.heap.size)
    (h : ∀ v' w', OwnsE E te w' B v' (l ++ m) → w.grownBy w' v.ownBlock → (v'.ownBlock = v.ownBlock ∨ v'.ownBlock = some w.heap.size) → K (a.put o.dst v') w') :
    if Region.wanted o (yielded ops a.tmps) = true then Oper.wp P o a w K Q else X := by
  have hw : Region.wanted o (yielded ops a.tmps) = true := by simp [Region.wanted, hgd]
  rw [if_pos hw]
  obtain ⟨i0, hi, hz0, hz1, hz2⟩ := info_parts hinfo
  obtain ⟨v', w', hr, h2, h3, h4, h5⟩ := run_append_own_at (P := P) w B ts o.type te i0 z E.k bytes hts hi hz0 hz1 hz2 hz E.pos v l.length (cellsE E l) hown ad m.length c (cellsE E m) (cellsE_length E m) hcell (cellsE_one E m) h63 hbytes hB
  unfold Oper.wp execOp
  simp only [ho, resolve, invoke, builtin, Sem.run_bind, Sem.run_pure, Result.andThen_ok, List.map_toArray, List.map_cons, List.map_nil, hs, hx, hr]
  refine h v' w' ?_ h3 h5
  unfold OwnsE
  rw [cellsE_append, List.length_append]
  exact h2
theorem asI (n : Int) (w : World) : (Instr.typeAssert (.iface 2 (.int .i64 n)) 20 2 false).run Tryd.prog w = .ok (.int .i64 n) w := by kernel_rfl
/-- The heap behind a new row stored. -/
theorem HpB.store {w w1 : World} {B b : Nat} {l l' : List Co} {v v' : Value} (h : HpB H w B b l v) (e : w1.heap[b]? = w.heap[b]?) (em : w1.heap[H.M]? = w.heap[H.M]?) (ex : w1.heap[H.X]? = w.heap[H.X]?) (hz : w.heap.size ≤ w1.heap.size) (ho : OwnsC8 w1 B v' l') (hn : ∀ k, v'.ownBlock = some k → k ≠ b) (hn2 : ∀ k, v'.ownBlock = some k → k ≠ H.M) (hn3 : ∀ k, v'.ownBlock = some k → k ≠ H.X) : HpB H (w1.setCell ⟨b, 0, none⟩ v') B b l' v' := by
  have hs : (w1.setCell ⟨b, 0, none⟩ v').heap.size = w1.heap.size := by simp [World.setCell]
  have c1 : w1.cell? ⟨b, 0, none⟩ = some v := by rw [← h.c]; simp only [World.cell?]; rw [e]
  have f1 : w1.frozen? ⟨b, 0, none⟩ = false := by rw [← h.f]; simp only [World.frozen?]; rw [e]
  have a1 : w1.cell? ⟨b, 1, none⟩ = some (.func (.func 37) #[.map (some H.M)] #[]) := by rw [← h.a]; simp only [World.cell?]; rw [e]
  refine ⟨?_, ?_, ?_, h.lo, by rw [hs]; have := h.hi; omega, ho.other _ _ (fun k hk => hn k hk), hn, ?_, h.mb, hn2, by rw [Below.heap_setCell _ _ _ _ h.xb, ex]; exact h.x, h.xb, hn3⟩
  · simp [go_sem, c1]
  · simp [go_sem, f1]
  · simp [go_sem, a1]
  · obtain ⟨es, clock, hb, F, hs2, hD⟩ := h.m
    exact ⟨es, clock, by rw [Below.heap_setCell _ _ _ _ h.mb, em]; exact hb, F, hs2, hD⟩
set_option maxHeartbeats 2000000 in
theorem implPushM (b B : Nat) (l : List Co) (v : Value) (x : Co) (w : World) (h : HpB H w B b l v) (hl : l.length ≤ 100) :
    Calls Tryd.prog 89 #[.pointer (some ⟨b, 0, none⟩), .iface 2 (.int .i64 x.1)] w fun e w' => e = .returned (.tuple #[]) ∧ ∃ v', HpB H w' B b (l ++ [x]) v' ∧ Below B w w' := by
  obtain ⟨a, cap, rfl, h1, h2, h3⟩ := h.o.form
  have HH : Hid (HpB H w B b l (.slice a l.length cap)) := h
  have c0 := h.c
  have f0 := h.f
  have hb := h.hi
  have hB := h.lo
  have hM := h.m.lt
  have hX := h.xlt
  have has := asI
  unfold maxLen at h2
  clear h h3
  go_enter Tryd.func89, Tryd.ntmps89
  go_wp2_with fail
  go_region_law (refine step_rowE_at (E := coE) rfl (.tmp 8) (.tmp 11) 24 2 (.int .i64 0) 8 Tryd.underlying24 Tryd.infoN2 rfl rfl B (.slice a l.length cap) l (by simp [Act.eval]) (OwnsE.alloc HH.out.o _) ⟨_, 0, none⟩ 1 [x] (by simp [Act.eval]) (fresh_cell _ x _ _ rfl) (by unfold maxLen; simp; omega) (by simp; omega) (by simp; omega) ?_; intro v4 w4 ho4 hg4 hat4; have e4 : w4.heap[b]? = w.heap[b]? := (hg4.block b (by simp; omega) (fun e => HH.out.ne b e.symm rfl)).trans (Below.heap_alloc _ _ _ hb); have m4 : w4.heap[H.M]? = w.heap[H.M]? := (hg4.block H.M (by simp; omega) (fun e => HH.out.mv H.M e.symm rfl)).trans (Below.heap_alloc _ _ _ hM); have x4 : w4.heap[H.X]? = w.heap[H.X]? := (hg4.block H.X (by simp; omega) (fun e => HH.out.xv H.X e.symm rfl)).trans (Below.heap_alloc _ _ _ hX); have hz4 := hg4.size; simp at hz4; have BL : Hid (Below B w w4) := belowE (w1 := w.alloc (.cells #[.int .i64 x.1] 2)) ((Below.refl _ w).alloc (by omega) _) (by exact ⟨hg4.os, hg4.tape, hg4.output, hg4.size, hg4.block⟩) (by simp; omega) (OwnsE.from HH.out.o); have NE : Hid (∀ k, v4.ownBlock = some k → k ≠ b) := (fun k hk => by rcases hat4 with q | q; exact HH.out.ne k (q.symm.trans hk); (have q2 := q.symm.trans hk; simp at q2; omega)); have NM : Hid (∀ k, v4.ownBlock = some k → k ≠ H.M) := (fun k hk => by rcases hat4 with q | q; exact HH.out.mv k (q.symm.trans hk); (have q2 := q.symm.trans hk; simp at q2; omega)); have NX : Hid (∀ k, v4.ownBlock = some k → k ≠ H.X) := (fun k hk => by rcases hat4 with q | q; exact HH.out.xv k (q.symm.trans hk); (have q2 := q.symm.trans hk; simp at q2; omega)); obtain ⟨a4, c4, hv4, _, _⟩ := ho4.form; subst hv4; have c5 : w4.cell? ⟨b, 0, none⟩ = some (.slice a l.length cap) := (by rw [← c0]; simp only [World.cell?]; rw [e4]); have f5 : w4.frozen? ⟨b, 0, none⟩ = false := (by rw [← f0]; simp only [World.frozen?]; rw [e4]); have HP : Hid _ := HH.out.store e4 m4 x4 (by omega) ho4 NE.out NM.out NX.out; clear e4 m4 x4 ho4 hg4 hat4)
  all_goals
    go_wp2
    go_returns
    exact ⟨rfl, _, by simpa using HP.out, BL.out.setCell hB _⟩
set_option maxHeartbeats 1000000 in
theorem implPopM (b B : Nat) (l : List Co) (v : Value) (w : World) (h : HpB H w B b l v) (hl : l.length ≤ 100) (m : Nat) (hm : l.length = m + 1) :
    Calls Tryd.prog 88 #[.pointer (some ⟨b, 0, none⟩)] w fun e w' => e = .returned (.iface 2 (.int .i64 (l[m]'(by omega)).1)) ∧ ∃ v', HpB H w' B b (l.take m) v' ∧ Below B w w' := by
  obtain ⟨a, cap, rfl, h1, h2, h3⟩ := h.o.form
  obtain ⟨g, rfl⟩ : ∃ g, a = some ⟨g, 0, none⟩ := by
    rcases h3 with ⟨_, rfl⟩ | q
    · omega
    · exact q
  have x1 := ownsC_at h.o m (by omega)
  have c0 := h.c
  have f0 := h.f
  have hb := h.hi
  have hB := h.lo
  have hw : IntKind.i64.wrap ((l.length : Int) - 1) = (m : Int) := by rw [IntKind.wrap_i64]; omega
  have hmc : m ≤ cap := by omega
  have hml : (m : Int) < (l.length : Int) := by omega
  have HP : Hid (HpB H (w.setCell ⟨b, 0, none⟩ (.slice (some ⟨g, 0, none⟩) m cap)) B b (l.take m) (.slice (some ⟨g, 0, none⟩) m cap)) :=
    h.store rfl rfl rfl (Nat.le_refl _) (h.o.less rfl m (by omega)) (fun k hk => h.ne k hk) (fun k hk => h.mv k hk) (fun k hk => h.xv k hk)
  have BL : Hid (Below B w (w.setCell ⟨b, 0, none⟩ (.slice (some ⟨g, 0, none⟩) m cap))) := (show Hid _ from (Below.refl B w).setCell hB _)
  generalize (l[m]'(by omega)).1 = p at x1 ⊢
  clear h h3 hm
  go_enter Tryd.func88, Tryd.ntmps88
  go_wp2
  go_ret
  exact ⟨rfl, _, HP.out, BL.out⟩
end Go.Proofs.YtdbeoloonoodkaaDoor.Ih
