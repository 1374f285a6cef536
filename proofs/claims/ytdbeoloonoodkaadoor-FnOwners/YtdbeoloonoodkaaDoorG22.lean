/-
  The program's heap of servers: Push and Pop.
  A region that draws its order, as in RgH; what holds all along may speak of which operations are done and of what they have left.
-/
import Derived.Test.YtdbeoloonoodkaaDoorG21
import Derived.Test.YtdbeoloonoodkaaDoorG06
import Derived.Stop.Asserts
import Derived.Test.YtdbeoloonoodkaaDoorG09
namespace Go.Proofs.YtdbeoloonoodkaaDoor.Ih
open Go.RowKit Go.Sort Ow
set_option linter.unusedVariables false
set_option linter.unusedSimpArgs false
variable {H : Hw}

/-- An append onto one's own row as one step of a region that draws its order, and where the new row lies. -/
theorem step_rowE_at {α : Type} {E : Enc α} {P : Program} {ops : Array Oper} {o : Oper} {a : Act} {w : World} {K : Act → World → Prop} {Q : Exit → Act → World → Prop} {X : Prop} (hgd : o.guard = Option.none) (s x : Operand) (ts te : TypeId) (z : Value) (bytes : Nat)
    (hts : P.underlying ts = some (.slice te)) (hinfo : (P.info? te).map (fun i => (i.zero, i.size, i.bytes)) = some (some z, E.k, bytes)) (hz : z.cells.size = E.k)
    (ho : o.op = .call { callee := .builtin .append, args := #[s, x], argTypes := #[ts, ts] }) (B : Nat) (v : Value) (l : List α) (hs : a.eval s = v) (hown : OwnsE E te w B v l)
    (ad : Addr) (c : Nat) (m : List α) (hx : a.eval x = .slice (some ad) m.length c) (hcell : ∀ j u, (cellsE E m)[j]? = some u → w.cell? (ad.add j) = some u)
    (h63 : l.length + m.length ≤ maxLen) (hbytes : (l.length + m.length) * bytes ≤ 140737488355328) (hB : B ≤ w.heap.size)
    (h : ∀ v' w', OwnsE E te w' B v' (l ++ m) → w.grownBy w' v.ownBlock → (v'.ownBlock = v.ownBlock ∨ v'.ownBlock = some w.heap.size) → K (a.put o.dst v') w') :
    if Region.wanted o (yielded ops a.tmps) = true then Oper.wp P o a w K Q else X := by
  have hw : Region.wanted o (yielded ops a.tmps) = true := by simp [Region.wanted, hgd]
  rw [if_pos hw]
  obtain ⟨i0, hi, hz0, hz1, hz2⟩ := info_parts hinfo
  obtain ⟨v', w', hr, h2, h3, h4, h5⟩ := run_append_own_at (P := P) w B ts o.type te i0 z E.k bytes hts hi hz0 hz1 hz2 hz E.pos v l.length (cellsE E l) hown ad m.length c (cellsE E m) (cellsE_length E m) hcell (cellsE_one E m) h63 hbytes hB
  unfold Oper.wp execOp
  simp only [ho, resolve, invoke, builtin, Sem.run_bind, Sem.run_pure, Result.andThen_ok, List.map_toArray, List.map_cons, List.map_nil, hs, hx, hr]
  refine h v' w' ?_ h3 h5
  unfold OwnsE
  rw [cellsE_append, List.length_append]
  exact h2
theorem asI (n : Int) (w : World) : (Instr.typeAssert (.iface 2 (.int .i64 n)) 20 2 false).run Tryd.prog w = .ok (.int .i64 n) w := by kernel_rfl
/-- The heap behind a new row stored. -/
theorem HpB.store {w w1 : World} {B b : Nat} {l l' : List Co} {v v' : Value} (h : HpB H w B b l v) (e : w1.heap[b]? = w.heap[b]?) (em : w1.heap[H.M]? = w.heap[H.M]?) (ex : w1.heap[H.X]? = w.heap[H.X]?) (hz : w.heap.size ≤ w1.heap.size) (ho : OwnsC8 w1 B v' l') (hn : ∀ k, v'.ownBlock = some k → k ≠ b) (hn2 : ∀ k, v'.ownBlock = some k → k ≠ H.M) (hn3 : ∀ k, v'.ownBlock = some k → k ≠ H.X) : HpB H (w1.setCell ⟨b, 0, none⟩ v') B b l' v' := by
  have hs : (w1.setCell ⟨b, 0, none⟩ v').heap.size = w1.heap.size := by simp [World.setCell]
  have c1 : w1.cell? ⟨b, 0, none⟩ = some v := by rw [← h.c]; simp only [World.cell?]; rw [e]
  have f1 : w1.frozen? ⟨b, 0, none⟩ = false := by rw [← h.f]; simp only [World.frozen?]; rw [e]
  have a1 : w1.cell? ⟨b, 1, none⟩ = some (.func (.func 37) #[.map (some H.M)] #[]) := by rw [← h.a]; simp only [World.cell?]; rw [e]
  refine ⟨?_, ?_, ?_, h.lo, by rw [hs]; have := h.hi; omega, ho.other _ _ (fun k hk => hn k hk), hn, ?_, h.mb, hn2, by rw [Below.heap_setCell _ _ _ _ h.xb, ex]; exact h.x, h.xb, hn3⟩
  · simp [go_sem, c1]
  · simp [go_sem, f1]
  · simp [go_sem, a1]
  · obtain ⟨es, clock, hb, F, hs2, hD⟩ := h.m
    exact ⟨es, clock, by rw [Below.heap_setCell _ _ _ _ h.mb, em]; exact hb, F, hs2, hD⟩
set_option maxHeartbeats 2000000 in
theorem implPushM (b B : Nat) (l : List Co) (v : Value) (x : Co) (w : World) (h : HpB H w B b l v) (hl : l.length ≤ 100) :
    Calls Tryd.prog 89 #[.pointer (some ⟨b, 0, none⟩), .iface 2 (.int .i64 x.1)] w fun e w' => e = .returned (.tuple #[]) ∧ ∃ v', HpB H w' B b (l ++ [x]) v' ∧ Below B w w' := by
  obtain ⟨a, cap, rfl, h1, h2, h3⟩ := h.o.form
  have HH : Hid (HpB H w B b l (.slice a l.length cap)) := h
  have c0 := h.c
  have f0 := h.f
  have hb := h.hi
  have hB := h.lo
  have hM := h.m.lt
  have hX := h.xlt
  have has := asI
  unfold maxLen at h2
  clear h h3
  go_enter Tryd.func89, Tryd.ntmps89
  go_wp2_with fail
  go_region_law (refine step_rowE_at (E := coE) rfl (.tmp 8) (.tmp 11) 24 2 (.int .i64 0) 8 Tryd.underlying24 Tryd.infoN2 rfl rfl B (.slice a l.length cap) l (by simp [Act.eval]) (OwnsE.alloc HH.out.o _) ⟨_, 0, none⟩ 1 [x] (by simp [Act.eval]) (fresh_cell _ x _ _ rfl) (by unfold maxLen; simp; omega) (by simp; omega) (by simp; omega) ?_; intro v4 w4 ho4 hg4 hat4; have e4 : w4.heap[b]? = w.heap[b]? := (hg4.block b (by simp; omega) (fun e => HH.out.ne b e.symm rfl)).trans (Below.heap_alloc _ _ _ hb); have m4 : w4.heap[H.M]? = w.heap[H.M]? := (hg4.block H.M (by simp; omega) (fun e => HH.out.mv H.M e.symm rfl)).trans (Below.heap_alloc _ _ _ hM); have x4 : w4.heap[H.X]? = w.heap[H.X]? := (hg4.block H.X (by simp; omega) (fun e => HH.out.xv H.X e.symm rfl)).trans (Below.heap_alloc _ _ _ hX); have hz4 := hg4.size; simp at hz4; have BL : Hid (Below B w w4) := belowE (w1 := w.alloc (.cells #[.int .i64 x.1] 2)) ((Below.refl _ w).alloc (by omega) _) (by exact ⟨hg4.os, hg4.tape, hg4.output, hg4.size, hg4.block⟩) (by simp; omega) (OwnsE.from HH.out.o); have NE : Hid (∀ k, v4.ownBlock = some k → k ≠ b) := (fun k hk => by rcases hat4 with q | q; exact HH.out.ne k (q.symm.trans hk); (have q2 := q.symm.trans hk; simp at q2; omega)); have NM : Hid (∀ k, v4.ownBlock = some k → k ≠ H.M) := (fun k hk => by rcases hat4 with q | q; exact HH.out.mv k (q.symm.trans hk); (have q2 := q.symm.trans hk; simp at q2; omega)); have NX : Hid (∀ k, v4.ownBlock = some k → k ≠ H.X) := (fun k hk => by rcases hat4 with q | q; exact HH.out.xv k (q.symm.trans hk); (have q2 := q.symm.trans hk; simp at q2; omega)); obtain ⟨a4, c4, hv4, _, _⟩ := ho4.form; subst hv4; have c5 : w4.cell? ⟨b, 0, none⟩ = some (.slice a l.length cap) := (by rw [← c0]; simp only [World.cell?]; rw [e4]); have f5 : w4.frozen? ⟨b, 0, none⟩ = false := (by rw [← f0]; simp only [World.frozen?]; rw [e4]); have HP : Hid _ := HH.out.store e4 m4 x4 (by omega) ho4 NE.out NM.out NX.out; clear e4 m4 x4 ho4 hg4 hat4)
  all_goals
    go_wp2
    go_returns
    exact ⟨rfl, _, by simpa using HP.out, BL.out.setCell hB _⟩
set_option maxHeartbeats 1000000 in
theorem implPopM (b B : Nat) (l : List Co) (v : Value) (w : World) (h : HpB H w B b l v) (hl : l.length ≤ 100) (m : Nat) (hm : l.length = m + 1) :
    Calls Tryd.prog 88 #[.pointer (some ⟨b, 0, none⟩)] w fun e w' => e = .returned (.iface 2 (.int .i64 (l[m]'(by omega)).1)) ∧ ∃ v', HpB H w' B b (l.take m) v' ∧ Below B w w' := by
  obtain ⟨a, cap, rfl, h1, h2, h3⟩ := h.o.form
  obtain ⟨g, rfl⟩ : ∃ g, a = some ⟨g, 0, none⟩ := by
    rcases h3 with ⟨_, rfl⟩ | q
    · omega
    · exact q
  have x1 := ownsC_at h.o m (by omega)
  have c0 := h.c
  have f0 := h.f
  have hb := h.hi
  have hB := h.lo
  have hw : IntKind.i64.wrap ((l.length : Int) - 1) = (m : Int) := by rw [IntKind.wrap_i64]; omega
  have hmc : m ≤ cap := by omega
  have hml : (m : Int) < (l.length : Int) := by omega
  have HP : Hid (HpB H (w.setCell ⟨b, 0, none⟩ (.slice (some ⟨g, 0, none⟩) m cap)) B b (l.take m) (.slice (some ⟨g, 0, none⟩) m cap)) :=
    h.store rfl rfl rfl (Nat.le_refl _) (h.o.less rfl m (by omega)) (fun k hk => h.ne k hk) (fun k hk => h.mv k hk) (fun k hk => h.xv k hk)
  have BL : Hid (Below B w (w.setCell ⟨b, 0, none⟩ (.slice (some ⟨g, 0, none⟩) m cap))) := (show Hid _ from (Below.refl B w).setCell hB _)
  generalize (l[m]'(by omega)).1 = p at x1 ⊢
  clear h h3 hm
  go_enter Tryd.func88, Tryd.ntmps88
  go_wp2
  go_ret
  exact ⟨rfl, _, HP.out, BL.out⟩
end Go.Proofs.YtdbeoloonoodkaaDoor.Ih
namespace Go.Proofs.YtdbeoloonoodkaaDoor
open Go Go.RowKit Go.Sort
set_option linter.unusedVariables false

section
variable {P : Program}
theorem any_headsL {l : List Oper} {Q : Exit → Act → World → Prop} (n : Nat) (hn : n < l.length) (hs : Region.sinkB .any l.toArray n = true) (hc : Region.chainB .any l.toArray n = true)
    (hq : Region.seqB .any l.toArray (l.length - n) n (Array.replicate n true ++ Array.replicate (l.length - n) false) = true) (hb : backB l.toArray n = true)
    (F : (Nat → Value) → Act) (d : Nat → Nat) (S : Array Bool → (Nat → Value) → World → Prop) (G : Nat → World → Value → Prop) (hinj : ∀ i j, i < n → j < n → j ≠ i → d j ≠ d i) (hput : ∀ (i : Nat) (o : Oper), i < n → l[i]? = some o → ∀ (t : Nat → Value) (v : Value), (F t).put o.dst v = F (updH t (d i) v))
    (hstep : ∀ (i : Nat) (o : Oper), i < n → l[i]? = some o → ∀ (listed : Array Bool), listed.getD i false = false → (∀ j oj, l.toArray[j]? = some oj → listed.getD j false = true → ∀ e ∈ oj.after, Region.binds .any e = true → listed.getD e.on false = true) → listed.size = l.toArray.size → ∀ (t : Nat → Value) (x : World), S listed t x → (∀ e ∈ o.after, Region.binds .any e = true → G e.on x (t (d e.on))) → ∀ K : Act → World → Prop,
      (∀ v y, S (listed.setIfInBounds i true) (updH t (d i) v) y → (∀ j u, j < n → j ≠ i → G j x u → G j y u) → G i y v → K ((F t).put o.dst v) y) →
      if Region.wanted o (yielded l.toArray (F t).tmps) = true then Oper.wp P o (F t) x K Q else K ((F t).put o.dst undef) x)
    (hdone : ∀ (listed : Array Bool) (t : Nat → Value) (x : World), (∀ i, i < n → listed.getD i false = true) → S listed t x → (∀ j, j < n → G j x (t (d j))) → wpList P l.toArray Q (l.drop n) (F t) x) :
    ∀ (f : Nat) (listed : Array Bool) (t : Nat → Value) (x : World), leftH listed = f → HeadInv .any l.toArray n listed → S listed t x → (∀ j, j < n → listed.getD j false = true → G j x (t (d j))) → wpAny P .any l.toArray Q f listed (F t) x := by
  have hsz : l.toArray.size = n + (l.length - n) := by simp; omega
  have hn2 : n < l.toArray.size := by simpa using hn
  intro f
  induction f with
  | zero =>
    intro listed t x hf inv hS hG
    have h1 := inv.tail n (Nat.le_refl _) hn2
    have := leftH_set h1
    omega
  | succ f ih =>
    intro listed t x hf inv hS hG
    by_cases hall : ∀ i, i < n → listed.getD i false = true
    · have e := allListed (inv.size.trans hsz) hall (fun u h1 h2 => inv.tail u h1 (by omega))
      have hl : leftH listed = l.length - n := by rw [e]; unfold leftH; simp [List.count_replicate]
      have hf2 : f + 1 = (l.drop n).length := by rw [List.length_drop]; omega
      rw [hf2]
      refine wpAny_of_seq (md := .any) (Q' := Q) (l.drop n) n listed (F t) x (fun j => by simp [List.getElem?_drop]) ?_ (hdone listed t x hall hS fun j hj => hG j hj (hall j hj))
      rw [List.length_drop, e]
      exact hq
    · obtain ⟨i0, hi0, hu0⟩ : ∃ i, i < n ∧ listed.getD i false = false := by
        refine Classical.byContradiction fun hno => hall fun i hi => ?_
        cases h : listed.getD i false with
        | true => rfl
        | false => exact absurd ⟨i, hi, h⟩ hno
      have hu0' : listed.getD i0 true = false := getD_in (by rw [inv.size]; omega) hu0
      refine ⟨fun hr => absurd (firsts inv.size hn2 hb hr) hall, fun i hi => ?_⟩
      have hin : i < n := by
        rcases Nat.lt_or_ge i n with h | h
        · exact h
        · exact absurd hi (tail_waits hs hc hn2 inv _ i0 rfl hi0 hu0' i h)
      obtain ⟨h1, o, ho, hdep⟩ := mem_ready.1 hi
      have hdn : ∀ e ∈ o.after, Region.binds .any e = true → e.on < i := backB_spec hb hin ho
      have ho2 : l[i]? = some o := by simpa using ho
      have hc1 := leftH_set h1
      have key := hstep i o hin ho2 listed (getD_both h1) inv.closed inv.size t x hS (fun e he hbd => hG e.on (by have := hdn e he hbd; omega) (hdep e he hbd)) (wpAny P .any l.toArray Q f (listed.setIfInBounds i true)) (fun v y hSy hkeep hGi => by
        rw [hput i o hin ho2 t v]
        refine ih _ _ y (by omega) (inv.set hi hin) hSy fun j hj hl => ?_
        by_cases hji : j = i
        · subst hji
          rw [updH_same]
          exact hGi
        · rw [updH_other _ _ (hinj i j hin hj hji)]
          rw [getD_set_ne false (Ne.symm hji)] at hl
          exact hkeep j _ hj hji (hG j hj hl))
      unfold wpOp
      rw [ho]
      show if Region.wanted o (yielded l.toArray (F t).tmps) = true then _ else _
      split
      · rename_i hw
        rw [if_pos hw] at key
        exact Or.inl key
      · rename_i hw
        rw [if_neg hw] at key
        exact key
/-- The first n operations come whichever way; what each leaves (G) is good for as long as the others leave it so; then the rest, in order. -/
theorem region_headsL {l : List Oper} {Q : Exit → Act → World → Prop} {id : Nat} {a : Act} {w : World} (n : Nat) (hm : P.follows .mixedOrders = true) (hn : n < l.length) (hs : Region.sinkB .any l.toArray n = true) (hc : Region.chainB .any l.toArray n = true)
    (hq : Region.seqB .any l.toArray (l.length - n) n (Array.replicate n true ++ Array.replicate (l.length - n) false) = true) (hb : backB l.toArray n = true)
    (F : (Nat → Value) → Act) (d : Nat → Nat) (S : Array Bool → (Nat → Value) → World → Prop) (G : Nat → World → Value → Prop) (hinj : ∀ i j, i < n → j < n → j ≠ i → d j ≠ d i) (hput : ∀ (i : Nat) (o : Oper), i < n → l[i]? = some o → ∀ (t : Nat → Value) (v : Value), (F t).put o.dst v = F (updH t (d i) v)) (t0 : Nat → Value) (h0 : a = F t0) (hS : S (Array.replicate l.toArray.size false) t0 w.drew)
    (hstep : ∀ (i : Nat) (o : Oper), i < n → l[i]? = some o → ∀ (listed : Array Bool), listed.getD i false = false → (∀ j oj, l.toArray[j]? = some oj → listed.getD j false = true → ∀ e ∈ oj.after, Region.binds .any e = true → listed.getD e.on false = true) → listed.size = l.toArray.size → ∀ (t : Nat → Value) (x : World), S listed t x → (∀ e ∈ o.after, Region.binds .any e = true → G e.on x (t (d e.on))) → ∀ K : Act → World → Prop,
      (∀ v y, S (listed.setIfInBounds i true) (updH t (d i) v) y → (∀ j u, j < n → j ≠ i → G j x u → G j y u) → G i y v → K ((F t).put o.dst v) y) →
      if Region.wanted o (yielded l.toArray (F t).tmps) = true then Oper.wp P o (F t) x K Q else K ((F t).put o.dst undef) x)
    (hdone : ∀ (listed : Array Bool) (t : Nat → Value) (x : World), (∀ i, i < n → listed.getD i false = true) → S listed t x → (∀ j, j < n → G j x (t (d j))) → wpList P l.toArray Q (l.drop n) (F t) x) : (Code.region id l.toArray true).wp P Q a w := by
  subst h0
  refine wp_region_any hm ?_
  have inv0 : HeadInv .any l.toArray n (Array.replicate l.toArray.size false) := ⟨by simp, fun j oj _ hl => (by rw [getD_replicate_false] at hl; cases hl), fun t _ ht => getD_in (by simpa using ht) (getD_replicate_false _ _)⟩
  exact any_headsL n hn hs hc hq hb F d S G hinj hput hstep hdone _ _ t0 _ (by unfold leftH; simp) inv0 hS (fun j _ hl => by rw [getD_replicate_false] at hl; cases hl)
end
end Go.Proofs.YtdbeoloonoodkaaDoor
