/-
  Rows and responses in memory: what a store leaves.
  A region that draws its order: its first n operations whichever way, by what each of them leaves; the others wait for them and come one behind the other.
  A call of a function of the program, met by its contract, as one step of a region that draws its order.
  The specification's Renewed by its contract.
-/
import Derived.Test.YtkaogmdhjcgcdaaDoorD12
import Derived.Test.YtkaogmdhjcgcdaaDoorD20
import Derived.Test.YtkaogmdhjcgcdaaDoorRows
import Derived.StillTail
import Derived.Deep.QuietTactic
import Derived.Lib.QuietBelow
import Derived.BigQuiet
import Derived.Test.YtkaogmdhjcgcdaaDoorD17
import Derived.Shelf.Abstract
import Derived.Deep.DeepCutAuto
namespace Go.Proofs.YtkaogmdhjcgcdaaDoor
open Go.RowKit Go.Sort
set_option linter.unusedVariables false

theorem newAt (x : World) (o : Obj) : (x.alloc o).heap[x.heap.size]? = some o := heap_alloc_new x o
theorem rowCell {w : World} {g k : Nat} {c : Array Value} {ty : TypeId} {fr : Nat × Nat} (h : w.heap[g]? = some (.cells c ty fr)) : w.cell? ⟨g, k, none⟩ = c[k]? := by simp [World.cell?, h]
theorem OwnsF.putlow10 {w : World} {B g : Nat} {v : Value} {l : List Fl} (h : OwnsF w B v l) (hg : g < B) (k : Nat) (x : Value) : OwnsF (w.setCell ⟨g, k, none⟩ x) B v l := by
  refine ⟨h.1, ?_⟩
  rcases h.2 with h0 | ⟨g2, cap, cur, hv, hbg, hg2, rest⟩
  · exact .inl h0
  · exact .inr ⟨g2, cap, cur, hv, hbg, (Below.heap_setCell _ _ _ _ (by show g2 ≠ g; omega)).trans hg2, rest⟩
theorem RsB.put2 {w : World} {b : Nat} {r : Rs} {v : Value} (h : RsB w b r v) (t : ByteArray) : RsB (w.setCell ⟨b, 2, none⟩ (.string t)) b ⟨r.s, r.l, t⟩ v where
  c0 := by rw [World.cell?_setCell_other _ _ _ _ (by simp)]; exact h.c0
  c1 := by rw [World.cell?_setCell_other _ _ _ _ (by simp)]; exact h.c1
  c2 := World.cell?_setCell_same _ _ _ h.c2
  fz := fun k => by rw [World.frozen?_setCell]; exact h.fz k
  hi := by rw [World.size_setCell]; exact h.hi
end Go.Proofs.YtkaogmdhjcgcdaaDoor
namespace Go.Proofs.YtkaogmdhjcgcdaaDoor
open Go Go.RowKit Go.Sort
set_option linter.unusedVariables false

def updH {α : Type} (f : Nat → α) (i : Nat) (x : α) : Nat → α := fun j => if j = i then x else f j
theorem updH_same {α : Type} (f : Nat → α) (i : Nat) (x : α) : updH f i x i = x := if_pos rfl
theorem updH_other {α : Type} (f : Nat → α) {i j : Nat} (x : α) (h : j ≠ i) : updH f i x j = f j := if_neg h
def leftH (listed : Array Bool) : Nat := listed.toList.count false
theorem leftH_set {listed : Array Bool} {i : Nat} (hi : listed.getD i true = false) : leftH (listed.setIfInBounds i true) + 1 = leftH listed := by
  have hlt : i < listed.size := by
    rcases Nat.lt_or_ge i listed.size with h | h
    · exact h
    · simp [Array.getElem?_eq_none h] at hi
  have he : listed.toList[i]'(by simpa using hlt) = false := by
    simp [hlt] at hi
    simpa using hi
  unfold leftH
  rw [Array.toList_setIfInBounds, List.count_set (by simpa using hlt)]
  have hp : 0 < listed.toList.count false := List.count_pos_iff.2 (by rw [← he]; exact List.getElem_mem _)
  rw [he]
  show listed.toList.count false - 1 + 0 + 1 = listed.toList.count false
  omega
/-- Each of the first n operations waits for elder ones alone. -/
def backB (ops : Array Oper) (n : Nat) : Bool := (List.range n).all fun i => match ops[i]? with
  | some o => o.after.all fun e => !Region.binds .any e || decide (e.on < i)
  | none => true
theorem backB_spec {ops : Array Oper} {n : Nat} (h : backB ops n = true) {i : Nat} {o : Oper} (hi : i < n) (ho : ops[i]? = some o) : ∀ e ∈ o.after, Region.binds .any e = true → e.on < i := by
  intro e he hb
  have h1 := List.all_eq_true.1 h i (List.mem_range.2 hi)
  simp only [ho] at h1
  have h2 := Array.all_eq_true'.1 h1 e he
  rw [hb] at h2
  simpa using h2
theorem firsts {ops : Array Oper} {n : Nat} {listed : Array Bool} (hs : listed.size = ops.size) (hn : n < ops.size) (hb : backB ops n = true) (hr : Region.ready .any ops listed = []) : ∀ i, i < n → listed.getD i false = true := by
  intro i
  induction i using Nat.strongRecOn with
  | _ i ih =>
    intro hi
    cases h : listed.getD i false with
    | true => rfl
    | false =>
      have hlt : i < ops.size := by omega
      have hm : i ∈ Region.ready .any ops listed := mem_ready.2 ⟨getD_in (by omega) h, ops[i], by simp [hlt], fun e he hbd => by
        have h2 := backB_spec hb hi (o := ops[i]) (by simp [hlt]) e he hbd
        exact ih e.on h2 (by omega)⟩
      rw [hr] at hm
      cases hm
theorem allListed {n m : Nat} {listed : Array Bool} (hs : listed.size = n + m) (h1 : ∀ i, i < n → listed.getD i false = true) (h2 : ∀ t, n ≤ t → t < n + m → listed.getD t true = false) : listed = Array.replicate n true ++ Array.replicate m false := by
  apply Array.ext
  · simp [hs]
  · intro i hi1 hi2
    rcases Nat.lt_or_ge i n with h | h
    · have := h1 i h
      simp [hi1] at this
      rw [this, Array.getElem_append_left (by simpa using h)]
      simp
    · have := h2 i h (by omega)
      simp [hi1] at this
      rw [this, Array.getElem_append_right (by simpa using h)]
      simp
section
variable {P : Program}
theorem any_heads {l : List Oper} {Q : Exit → Act → World → Prop} (n : Nat) (hn : n < l.length) (hs : Region.sinkB .any l.toArray n = true) (hc : Region.chainB .any l.toArray n = true)
    (hq : Region.seqB .any l.toArray (l.length - n) n (Array.replicate n true ++ Array.replicate (l.length - n) false) = true) (hb : backB l.toArray n = true)
    (F : (Nat → Value) → Act) (d : Nat → Nat) (S : World → Prop) (G : Nat → World → Value → Prop) (hinj : ∀ i j, i < n → j < n → j ≠ i → d j ≠ d i) (hput : ∀ (i : Nat) (o : Oper), i < n → l[i]? = some o → ∀ (t : Nat → Value) (v : Value), (F t).put o.dst v = F (updH t (d i) v))
    (hstep : ∀ (i : Nat) (o : Oper), i < n → l[i]? = some o → ∀ (t : Nat → Value) (x : World), S x → (∀ e ∈ o.after, Region.binds .any e = true → G e.on x (t (d e.on))) → ∀ K : Act → World → Prop,
      (∀ v y, S y → (∀ j u, j < n → j ≠ i → G j x u → G j y u) → G i y v → K ((F t).put o.dst v) y) →
      if Region.wanted o (yielded l.toArray (F t).tmps) = true then Oper.wp P o (F t) x K Q else K ((F t).put o.dst undef) x)
    (hdone : ∀ (t : Nat → Value) (x : World), S x → (∀ j, j < n → G j x (t (d j))) → wpList P l.toArray Q (l.drop n) (F t) x) :
    ∀ (f : Nat) (listed : Array Bool) (t : Nat → Value) (x : World), leftH listed = f → HeadInv .any l.toArray n listed → S x → (∀ j, j < n → listed.getD j false = true → G j x (t (d j))) → wpAny P .any l.toArray Q f listed (F t) x := by
  have hsz : l.toArray.size = n + (l.length - n) := by simp; omega
  have hn2 : n < l.toArray.size := by simpa using hn
  intro f
  induction f with
  | zero =>
    intro listed t x hf inv hS hG
    have h1 := inv.tail n (Nat.le_refl _) hn2
    have := leftH_set h1
    omega
  | succ f ih =>
    intro listed t x hf inv hS hG
    by_cases hall : ∀ i, i < n → listed.getD i false = true
    · have e := allListed (inv.size.trans hsz) hall (fun u h1 h2 => inv.tail u h1 (by omega))
      have hl : leftH listed = l.length - n := by rw [e]; unfold leftH; simp [List.count_replicate]
      have hf2 : f + 1 = (l.drop n).length := by rw [List.length_drop]; omega
      rw [hf2]
      refine wpAny_of_seq (md := .any) (Q' := Q) (l.drop n) n listed (F t) x (fun j => by simp [List.getElem?_drop]) ?_ (hdone t x hS fun j hj => hG j hj (hall j hj))
      rw [List.length_drop, e]
      exact hq
    · obtain ⟨i0, hi0, hu0⟩ : ∃ i, i < n ∧ listed.getD i false = false := by
        refine Classical.byContradiction fun hno => hall fun i hi => ?_
        cases h : listed.getD i false with
        | true => rfl
        | false => exact absurd ⟨i, hi, h⟩ hno
      have hu0' : listed.getD i0 true = false := getD_in (by rw [inv.size]; omega) hu0
      refine ⟨fun hr => absurd (firsts inv.size hn2 hb hr) hall, fun i hi => ?_⟩
      have hin : i < n := by
        rcases Nat.lt_or_ge i n with h | h
        · exact h
        · exact absurd hi (tail_waits hs hc hn2 inv _ i0 rfl hi0 hu0' i h)
      obtain ⟨h1, o, ho, hdep⟩ := mem_ready.1 hi
      have hdn : ∀ e ∈ o.after, Region.binds .any e = true → e.on < i := backB_spec hb hin ho
      have ho2 : l[i]? = some o := by simpa using ho
      have hc1 := leftH_set h1
      have key := hstep i o hin ho2 t x hS (fun e he hbd => hG e.on (by have := hdn e he hbd; omega) (hdep e he hbd)) (wpAny P .any l.toArray Q f (listed.setIfInBounds i true)) (fun v y hSy hkeep hGi => by
        rw [hput i o hin ho2 t v]
        refine ih _ _ y (by omega) (inv.set hi hin) hSy fun j hj hl => ?_
        by_cases hji : j = i
        · subst hji
          rw [updH_same]
          exact hGi
        · rw [updH_other _ _ (hinj i j hin hj hji)]
          rw [getD_set_ne false (Ne.symm hji)] at hl
          exact hkeep j _ hj hji (hG j hj hl))
      unfold wpOp
      rw [ho]
      show if Region.wanted o (yielded l.toArray (F t).tmps) = true then _ else _
      split
      · rename_i hw
        rw [if_pos hw] at key
        exact Or.inl key
      · rename_i hw
        rw [if_neg hw] at key
        exact key
/-- The first n operations come whichever way; what each leaves (G) is good for as long as the others leave it so; then the rest, in order. -/
theorem region_heads {l : List Oper} {Q : Exit → Act → World → Prop} {id : Nat} {a : Act} {w : World} (n : Nat) (hm : P.follows .mixedOrders = true) (hn : n < l.length) (hs : Region.sinkB .any l.toArray n = true) (hc : Region.chainB .any l.toArray n = true)
    (hq : Region.seqB .any l.toArray (l.length - n) n (Array.replicate n true ++ Array.replicate (l.length - n) false) = true) (hb : backB l.toArray n = true)
    (F : (Nat → Value) → Act) (d : Nat → Nat) (S : World → Prop) (G : Nat → World → Value → Prop) (hinj : ∀ i j, i < n → j < n → j ≠ i → d j ≠ d i) (hput : ∀ (i : Nat) (o : Oper), i < n → l[i]? = some o → ∀ (t : Nat → Value) (v : Value), (F t).put o.dst v = F (updH t (d i) v)) (t0 : Nat → Value) (h0 : a = F t0) (hS : S w.drew)
    (hstep : ∀ (i : Nat) (o : Oper), i < n → l[i]? = some o → ∀ (t : Nat → Value) (x : World), S x → (∀ e ∈ o.after, Region.binds .any e = true → G e.on x (t (d e.on))) → ∀ K : Act → World → Prop,
      (∀ v y, S y → (∀ j u, j < n → j ≠ i → G j x u → G j y u) → G i y v → K ((F t).put o.dst v) y) →
      if Region.wanted o (yielded l.toArray (F t).tmps) = true then Oper.wp P o (F t) x K Q else K ((F t).put o.dst undef) x)
    (hdone : ∀ (t : Nat → Value) (x : World), S x → (∀ j, j < n → G j x (t (d j))) → wpList P l.toArray Q (l.drop n) (F t) x) : (Code.region id l.toArray true).wp P Q a w := by
  subst h0
  refine wp_region_any hm ?_
  have inv0 : HeadInv .any l.toArray n (Array.replicate l.toArray.size false) := ⟨by simp, fun j oj _ hl => (by rw [getD_replicate_false] at hl; cases hl), fun t _ ht => getD_in (by simpa using ht) (getD_replicate_false _ _)⟩
  exact any_heads n hn hs hc hq hb F d S G hinj hput hstep hdone _ _ t0 _ (by unfold leftH; simp) inv0 hS (fun j _ hl => by rw [getD_replicate_false] at hl; cases hl)
end
end Go.Proofs.YtkaogmdhjcgcdaaDoor
namespace Go.Proofs.YtkaogmdhjcgcdaaDoor
open Go.RowKit Go.Sort

theorem step_call {ops : Array Oper} {o : Oper} {a : Act} {w : World} {K : Act → World → Prop} {Q : Exit → Act → World → Prop} {E : Prop} (hgd : o.guard = none) (f : FuncId) (xs : Array Operand) (ts : Array TypeId)
    (ho : o.op = .call { callee := .value (.func f), args := xs, argTypes := ts }) (vals : Array Value) (hv : xs.map a.eval = vals) (hent : ∀ w, (callFunc f vals).run Tryd.prog w = .ok (.enter f vals) w) (R : Value → World → Prop)
    (hc : Calls Tryd.prog f vals w fun e w' => ∃ v, e = .returned v ∧ R v w') (h : ∀ v w', R v w' → K (a.put o.dst v) w') :
    if Region.wanted o (yielded ops a.tmps) = true then Oper.wp Tryd.prog o a w K Q else E := by
  have hw : Region.wanted o (yielded ops a.tmps) = true := by simp [Region.wanted, hgd]
  rw [if_pos hw]
  unfold Oper.wp
  have he : (execOp a.eval o).run Tryd.prog w = .ok (.enter f vals) w := by
    simp [execOp, ho, resolve, invoke, hv]
    rw [show a.eval (Operand.func f) = _ from rfl]
    simp [Act.eval, Deferred.ofValue, hent]
  rw [he, Oper.upon_enter]
  refine hc.mono ?_
  rintro e w' ⟨v, rfl, hr⟩
  exact h v w' hr
theorem step_call2 {ops : Array Oper} {o : Oper} {a : Act} {w : World} {K : Act → World → Prop} {Q : Exit → Act → World → Prop} {E : Prop} (hgd : o.guard = none) (f : FuncId) (x0 x1 : Operand) (ts : Array TypeId)
    (ho : o.op = .call { callee := .value (.func f), args := #[x0, x1], argTypes := ts }) (v0 v1 : Value) (h0 : a.eval x0 = v0) (h1 : a.eval x1 = v1) (hent : ∀ w, (callFunc f #[v0, v1]).run Tryd.prog w = .ok (.enter f #[v0, v1]) w) (R : Value → World → Prop)
    (hc : Calls Tryd.prog f #[v0, v1] w fun e w' => ∃ v, e = .returned v ∧ R v w') (h : ∀ v w', R v w' → K (a.put o.dst v) w') :
    if Region.wanted o (yielded ops a.tmps) = true then Oper.wp Tryd.prog o a w K Q else E :=
  step_call hgd f #[x0, x1] ts ho #[v0, v1] (by simp [h0, h1]) hent R hc h
theorem step_call1 {ops : Array Oper} {o : Oper} {a : Act} {w : World} {K : Act → World → Prop} {Q : Exit → Act → World → Prop} {E : Prop} (hgd : o.guard = none) (f : FuncId) (x0 : Operand) (ts : Array TypeId)
    (ho : o.op = .call { callee := .value (.func f), args := #[x0], argTypes := ts }) (v0 : Value) (h0 : a.eval x0 = v0) (hent : ∀ w, (callFunc f #[v0]).run Tryd.prog w = .ok (.enter f #[v0]) w) (R : Value → World → Prop)
    (hc : Calls Tryd.prog f #[v0] w fun e w' => ∃ v, e = .returned v ∧ R v w') (h : ∀ v w', R v w' → K (a.put o.dst v) w') :
    if Region.wanted o (yielded ops a.tmps) = true then Oper.wp Tryd.prog o a w K Q else E :=
  step_call hgd f #[x0] ts ho #[v0] (by simp [h0]) hent R hc h
end Go.Proofs.YtkaogmdhjcgcdaaDoor
namespace Go.Proofs.YtkaogmdhjcgcdaaDoor
open Go.RowKit Go.Sort Go.Maps
set_option linter.unusedVariables false
set_option linter.unusedSimpArgs false

theorem OwnsF.none10 (w : World) (B : Nat) : OwnsF w B (.slice none 0 0) [] := ⟨by simp [cellsF], .inl ⟨rfl, rfl⟩⟩
theorem OwnsF.putL10 {B g : Nat} {v : Value} {l : List Fl} : ∀ {w : World} (h : OwnsF w B v l) (hg : g < B) (vs : List Value) (i : Nat), OwnsF (putL w g vs i) B v l
  | w, h, hg, [], _ => h
  | w, h, hg, x :: vs, i => OwnsF.putL10 (h.putlow10 hg i x) hg vs (i + 1)
theorem low_put10 {B g k : Nat} {w w' : World} {x : Value} (h : Below B w w') (hg : B ≤ g) : Below B w (w'.setCell ⟨g, k, none⟩ x) := h.setCell (p := ⟨g, k, none⟩) hg x
theorem ObB.put210 {w : World} {b : Nat} {o : Ob} {v u : Value} (h : ObB w b o v u) (s : Int) : ObB (w.setCell ⟨b, 2, none⟩ (.int .i64 s)) b ⟨o.k, o.l, ⟨s, o.r.l, o.r.b⟩, o.asked, o.got, o.ep⟩ v u where
  c0 := by rw [World.cell?_setCell_other _ _ _ _ (by simp)]; exact h.c0
  c1 := by rw [World.cell?_setCell_other _ _ _ _ (by simp)]; exact h.c1
  c2 := World.cell?_setCell_same _ _ _ h.c2
  c3 := by rw [World.cell?_setCell_other _ _ _ _ (by simp)]; exact h.c3
  c4 := by rw [World.cell?_setCell_other _ _ _ _ (by simp)]; exact h.c4
  c5 := by rw [World.cell?_setCell_other _ _ _ _ (by simp)]; exact h.c5
  c6 := by rw [World.cell?_setCell_other _ _ _ _ (by simp)]; exact h.c6
  c7 := by rw [World.cell?_setCell_other _ _ _ _ (by simp)]; exact h.c7
  fz := fun k => by rw [World.frozen?_setCell]; exact h.fz k
  hi := by rw [World.size_setCell]; exact h.hi
theorem ObB.put310 {w : World} {b : Nat} {o : Ob} {v u : Value} (h : ObB w b o v u) (l : List Fl) (x : Value) : ObB (w.setCell ⟨b, 3, none⟩ x) b ⟨o.k, o.l, ⟨o.r.s, l, o.r.b⟩, o.asked, o.got, o.ep⟩ v x where
  c0 := by rw [World.cell?_setCell_other _ _ _ _ (by simp)]; exact h.c0
  c1 := by rw [World.cell?_setCell_other _ _ _ _ (by simp)]; exact h.c1
  c2 := by rw [World.cell?_setCell_other _ _ _ _ (by simp)]; exact h.c2
  c3 := World.cell?_setCell_same _ _ _ h.c3
  c4 := by rw [World.cell?_setCell_other _ _ _ _ (by simp)]; exact h.c4
  c5 := by rw [World.cell?_setCell_other _ _ _ _ (by simp)]; exact h.c5
  c6 := by rw [World.cell?_setCell_other _ _ _ _ (by simp)]; exact h.c6
  c7 := by rw [World.cell?_setCell_other _ _ _ _ (by simp)]; exact h.c7
  fz := fun k => by rw [World.frozen?_setCell]; exact h.fz k
  hi := by rw [World.size_setCell]; exact h.hi
theorem ObB.put410 {w : World} {b : Nat} {o : Ob} {v u : Value} (h : ObB w b o v u) (t : ByteArray) : ObB (w.setCell ⟨b, 4, none⟩ (.string t)) b ⟨o.k, o.l, ⟨o.r.s, o.r.l, t⟩, o.asked, o.got, o.ep⟩ v u where
  c0 := by rw [World.cell?_setCell_other _ _ _ _ (by simp)]; exact h.c0
  c1 := by rw [World.cell?_setCell_other _ _ _ _ (by simp)]; exact h.c1
  c2 := by rw [World.cell?_setCell_other _ _ _ _ (by simp)]; exact h.c2
  c3 := by rw [World.cell?_setCell_other _ _ _ _ (by simp)]; exact h.c3
  c4 := World.cell?_setCell_same _ _ _ h.c4
  c5 := by rw [World.cell?_setCell_other _ _ _ _ (by simp)]; exact h.c5
  c6 := by rw [World.cell?_setCell_other _ _ _ _ (by simp)]; exact h.c6
  c7 := by rw [World.cell?_setCell_other _ _ _ _ (by simp)]; exact h.c7
  fz := fun k => by rw [World.frozen?_setCell]; exact h.fz k
  hi := by rw [World.size_setCell]; exact h.hi
theorem ObB.put510 {w : World} {b : Nat} {o : Ob} {v u : Value} (h : ObB w b o v u) (n : Int) : ObB (w.setCell ⟨b, 5, none⟩ (.int .i64 n)) b ⟨o.k, o.l, o.r, n, o.got, o.ep⟩ v u where
  c0 := by rw [World.cell?_setCell_other _ _ _ _ (by simp)]; exact h.c0
  c1 := by rw [World.cell?_setCell_other _ _ _ _ (by simp)]; exact h.c1
  c2 := by rw [World.cell?_setCell_other _ _ _ _ (by simp)]; exact h.c2
  c3 := by rw [World.cell?_setCell_other _ _ _ _ (by simp)]; exact h.c3
  c4 := by rw [World.cell?_setCell_other _ _ _ _ (by simp)]; exact h.c4
  c5 := World.cell?_setCell_same _ _ _ h.c5
  c6 := by rw [World.cell?_setCell_other _ _ _ _ (by simp)]; exact h.c6
  c7 := by rw [World.cell?_setCell_other _ _ _ _ (by simp)]; exact h.c7
  fz := fun k => by rw [World.frozen?_setCell]; exact h.fz k
  hi := by rw [World.size_setCell]; exact h.hi
theorem ObB.put610 {w : World} {b : Nat} {o : Ob} {v u : Value} (h : ObB w b o v u) (n : Int) : ObB (w.setCell ⟨b, 6, none⟩ (.int .i64 n)) b ⟨o.k, o.l, o.r, o.asked, n, o.ep⟩ v u where
  c0 := by rw [World.cell?_setCell_other _ _ _ _ (by simp)]; exact h.c0
  c1 := by rw [World.cell?_setCell_other _ _ _ _ (by simp)]; exact h.c1
  c2 := by rw [World.cell?_setCell_other _ _ _ _ (by simp)]; exact h.c2
  c3 := by rw [World.cell?_setCell_other _ _ _ _ (by simp)]; exact h.c3
  c4 := by rw [World.cell?_setCell_other _ _ _ _ (by simp)]; exact h.c4
  c5 := by rw [World.cell?_setCell_other _ _ _ _ (by simp)]; exact h.c5
  c6 := World.cell?_setCell_same _ _ _ h.c6
  c7 := by rw [World.cell?_setCell_other _ _ _ _ (by simp)]; exact h.c7
  fz := fun k => by rw [World.frozen?_setCell]; exact h.fz k
  hi := by rw [World.size_setCell]; exact h.hi
theorem belowE10 {B : Nat} {w w1 w2 : World} {r : Option Nat} (hb : Below B w w1) (hg : w1.grownBy w2 r) (hB : B ≤ w1.heap.size) (hr : ∀ k, r = some k → B ≤ k) : Below B w w2 :=
  ⟨hg.os.trans hb.os, hg.tape.trans hb.tape, hg.output.trans hb.output, Nat.le_trans hb.size hg.size, fun k hk => (hg.block k (by omega) (fun e => by have := hr k e.symm; omega)).trans (hb.block k hk)⟩
theorem renV_no {o : Ob} {r : Rs} {a g : Int} (h : ¬ (obB o = true ∧ rsOk r = true ∧ r.s = 304 ∧ obB (renO o r a g) = true)) : renV o r a g = (noO, false) := by unfold renV; rw [if_neg h]
theorem renV_is {o : Ob} {r : Rs} {a g : Int} (h : obB o = true ∧ rsOk r = true ∧ r.s = 304 ∧ obB (renO o r a g) = true) : renV o r a g = (renO o r a g, true) := by unfold renV; rw [if_pos h]
def frN (o : Ob) (r : Rs) (asked got : Int) (va ua : Option Addr) (vc uc xc g q n0 n2 n3 n5 nr : Nat) (a4 a6 : Option Addr) (c4 c6 : Nat) (u11 u43 u44 u59 : Value) (k : Nat) (L : List Fl) (f : Fl) (t : Nat → Value) : Act := { tmps := #[.agg #[.string o.k, .slice va o.l.length vc, .int .i64 o.r.s, .slice ua o.r.l.length uc, .string o.r.b, .int .i64 o.asked, .int .i64 o.got, .int .i64 o.ep], .agg #[.int .i64 304, .slice (some ⟨g, q, none⟩) r.l.length xc, .string r.b], .int .i64 asked, .int .i64 got, .pointer (some ⟨n0, 0, none⟩), .pointer (some ⟨n0 + 1, 0, none⟩), undef, undef, .pointer (some ⟨n0 + 1 + 1, 0, none⟩), .bool false, .pointer (some ⟨n2, 0, none⟩), u11, .int .i64 (k : Int), .agg #[.string o.k, .slice va o.l.length vc, .int .i64 o.r.s, .slice ua o.r.l.length uc, .string o.r.b, .int .i64 o.asked, .int .i64 o.got, .int .i64 o.ep], .bool true, .bool false, .bool false, .agg #[.int .i64 304, .slice (some ⟨g, q, none⟩) r.l.length xc, .string r.b], .bool true, .bool false, .bool false, .bool false, .pointer (some ⟨n0 + 1, 0, none⟩), .int .i64 304, .bool false, .bool false, undef, .agg #[.string o.k, .slice va o.l.length vc, .int .i64 o.r.s, .slice ua o.r.l.length uc, .string o.r.b, .int .i64 o.asked, .int .i64 o.got, .int .i64 o.ep], .slice (some ⟨n3, 0, none⟩) 0 0, .pointer (some ⟨n0, 1, none⟩), .slice va o.l.length vc, .slice a4 o.l.length c4, .pointer (some ⟨n2, 1, none⟩), .slice (some ⟨n5, 0, none⟩) 0 0, .pointer (some ⟨n0, 2, none⟩), .pointer (some ⟨n0, 3, none⟩), .slice ua o.r.l.length uc, .slice a6 o.r.l.length c6, .int .i64 (k : Int), .pointer (some ⟨n0 + 1, 1, none⟩), .slice (some ⟨g, q, none⟩) r.l.length xc, .int .i64 (r.l.length : Int), .bool true, u43, u44, t 45, t 46, t 47, t 48, t 49, t 50, t 51, t 52, t 53, t 54, t 55, t 56, t 57, t 58, u59, undef, undef, undef, undef, undef, undef, undef, undef, undef, undef, undef, undef, undef, undef, undef, undef, undef, undef], defers := [] }
def dN (i : Nat) : Nat := if i = 0 then 45 else if i = 1 then 46 else if i = 2 then 47 else if i = 3 then 48 else if i = 4 then 49 else if i = 5 then 50 else if i = 6 then 51 else if i = 7 then 52 else if i = 8 then 53 else if i = 9 then 54 else if i = 10 then 55 else if i = 11 then 56 else if i = 12 then 57 else if i = 13 then 58 else i + 5000
def GN (o : Ob) (r : Rs) (asked got : Int) (va ua : Option Addr) (vc uc xc g q n0 n2 n3 n5 nr : Nat) (a4 a6 : Option Addr) (c4 c6 : Nat) (u11 u43 u44 u59 : Value) (k : Nat) (L : List Fl) (f : Fl) (i : Nat) (x : World) (v : Value) : Prop := match i with
  | 0 => v = u11
  | 1 => v = (.pointer (some ⟨n0 + 1, 1, none⟩))
  | 2 => v = (.slice (some ⟨g, q, none⟩) r.l.length xc)
  | 3 => v = (.int .i64 (k : Int))
  | 4 => v = (.pointer (some ⟨g, q + k * 2, none⟩))
  | 5 => v = (.pointer (some ⟨g, q + k * 2, none⟩))
  | 6 => v = (.string f.1)
  | 7 => OwnsF x nr v (wo L f.1)
  | 8 => v = (.pointer (some ⟨n0 + 1, 1, none⟩))
  | 9 => v = (.slice (some ⟨g, q, none⟩) r.l.length xc)
  | 10 => v = (.int .i64 (k : Int))
  | 11 => v = (.pointer (some ⟨g, q + k * 2, none⟩))
  | 12 => v = (.agg #[.string f.1, .string f.2])
  | 13 => ∃ gg, v = .slice (some ⟨gg, 0, none⟩) 1 1 ∧ x.heap[gg]? = some (.cells #[.string f.1, .string f.2] 56 (0, 0))
  | _ => True
theorem GN.keep (o : Ob) (r : Rs) (asked got : Int) (va ua : Option Addr) (vc uc xc g q n0 n2 n3 n5 nr : Nat) (a4 a6 : Option Addr) (c4 c6 : Nat) (u11 u43 u44 u59 : Value) (k : Nat) (L : List Fl) (f : Fl) {x y : World} (hb : Below x.heap.size x y) (j : Nat) (v : Value) (hj : j < 14) (h : GN o r asked got va ua vc uc xc g q n0 n2 n3 n5 nr a4 a6 c4 c6 u11 u43 u44 u59 k L f j x v) : GN o r asked got va ua vc uc xc g q n0 n2 n3 n5 nr a4 a6 c4 c6 u11 u43 u44 u59 k L f j y v := by
  rcases (show j = 0 ∨ j = 1 ∨ j = 2 ∨ j = 3 ∨ j = 4 ∨ j = 5 ∨ j = 6 ∨ j = 7 ∨ j = 8 ∨ j = 9 ∨ j = 10 ∨ j = 11 ∨ j = 12 ∨ j = 13 by omega) with rfl | rfl | rfl | rfl | rfl | rfl | rfl | rfl | rfl | rfl | rfl | rfl | rfl | rfl
  · exact h
  · exact h
  · exact h
  · exact h
  · exact h
  · exact h
  · exact h
  · exact OwnsF.kept h hb
  · exact h
  · exact h
  · exact h
  · exact h
  · exact h
  · obtain ⟨gg, h1, h2⟩ := h; exact ⟨gg, h1, (hb.block gg (Array.getElem?_eq_some_iff.1 h2).1).trans h2⟩
theorem dN_ne {i j : Nat} (hi : i < 14) (hj : j < 14) (h : j ≠ i) : dN j ≠ dN i := by
  rcases (show i = 0 ∨ i = 1 ∨ i = 2 ∨ i = 3 ∨ i = 4 ∨ i = 5 ∨ i = 6 ∨ i = 7 ∨ i = 8 ∨ i = 9 ∨ i = 10 ∨ i = 11 ∨ i = 12 ∨ i = 13 by omega) with rfl | rfl | rfl | rfl | rfl | rfl | rfl | rfl | rfl | rfl | rfl | rfl | rfl | rfl <;> rcases (show j = 0 ∨ j = 1 ∨ j = 2 ∨ j = 3 ∨ j = 4 ∨ j = 5 ∨ j = 6 ∨ j = 7 ∨ j = 8 ∨ j = 9 ∨ j = 10 ∨ j = 11 ∨ j = 12 ∨ j = 13 by omega) with rfl | rfl | rfl | rfl | rfl | rfl | rfl | rfl | rfl | rfl | rfl | rfl | rfl | rfl <;> first | (exact absurd rfl h) | decide
set_option maxRecDepth 100000 in
set_option maxHeartbeats 8000000 in
theorem specRen (o : Ob) (v u : Value) (r : Rs) (x : Value) (asked got : Int) (w : World) (h : ObIn w v u o) (hr : RsIn w x r) :
    Calls Tryd.prog 11 #[obV o v u, rsV r x, .int .i64 asked, .int .i64 got] w fun e w' => ∃ v' u', e = .returned (.tuple #[obV (renV o r asked got).1 v' u', .bool (renV o r asked got).2]) ∧ OwnsF w' w.heap.size v' (renV o r asked got).1.l ∧ OwnsF w' w.heap.size u' (renV o r asked got).1.r.l ∧ (∀ g, v'.ownBlock = some g → u'.ownBlock ≠ some g) ∧ Below w.heap.size w w' := by
  have HN : Hid (¬ (obB o = true ∧ rsOk r = true ∧ r.s = 304 ∧ obB (renO o r asked got) = true) → renV o r asked got = (noO, false)) := renV_no
  have HY : Hid (obB o = true ∧ rsOk r = true ∧ r.s = 304 ∧ obB (renO o r asked got) = true → renV o r asked got = (renO o r asked got, true)) := renV_is
  generalize renV o r asked got = R at HN HY ⊢
  have j1 := fun W hW => specObOk o v u W hW
  have j2 := fun W hW => specRsOk r x W hW
  have K1 : Hid (obB o = true → keyO o.k = true ∧ fldsOk o.l = true ∧ rsOk o.r = true ∧ momB o.asked = true ∧ momB o.got = true) := obB_all
  have K2 : Hid (rsOk r = true → fldsOk r.l = true) := rsOk_flds
  have K3 : Hid (rsOk o.r = true → fldsOk o.r.l = true) := rsOk_flds
  obtain ⟨va, vc, rfl⟩ := h.1.form
  obtain ⟨ua, uc, rfl⟩ := h.2.1.1.form
  obtain ⟨xa, xc, rfl⟩ := hr.1.form
  have Q0 : Hid (ObB (((w.alloc (.cells #[.string o.k, .slice va o.l.length vc, .int .i64 o.r.s, .slice ua o.r.l.length uc, .string o.r.b, .int .i64 o.asked, .int .i64 o.got, .int .i64 o.ep] 33)).alloc (.cells #[.int .i64 r.s, .slice xa r.l.length xc, .string r.b] 31)).alloc (.cells #[.string ⟨#[]⟩, .slice none 0 0, .int .i64 0, .slice none 0 0, .string ⟨#[]⟩, .int .i64 0, .int .i64 0, .int .i64 0] 33)) w.heap.size o (.slice va o.l.length vc) (.slice ua o.r.l.length uc)) := ((ObB.new w o _ _ _).alloc _).alloc _
  have R0 : Hid (RsB (((w.alloc (.cells #[.string o.k, .slice va o.l.length vc, .int .i64 o.r.s, .slice ua o.r.l.length uc, .string o.r.b, .int .i64 o.asked, .int .i64 o.got, .int .i64 o.ep] 33)).alloc (.cells #[.int .i64 r.s, .slice xa r.l.length xc, .string r.b] 31)).alloc (.cells #[.string ⟨#[]⟩, .slice none 0 0, .int .i64 0, .slice none 0 0, .string ⟨#[]⟩, .int .i64 0, .int .i64 0, .int .i64 0] 33)) (w.heap.size + 1) r (.slice xa r.l.length xc)) := by
    have := (RsB.new (w.alloc (.cells #[.string o.k, .slice va o.l.length vc, .int .i64 o.r.s, .slice ua o.r.l.length uc, .string o.r.b, .int .i64 o.asked, .int .i64 o.got, .int .i64 o.ep] 33)) r (.slice xa r.l.length xc) 31).alloc (.cells #[.string ⟨#[]⟩, .slice none 0 0, .int .i64 0, .slice none 0 0, .string ⟨#[]⟩, .int .i64 0, .int .i64 0, .int .i64 0] 33)
    simp only [World.size_alloc] at this
    exact this
  have Z0 : Hid (ObB (((w.alloc (.cells #[.string o.k, .slice va o.l.length vc, .int .i64 o.r.s, .slice ua o.r.l.length uc, .string o.r.b, .int .i64 o.asked, .int .i64 o.got, .int .i64 o.ep] 33)).alloc (.cells #[.int .i64 r.s, .slice xa r.l.length xc, .string r.b] 31)).alloc (.cells #[.string ⟨#[]⟩, .slice none 0 0, .int .i64 0, .slice none 0 0, .string ⟨#[]⟩, .int .i64 0, .int .i64 0, .int .i64 0] 33)) (w.heap.size + 1 + 1) noO (.slice none 0 0) (.slice none 0 0)) := by
    have := ObB.new ((w.alloc (.cells #[.string o.k, .slice va o.l.length vc, .int .i64 o.r.s, .slice ua o.r.l.length uc, .string o.r.b, .int .i64 o.asked, .int .i64 o.got, .int .i64 o.ep] 33)).alloc (.cells #[.int .i64 r.s, .slice xa r.l.length xc, .string r.b] 31)) noO (.slice none 0 0) (.slice none 0 0) 33
    simp only [World.size_alloc] at this
    exact this
  have B0 : Hid (Below w.heap.size w (((w.alloc (.cells #[.string o.k, .slice va o.l.length vc, .int .i64 o.r.s, .slice ua o.r.l.length uc, .string o.r.b, .int .i64 o.asked, .int .i64 o.got, .int .i64 o.ep] 33)).alloc (.cells #[.int .i64 r.s, .slice xa r.l.length xc, .string r.b] 31)).alloc (.cells #[.string ⟨#[]⟩, .slice none 0 0, .int .i64 0, .slice none 0 0, .string ⟨#[]⟩, .int .i64 0, .int .i64 0, .int .i64 0] 33))) := (((Below.refl _ w).alloc (Nat.le_refl _) _).alloc (by simp) _).alloc (by simp; omega) _
  have I0 : Hid (ObIn (((w.alloc (.cells #[.string o.k, .slice va o.l.length vc, .int .i64 o.r.s, .slice ua o.r.l.length uc, .string o.r.b, .int .i64 o.asked, .int .i64 o.got, .int .i64 o.ep] 33)).alloc (.cells #[.int .i64 r.s, .slice xa r.l.length xc, .string r.b] 31)).alloc (.cells #[.string ⟨#[]⟩, .slice none 0 0, .int .i64 0, .slice none 0 0, .string ⟨#[]⟩, .int .i64 0, .int .i64 0, .int .i64 0] 33)) (.slice va o.l.length vc) (.slice ua o.r.l.length uc) o) := h.kept B0.out
  have J0 : Hid (RsIn (((w.alloc (.cells #[.string o.k, .slice va o.l.length vc, .int .i64 o.r.s, .slice ua o.r.l.length uc, .string o.r.b, .int .i64 o.asked, .int .i64 o.got, .int .i64 o.ep] 33)).alloc (.cells #[.int .i64 r.s, .slice xa r.l.length xc, .string r.b] 31)).alloc (.cells #[.string ⟨#[]⟩, .slice none 0 0, .int .i64 0, .slice none 0 0, .string ⟨#[]⟩, .int .i64 0, .int .i64 0, .int .i64 0] 33)) (.slice xa r.l.length xc) r) := hr.kept B0.out
  clear h hr
  generalize hB1 : obB o = b1 at HN HY j1 K1
  generalize hB2 : rsOk r = b2 at HN HY j2 K2
  clear hB1 hB2
  unfold obV rsV
  unfold obV at j1
  unfold rsV at j2
  go_enter Tryd.func11, Tryd.ntmps11
  go_wp2_with fail
  refine (j1 _ I0.out).mono ?_
  rintro e w1 ⟨rfl, hb1⟩
  have Q1 : Hid (ObB w1 w.heap.size o (.slice va o.l.length vc) (.slice ua o.r.l.length uc)) := Q0.out.next hb1
  have R1 : Hid (RsB w1 (w.heap.size + 1) r (.slice xa r.l.length xc)) := R0.out.next hb1
  have Z1 : Hid (ObB w1 (w.heap.size + 1 + 1) noO (.slice none 0 0) (.slice none 0 0)) := Z0.out.next hb1
  have B1 : Hid (Below w.heap.size w w1) := past6 B0.out hb1
  have I1 : Hid (ObIn w1 (.slice va o.l.length vc) (.slice ua o.r.l.length uc) o) := I0.out.kept hb1
  have J1 : Hid (RsIn w1 (.slice xa r.l.length xc) r) := J0.out.kept hb1
  clear hb1 Q0 R0 Z0 B0 I0 J0 j1
  cases b1 with
  | false =>
    have HR : Hid (R = (noO, false)) := HN.out (fun h => by cases h.1)
    obtain ⟨z0, z1, z2, z3, z4, z5, z6, z7, zf, zh⟩ := Z1.out
    have HP : Hid (ObB (putL w1 (w.heap.size + 1 + 1) (obL noO (.slice none 0 0) (.slice none 0 0)) 0) (w.heap.size + 1 + 1) noO (.slice none 0 0) (.slice none 0 0)) := Z1.out.puts noO (.slice none 0 0) (.slice none 0 0)
    have BP : Hid (Below w.heap.size w (putL w1 (w.heap.size + 1 + 1) (obL noO (.slice none 0 0) (.slice none 0 0)) 0)) := putL_below (by omega) _ 0 B1.out
    simp only [noO, noS] at z0 z1 z2 z3 z4 z5 z6 z7
    go_wp2
    obtain ⟨p0, p1, p2, p3, p4, p5, p6, p7, pf, ph⟩ := HP.out
    have bp := BP.out
    simp only [obL, noO, noS, putL, Nat.zero_add, Nat.reduceAdd] at p0 p1 p2 p3 p4 p5 p6 p7 bp
    refine bodyPost_ret (v := .tuple #[obV noO (.slice none 0 0) (.slice none 0 0), .bool false]) (by unfold obV noO noS; simp [results, Tryd.results11, go_sem, p0, p1, p2, p3, p4, p5, p6, p7]) rfl ⟨(.slice none 0 0), (.slice none 0 0), by rw [HR.out]; rfl, by rw [HR.out]; exact OwnsF.none10 _ _, by rw [HR.out]; exact OwnsF.none10 _ _, (fun g h => by cases h), bp⟩
    
  | true =>
    obtain ⟨y0, y1, y2, yf, yh⟩ := R1.out
    go_wp2_with fail
    refine (j2 _ J1.out).mono ?_
    rintro e w2 ⟨rfl, hb2⟩
    have Q2 : Hid (ObB w2 w.heap.size o (.slice va o.l.length vc) (.slice ua o.r.l.length uc)) := Q1.out.next hb2
    have R2 : Hid (RsB w2 (w.heap.size + 1) r (.slice xa r.l.length xc)) := R1.out.next hb2
    have Z2 : Hid (ObB w2 (w.heap.size + 1 + 1) noO (.slice none 0 0) (.slice none 0 0)) := Z1.out.next hb2
    have B2 : Hid (Below w.heap.size w w2) := past6 B1.out hb2
    have I2 : Hid (ObIn w2 (.slice va o.l.length vc) (.slice ua o.r.l.length uc) o) := I1.out.kept hb2
    have J2 : Hid (RsIn w2 (.slice xa r.l.length xc) r) := J1.out.kept hb2
    clear hb2 Q1 R1 Z1 B1 I1 J1 j2 y0 y1 y2 yf yh
    cases b2 with
    | false =>
      have HR : Hid (R = (noO, false)) := HN.out (fun h => by cases h.2.1)
      obtain ⟨z0, z1, z2, z3, z4, z5, z6, z7, zf, zh⟩ := Z2.out
      have HP : Hid (ObB (putL w2 (w.heap.size + 1 + 1) (obL noO (.slice none 0 0) (.slice none 0 0)) 0) (w.heap.size + 1 + 1) noO (.slice none 0 0) (.slice none 0 0)) := Z2.out.puts noO (.slice none 0 0) (.slice none 0 0)
      have BP : Hid (Below w.heap.size w (putL w2 (w.heap.size + 1 + 1) (obL noO (.slice none 0 0) (.slice none 0 0)) 0)) := putL_below (by omega) _ 0 B2.out
      simp only [noO, noS] at z0 z1 z2 z3 z4 z5 z6 z7
      go_wp2
      obtain ⟨p0, p1, p2, p3, p4, p5, p6, p7, pf, ph⟩ := HP.out
      have bp := BP.out
      simp only [obL, noO, noS, putL, Nat.zero_add, Nat.reduceAdd] at p0 p1 p2 p3 p4 p5 p6 p7 bp
      refine bodyPost_ret (v := .tuple #[obV noO (.slice none 0 0) (.slice none 0 0), .bool false]) (by unfold obV noO noS; simp [results, Tryd.results11, go_sem, p0, p1, p2, p3, p4, p5, p6, p7]) rfl ⟨(.slice none 0 0), (.slice none 0 0), by rw [HR.out]; rfl, by rw [HR.out]; exact OwnsF.none10 _ _, by rw [HR.out]; exact OwnsF.none10 _ _, (fun g h => by cases h), bp⟩
      
    | true =>
      obtain ⟨y0, y1, y2, yf, yh⟩ := R2.out
      by_cases h304 : r.s = 304
      · obtain ⟨kk, kf, kr, km1, km2⟩ := K1.out (by decide)
        have kx := K2.out (by decide)
        have kq := K3.out kr
        rw [h304] at y0
        have HN' : Hid (¬ obB (renO o r asked got) = true → R = (noO, false)) := fun hh => HN.out (fun h => hh h.2.2.2)
        have HY' : Hid (obB (renO o r asked got) = true → R = (renO o r asked got, true)) := fun hh => HY.out ⟨by decide, by decide, h304, hh⟩
        clear HN HY K1 K2 K3
        have FK : Hid (keyO o.k = true ∧ fldsOk o.l = true ∧ fldsOk r.l = true ∧ fldsOk o.r.l = true ∧ o.r.b.size ≤ 1048576 ∧ o.k.size ≤ 1048576) := ⟨kk, kf, kx, kq, I2.out.2.1.2, I2.out.2.2⟩
        clear kk kf kr km1 km2 kx kq
        obtain ⟨q0, q1, q2, q3, q4, q5, q6, q7, qf, qh⟩ := Q2.out
        have fv : Hid (Fls w2 (.slice va o.l.length vc) o.l ∧ Solid (.slice va o.l.length vc)) := ⟨I2.out.1.1, I2.out.1.2.2.2⟩
        have fu : Hid (Fls w2 (.slice ua o.r.l.length uc) o.r.l ∧ Solid (.slice ua o.r.l.length uc)) := ⟨I2.out.2.1.1.1, I2.out.2.1.1.2.2.2⟩
        have fx : Hid (Fls w2 (.slice xa r.l.length xc) r.l) := J2.out.1.1
        have hl1 : o.l.length ≤ 30 := (fldsOk_parts FK.out.2.1).1
        have hl2 : o.r.l.length ≤ 30 := (fldsOk_parts FK.out.2.2.2.1).1
        have hl3 : r.l.length ≤ 30 := (fldsOk_parts FK.out.2.2.1).1
        have O2 : Hid (ObB (w2.alloc (.cells #[.string o.k, .slice va o.l.length vc, .int .i64 o.r.s, .slice ua o.r.l.length uc, .string o.r.b, .int .i64 o.asked, .int .i64 o.got, .int .i64 o.ep] 33)) w2.heap.size o (.slice va o.l.length vc) (.slice ua o.r.l.length uc)) := ObB.new w2 o _ _ _
        have X3 : Hid (Below w2.heap.size w2 (w2.alloc (.cells #[.string o.k, .slice va o.l.length vc, .int .i64 o.r.s, .slice ua o.r.l.length uc, .string o.r.b, .int .i64 o.asked, .int .i64 o.got, .int .i64 o.ep] 33))) := (Below.refl _ w2).alloc (Nat.le_refl _) _
        have hz2 : w.heap.size + 1 + 1 < w2.heap.size := Z2.out.hi
        have l3 : w2.heap.size < (w2.alloc (.cells #[.string o.k, .slice va o.l.length vc, .int .i64 o.r.s, .slice ua o.r.l.length uc, .string o.r.b, .int .i64 o.asked, .int .i64 o.got, .int .i64 o.ep] 33)).heap.size := by simp
        clear I2 J2
        go_upto_region 4 with fail
        generalize w2.alloc (.cells #[.string o.k, .slice va o.l.length vc, .int .i64 o.r.s, .slice ua o.r.l.length uc, .string o.r.b, .int .i64 o.asked, .int .i64 o.got, .int .i64 o.ep] 33) = w3 at O2 X3 l3 ⊢
        clear q0 q1 q2 q3 q4 q5 q6 q7 qf qh y0 y1 y2 yf yh
        have l0 : w.heap.size < w3.heap.size := by omega
        obtain ⟨q0, q1, q2, q3, q4, q5, q6, q7, qf, qh⟩ := Q2.out.next X3.out
        obtain ⟨o0, o1, o2, o3, o4, o5, o6, o7, of, oh⟩ := O2.out
        go_upto_region 5 with (at_builtin; go_loud (refine wpList_catX _ rfl (.tmp 28) (.tmp 30) rfl w3.heap.size _ (.slice va o.l.length vc) [] o.l rfl (OwnsF.born w3) rfl ((fv.out.1.kept X3.out).kept ((Below.refl _ w3).alloc (Nat.le_refl _) _)) fv.out.2 (by simp; omega) (by simp) ?_; intro v4 w4 ho4 hg4; have X4 : Hid (Below w3.heap.size w3 w4) := belowE10 ((Below.refl _ w3).alloc (Nat.le_refl _) _) hg4 (by simp) (by intro k hk; cases hk; exact Nat.le_refl _); have V4' : OwnsF w4 w3.heap.size v4 o.l := ho4; obtain ⟨a4, c4, rfl, _, _⟩ := V4'.form; have V4 : Hid (OwnsF w4 w3.heap.size (.slice a4 o.l.length c4) o.l) := V4'; clear V4' hg4 ho4 o0 o1 o2 o3 o4 o5 o6 o7 of oh q0 q1 q2 q3 q4 q5 q6 q7 qf qh; obtain ⟨o0, o1, o2, o3, o4, o5, o6, o7, of, oh⟩ := O2.out.next X4.out))
        have O5 : Hid (ObB (w4.setCell ⟨w2.heap.size, 1, none⟩ (.slice a4 o.l.length c4)) w2.heap.size o (.slice a4 o.l.length c4) (.slice ua o.r.l.length uc)) := (O2.out.next X4.out).put1 _
        have X5 : Hid (Below w2.heap.size w2 (w4.setCell ⟨w2.heap.size, 1, none⟩ (.slice a4 o.l.length c4))) := low_put10 (X3.out.trans (X4.out.mono (by omega))) (Nat.le_refl _)
        have V5 : Hid (OwnsF (w4.setCell ⟨w2.heap.size, 1, none⟩ (.slice a4 o.l.length c4)) w3.heap.size (.slice a4 o.l.length c4) o.l) := V4.out.putlow10 l3 1 _
        have l5 : w2.heap.size < (w4.setCell ⟨w2.heap.size, 1, none⟩ (.slice a4 o.l.length c4)).heap.size := O5.out.hi
        have m5 : w3.heap.size ≤ (w4.setCell ⟨w2.heap.size, 1, none⟩ (.slice a4 o.l.length c4)).heap.size := by rw [World.size_setCell]; exact X4.out.size
        clear o0 o1 o2 o3 o4 o5 o6 o7 of oh
        generalize w4.setCell ⟨w2.heap.size, 1, none⟩ (.slice a4 o.l.length c4) = w5 at O5 X5 V5 l5 m5 ⊢
        clear X3 X4 V4 O2 l0
        have l0 : w.heap.size < w5.heap.size := by omega
        have l1 : w.heap.size + 1 < w5.heap.size := by omega
        obtain ⟨q0, q1, q2, q3, q4, q5, q6, q7, qf, qh⟩ := Q2.out.next X5.out
        go_upto_region 6 with (at_builtin; refine wpList_catX _ rfl (.tmp 33) (.tmp 36) rfl w5.heap.size _ (.slice ua o.r.l.length uc) [] o.r.l rfl (OwnsF.born w5) rfl ((fu.out.1.kept X5.out).kept ((Below.refl _ w5).alloc (Nat.le_refl _) _)) fu.out.2 (by simp; omega) (by simp) ?_; intro v6 w6 ho6 hg6; have X6 : Hid (Below w5.heap.size w5 w6) := belowE10 ((Below.refl _ w5).alloc (Nat.le_refl _) _) hg6 (by simp) (by intro k hk; cases hk; exact Nat.le_refl _); have V6' : OwnsF w6 w5.heap.size v6 o.r.l := ho6; obtain ⟨a6, c6, rfl, _, _⟩ := V6'.form; have V6 : Hid (OwnsF w6 w5.heap.size (.slice a6 o.r.l.length c6) o.r.l) := V6'; clear V6' hg6 ho6)
        clear q0 q1 q2 q3 q4 q5 q6 q7 qf qh
        go_wp2_with fail
        go_loopw [11, 12] (fun u i wr => ∃ (k : Nat), k ≤ r.l.length ∧ i = .int .i64 k ∧ Hid (OwnsF wr w5.heap.size u (ovrL o.r.l (r.l.take k))) ∧ Hid (Below w5.heap.size w5 wr)) (fun _ i _ => r.l.length - (intOf i).toNat)
        case atStart => exact ⟨0, Nat.zero_le _, rfl, V6, X6⟩
        case round =>
          clear V6 X6
          obtain ⟨k, hk, rfl, hown, hbw⟩ := hrel
          have X7 : Hid (Below w2.heap.size w2 wr) := X5.out.trans (hbw.out.mono X5.out.size)
          obtain ⟨y0, y1, y2, yf, yh⟩ := R2.out.next X7.out
          by_cases hlt : k < r.l.length
          · obtain ⟨xa', xc', exx, _, _, hx3⟩ := fx.out
            simp only [Value.slice.injEq, true_and] at exx
            obtain ⟨rfl, rfl⟩ := exx
            obtain ⟨g, q, rfl, hg, hcl⟩ := hx3 (by omega)
            have e1 := (X7.out.cell (p := ⟨g, q + k * 2, none⟩) hg).trans (hcl k hlt).1
            have e2 := (X7.out.cell (p := ⟨g, q + k * 2 + 1, none⟩) hg).trans (hcl k hlt).2
            have HNX : Hid (ovrL o.r.l (r.l.take (k + 1)) = wo (ovrL o.r.l (r.l.take k)) r.l[k].1 ++ [r.l[k]]) := ovrL_next _ hlt
            have hsz := ovrL_size (r.l.take k) o.r.l
            have hmm := ovrL_mem (r.l.take k) o.r.l
            have hLl : (ovrL o.r.l (r.l.take k)).length ≤ 900000 := by
              have h1 := hsz.1
              rw [List.length_take] at h1
              omega
            have hLs : ∀ f ∈ ovrL o.r.l (r.l.take k), f.1.size ≤ 1048576 ∧ f.2.size ≤ 1048576 := fun f hf => by
              have h1 : fldOk f = true := by
                rcases hmm f hf with h1 | h1
                · exact (fldsOk_parts FK.out.2.2.2.1).2 f h1
                · exact (fldsOk_parts FK.out.2.2.1).2 f (List.mem_of_mem_take h1)
              have h2 := fldOk_size h1
              omega
            have hfn : r.l[k].1.size ≤ 1048576 := by
              have h2 := fldOk_size ((fldsOk_parts FK.out.2.2.1).2 r.l[k] (List.getElem_mem hlt))
              omega
            have hlr : k < r.l.length := hlt
            clear hsz hmm hcl
            generalize r.l[k] = f at e1 e2 HNX hfn
            generalize ovrL o.r.l (r.l.take k) = L at hown HNX hLl hLs
            have l1r : w.heap.size + 1 < wr.heap.size := yh
            have lgr : g < wr.heap.size := by have := X7.out.size; omega
            go_upto_region 9 with fail
            refine region_heads 14 mixed (by decide) (by kernel_rfl) (by kernel_rfl) (by kernel_rfl) (by kernel_rfl) (frN o r asked got va ua vc uc xc g q w.heap.size w2.heap.size w3.heap.size w5.heap.size wr.heap.size a4 a6 c4 c6 u11 u43 u44 u59 k L f) dN (Below wr.heap.size wr) (GN o r asked got va ua vc uc xc g q w.heap.size w2.heap.size w3.heap.size w5.heap.size wr.heap.size a4 a6 c4 c6 u11 u43 u44 u59 k L f) (fun i j hi hj h => dN_ne hi hj h) ?put (fun i => if i = 45 then u45 else if i = 46 then u46 else if i = 47 then u47 else if i = 48 then u48 else if i = 49 then u49 else if i = 50 then u50 else if i = 51 then u51 else if i = 52 then u52 else if i = 53 then u53 else if i = 54 then u54 else if i = 55 then u55 else if i = 56 then u56 else if i = 57 then u57 else if i = 58 then u58 else undef) rfl ?hS ?step ?done
            case put =>
              intro i o hi ho t v
              rcases (show i = 0 ∨ i = 1 ∨ i = 2 ∨ i = 3 ∨ i = 4 ∨ i = 5 ∨ i = 6 ∨ i = 7 ∨ i = 8 ∨ i = 9 ∨ i = 10 ∨ i = 11 ∨ i = 12 ∨ i = 13 by omega) with rfl | rfl | rfl | rfl | rfl | rfl | rfl | rfl | rfl | rfl | rfl | rfl | rfl | rfl
              all_goals
                obtain rfl := Option.some.inj ho
                rfl
            case step =>
              intro i o hi ho t x hS hdep K hK
              rcases (show i = 0 ∨ i = 1 ∨ i = 2 ∨ i = 3 ∨ i = 4 ∨ i = 5 ∨ i = 6 ∨ i = 7 ∨ i = 8 ∨ i = 9 ∨ i = 10 ∨ i = 11 ∨ i = 12 ∨ i = 13 by omega) with rfl | rfl | rfl | rfl | rfl | rfl | rfl | rfl | rfl | rfl | rfl | rfl | rfl | rfl
              all_goals obtain rfl := Option.some.inj ho
              · have HK : Hid (K ((frN o r asked got va ua vc uc xc g q w.heap.size w2.heap.size w3.heap.size w5.heap.size wr.heap.size a4 a6 c4 c6 u11 u43 u44 u59 k L f t).put (some 45) u11) x) := hK _ _ hS (fun j u hj hne h => h) rfl
                have h2 := HK.out
                unfold frN at h2 ⊢
                go_simp
                simpa [Act.put, Act.put] using h2
              · have HK : Hid (K ((frN o r asked got va ua vc uc xc g q w.heap.size w2.heap.size w3.heap.size w5.heap.size wr.heap.size a4 a6 c4 c6 u11 u43 u44 u59 k L f t).put (some 46) (.pointer (some ⟨w.heap.size + 1, 1, none⟩))) x) := hK _ _ hS (fun j u hj hne h => h) rfl
                have h2 := HK.out
                unfold frN at h2 ⊢
                go_simp
                simpa [Act.put, Act.put] using h2
              · have e1 : t 46 = (.pointer (some ⟨w.heap.size + 1, 1, none⟩)) := hdep { on := 1, ground := Ground.data } (by simp) rfl
                have c1 : x.cell? ⟨w.heap.size + 1, 1, none⟩ = some (.slice (some ⟨g, q, none⟩) r.l.length xc) := (hS.cell (p := ⟨w.heap.size + 1, 1, none⟩) l1r).trans y1
                have HK : Hid (K ((frN o r asked got va ua vc uc xc g q w.heap.size w2.heap.size w3.heap.size w5.heap.size wr.heap.size a4 a6 c4 c6 u11 u43 u44 u59 k L f t).put (some 47) (.slice (some ⟨g, q, none⟩) r.l.length xc)) x) := hK _ _ hS (fun j u hj hne h => h) rfl
                have h2 := HK.out
                unfold frN at h2 ⊢
                go_simp
                simpa [Act.put, e1, c1] using h2
              · have HK : Hid (K ((frN o r asked got va ua vc uc xc g q w.heap.size w2.heap.size w3.heap.size w5.heap.size wr.heap.size a4 a6 c4 c6 u11 u43 u44 u59 k L f t).put (some 48) (.int .i64 (k : Int))) x) := hK _ _ hS (fun j u hj hne h => h) rfl
                have h2 := HK.out
                unfold frN at h2 ⊢
                go_simp
                simpa [Act.put, Act.put] using h2
              · have e2 : t 47 = (.slice (some ⟨g, q, none⟩) r.l.length xc) := hdep { on := 2, ground := Ground.data } (by simp) rfl
                have e3 : t 48 = (.int .i64 (k : Int)) := hdep { on := 3, ground := Ground.data } (by simp) rfl
                have hkI : (k : Int) < (r.l.length : Int) := by omega
                have hk0 : ¬ (k : Int) < 0 := by omega
                have HK : Hid (K ((frN o r asked got va ua vc uc xc g q w.heap.size w2.heap.size w3.heap.size w5.heap.size wr.heap.size a4 a6 c4 c6 u11 u43 u44 u59 k L f t).put (some 49) (.pointer (some ⟨g, q + k * 2, none⟩))) x) := hK _ _ hS (fun j u hj hne h => h) rfl
                have h2 := HK.out
                unfold frN at h2 ⊢
                go_simp
                simpa [Act.put, e2, e3, hkI, hk0] using h2
              · have e4 : t 49 = (.pointer (some ⟨g, q + k * 2, none⟩)) := hdep { on := 4, ground := Ground.data } (by simp) rfl
                have HK : Hid (K ((frN o r asked got va ua vc uc xc g q w.heap.size w2.heap.size w3.heap.size w5.heap.size wr.heap.size a4 a6 c4 c6 u11 u43 u44 u59 k L f t).put (some 50) (.pointer (some ⟨g, q + k * 2, none⟩))) x) := hK _ _ hS (fun j u hj hne h => h) rfl
                have h2 := HK.out
                unfold frN at h2 ⊢
                go_simp
                simpa [Act.put, e4] using h2
              · have e5 : t 50 = (.pointer (some ⟨g, q + k * 2, none⟩)) := hdep { on := 5, ground := Ground.data } (by simp) rfl
                have c2 : x.cell? ⟨g, q + k * 2, none⟩ = some (.string f.1) := (hS.cell (p := ⟨g, q + k * 2, none⟩) lgr).trans e1
                have HK : Hid (K ((frN o r asked got va ua vc uc xc g q w.heap.size w2.heap.size w3.heap.size w5.heap.size wr.heap.size a4 a6 c4 c6 u11 u43 u44 u59 k L f t).put (some 51) (.string f.1)) x) := hK _ _ hS (fun j u hj hne h => h) rfl
                have h2 := HK.out
                unfold frN at h2 ⊢
                go_simp
                simpa [Act.put, e5, c2] using h2
              · have e0 : t 45 = u11 := hdep { on := 0, ground := Ground.data } (by simp) rfl
                have e6 : t 51 = .string f.1 := hdep { on := 6, ground := Ground.data } (by simp) rfl
                refine step_call2 rfl 30 (.tmp 45) (.tmp 51) _ rfl u11 (.string f.1) e0 e6 (Go.Proofs.enters_of Tryd.func30 (by kernel_rfl) rfl _) (fun v y => OwnsF y wr.heap.size v (wo L f.1) ∧ Below x.heap.size x y) ((specWoN u11 L f.1 x (hown.out.fls.kept hS) hLl hLs hfn).mono ?_) ?_
                · rintro e y ⟨v, h0, h1, h2⟩
                  exact ⟨v, h0, h1.low hS.size, h2⟩
                · rintro v y ⟨h1, h2⟩
                  exact hK v y (hS.trans (h2.mono hS.size)) (fun j u hj hne h => GN.keep o r asked got va ua vc uc xc g q w.heap.size w2.heap.size w3.heap.size w5.heap.size wr.heap.size a4 a6 c4 c6 u11 u43 u44 u59 k L f h2 j u hj h) h1
              · have HK : Hid (K ((frN o r asked got va ua vc uc xc g q w.heap.size w2.heap.size w3.heap.size w5.heap.size wr.heap.size a4 a6 c4 c6 u11 u43 u44 u59 k L f t).put (some 53) (.pointer (some ⟨w.heap.size + 1, 1, none⟩))) x) := hK _ _ hS (fun j u hj hne h => h) rfl
                have h2 := HK.out
                unfold frN at h2 ⊢
                go_simp
                simpa [Act.put, Act.put] using h2
              · have e8 : t 53 = (.pointer (some ⟨w.heap.size + 1, 1, none⟩)) := hdep { on := 8, ground := Ground.data } (by simp) rfl
                have c1 : x.cell? ⟨w.heap.size + 1, 1, none⟩ = some (.slice (some ⟨g, q, none⟩) r.l.length xc) := (hS.cell (p := ⟨w.heap.size + 1, 1, none⟩) l1r).trans y1
                have HK : Hid (K ((frN o r asked got va ua vc uc xc g q w.heap.size w2.heap.size w3.heap.size w5.heap.size wr.heap.size a4 a6 c4 c6 u11 u43 u44 u59 k L f t).put (some 54) (.slice (some ⟨g, q, none⟩) r.l.length xc)) x) := hK _ _ hS (fun j u hj hne h => h) rfl
                have h2 := HK.out
                unfold frN at h2 ⊢
                go_simp
                simpa [Act.put, e8, c1] using h2
              · have HK : Hid (K ((frN o r asked got va ua vc uc xc g q w.heap.size w2.heap.size w3.heap.size w5.heap.size wr.heap.size a4 a6 c4 c6 u11 u43 u44 u59 k L f t).put (some 55) (.int .i64 (k : Int))) x) := hK _ _ hS (fun j u hj hne h => h) rfl
                have h2 := HK.out
                unfold frN at h2 ⊢
                go_simp
                simpa [Act.put, Act.put] using h2
              · have e9 : t 54 = (.slice (some ⟨g, q, none⟩) r.l.length xc) := hdep { on := 9, ground := Ground.data } (by simp) rfl
                have e10 : t 55 = (.int .i64 (k : Int)) := hdep { on := 10, ground := Ground.data } (by simp) rfl
                have hkI : (k : Int) < (r.l.length : Int) := by omega
                have hk0 : ¬ (k : Int) < 0 := by omega
                have HK : Hid (K ((frN o r asked got va ua vc uc xc g q w.heap.size w2.heap.size w3.heap.size w5.heap.size wr.heap.size a4 a6 c4 c6 u11 u43 u44 u59 k L f t).put (some 56) (.pointer (some ⟨g, q + k * 2, none⟩))) x) := hK _ _ hS (fun j u hj hne h => h) rfl
                have h2 := HK.out
                unfold frN at h2 ⊢
                go_simp
                simpa [Act.put, e9, e10, hkI, hk0] using h2
              · have e11 : t 56 = (.pointer (some ⟨g, q + k * 2, none⟩)) := hdep { on := 11, ground := Ground.data } (by simp) rfl
                have c2 : x.cell? ⟨g, q + k * 2, none⟩ = some (.string f.1) := (hS.cell (p := ⟨g, q + k * 2, none⟩) lgr).trans e1
                have c3 : x.cell? ⟨g, q + k * 2 + 1, none⟩ = some (.string f.2) := (hS.cell (p := ⟨g, q + k * 2 + 1, none⟩) lgr).trans e2
                have HK : Hid (K ((frN o r asked got va ua vc uc xc g q w.heap.size w2.heap.size w3.heap.size w5.heap.size wr.heap.size a4 a6 c4 c6 u11 u43 u44 u59 k L f t).put (some 57) (.agg #[.string f.1, .string f.2])) x) := hK _ _ hS (fun j u hj hne h => h) rfl
                have h2 := HK.out
                unfold frN at h2 ⊢
                go_simp
                simpa [Act.put, e11, c2, c3] using h2
              · have e12 : t 57 = .agg #[.string f.1, .string f.2] := hdep { on := 12, ground := Ground.data } (by simp) rfl
                have hba := (Below.refl x.heap.size x).alloc (Nat.le_refl _) (.cells #[.string f.1, .string f.2] 56)
                have HK : Hid (K ((frN o r asked got va ua vc uc xc g q w.heap.size w2.heap.size w3.heap.size w5.heap.size wr.heap.size a4 a6 c4 c6 u11 u43 u44 u59 k L f t).put (some 58) (.slice (some ⟨x.heap.size, 0, none⟩) 1 1)) (x.alloc (.cells #[.string f.1, .string f.2] 56))) := hK _ _ (hS.trans (hba.mono hS.size)) (fun j u hj hne h => GN.keep o r asked got va ua vc uc xc g q w.heap.size w2.heap.size w3.heap.size w5.heap.size wr.heap.size a4 a6 c4 c6 u11 u43 u44 u59 k L f hba j u hj h) ⟨x.heap.size, rfl, newAt x _⟩
                have h2 := HK.out
                unfold frN at h2 ⊢
                go_simp
                simpa [Act.put, e12] using h2
            case hS => exact ⟨rfl, rfl, rfl, Nat.le_refl _, fun _ _ => rfl⟩
            case done =>
              intro t x hS hG
              have h52 : OwnsF x wr.heap.size (t 52) (wo L f.1) := hG 7 (by decide)
              obtain ⟨gg, e58, h58⟩ : ∃ gg, t 58 = .slice (some ⟨gg, 0, none⟩) 1 1 ∧ x.heap[gg]? = some (.cells #[.string f.1, .string f.2] 56 (0, 0)) := hG 13 (by decide)
              have hwl := wo_length L f.1
              have hF : Fls x (.slice (some ⟨gg, 0, none⟩) 1 1) [f] := ⟨_, 1, rfl, Nat.le_refl _, by unfold maxLen; decide, fun _ => ⟨gg, 0, rfl, (Array.getElem?_eq_some_iff.1 h58).1, fun j hj => by
                obtain rfl : j = 0 := by simpa using hj
                exact ⟨rowCell h58, rowCell h58⟩⟩⟩
              have hB5 : Below w5.heap.size w5 x := hbw.out.trans (hS.mono hbw.out.size)
              show wpList Tryd.prog _ _ [_, _] _ x
              unfold frN
              refine wpList_catX x rfl (.tmp 52) (.tmp 58) rfl w5.heap.size (t 52) _ (wo L f.1) [f] rfl (h52.low hbw.out.size) e58 hF (fun n c e => by cases e) (by simp; omega) hB5.size ?_
              intro v8 w8 ho8 hg8
              have hB8 : Hid (Below w5.heap.size w5 w8) := belowE10 hB5 hg8 hB5.size (h52.low hbw.out.size).from
              have hO8 : Hid (OwnsF w8 w5.heap.size v8 (ovrL o.r.l (r.l.take (k + 1)))) := by show OwnsF _ _ _ _; rw [HNX.out]; exact ho8
              clear ho8 hg8 hG hS h52 h58 hF hB5 e58 hown hbw y0 y1 y2 yf e1 e2
              go_wp2
              go_roundw
              case rel => exact ⟨k + 1, by omega, by go_num, hO8, hB8⟩
              case measure => simp [intOf]; omega
          · obtain rfl : k = r.l.length := by omega
            rw [List.take_length] at hown
            have X8 := hbw.out
            obtain ⟨q0, q1, q2, q3, q4, q5, q6, q7, qf, qh⟩ := Q2.out.next X7.out
            have O8 : Hid (ObB wr w2.heap.size o (.slice a4 o.l.length c4) (.slice ua o.r.l.length uc)) := O5.out.next hbw.out
            have V8 : Hid (OwnsF wr w3.heap.size (.slice a4 o.l.length c4) o.l) := V5.out.kept hbw.out
            have Z8 : Hid (ObB wr (w.heap.size + 1 + 1) noO (.slice none 0 0) (.slice none 0 0)) := Z2.out.next X7.out
            obtain ⟨o0, o1, o2, o3, o4, o5, o6, o7, of, oh⟩ := O8.out
            obtain ⟨au, cu, rfl, _, _⟩ := hown.out.form
            have hub : ∀ b, (Value.slice au (ovrL o.r.l r.l).length cu).ownBlock = some b → w5.heap.size ≤ b := hown.out.from
            have O9 : Hid (ObB (((((wr.setCell ⟨w2.heap.size, 2, none⟩ (.int .i64 o.r.s)).setCell ⟨w2.heap.size, 3, none⟩ (.slice au (ovrL o.r.l r.l).length cu)).setCell ⟨w2.heap.size, 4, none⟩ (.string o.r.b)).setCell ⟨w2.heap.size, 5, none⟩ (.int .i64 asked)).setCell ⟨w2.heap.size, 6, none⟩ (.int .i64 got)) w2.heap.size (renO o r asked got) (.slice a4 o.l.length c4) (.slice au (ovrL o.r.l r.l).length cu)) := ((((O8.out.put210 o.r.s).put310 (ovrL o.r.l r.l) (.slice au (ovrL o.r.l r.l).length cu)).put410 o.r.b).put510 asked).put610 got
            have V9 : Hid (OwnsF (((((wr.setCell ⟨w2.heap.size, 2, none⟩ (.int .i64 o.r.s)).setCell ⟨w2.heap.size, 3, none⟩ (.slice au (ovrL o.r.l r.l).length cu)).setCell ⟨w2.heap.size, 4, none⟩ (.string o.r.b)).setCell ⟨w2.heap.size, 5, none⟩ (.int .i64 asked)).setCell ⟨w2.heap.size, 6, none⟩ (.int .i64 got)) w3.heap.size (.slice a4 o.l.length c4) o.l) := ((((V8.out.putlow10 l3 2 _).putlow10 l3 3 _).putlow10 l3 4 _).putlow10 l3 5 _).putlow10 l3 6 _
            have U9 : Hid (OwnsF (((((wr.setCell ⟨w2.heap.size, 2, none⟩ (.int .i64 o.r.s)).setCell ⟨w2.heap.size, 3, none⟩ (.slice au (ovrL o.r.l r.l).length cu)).setCell ⟨w2.heap.size, 4, none⟩ (.string o.r.b)).setCell ⟨w2.heap.size, 5, none⟩ (.int .i64 asked)).setCell ⟨w2.heap.size, 6, none⟩ (.int .i64 got)) w5.heap.size (.slice au (ovrL o.r.l r.l).length cu) (ovrL o.r.l r.l)) := ((((hown.out.putlow10 l5 2 _).putlow10 l5 3 _).putlow10 l5 4 _).putlow10 l5 5 _).putlow10 l5 6 _
            have Z9 : Hid (ObB (((((wr.setCell ⟨w2.heap.size, 2, none⟩ (.int .i64 o.r.s)).setCell ⟨w2.heap.size, 3, none⟩ (.slice au (ovrL o.r.l r.l).length cu)).setCell ⟨w2.heap.size, 4, none⟩ (.string o.r.b)).setCell ⟨w2.heap.size, 5, none⟩ (.int .i64 asked)).setCell ⟨w2.heap.size, 6, none⟩ (.int .i64 got)) (w.heap.size + 1 + 1) noO (.slice none 0 0) (.slice none 0 0)) := ((((Z8.out.far (by omega) _).far (by omega) _).far (by omega) _).far (by omega) _).far (by omega) _
            have B9 : Hid (Below w.heap.size w (((((wr.setCell ⟨w2.heap.size, 2, none⟩ (.int .i64 o.r.s)).setCell ⟨w2.heap.size, 3, none⟩ (.slice au (ovrL o.r.l r.l).length cu)).setCell ⟨w2.heap.size, 4, none⟩ (.string o.r.b)).setCell ⟨w2.heap.size, 5, none⟩ (.int .i64 asked)).setCell ⟨w2.heap.size, 6, none⟩ (.int .i64 got))) := low_put10 (low_put10 (low_put10 (low_put10 (low_put10 (B2.out.trans (X7.out.mono B2.out.size)) (by omega)) (by omega)) (by omega)) (by omega)) (by omega)
            clear O8 Z8 V8 hown hbw X8
            go_upto_region 13 with fail
            generalize (((((wr.setCell ⟨w2.heap.size, 2, none⟩ (.int .i64 o.r.s)).setCell ⟨w2.heap.size, 3, none⟩ (.slice au (ovrL o.r.l r.l).length cu)).setCell ⟨w2.heap.size, 4, none⟩ (.string o.r.b)).setCell ⟨w2.heap.size, 5, none⟩ (.int .i64 asked)).setCell ⟨w2.heap.size, 6, none⟩ (.int .i64 got)) = w9 at O9 V9 U9 Z9 B9 ⊢
            clear q0 q1 q2 q3 q4 q5 q6 q7 qf qh o0 o1 o2 o3 o4 o5 o6 o7 of oh y0 y1 y2 yf yh
            have hsz := ovrL_size r.l o.r.l
            have hs1 := szL_flds FK.out.2.1
            have hs2 := szL_flds FK.out.2.2.1
            have hs3 := szL_flds FK.out.2.2.2.1
            have I9 : Hid (ObIn w9 (.slice a4 o.l.length c4) (.slice au (ovrL o.r.l r.l).length cu) (renO o r asked got)) := ⟨V9.out.fits10 (by show szL o.l ≤ _; omega) (by show o.l.length ≤ _; omega), ⟨U9.out.fits10 (by show szL (ovrL o.r.l r.l) ≤ _; omega) (by show (ovrL o.r.l r.l).length ≤ _; omega), FK.out.2.2.2.2.1⟩, FK.out.2.2.2.2.2⟩
            have hj := specObOk (renO o r asked got) (.slice a4 o.l.length c4) (.slice au (ovrL o.r.l r.l).length cu) w9 I9.out
            generalize obB (renO o r asked got) = b9 at hj HN' HY'
            unfold obV at hj
            obtain ⟨o0, o1, o2, o3, o4, o5, o6, o7, of, oh⟩ := O9.out
            simp only [renO] at hj o0 o1 o2 o3 o4 o5 o6 o7
            go_wp2_with fail
            refine hj.mono ?_
            rintro e w10 ⟨rfl, hb10⟩
            have OX : Hid (ObB w10 w2.heap.size (renO o r asked got) (.slice a4 o.l.length c4) (.slice au (ovrL o.r.l r.l).length cu)) := O9.out.next hb10
            have VX : Hid (OwnsF w10 w3.heap.size (.slice a4 o.l.length c4) o.l) := V9.out.kept hb10
            have UX : Hid (OwnsF w10 w5.heap.size (.slice au (ovrL o.r.l r.l).length cu) (ovrL o.r.l r.l)) := U9.out.kept hb10
            have ZX : Hid (ObB w10 (w.heap.size + 1 + 1) noO (.slice none 0 0) (.slice none 0 0)) := Z9.out.next hb10
            have BX : Hid (Below w.heap.size w w10) := past6 B9.out hb10
            clear hb10 O9 V9 U9 Z9 B9 I9 hj o0 o1 o2 o3 o4 o5 o6 o7 of oh hsz hs1 hs2 hs3
            cases b9 with
            | false =>
              have HR : Hid (R = (noO, false)) := HN'.out (by decide)
              obtain ⟨z0, z1, z2, z3, z4, z5, z6, z7, zf, zh⟩ := ZX.out
              have HP : Hid (ObB (putL w10 (w.heap.size + 1 + 1) (obL noO (.slice none 0 0) (.slice none 0 0)) 0) (w.heap.size + 1 + 1) noO (.slice none 0 0) (.slice none 0 0)) := ZX.out.puts noO (.slice none 0 0) (.slice none 0 0)
              have BP : Hid (Below w.heap.size w (putL w10 (w.heap.size + 1 + 1) (obL noO (.slice none 0 0) (.slice none 0 0)) 0)) := putL_below (by omega) _ 0 BX.out
              simp only [noO, noS] at z0 z1 z2 z3 z4 z5 z6 z7
              go_wp2
              obtain ⟨p0, p1, p2, p3, p4, p5, p6, p7, pf, ph⟩ := HP.out
              have bp := BP.out
              simp only [obL, noO, noS, putL, Nat.zero_add, Nat.reduceAdd] at p0 p1 p2 p3 p4 p5 p6 p7 bp
              refine bodyPost_ret (v := .tuple #[obV noO (.slice none 0 0) (.slice none 0 0), .bool false]) (by unfold obV noO noS; simp [results, Tryd.results11, go_sem, p0, p1, p2, p3, p4, p5, p6, p7]) rfl ⟨(.slice none 0 0), (.slice none 0 0), by rw [HR.out]; rfl, by rw [HR.out]; exact OwnsF.none10 _ _, by rw [HR.out]; exact OwnsF.none10 _ _, (fun g h => by cases h), bp⟩
              
            | true =>
              have HR : Hid (R = (renO o r asked got, true)) := HY'.out (by decide)
              clear HN' HY'
              obtain ⟨z0, z1, z2, z3, z4, z5, z6, z7, zf, zh⟩ := ZX.out
              obtain ⟨o0, o1, o2, o3, o4, o5, o6, o7, of, oh⟩ := OX.out
              have HP : Hid (ObB (putL w10 (w.heap.size + 1 + 1) (obL (renO o r asked got) (.slice a4 o.l.length c4) (.slice au (ovrL o.r.l r.l).length cu)) 0) (w.heap.size + 1 + 1) (renO o r asked got) (.slice a4 o.l.length c4) (.slice au (ovrL o.r.l r.l).length cu)) := ZX.out.puts _ _ _
              have BP : Hid (Below w.heap.size w (putL w10 (w.heap.size + 1 + 1) (obL (renO o r asked got) (.slice a4 o.l.length c4) (.slice au (ovrL o.r.l r.l).length cu)) 0)) := putL_below (by omega) _ 0 BX.out
              have VP : Hid (OwnsF (putL w10 (w.heap.size + 1 + 1) (obL (renO o r asked got) (.slice a4 o.l.length c4) (.slice au (ovrL o.r.l r.l).length cu)) 0) w.heap.size (.slice a4 o.l.length c4) o.l) := (VX.out.putL10 (by omega) _ 0).low (by omega)
              have UP : Hid (OwnsF (putL w10 (w.heap.size + 1 + 1) (obL (renO o r asked got) (.slice a4 o.l.length c4) (.slice au (ovrL o.r.l r.l).length cu)) 0) w.heap.size (.slice au (ovrL o.r.l r.l).length cu) (ovrL o.r.l r.l)) := (UX.out.putL10 (by omega) _ 0).low (by omega)
              have HV : Hid (∀ gv, (Value.slice a4 o.l.length c4).ownBlock = some gv → gv < w5.heap.size) := fun gv e => V5.out.under gv e
              have HU : Hid (∀ gv, (Value.slice au (ovrL o.r.l r.l).length cu).ownBlock = some gv → w5.heap.size ≤ gv) := fun gv e => UX.out.from gv e
              simp only [noO, noS] at z0 z1 z2 z3 z4 z5 z6 z7
              simp only [renO] at o0 o1 o2 o3 o4 o5 o6 o7
              clear ZX OX VX UX BX hub
              go_wp2
              obtain ⟨p0, p1, p2, p3, p4, p5, p6, p7, pf, ph⟩ := HP.out
              have bp := BP.out
              have vp := VP.out
              have up := UP.out
              simp only [obL, renO, putL, Nat.zero_add, Nat.reduceAdd] at p0 p1 p2 p3 p4 p5 p6 p7 bp vp up
              refine bodyPost_ret (v := .tuple #[obV (renO o r asked got) (.slice a4 o.l.length c4) (.slice au (ovrL o.r.l r.l).length cu), .bool true]) (by unfold obV renO; simp [results, Tryd.results11, go_sem, p0, p1, p2, p3, p4, p5, p6, p7]) rfl ⟨(.slice a4 o.l.length c4), (.slice au (ovrL o.r.l r.l).length cu), by rw [HR.out]; rfl, by rw [HR.out]; exact vp, by rw [HR.out]; exact up, fun gv h1 h2 => by have := HV.out gv h1; have := HU.out gv h2; omega, bp⟩
      · have d304 : (r.s == 304) = false := by simpa using h304
        have HR : Hid (R = (noO, false)) := HN.out (fun h => h304 h.2.2.1)
        obtain ⟨z0, z1, z2, z3, z4, z5, z6, z7, zf, zh⟩ := Z2.out
        have HP : Hid (ObB (putL w2 (w.heap.size + 1 + 1) (obL noO (.slice none 0 0) (.slice none 0 0)) 0) (w.heap.size + 1 + 1) noO (.slice none 0 0) (.slice none 0 0)) := Z2.out.puts noO (.slice none 0 0) (.slice none 0 0)
        have BP : Hid (Below w.heap.size w (putL w2 (w.heap.size + 1 + 1) (obL noO (.slice none 0 0) (.slice none 0 0)) 0)) := putL_below (by omega) _ 0 B2.out
        simp only [noO, noS] at z0 z1 z2 z3 z4 z5 z6 z7
        go_wp2
        obtain ⟨p0, p1, p2, p3, p4, p5, p6, p7, pf, ph⟩ := HP.out
        have bp := BP.out
        simp only [obL, noO, noS, putL, Nat.zero_add, Nat.reduceAdd] at p0 p1 p2 p3 p4 p5 p6 p7 bp
        refine bodyPost_ret (v := .tuple #[obV noO (.slice none 0 0) (.slice none 0 0), .bool false]) (by unfold obV noO noS; simp [results, Tryd.results11, go_sem, p0, p1, p2, p3, p4, p5, p6, p7]) rfl ⟨(.slice none 0 0), (.slice none 0 0), by rw [HR.out]; rfl, by rw [HR.out]; exact OwnsF.none10 _ _, by rw [HR.out]; exact OwnsF.none10 _ _, (fun g h => by cases h), bp⟩
        
end Go.Proofs.YtkaogmdhjcgcdaaDoor
