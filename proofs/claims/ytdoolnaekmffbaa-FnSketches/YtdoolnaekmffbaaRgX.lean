/-
  A region that draws its order, as in RgH; what holds all along may speak of which operations are done and of what they have left.
  A region that draws its order, in which a call's answer goes into a box of its own: what stays through all of it.
-/
import Derived.Test.YtdoolnaekmffbaaRgH
import Derived.Test.YtdoolnaekmffbaaRgS
import Derived.Test.YtdoolnaekmffbaaBx
namespace Go.Proofs.Ytdoolnaekmffbaa
open Go Go.RowKit Go.Sort
set_option linter.unusedVariables false

section
variable {P : Program}
theorem any_headsL {l : List Oper} {Q : Exit → Act → World → Prop} (n : Nat) (hn : n < l.length) (hs : Region.sinkB .any l.toArray n = true) (hc : Region.chainB .any l.toArray n = true)
    (hq : Region.seqB .any l.toArray (l.length - n) n (Array.replicate n true ++ Array.replicate (l.length - n) false) = true) (hb : backB l.toArray n = true)
    (F : (Nat → Value) → Act) (d : Nat → Nat) (S : Array Bool → (Nat → Value) → World → Prop) (G : Nat → World → Value → Prop) (hinj : ∀ i j, i < n → j < n → j ≠ i → d j ≠ d i) (hput : ∀ (i : Nat) (o : Oper), i < n → l[i]? = some o → ∀ (t : Nat → Value) (v : Value), (F t).put o.dst v = F (updH t (d i) v))
    (hstep : ∀ (i : Nat) (o : Oper), i < n → l[i]? = some o → ∀ (listed : Array Bool), listed.getD i false = false → (∀ j oj, l.toArray[j]? = some oj → listed.getD j false = true → ∀ e ∈ oj.after, Region.binds .any e = true → listed.getD e.on false = true) → listed.size = l.toArray.size → ∀ (t : Nat → Value) (x : World), S listed t x → (∀ e ∈ o.after, Region.binds .any e = true → G e.on x (t (d e.on))) → ∀ K : Act → World → Prop,
      (∀ v y, S (listed.setIfInBounds i true) (updH t (d i) v) y → (∀ j u, j < n → j ≠ i → G j x u → G j y u) → G i y v → K ((F t).put o.dst v) y) →
      if Region.wanted o (yielded l.toArray (F t).tmps) = true then Oper.wp P o (F t) x K Q else K ((F t).put o.dst undef) x)
    (hdone : ∀ (listed : Array Bool) (t : Nat → Value) (x : World), (∀ i, i < n → listed.getD i false = true) → S listed t x → (∀ j, j < n → G j x (t (d j))) → wpList P l.toArray Q (l.drop n) (F t) x) :
    ∀ (f : Nat) (listed : Array Bool) (t : Nat → Value) (x : World), leftH listed = f → HeadInv .any l.toArray n listed → S listed t x → (∀ j, j < n → listed.getD j false = true → G j x (t (d j))) → wpAny P .any l.toArray Q f listed (F t) x := by
  have hsz : l.toArray.size = n + (l.length - n) := by simp; omega
  have hn2 : n < l.toArray.size := by simpa using hn
  intro f
  induction f with
  | zero =>
    intro listed t x hf inv hS hG
    have h1 := inv.tail n (Nat.le_refl _) hn2
    have := leftH_set h1
    omega
  | succ f ih =>
    intro listed t x hf inv hS hG
    by_cases hall : ∀ i, i < n → listed.getD i false = true
    · have e := allListed (inv.size.trans hsz) hall (fun u h1 h2 => inv.tail u h1 (by omega))
      have hl : leftH listed = l.length - n := by rw [e]; unfold leftH; simp [List.count_replicate]
      have hf2 : f + 1 = (l.drop n).length := by rw [List.length_drop]; omega
      rw [hf2]
      refine wpAny_of_seq (md := .any) (Q' := Q) (l.drop n) n listed (F t) x (fun j => by simp [List.getElem?_drop]) ?_ (hdone listed t x hall hS fun j hj => hG j hj (hall j hj))
      rw [List.length_drop, e]
      exact hq
    · obtain ⟨i0, hi0, hu0⟩ : ∃ i, i < n ∧ listed.getD i false = false := by
        refine Classical.byContradiction fun hno => hall fun i hi => ?_
        cases h : listed.getD i false with
        | true => rfl
        | false => exact absurd ⟨i, hi, h⟩ hno
      have hu0' : listed.getD i0 true = false := getD_in (by rw [inv.size]; omega) hu0
      refine ⟨fun hr => absurd (firsts inv.size hn2 hb hr) hall, fun i hi => ?_⟩
      have hin : i < n := by
        rcases Nat.lt_or_ge i n with h | h
        · exact h
        · exact absurd hi (tail_waits hs hc hn2 inv _ i0 rfl hi0 hu0' i h)
      obtain ⟨h1, o, ho, hdep⟩ := mem_ready.1 hi
      have hdn : ∀ e ∈ o.after, Region.binds .any e = true → e.on < i := backB_spec hb hin ho
      have ho2 : l[i]? = some o := by simpa using ho
      have hc1 := leftH_set h1
      have key := hstep i o hin ho2 listed (getD_both h1) inv.closed inv.size t x hS (fun e he hbd => hG e.on (by have := hdn e he hbd; omega) (hdep e he hbd)) (wpAny P .any l.toArray Q f (listed.setIfInBounds i true)) (fun v y hSy hkeep hGi => by
        rw [hput i o hin ho2 t v]
        refine ih _ _ y (by omega) (inv.set hi hin) hSy fun j hj hl => ?_
        by_cases hji : j = i
        · subst hji
          rw [updH_same]
          exact hGi
        · rw [updH_other _ _ (hinj i j hin hj hji)]
          rw [getD_set_ne false (Ne.symm hji)] at hl
          exact hkeep j _ hj hji (hG j hj hl))
      unfold wpOp
      rw [ho]
      show if Region.wanted o (yielded l.toArray (F t).tmps) = true then _ else _
      split
      · rename_i hw
        rw [if_pos hw] at key
        exact Or.inl key
      · rename_i hw
        rw [if_neg hw] at key
        exact key
/-- The first n operations come whichever way; what each leaves (G) is good for as long as the others leave it so; then the rest, in order. -/
theorem region_headsL {l : List Oper} {Q : Exit → Act → World → Prop} {id : Nat} {a : Act} {w : World} (n : Nat) (hm : P.follows .mixedOrders = true) (hn : n < l.length) (hs : Region.sinkB .any l.toArray n = true) (hc : Region.chainB .any l.toArray n = true)
    (hq : Region.seqB .any l.toArray (l.length - n) n (Array.replicate n true ++ Array.replicate (l.length - n) false) = true) (hb : backB l.toArray n = true)
    (F : (Nat → Value) → Act) (d : Nat → Nat) (S : Array Bool → (Nat → Value) → World → Prop) (G : Nat → World → Value → Prop) (hinj : ∀ i j, i < n → j < n → j ≠ i → d j ≠ d i) (hput : ∀ (i : Nat) (o : Oper), i < n → l[i]? = some o → ∀ (t : Nat → Value) (v : Value), (F t).put o.dst v = F (updH t (d i) v)) (t0 : Nat → Value) (h0 : a = F t0) (hS : S (Array.replicate l.toArray.size false) t0 w.drew)
    (hstep : ∀ (i : Nat) (o : Oper), i < n → l[i]? = some o → ∀ (listed : Array Bool), listed.getD i false = false → (∀ j oj, l.toArray[j]? = some oj → listed.getD j false = true → ∀ e ∈ oj.after, Region.binds .any e = true → listed.getD e.on false = true) → listed.size = l.toArray.size → ∀ (t : Nat → Value) (x : World), S listed t x → (∀ e ∈ o.after, Region.binds .any e = true → G e.on x (t (d e.on))) → ∀ K : Act → World → Prop,
      (∀ v y, S (listed.setIfInBounds i true) (updH t (d i) v) y → (∀ j u, j < n → j ≠ i → G j x u → G j y u) → G i y v → K ((F t).put o.dst v) y) →
      if Region.wanted o (yielded l.toArray (F t).tmps) = true then Oper.wp P o (F t) x K Q else K ((F t).put o.dst undef) x)
    (hdone : ∀ (listed : Array Bool) (t : Nat → Value) (x : World), (∀ i, i < n → listed.getD i false = true) → S listed t x → (∀ j, j < n → G j x (t (d j))) → wpList P l.toArray Q (l.drop n) (F t) x) : (Code.region id l.toArray true).wp P Q a w := by
  subst h0
  refine wp_region_any hm ?_
  have inv0 : HeadInv .any l.toArray n (Array.replicate l.toArray.size false) := ⟨by simp, fun j oj _ hl => (by rw [getD_replicate_false] at hl; cases hl), fun t _ ht => getD_in (by simpa using ht) (getD_replicate_false _ _)⟩
  exact any_headsL n hn hs hc hq hb F d S G hinj hput hstep hdone _ _ t0 _ (by unfold leftH; simp) inv0 hS (fun j _ hl => by rw [getD_replicate_false] at hl; cases hl)
end
end Go.Proofs.Ytdoolnaekmffbaa
namespace Go.Proofs.Ytdoolnaekmffbaa
open Go.RowKit
set_option linter.unusedVariables false

/-- All but boxes of the type TY from lo on lie as they lay; boxes stay boxes. -/
structure Kx (TY lo : Nat) (x y : World) : Prop where
  size : x.heap.size ≤ y.heap.size
  stay : ∀ k o, x.heap[k]? = some o → (k < lo ∨ ∀ c, o ≠ .cells c TY (0, 0)) → y.heap[k]? = some o
  box : ∀ k c, lo ≤ k → x.heap[k]? = some (.cells c TY (0, 0)) → ∃ c', y.heap[k]? = some (.cells c' TY (0, 0)) ∧ c'.size = c.size
theorem Kx.of {TY lo : Nat} {x y : World} (hb : Below x.heap.size x y) : Kx TY lo x y :=
  ⟨hb.size, fun k o h _ => (hb.block k (Array.getElem?_eq_some_iff.1 h).1).trans h, fun k c _ h => ⟨c, (hb.block k (Array.getElem?_eq_some_iff.1 h).1).trans h, rfl⟩⟩
/-- A box whose cells are to be stored. -/
def BoxK (TY m lo : Nat) (x : World) (k : Nat) : Prop := lo ≤ k ∧ ∃ c, x.heap[k]? = some (.cells c TY (0, 0)) ∧ c.size = m
theorem BoxK.kx {TY m lo : Nat} {x y : World} {k : Nat} (h : BoxK TY m lo x k) (hk : Kx TY lo x y) : BoxK TY m lo y k := by
  obtain ⟨h0, c, h1, h2⟩ := h
  obtain ⟨c', h3, h4⟩ := hk.box k c h0 h1
  exact ⟨h0, c', h3, h4.trans h2⟩
theorem Kx.put {TY m lo : Nat} {x : World} {gb : Nat} (h : BoxK TY m lo x gb) (i : Nat) (v : Value) : Kx TY lo x (x.setCell ⟨gb, i, none⟩ v) := by
  obtain ⟨h0, c, h1, h2⟩ := h
  refine ⟨by simp [World.setCell], fun k o hk hn => ?_, fun k c2 hl hk => ?_⟩
  · by_cases e : k = gb
    · subst e
      rw [h1] at hk
      injection hk with hk
      rcases hn with hn | hn
      · omega
      · exact absurd hk.symm (hn c)
    · exact (Below.heap_setCell _ _ _ _ e).trans hk
  · by_cases e : k = gb
    · subst e
      rw [h1] at hk
      injection hk with hk
      injection hk with hk _ _
      subst hk
      exact ⟨_, heap_setCell_same x k i _ _ v h1, by simp⟩
    · exact ⟨c2, (Below.heap_setCell _ _ _ _ e).trans hk, rfl⟩
theorem Kx.trans {TY lo : Nat} {x y z : World} (h : Kx TY lo x y) (k : Kx TY lo y z) : Kx TY lo x z :=
  ⟨Nat.le_trans h.size k.size, fun i o hi hn => k.stay i o (h.stay i o hi hn) hn, fun i c hl hi => by
    obtain ⟨c1, h1, h2⟩ := h.box i c hl hi
    obtain ⟨c2, h3, h4⟩ := k.box i c1 hl h1
    exact ⟨c2, h3, h4.trans h2⟩⟩
theorem HasE.kx {α : Type} {E : Enc α} {ty TY lo : Nat} {x y : World} {B : Nat} {v : Value} {l : List α} (h : HasE E ty x B v l) (hk : Kx TY lo x y) (hne : ty ≠ TY) : HasE E ty y B v l := by
  rcases h with h0 | ⟨g, cap, cur, hv, hbg, hh, rest⟩
  · exact .inl h0
  · exact .inr ⟨g, cap, cur, hv, hbg, hk.stay g _ hh (.inr fun c e => by injection e with _ e _; exact hne e), rest⟩
theorem BoxK.put2 {TY lo : Nat} {x : World} {gb : Nat} (h : BoxK TY 2 lo x gb) (p q : Value) : Bx ((x.setCell ⟨gb, 0, none⟩ p).setCell ⟨gb, 1, none⟩ q) gb TY #[p, q] := by
  obtain ⟨h0, c, h1, h2⟩ := h
  have hc : Bx x gb TY c := h1
  have := (hc.put 0 p).put 1 q
  have e : (c.setIfInBounds 0 p).setIfInBounds 1 q = #[p, q] := by
    obtain ⟨L⟩ := c
    match L, h2 with
    | [a, b], _ => rfl
  rw [e] at this
  exact this
end Go.Proofs.Ytdoolnaekmffbaa
