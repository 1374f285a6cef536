/-
  A region that draws its order, as in RgH; what holds all along may speak of which operations are done and of what they have left.
  A region that draws its order, one of whose operations is an append to a row of the call's own.
  The program's submit.
-/
import Derived.Test.YtlngleinegkoeaaGreatT28
import Derived.Test.YtlngleinegkoeaaGreatT38
import Derived.Test.YtlngleinegkoeaaGreatT17
import Derived.Test.YtlngleinegkoeaaGreatT39
import Derived.Test.YtlngleinegkoeaaGreatT32
import Derived.Test.YtlngleinegkoeaaGreatT25
namespace Go.Proofs.YtlngleinegkoeaaGreat
open Go Go.RowKit Go.Sort
set_option linter.unusedVariables false

section
variable {P : Program}
theorem any_headsL {l : List Oper} {Q : Exit → Act → World → Prop} (n : Nat) (hn : n < l.length) (hs : Region.sinkB .any l.toArray n = true) (hc : Region.chainB .any l.toArray n = true)
    (hq : Region.seqB .any l.toArray (l.length - n) n (Array.replicate n true ++ Array.replicate (l.length - n) false) = true) (hb : backB l.toArray n = true)
    (F : (Nat → Value) → Act) (d : Nat → Nat) (S : Array Bool → (Nat → Value) → World → Prop) (G : Nat → World → Value → Prop) (hinj : ∀ i j, i < n → j < n → j ≠ i → d j ≠ d i) (hput : ∀ (i : Nat) (o : Oper), i < n → l[i]? = some o → ∀ (t : Nat → Value) (v : Value), (F t).put o.dst v = F (updH t (d i) v))
    (hstep : ∀ (i : Nat) (o : Oper), i < n → l[i]? = some o → ∀ (listed : Array Bool), listed.getD i false = false → (∀ j oj, l.toArray[j]? = some oj → listed.getD j false = true → ∀ e ∈ oj.after, Region.binds .any e = true → listed.getD e.on false = true) → listed.size = l.toArray.size → ∀ (t : Nat → Value) (x : World), S listed t x → (∀ e ∈ o.after, Region.binds .any e = true → G e.on x (t (d e.on))) → ∀ K : Act → World → Prop,
      (∀ v y, S (listed.setIfInBounds i true) (updH t (d i) v) y → (∀ j u, j < n → j ≠ i → G j x u → G j y u) → G i y v → K ((F t).put o.dst v) y) →
      if Region.wanted o (yielded l.toArray (F t).tmps) = true then Oper.wp P o (F t) x K Q else K ((F t).put o.dst undef) x)
    (hdone : ∀ (listed : Array Bool) (t : Nat → Value) (x : World), (∀ i, i < n → listed.getD i false = true) → S listed t x → (∀ j, j < n → G j x (t (d j))) → wpList P l.toArray Q (l.drop n) (F t) x) :
    ∀ (f : Nat) (listed : Array Bool) (t : Nat → Value) (x : World), leftH listed = f → HeadInv .any l.toArray n listed → S listed t x → (∀ j, j < n → listed.getD j false = true → G j x (t (d j))) → wpAny P .any l.toArray Q f listed (F t) x := by
  have hsz : l.toArray.size = n + (l.length - n) := by simp; omega
  have hn2 : n < l.toArray.size := by simpa using hn
  intro f
  induction f with
  | zero =>
    intro listed t x hf inv hS hG
    have h1 := inv.tail n (Nat.le_refl _) hn2
    have := leftH_set h1
    omega
  | succ f ih =>
    intro listed t x hf inv hS hG
    by_cases hall : ∀ i, i < n → listed.getD i false = true
    · have e := allListed (inv.size.trans hsz) hall (fun u h1 h2 => inv.tail u h1 (by omega))
      have hl : leftH listed = l.length - n := by rw [e]; unfold leftH; simp [List.count_replicate]
      have hf2 : f + 1 = (l.drop n).length := by rw [List.length_drop]; omega
      rw [hf2]
      refine wpAny_of_seq (md := .any) (Q' := Q) (l.drop n) n listed (F t) x (fun j => by simp [List.getElem?_drop]) ?_ (hdone listed t x hall hS fun j hj => hG j hj (hall j hj))
      rw [List.length_drop, e]
      exact hq
    · obtain ⟨i0, hi0, hu0⟩ : ∃ i, i < n ∧ listed.getD i false = false := by
        refine Classical.byContradiction fun hno => hall fun i hi => ?_
        cases h : listed.getD i false with
        | true => rfl
        | false => exact absurd ⟨i, hi, h⟩ hno
      have hu0' : listed.getD i0 true = false := getD_in (by rw [inv.size]; omega) hu0
      refine ⟨fun hr => absurd (firsts inv.size hn2 hb hr) hall, fun i hi => ?_⟩
      have hin : i < n := by
        rcases Nat.lt_or_ge i n with h | h
        · exact h
        · exact absurd hi (tail_waits hs hc hn2 inv _ i0 rfl hi0 hu0' i h)
      obtain ⟨h1, o, ho, hdep⟩ := mem_ready.1 hi
      have hdn : ∀ e ∈ o.after, Region.binds .any e = true → e.on < i := backB_spec hb hin ho
      have ho2 : l[i]? = some o := by simpa using ho
      have hc1 := leftH_set h1
      have key := hstep i o hin ho2 listed (getD_both h1) inv.closed inv.size t x hS (fun e he hbd => hG e.on (by have := hdn e he hbd; omega) (hdep e he hbd)) (wpAny P .any l.toArray Q f (listed.setIfInBounds i true)) (fun v y hSy hkeep hGi => by
        rw [hput i o hin ho2 t v]
        refine ih _ _ y (by omega) (inv.set hi hin) hSy fun j hj hl => ?_
        by_cases hji : j = i
        · subst hji
          rw [updH_same]
          exact hGi
        · rw [updH_other _ _ (hinj i j hin hj hji)]
          rw [getD_set_ne false (Ne.symm hji)] at hl
          exact hkeep j _ hj hji (hG j hj hl))
      unfold wpOp
      rw [ho]
      show if Region.wanted o (yielded l.toArray (F t).tmps) = true then _ else _
      split
      · rename_i hw
        rw [if_pos hw] at key
        exact Or.inl key
      · rename_i hw
        rw [if_neg hw] at key
        exact key
/-- The first n operations come whichever way; what each leaves (G) is good for as long as the others leave it so; then the rest, in order. -/
theorem region_headsL {l : List Oper} {Q : Exit → Act → World → Prop} {id : Nat} {a : Act} {w : World} (n : Nat) (hm : P.follows .mixedOrders = true) (hn : n < l.length) (hs : Region.sinkB .any l.toArray n = true) (hc : Region.chainB .any l.toArray n = true)
    (hq : Region.seqB .any l.toArray (l.length - n) n (Array.replicate n true ++ Array.replicate (l.length - n) false) = true) (hb : backB l.toArray n = true)
    (F : (Nat → Value) → Act) (d : Nat → Nat) (S : Array Bool → (Nat → Value) → World → Prop) (G : Nat → World → Value → Prop) (hinj : ∀ i j, i < n → j < n → j ≠ i → d j ≠ d i) (hput : ∀ (i : Nat) (o : Oper), i < n → l[i]? = some o → ∀ (t : Nat → Value) (v : Value), (F t).put o.dst v = F (updH t (d i) v)) (t0 : Nat → Value) (h0 : a = F t0) (hS : S (Array.replicate l.toArray.size false) t0 w.drew)
    (hstep : ∀ (i : Nat) (o : Oper), i < n → l[i]? = some o → ∀ (listed : Array Bool), listed.getD i false = false → (∀ j oj, l.toArray[j]? = some oj → listed.getD j false = true → ∀ e ∈ oj.after, Region.binds .any e = true → listed.getD e.on false = true) → listed.size = l.toArray.size → ∀ (t : Nat → Value) (x : World), S listed t x → (∀ e ∈ o.after, Region.binds .any e = true → G e.on x (t (d e.on))) → ∀ K : Act → World → Prop,
      (∀ v y, S (listed.setIfInBounds i true) (updH t (d i) v) y → (∀ j u, j < n → j ≠ i → G j x u → G j y u) → G i y v → K ((F t).put o.dst v) y) →
      if Region.wanted o (yielded l.toArray (F t).tmps) = true then Oper.wp P o (F t) x K Q else K ((F t).put o.dst undef) x)
    (hdone : ∀ (listed : Array Bool) (t : Nat → Value) (x : World), (∀ i, i < n → listed.getD i false = true) → S listed t x → (∀ j, j < n → G j x (t (d j))) → wpList P l.toArray Q (l.drop n) (F t) x) : (Code.region id l.toArray true).wp P Q a w := by
  subst h0
  refine wp_region_any hm ?_
  have inv0 : HeadInv .any l.toArray n (Array.replicate l.toArray.size false) := ⟨by simp, fun j oj _ hl => (by rw [getD_replicate_false] at hl; cases hl), fun t _ ht => getD_in (by simpa using ht) (getD_replicate_false _ _)⟩
  exact any_headsL n hn hs hc hq hb F d S G hinj hput hstep hdone _ _ t0 _ (by unfold leftH; simp) inv0 hS (fun j _ hl => by rw [getD_replicate_false] at hl; cases hl)
end
end Go.Proofs.YtlngleinegkoeaaGreat
namespace Go.Proofs.YtlngleinegkoeaaGreat
open Go.RowKit Go.Sort
set_option linter.unusedVariables false

/-- What holds until operation m is done, and what from then on. -/
def StepM (m dm : Nat) (S0 : World → Prop) (S1 : Value → World → Prop) (listed : Array Bool) (t : Nat → Value) (x : World) : Prop := (listed.getD m false = false → S0 x) ∧ (listed.getD m false = true → S1 (t dm) x)
theorem StepM.before {m dm : Nat} {S0 : World → Prop} {S1 : Value → World → Prop} {listed : Array Bool} (h8 : listed.getD m false = false) {i : Nat} (hi : i ≠ m) {t' : Nat → Value} {y : World} (hy : S0 y) : StepM m dm S0 S1 (listed.setIfInBounds i true) t' y :=
  ⟨fun _ => hy, fun h => by rw [getD_set_ne false hi, h8] at h; cases h⟩
theorem StepM.free {m dm : Nat} {S0 : World → Prop} {S1 : Value → World → Prop} {listed : Array Bool} {t : Nat → Value} {x : World} (h : StepM m dm S0 S1 listed t x) {i d : Nat} {v : Value} (hi : i ≠ m) (hd : dm ≠ d) : StepM m dm S0 S1 (listed.setIfInBounds i true) (updH t d v) x :=
  ⟨fun h1 => h.1 (by rw [getD_set_ne false hi] at h1; exact h1), fun h1 => by rw [updH_other _ _ hd]; exact h.2 (by rw [getD_set_ne false hi] at h1; exact h1)⟩
theorem StepM.at {m dm : Nat} {S0 : World → Prop} {S1 : Value → World → Prop} {listed : Array Bool} {t : Nat → Value} {v : Value} {y : World} (hm : m < listed.size) (h : S1 v y) : StepM m dm S0 S1 (listed.setIfInBounds m true) (updH t dm v) y :=
  ⟨fun h1 => by simp [hm] at h1, fun _ => by rw [updH_same]; exact h⟩
end Go.Proofs.YtlngleinegkoeaaGreat
namespace Go.Proofs.YtlngleinegkoeaaGreat.Rl
open Go.RowKit Go.Sort Go.Shelf Pg
set_option linter.unusedVariables false
set_option linter.unusedSimpArgs false

/-- A replica at b that a method leaves, and the messages that it answers. -/
structure RpMs (R : Rp) (L : List Ms) (B b : Nat) (w w' : World) (u' : Rv) (v : Value) (T : List Mx) : Prop where
  at' : RpAt w' B b u' R
  m : ∃ C, (∀ x ∈ u'.rows, ∀ k, x.ownBlock = some k → k < C) ∧ b < C ∧ w.heap.size ≤ C ∧ MsOwn w' C v T L
  bl : Below B w w'
def GSm4 (r : Rp) (tx : ByteArray) (b lo : Nat) (a1 : Option Addr) (d1 : Nat) (i : Nat) (x : World) (v : Value) : Prop := match i with
  | 0 => v = .pointer (some ⟨b, 0, none⟩)
  | 1 => v = .pointer (some ⟨b, 0, none⟩)
  | 2 => v = .pointer (some ⟨b, 0, none⟩)
  | 3 => v = .pointer (some ⟨b, 5, none⟩)
  | 4 => v = .slice a1 r.l.length d1
  | 5 => v = .string tx
  | 6 => v = .string tx
  | 7 => ∃ (gb : Nat), v = .slice (some ⟨gb, 0, none⟩) 1 1 ∧ (lo ≤ gb ∧ Bx x gb 9 #[.string tx])
  | 8 => True
  | _ => True
theorem GSm4.keep {r : Rp} {tx : ByteArray} {b lo : Nat} {a1 : Option Addr} {d1 : Nat} {x y : World} (hb : Below x.heap.size x y) (j : Nat) (v : Value) (hj : j < 9) (h : GSm4 r tx b lo a1 d1 j x v) : GSm4 r tx b lo a1 d1 j y v := by
  rcases (show j = 0 ∨ j = 1 ∨ j = 2 ∨ j = 3 ∨ j = 4 ∨ j = 5 ∨ j = 6 ∨ j = 7 ∨ j = 8 by omega) with rfl | rfl | rfl | rfl | rfl | rfl | rfl | rfl | rfl
  · exact h
  · exact h
  · exact h
  · exact h
  · exact h
  · exact h
  · exact h
  · obtain ⟨gb, h1, h2⟩ := h; exact ⟨gb, h1, h2.1, h2.2.kept hb⟩
  · trivial
theorem GSm4.keepM {r : Rp} {tx : ByteArray} {b lo : Nat} {a1 : Option Addr} {d1 : Nat} {x y : World} (hlo : ∀ k, (Value.slice a1 r.l.length d1).ownBlock = some k → k < lo) (hg : x.grownBy y (Value.slice a1 r.l.length d1).ownBlock) (j : Nat) (v : Value) (hj : j < 9) (hne : j ≠ 8) (h : GSm4 r tx b lo a1 d1 j x v) : GSm4 r tx b lo a1 d1 j y v := by
  rcases (show j = 0 ∨ j = 1 ∨ j = 2 ∨ j = 3 ∨ j = 4 ∨ j = 5 ∨ j = 6 ∨ j = 7 ∨ j = 8 by omega) with rfl | rfl | rfl | rfl | rfl | rfl | rfl | rfl | rfl
  · exact h
  · exact h
  · exact h
  · exact h
  · exact h
  · exact h
  · exact h
  · obtain ⟨gb, h1, h2⟩ := h; exact ⟨gb, h1, h2.1, (hg.block gb (Bx.lt h2.2) (fun e => by have := hlo gb e.symm; have := h2.1; omega)).trans h2.2⟩
  · exact absurd rfl hne
def GSm6 (R : Rp) (b lo : Nat) (la : Option Addr) (lc : Nat) (i : Nat) (x : World) (v : Value) : Prop := match i with
  | 0 => v = .pointer (some ⟨b, 0, none⟩)
  | 1 => ∃ (C : Nat) (T : List Mx) (p1 : Option Addr) (d1 : Nat), v = .slice p1 T.length d1 ∧ (lo ≤ C ∧ C ≤ x.heap.size ∧ MsOwn x C (.slice p1 T.length d1) T (sprL R))
  | 2 => v = .pointer (some ⟨b, 0, none⟩)
  | 3 => v = .pointer (some ⟨b, 0, none⟩)
  | 4 => v = .pointer (some ⟨b, 5, none⟩)
  | 5 => v = .slice la R.l.length lc
  | 6 => v = .int .i64 (R.l.length : Int)
  | 7 => ∃ (C : Nat) (T : List Mx) (p1 : Option Addr) (d1 : Nat), v = .slice p1 T.length d1 ∧ (lo ≤ C ∧ C ≤ x.heap.size ∧ MsOwn x C (.slice p1 T.length d1) T (sprL R))
  | _ => True
theorem GSm6.keep {R : Rp} {b lo : Nat} {la : Option Addr} {lc : Nat} {x y : World} (hb : Below x.heap.size x y) (j : Nat) (v : Value) (hj : j < 8) (h : GSm6 R b lo la lc j x v) : GSm6 R b lo la lc j y v := by
  rcases (show j = 0 ∨ j = 1 ∨ j = 2 ∨ j = 3 ∨ j = 4 ∨ j = 5 ∨ j = 6 ∨ j = 7 by omega) with rfl | rfl | rfl | rfl | rfl | rfl | rfl | rfl
  · exact h
  · obtain ⟨C, T, p1, d1, h1, h2⟩ := h; exact ⟨C, T, p1, d1, h1, h2.1, Nat.le_trans h2.2.1 hb.size, h2.2.2.kept hb⟩
  · exact h
  · exact h
  · exact h
  · exact h
  · exact h
  · obtain ⟨C, T, p1, d1, h1, h2⟩ := h; exact ⟨C, T, p1, d1, h1, h2.1, Nat.le_trans h2.2.1 hb.size, h2.2.2.kept hb⟩
end Go.Proofs.YtlngleinegkoeaaGreat.Rl
