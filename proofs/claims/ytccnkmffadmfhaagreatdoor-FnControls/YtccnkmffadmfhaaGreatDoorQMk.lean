/-
  A region that draws its order, whose operations only read but for one that makes a block and a few at its end that wait for all the others: walked once, whenever the block is made.
-/
import Derived.Test.YtccnkmffadmfhaaGreatDoorQTl
namespace Go.Proofs.YtccnkmffadmfhaaGreatDoor
open Go Go.RowKit Go.Sort
set_option linter.unusedVariables false

section
variable {P : Program} {ops : Array Oper} {md : Region.Mode} {ι : Type} {C : ι → World → Prop}
/-- It yields the same value in every class. -/
def Tells (P : Program) (ops : Array Oper) (C : ι → World → Prop) (i : Nat) (K : Act → ι → Prop) (a : Act) (c : ι) : Prop :=
  ∃ o v, ops[i]? = some o ∧ (∀ c, YieldsIn P ops (C c) o v a) ∧ K (a.put o.dst v) c
/-- It yields a value and leads into another class. -/
def Makes (P : Program) (ops : Array Oper) (C : ι → World → Prop) (i : Nat) (K : Act → ι → Prop) (a : Act) (c : ι) : Prop :=
  ∃ o, ops[i]? = some o ∧ Region.wanted o (yielded ops a.tmps) = true ∧ ∀ w, C c w → ∃ v w' c', (execOp a.eval o).run P w = .ok (.value v) w' ∧ C c' w' ∧ K (a.put o.dst v) c'
def Fam (P : Program) (md : Region.Mode) (ops : Array Oper) (C : ι → World → Prop) (n : Nat) (L : Array Bool → Act → ι → Prop) : Nat → Array Bool → Act → ι → Prop
  | 0, listed, a, c => L listed a c
  | f + 1, listed, a, c => ¬ Region.ready md ops listed = [] ∧ ∀ i ∈ Region.ready md ops listed, i < n ∧ (Tells P ops C i (fun a' c' => Fam P md ops C n L f (listed.setIfInBounds i true) a' c') a c ∨ Makes P ops C i (fun a' c' => Fam P md ops C n L f (listed.setIfInBounds i true) a' c') a c)
theorem Fam.any {n g : Nat} {L : Array Bool → Act → ι → Prop} {Q : Exit → Act → World → Prop} (hL : ∀ listed a c w, C c w → L listed a c → wpAny P md ops Q g listed a w) :
    ∀ (f : Nat) (listed : Array Bool) (a : Act) (c : ι) (w : World), C c w → Fam P md ops C n L f listed a c → wpAny P md ops Q (f + g) listed a w := by
  intro f
  induction f with
  | zero => intro listed a c w hw h; rw [Nat.zero_add]; exact hL _ _ _ _ hw h
  | succ f ih =>
    intro listed a c w hw h
    rw [show f + 1 + g = (f + g) + 1 by omega]
    refine ⟨fun h0 => absurd h0 h.1, fun i hi => ?_⟩
    rcases (h.2 i hi).2 with ⟨o, v, ho, hy, hK⟩ | ⟨o, ho, hwt, hmk⟩
    · exact wpOp_of_qOp hw (fun a' w' hw' h' => ih _ a' c w' hw' h') ((hy c).qOp ho hK)
    · obtain ⟨v, w', c', hr, hc', hK⟩ := hmk w hw
      unfold wpOp
      rw [ho]
      show if Region.wanted o (yielded ops a.tmps) = true then _ else _
      rw [if_pos hwt]
      refine .inl ?_
      unfold Oper.wp
      rw [hr]
      exact ih _ _ c' w' hc' hK
theorem Fam.first {n i : Nat} {oi : Oper} {v : Value} {L : Array Bool → Act → ι → Prop} (hi : ops[i]? = some oi) (hsel : ∀ (j : Nat) (o : Oper) cs b, ops[j]? = some o → o.op ≠ .select cs b)
    (hs : Region.sinkB md ops n = true) (hc : Region.chainB md ops n = true) (hn : n < ops.size) (hin : i < n) (hdone : ∀ listed a c, L listed a c → ∀ j ∈ Region.ready md ops listed, n ≤ j) :
    ∀ (f : Nat) (listed : Array Bool) (a : Act) (c : ι), HeadInv md ops n listed →
      (∀ j oj, ops[j]? = some oj → j ≠ i → listed.getD j true = false → (∀ e ∈ oj.after, Region.binds md e = true → e.on ≠ i) → oi.apart ops oj = true) →
      i ∈ Region.ready md ops listed → (∀ c, YieldsIn P ops (C c) oi v a) → Fam P md ops C n L f (listed.setIfInBounds i true) (a.put oi.dst v) c → Fam P md ops C n L (f + 1) listed a c := by
  intro f
  induction f with
  | zero =>
    intro listed a c inv _ hr hy H
    refine ⟨fun h => (by rw [h] at hr; cases hr), fun j hj => ⟨ahead_lt hs hc hn inv hin hr hj, ?_⟩⟩
    by_cases hji : j = i
    · subst hji; exact .inl ⟨oi, v, hi, hy, H⟩
    · have h1 := hdone _ _ _ H j (ready_mono hj hji)
      have h2 := ahead_lt hs hc hn inv hin hr hj
      omega
  | succ f ih =>
    intro listed a c inv hfree hr hy H
    have hun := (mem_ready.1 hr).1
    refine ⟨fun h => (by rw [h] at hr; cases hr), fun j hj => ⟨ahead_lt hs hc hn inv hin hr hj, ?_⟩⟩
    by_cases hji : j = i
    · subst hji; exact .inl ⟨oi, v, hi, hy, H⟩
    · have h1 := (H.2 j (ready_mono hj hji)).2
      obtain ⟨hjun, oj, hoj, hall⟩ := mem_ready.1 hj
      have hnot : ∀ e ∈ oj.after, Region.binds md e = true → e.on ≠ i := fun e he hb heq => by
        have h3 := hall e he hb
        rw [heq, getD_both hun] at h3
        cases h3
      obtain ⟨p1, p2, p3⟩ := Oper.apart_spec (hfree j oj hoj hji hjun hnot)
      have hsi : ∀ cs b, oi.op ≠ .select cs b := fun cs b => hsel i oi cs b hi
      have hsj : ∀ cs b, oj.op ≠ .select cs b := fun cs b => hsel j oj cs b hoj
      have keep : ∀ u, ∀ c, YieldsIn P ops (C c) oi v (a.put oj.dst u) := fun u c => (hy c).of_same (execOp_put oi hsi a oj.dst u p3) (wanted_put oi a oj.dst u p3)
      have go : ∀ (u : Value) (c' : ι), Fam P md ops C n L f ((listed.setIfInBounds i true).setIfInBounds j true) ((a.put oi.dst v).put oj.dst u) c' → Fam P md ops C n L (f + 1) (listed.setIfInBounds j true) (a.put oj.dst u) c' := fun u c' h3 => by
        refine ih (listed.setIfInBounds j true) _ c' (inv.set hj (ahead_lt hs hc hn inv hin hr hj)) (fun k ok hk hki hku hno => ?_) (ready_mono hr (Ne.symm hji)) (keep u) ?_
        · refine hfree k ok hk hki ?_ hno
          by_cases hjk : j = k
          · subst hjk; exact hjun
          · rw [getD_set_ne true hjk] at hku; exact hku
        · rw [Array.setIfInBounds_comm _ _ hji, ← Act.put_comm a v u p2]
          exact h3
      rcases h1 with ⟨o, u, ho, hyj, hK⟩ | ⟨o, ho, hwt, hmk⟩
      · have : o = oj := Option.some.inj (ho.symm.trans hoj)
        subst this
        exact .inl ⟨o, u, ho, fun c => (hyj c).of_same (execOp_put o hsj a oi.dst v p1).symm (wanted_put o a oi.dst v p1).symm, go u c hK⟩
      · have : o = oj := Option.some.inj (ho.symm.trans hoj)
        subst this
        refine .inr ⟨o, ho, by rw [← wanted_put o a oi.dst v p1]; exact hwt, fun w hw => ?_⟩
        obtain ⟨u, w', c', hrun, hc', hK⟩ := hmk w hw
        rw [execOp_put o hsj a oi.dst v p1] at hrun
        exact ⟨u, w', c', hrun, hc', go u c' hK⟩
/-- Each writes a slot of the frame, and no other does. -/
def slotsB (N : Nat) : List Oper → Bool
  | [] => true
  | o :: l => (match o.dst with | some d => decide (d < N) && l.all (fun o' => o'.dst != some d) | none => false) && slotsB N l
theorem put_size (a : Act) (x : Option Tmp) (v : Value) : (a.put x v).tmps.size = a.tmps.size := by cases x <;> simp [Act.put]
theorem quiet_slot {D : World → Prop} {A : Act} {d : Nat} : ∀ (l : List Oper) (a : Act), (l.all fun o => o.dst != some d) = true → wpQuiet P ops D (fun a' => a' = A) l a → A.tmps[d]? = a.tmps[d]? := by
  intro l
  induction l with
  | nil => intro a _ h; have : a = A := h; rw [this]
  | cons o l ih =>
    intro a hd h
    rw [List.all_cons, Bool.and_eq_true] at hd
    have hne : o.dst ≠ some d := by simpa using hd.1
    have hput : ∀ v, (a.put o.dst v).tmps[d]? = a.tmps[d]? := fun v => by
      cases hx : o.dst with
      | none => rfl
      | some e =>
        have : e ≠ d := fun e1 => hne (by rw [hx, e1])
        simp [Act.put, Array.getElem?_setIfInBounds_ne this]
    unfold wpQuiet at h
    split at h
    · obtain ⟨v, _, h2⟩ := h
      exact (ih _ hd.2 h2).trans (hput v)
    · exact (ih _ hd.2 h).trans (hput _)
theorem Fam.lex {n g : Nat} {A : Act} {L : Array Bool → Act → ι → Prop} {c : ι} (hsel : Region.noSelect ops = true) (hs : Region.sinkB md ops n = true) (hc : Region.chainB md ops n = true) (hn : n < ops.size) (hdone : ∀ listed a c, L listed a c → ∀ j ∈ Region.ready md ops listed, n ≤ j)
    (hend : ∀ listed, HeadInv md ops n listed → Region.seqB md ops (g + 1) (n - 1) listed = true → Fam P md ops C n L 1 listed A c) :
    ∀ (l : List Oper) (k : Nat) (listed : Array Bool) (a : Act), (∀ j, j < l.length → l[j]? = ops[k + j]?) → k + l.length + 1 = n → HeadInv md ops n listed → slotsB a.tmps.size l = true → Region.lexHead md ops (g + 1) l.length k listed = true → (∀ c, wpQuiet P ops (C c) (fun a' => a' = A) l a) →
    Fam P md ops C n L (l.length + 1) listed a c := by
  intro l
  induction l with
  | nil =>
    intro k listed a _ hk inv _ hB h
    have hk' : k = n - 1 := by simp only [List.length_nil] at hk; omega
    have : a = A := h c
    subst this
    subst hk'
    exact hend listed inv (by simpa [Region.lexHead] using hB)
  | cons o l ih =>
    intro k listed a hl hk inv hS hB h
    have h0 : ops[k]? = some o := by simpa using (hl 0 (by simp)).symm
    simp only [List.length_cons, Region.lexHead, Bool.and_eq_true] at hB
    obtain ⟨⟨hr, hf⟩, hB'⟩ := hB
    have hkn : k < n := by simp only [List.length_cons] at hk; omega
    have hr' : k ∈ Region.ready md ops listed := by simpa using hr
    unfold slotsB at hS
    rw [Bool.and_eq_true] at hS
    cases hx : o.dst with
    | none => rw [hx] at hS; cases hS.1
    | some d =>
      rw [hx] at hS
      simp only [Bool.and_eq_true, decide_eq_true_eq] at hS
      obtain ⟨⟨hd, hother⟩, hS'⟩ := hS
      have key : ∀ c, ∃ v, A.tmps[d]? = some v ∧ YieldsIn P ops (C c) o v a ∧ wpQuiet P ops (C c) (fun a' => a' = A) l (a.put o.dst v) := fun c => by
        have hst : qOp P ops (C c) k (wpQuiet P ops (C c) (fun a' => a' = A) l) a := by unfold qOp; simp only [h0]; exact h c
        obtain ⟨v, hy, hK⟩ := yieldsIn_of_qOp h0 hst
        refine ⟨v, ?_, hy, hK⟩
        rw [quiet_slot l _ hother hK, hx]
        simp [Act.put, hd]
      obtain ⟨v, hv, _, _⟩ := key c
      have key2 : ∀ c, YieldsIn P ops (C c) o v a ∧ wpQuiet P ops (C c) (fun a' => a' = A) l (a.put o.dst v) := fun c => by
        obtain ⟨u, hu, h1, h2⟩ := key c
        have : u = v := Option.some.inj (hu.symm.trans hv)
        subst this
        exact ⟨h1, h2⟩
      refine Fam.first h0 (Region.noSelect_spec hsel) hs hc hn hkn hdone (l.length + 1) listed a c inv (Region.free_spec h0 hf) hr' (fun c => (key2 c).1) ?_
      exact ih (k + 1) _ _ (fun j hj => by have := hl (j + 1) (by simp; omega); simpa [Nat.add_assoc, Nat.add_comm 1 j] using this) (by simp only [List.length_cons] at hk; omega) (inv.set hr' hkn) (by rw [put_size]; exact hS') hB' (fun c => (key2 c).2)

def makesB (md : Region.Mode) (ops : Array Oper) (m : Nat) : Bool :=
  Region.noSelect ops && decide (m + 1 < ops.size) && Region.sinkB md ops (m + 1) && Region.chainB md ops (m + 1) && Region.lexHead md ops (ops.size - (m + 1) + 1) m 0 (Array.replicate ops.size false)
def Regr (w w' : World) : Prop := ∃ p : Regrown, w' = grow (redrawn w p.d) p.os
theorem Regr.self (w : World) : Regr w w := ⟨⟨w.drawn, #[]⟩, by rw [grow_empty]; rfl⟩
/-- The first m operations only read, in every world that has grown out of one of G; number m makes; behind them the others come one behind the other. -/
theorem region_makes {id : Nat} {Q : Exit → Act → World → Prop} {a : Act} {w : World} {l : List Oper} (G : World → Prop) (m : Nat) (hm : P.follows .mixedOrders = true) (hB : makesB .any l.toArray m = true) (hS : slotsB a.tmps.size (l.take m) = true) (o : Oper) (ho : l[m]? = some o) (hgd : o.guard = none) (hG : G w)
    (h : ∃ A : Act, (∀ W, G W → wpQuiet P l.toArray (fun w' => ∃ p : Regrown, w' = grow (redrawn W p.d) p.os) (fun a' => a' = A) (l.take m) a) ∧
      ∀ w', Regr w w' → ∃ v w'', (execOp A.eval o).run P w' = .ok (.value v) w'' ∧ G w'' ∧ ∀ w3, Regr w'' w3 → wpList P l.toArray Q (l.drop (m + 1)) (A.put o.dst v) w3) : (Code.region id l.toArray true).wp P Q a w := by
  obtain ⟨A, hq, hmk⟩ := h
  unfold makesB at hB
  simp only [Bool.and_eq_true, decide_eq_true_eq] at hB
  obtain ⟨⟨⟨⟨hsel, hn⟩, hs⟩, hc⟩, hlex⟩ := hB
  have hn' : m + 1 < l.length := by simpa using hn
  have htl : (l.take m).length = m := by simp; omega
  have hdl : (l.drop (m + 1)).length = l.toArray.size - (m + 1) := by simp
  have inv0 : HeadInv .any l.toArray (m + 1) (Array.replicate l.toArray.size false) := ⟨by simp, fun j oj _ hl => (by rw [getD_replicate_false] at hl; cases hl), fun t _ ht => getD_in (by simpa using ht) (getD_replicate_false _ _)⟩
  have H := Fam.lex (P := P) (ops := l.toArray) (md := .any) (ι := { W : World // G W }) (C := fun c w' => Regr c.1 w') (n := m + 1) (g := l.toArray.size - (m + 1)) (A := A) (c := ⟨w, hG⟩)
    (L := fun listed a' c => Region.seqB .any l.toArray (l.toArray.size - (m + 1)) (m + 1) listed = true ∧ ∀ w3, Regr c.1 w3 → wpList P l.toArray Q (l.drop (m + 1)) a' w3)
    hsel hs hc hn (fun listed a c hL => seqB_ready hL.1) (fun listed inv hq2 => by
      rw [Nat.add_sub_cancel] at hq2
      simp only [Region.seqB, Bool.and_eq_true, decide_eq_true_eq] at hq2
      refine ⟨fun h0 => (by rw [hq2.1] at h0; cases h0), fun i hi => ?_⟩
      rw [hq2.1] at hi
      have him : i = m := by simpa using hi
      subst him
      refine ⟨Nat.lt_succ_self _, .inr ⟨o, by simpa using ho, by unfold Region.wanted; rw [hgd], fun w' hw' => ?_⟩⟩
      obtain ⟨v, w'', hr, hg2, hrest⟩ := hmk w' hw'
      exact ⟨v, w'', ⟨w'', hg2⟩, hr, Regr.self w'', hq2.2, hrest⟩)
    (l.take m) 0 (Array.replicate l.toArray.size false) a (fun j hj => by
      have hj' : j < m := by rw [htl] at hj; exact hj
      simp [hj']) (by rw [htl]; omega) inv0 hS (by rw [htl]; exact hlex) (fun c => hq c.1 c.2)
  refine wp_region_any hm ?_
  have := Fam.any (P := P) (ops := l.toArray) (md := .any) (C := fun (c : { W : World // G W }) w' => Regr c.1 w') (n := m + 1) (Q := Q) (g := l.toArray.size - (m + 1)) (L := fun listed a' c => Region.seqB .any l.toArray (l.toArray.size - (m + 1)) (m + 1) listed = true ∧ ∀ w3, Regr c.1 w3 → wpList P l.toArray Q (l.drop (m + 1)) a' w3) (fun listed a' c w' hw' hL => by
    have := wpAny_of_seq (md := .any) (Q' := Q) (l.drop (m + 1)) (m + 1) listed a' w' (fun j => by simp [List.getElem?_drop]) (by rw [hdl]; exact hL.1) (hL.2 w' hw')
    rwa [hdl] at this) _ _ _ _ { w with drawn := w.drawn + 1 } (show Regr w _ from ⟨⟨w.drawn + 1, #[]⟩, by rw [grow_empty]; rfl⟩) H
  rw [htl, show m + 1 + (l.toArray.size - (m + 1)) = l.toArray.size by omega] at this
  exact this
end
end Go.Proofs.YtccnkmffadmfhaaGreatDoor
