/-
  The contracts of the law's own helpers: slices of texts compared, marked, and asked for their marks.
  How many items a text has at most, and what is kept of an owned slice where another one is marked.
  A region that draws its order, whose operations only read but for one that makes a block and a few at its end that wait for all the others: walked once, whenever the block is made.
  The specification's ReadControl by its contract.
  How large items are.
  The specification's tags by their contracts: TagOk, ShowTag, ReadTag, Strong, Alike.
  The specification's ReadTag, Strong and Alike by their contracts.
-/
import Derived.Test.YtkaogmdhjcgcdaaGreatDoorG04
import Derived.Deep.QuietTactic
import Derived.BigQuiet
import Derived.Deep.RegionWith
import Derived.Laws.IdiomStrings
import Derived.Test.YtkaogmdhjcgcdaaGreatDoorG25
import Derived.Test.YtkaogmdhjcgcdaaGreatDoorG23
import Derived.Deep.DeepCutAuto
import Derived.Test.YtkaogmdhjcgcdaaGreatDoorG10
import Derived.Test.YtkaogmdhjcgcdaaGreatDoorG11
import Derived.Test.YtkaogmdhjcgcdaaGreatDoorRows
import Derived.WalkKit
import Derived.WalkSpells
import Derived.Laws.Strings
namespace Go.Proofs.YtkaogmdhjcgcdaaGreatDoor
open Go.RowKit

/-- What a walk reads of an owned slice of texts. -/
theorem OwnsS.at {w : World} {B g n cap : Nat} {l : List ByteArray} (h : OwnsS w B (.slice (some ⟨g, 0, none⟩) n cap) l) (hn : n = l.length) : ∀ j (hj : j < l.length), w.cell? ⟨g, j, none⟩ = some (.string l[j]) := by
  intro j hj
  subst hn
  have := World.ownsRow.cellAt h.2 j (by omega)
  rw [this]
  simp [hj]

/-- A text stored into an owned slice. -/
theorem OwnsS.put {w : World} {B g cap : Nat} {l : List ByteArray} {n : Nat} (hn : n = l.length) (h : OwnsS w B (.slice (some ⟨g, 0, none⟩) n cap) l) (k : Nat) (c : ByteArray) : OwnsS (w.setCell ⟨g, k, none⟩ (.string c)) B (.slice (some ⟨g, 0, none⟩) n cap) (l.set k c) := by
  subst hn
  obtain ⟨⟨g', cap', hv, hb, hg⟩, ho⟩ := h
  have h2 := (ho.stored k (.string c)).1
  simp only [Value.slice.injEq, Option.some.injEq, Addr.mk.injEq, and_true, true_and] at hv
  obtain ⟨rfl, rfl⟩ := hv
  refine ⟨⟨g, cap, by rw [List.length_set], hb, by simpa [World.setCell] using hg⟩, ?_⟩
  rw [List.length_set, List.map_set]
  exact h2
theorem OwnsS.free {w : World} {B g n cap : Nat} {l : List ByteArray} (hn : n = l.length) (h : OwnsS w B (.slice (some ⟨g, 0, none⟩) n cap) l) (j : Nat) : w.frozen? ⟨g, j, none⟩ = false := by
  subst hn
  exact h.2.frozenAt j

/-- What holds of every block but g. -/
def But (g : Nat) (w w' : World) : Prop := w'.os = w.os ∧ w'.tape = w.tape ∧ w'.output = w.output ∧ w.heap.size ≤ w'.heap.size ∧ ∀ k, k < w.heap.size → k ≠ g → w'.heap[k]? = w.heap[k]?
theorem But.refl (g : Nat) (w : World) : But g w w := ⟨rfl, rfl, rfl, Nat.le_refl _, fun _ _ _ => rfl⟩
theorem But.below {g : Nat} {a w w' : World} (h : But g a w) (hb : Below w.heap.size w w') : But g a w' :=
  ⟨hb.os.trans h.1, hb.tape.trans h.2.1, hb.output.trans h.2.2.1, Nat.le_trans h.2.2.2.1 hb.size, fun k hk hg => (hb.block k (by have := h.2.2.2.1; omega)).trans (h.2.2.2.2 k hk hg)⟩
theorem But.put {g : Nat} {a w : World} (h : But g a w) (k : Nat) (v : Value) : But g a (w.setCell ⟨g, k, none⟩ v) :=
  ⟨h.1, h.2.1, h.2.2.1, by simpa [World.setCell] using h.2.2.2.1, fun j hj hg => (Below.heap_setCell _ _ _ _ hg).trans (h.2.2.2.2 j hj hg)⟩

end Go.Proofs.YtkaogmdhjcgcdaaGreatDoor
namespace Go.Proofs.YtkaogmdhjcgcdaaGreatDoor
open Go.RowKit

theorem partsF_length : ∀ (n : Nat) (l cur : List UInt8) (op : Bool), l.length ≤ n → (partsF cur op l).length ≤ l.length + 1 := by
  intro n
  induction n with
  | zero =>
    intro l cur op h
    have e : l = [] := List.eq_nil_of_length_eq_zero (by omega)
    subst e
    rw [partsF_nil]; simp
  | succ n ih =>
    intro l cur op h
    cases l with
    | nil => rw [partsF_nil]; simp
    | cons c r =>
      simp only [List.length_cons] at h
      by_cases h1 : op = false ∧ c.toNat = 44
      · obtain ⟨rfl, h1⟩ := h1
        rw [partsF_comma _ _ h1]
        have := ih r [] false (by omega)
        simp only [List.length_cons]
        omega
      · by_cases h2 : c.toNat = 34
        · rw [partsF_quote _ _ _ h2]
          have := ih r (cur ++ [c]) (!op) (by omega)
          simp only [List.length_cons]
          omega
        · by_cases h3 : op = true ∧ c.toNat = 92
          · obtain ⟨rfl, h3⟩ := h3
            rw [partsF_take _ _ h3]
            cases r with
            | nil => simp
            | cons d r =>
              simp only [List.length_cons] at h ⊢
              have := ih r (cur ++ [c] ++ [d]) true (by omega)
              show (partsF (cur ++ [c] ++ [d]) true r).length ≤ _
              omega
          · rw [partsF_plain _ _ _ h1 h2 h3]
            have := ih r (cur ++ [c]) op (by omega)
            simp only [List.length_cons]
            omega
theorem itemsOf_length (ps : List (List UInt8)) : (itemsOf ps).length ≤ ps.length := by
  induction ps with
  | nil => simp [itemsOf]
  | cons p ps ih =>
    rw [itemsOf_cons, List.length_append, List.length_cons]
    have := one_length ⟨p.toArray⟩
    omega
theorem itemsA_length (s : ByteArray) : (itemsA s).length ≤ 401 := by
  cases h : visB s with
  | false => rw [← itemsA_no h]; simp
  | true =>
    rw [← itemsA_yes h]
    have h1 := vis_size h
    have h2 := partsF_length s.data.toList.length s.data.toList [] false (Nat.le_refl _)
    have h3 := itemsOf_length (partsF [] false s.data.toList)
    have h4 : s.data.toList.length = s.size := by simp
    unfold itemsT
    omega

theorem OwnsS.but {w w' : World} {B g : Nat} {v : Value} {l : List ByteArray} (h : OwnsS w B v l) (hb : But g w w') (hne : ∀ k, v.ownBlock = some k → k ≠ g) : OwnsS w' B v l := by
  obtain ⟨⟨g0, cap, hv, hbg, hg⟩, h1, h2⟩ := h
  refine ⟨⟨g0, cap, hv, hbg, Nat.lt_of_lt_of_le hg hb.2.2.2.1⟩, h1, ?_⟩
  rcases h2 with h0 | ⟨g', cap', cur, hv', hb', hg', rest⟩
  · exact .inl h0
  · refine .inr ⟨g', cap', cur, hv', hb', ?_, rest⟩
    rw [hb.2.2.2.2 g' (Array.getElem?_eq_some_iff.1 hg').1 (hne g' (by rw [hv']; rfl))]
    exact hg'
theorem But.low {g B : Nat} {w w' : World} (h : But g w w') (hB : B ≤ g) (hs : B ≤ w.heap.size) : Below B w w' :=
  ⟨h.1, h.2.1, h.2.2.1, h.2.2.2.1, fun k hk => h.2.2.2.2 k (by omega) (by omega)⟩
theorem OwnsS.under {w : World} {B : Nat} {v : Value} {l : List ByteArray} (h : OwnsS w B v l) : ∀ k, v.ownBlock = some k → k < w.heap.size := fun k hk => (World.ownsRow.lt h.2 k hk).2
end Go.Proofs.YtkaogmdhjcgcdaaGreatDoor
namespace Go.Proofs.YtkaogmdhjcgcdaaGreatDoor
open Go Go.RowKit Go.Sort
set_option linter.unusedVariables false

section
variable {P : Program} {ops : Array Oper} {md : Region.Mode} {ι : Type} {C : ι → World → Prop}
/-- It yields the same value in every class. -/
def Tells (P : Program) (ops : Array Oper) (C : ι → World → Prop) (i : Nat) (K : Act → ι → Prop) (a : Act) (c : ι) : Prop :=
  ∃ o v, ops[i]? = some o ∧ (∀ c, YieldsIn P ops (C c) o v a) ∧ K (a.put o.dst v) c
/-- It yields a value and leads into another class. -/
def Makes (P : Program) (ops : Array Oper) (C : ι → World → Prop) (i : Nat) (K : Act → ι → Prop) (a : Act) (c : ι) : Prop :=
  ∃ o, ops[i]? = some o ∧ Region.wanted o (yielded ops a.tmps) = true ∧ ∀ w, C c w → ∃ v w' c', (execOp a.eval o).run P w = .ok (.value v) w' ∧ C c' w' ∧ K (a.put o.dst v) c'
def Fam (P : Program) (md : Region.Mode) (ops : Array Oper) (C : ι → World → Prop) (n : Nat) (L : Array Bool → Act → ι → Prop) : Nat → Array Bool → Act → ι → Prop
  | 0, listed, a, c => L listed a c
  | f + 1, listed, a, c => ¬ Region.ready md ops listed = [] ∧ ∀ i ∈ Region.ready md ops listed, i < n ∧ (Tells P ops C i (fun a' c' => Fam P md ops C n L f (listed.setIfInBounds i true) a' c') a c ∨ Makes P ops C i (fun a' c' => Fam P md ops C n L f (listed.setIfInBounds i true) a' c') a c)
theorem Fam.any {n g : Nat} {L : Array Bool → Act → ι → Prop} {Q : Exit → Act → World → Prop} (hL : ∀ listed a c w, C c w → L listed a c → wpAny P md ops Q g listed a w) :
    ∀ (f : Nat) (listed : Array Bool) (a : Act) (c : ι) (w : World), C c w → Fam P md ops C n L f listed a c → wpAny P md ops Q (f + g) listed a w := by
  intro f
  induction f with
  | zero => intro listed a c w hw h; rw [Nat.zero_add]; exact hL _ _ _ _ hw h
  | succ f ih =>
    intro listed a c w hw h
    rw [show f + 1 + g = (f + g) + 1 by omega]
    refine ⟨fun h0 => absurd h0 h.1, fun i hi => ?_⟩
    rcases (h.2 i hi).2 with ⟨o, v, ho, hy, hK⟩ | ⟨o, ho, hwt, hmk⟩
    · exact wpOp_of_qOp hw (fun a' w' hw' h' => ih _ a' c w' hw' h') ((hy c).qOp ho hK)
    · obtain ⟨v, w', c', hr, hc', hK⟩ := hmk w hw
      unfold wpOp
      rw [ho]
      show if Region.wanted o (yielded ops a.tmps) = true then _ else _
      rw [if_pos hwt]
      refine .inl ?_
      unfold Oper.wp
      rw [hr]
      exact ih _ _ c' w' hc' hK
theorem Fam.first {n i : Nat} {oi : Oper} {v : Value} {L : Array Bool → Act → ι → Prop} (hi : ops[i]? = some oi) (hsel : ∀ (j : Nat) (o : Oper) cs b, ops[j]? = some o → o.op ≠ .select cs b)
    (hs : Region.sinkB md ops n = true) (hc : Region.chainB md ops n = true) (hn : n < ops.size) (hin : i < n) (hdone : ∀ listed a c, L listed a c → ∀ j ∈ Region.ready md ops listed, n ≤ j) :
    ∀ (f : Nat) (listed : Array Bool) (a : Act) (c : ι), HeadInv md ops n listed →
      (∀ j oj, ops[j]? = some oj → j ≠ i → listed.getD j true = false → (∀ e ∈ oj.after, Region.binds md e = true → e.on ≠ i) → oi.apart ops oj = true) →
      i ∈ Region.ready md ops listed → (∀ c, YieldsIn P ops (C c) oi v a) → Fam P md ops C n L f (listed.setIfInBounds i true) (a.put oi.dst v) c → Fam P md ops C n L (f + 1) listed a c := by
  intro f
  induction f with
  | zero =>
    intro listed a c inv _ hr hy H
    refine ⟨fun h => (by rw [h] at hr; cases hr), fun j hj => ⟨ahead_lt hs hc hn inv hin hr hj, ?_⟩⟩
    by_cases hji : j = i
    · subst hji; exact .inl ⟨oi, v, hi, hy, H⟩
    · have h1 := hdone _ _ _ H j (ready_mono hj hji)
      have h2 := ahead_lt hs hc hn inv hin hr hj
      omega
  | succ f ih =>
    intro listed a c inv hfree hr hy H
    have hun := (mem_ready.1 hr).1
    refine ⟨fun h => (by rw [h] at hr; cases hr), fun j hj => ⟨ahead_lt hs hc hn inv hin hr hj, ?_⟩⟩
    by_cases hji : j = i
    · subst hji; exact .inl ⟨oi, v, hi, hy, H⟩
    · have h1 := (H.2 j (ready_mono hj hji)).2
      obtain ⟨hjun, oj, hoj, hall⟩ := mem_ready.1 hj
      have hnot : ∀ e ∈ oj.after, Region.binds md e = true → e.on ≠ i := fun e he hb heq => by
        have h3 := hall e he hb
        rw [heq, getD_both hun] at h3
        cases h3
      obtain ⟨p1, p2, p3⟩ := Oper.apart_spec (hfree j oj hoj hji hjun hnot)
      have hsi : ∀ cs b, oi.op ≠ .select cs b := fun cs b => hsel i oi cs b hi
      have hsj : ∀ cs b, oj.op ≠ .select cs b := fun cs b => hsel j oj cs b hoj
      have keep : ∀ u, ∀ c, YieldsIn P ops (C c) oi v (a.put oj.dst u) := fun u c => (hy c).of_same (execOp_put oi hsi a oj.dst u p3) (wanted_put oi a oj.dst u p3)
      have go : ∀ (u : Value) (c' : ι), Fam P md ops C n L f ((listed.setIfInBounds i true).setIfInBounds j true) ((a.put oi.dst v).put oj.dst u) c' → Fam P md ops C n L (f + 1) (listed.setIfInBounds j true) (a.put oj.dst u) c' := fun u c' h3 => by
        refine ih (listed.setIfInBounds j true) _ c' (inv.set hj (ahead_lt hs hc hn inv hin hr hj)) (fun k ok hk hki hku hno => ?_) (ready_mono hr (Ne.symm hji)) (keep u) ?_
        · refine hfree k ok hk hki ?_ hno
          by_cases hjk : j = k
          · subst hjk; exact hjun
          · rw [getD_set_ne true hjk] at hku; exact hku
        · rw [Array.setIfInBounds_comm _ _ hji, ← Act.put_comm a v u p2]
          exact h3
      rcases h1 with ⟨o, u, ho, hyj, hK⟩ | ⟨o, ho, hwt, hmk⟩
      · have : o = oj := Option.some.inj (ho.symm.trans hoj)
        subst this
        exact .inl ⟨o, u, ho, fun c => (hyj c).of_same (execOp_put o hsj a oi.dst v p1).symm (wanted_put o a oi.dst v p1).symm, go u c hK⟩
      · have : o = oj := Option.some.inj (ho.symm.trans hoj)
        subst this
        refine .inr ⟨o, ho, by rw [← wanted_put o a oi.dst v p1]; exact hwt, fun w hw => ?_⟩
        obtain ⟨u, w', c', hrun, hc', hK⟩ := hmk w hw
        rw [execOp_put o hsj a oi.dst v p1] at hrun
        exact ⟨u, w', c', hrun, hc', go u c' hK⟩
end
end Go.Proofs.YtkaogmdhjcgcdaaGreatDoor
namespace Go.Proofs.YtkaogmdhjcgcdaaGreatDoor
open Go.RowKit Go.Sort
set_option linter.unusedVariables false
set_option linter.unusedSimpArgs false

/-- What holds in a round of ReadControl. -/
structure RdF (w : World) (g : Nat) (l : List ByteArray) (c : Ct) (x : World) : Prop where
  n : CtB x (w.heap.size + 1) c
  z : CtB x w.heap.size ctZ
  o : ∀ j (hj : j < l.length), x.cell? ⟨g, j, Option.none⟩ = some (.string l[j])
  b : Below w.heap.size w x
theorem RdF.kept {w x x' : World} {g : Nat} {l : List ByteArray} {c : Ct} (h : RdF w g l c x) (hb : Below x.heap.size x x') : RdF w g l c x' :=
  ⟨h.n.kept hb, h.z.kept hb, fun j hj => (hb.cell (p := ⟨g, j, Option.none⟩) (block_lt_of_cell (h.o j hj))).trans (h.o j hj), past9 h.b hb⟩
theorem RdF.put {w x : World} {g : Nat} {l : List ByteArray} {c : Ct} (h : RdF w g l c x) (hg : w.heap.size + 1 < g) (i : Nat) (hi : i < 7) (u : Value) (c' : Ct) (hy : ctE.c c' = (ctE.c c).set i u) : RdF w g l c' (x.setCell ⟨w.heap.size + 1, i, Option.none⟩ u) :=
  ⟨h.n.put hi u c' hy, h.z.other _ u (by show w.heap.size ≠ w.heap.size + 1; omega), fun j hj => by
    rw [World.cell?_setCell_other _ _ _ _ (by simp <;> omega)]
    exact h.o j hj, h.b.setCell (p := ⟨w.heap.size + 1, i, Option.none⟩) (by show w.heap.size ≤ w.heap.size + 1; omega) u⟩
theorem wdT_eq (x : ByteArray) : (x.toList == [109, 97, 120, 45, 115, 116, 97, 108, 101]) = decide (x = wdT) := by
  have h : wdT.toList = [109, 97, 120, 45, 115, 116, 97, 108, 101] := by unfold wdT; rw [ByteArray.toList_eq]
  rw [← h]; exact txt_eq9 x wdT
theorem wdS_eq (x : ByteArray) : (x.toList == [110, 111, 45, 115, 116, 111, 114, 101]) = decide (x = wdS) := by
  have h : wdS.toList = [110, 111, 45, 115, 116, 111, 114, 101] := by unfold wdS; rw [ByteArray.toList_eq]
  rw [← h]; exact txt_eq9 x wdS
theorem wdC_eq (x : ByteArray) : (x.toList == [110, 111, 45, 99, 97, 99, 104, 101]) = decide (x = wdC) := by
  have h : wdC.toList = [110, 111, 45, 99, 97, 99, 104, 101] := by unfold wdC; rw [ByteArray.toList_eq]
  rw [← h]; exact txt_eq9 x wdC
theorem wdP_eq (x : ByteArray) : (x.toList == [112, 114, 105, 118, 97, 116, 101]) = decide (x = wdP) := by
  have h : wdP.toList = [112, 114, 105, 118, 97, 116, 101] := by unfold wdP; rw [ByteArray.toList_eq]
  rw [← h]; exact txt_eq9 x wdP
theorem wdM_eq (x : ByteArray) : (x.toList == [109, 117, 115, 116, 45, 114, 101, 118, 97, 108, 105, 100, 97, 116, 101]) = decide (x = wdM) := by
  have h : wdM.toList = [109, 117, 115, 116, 45, 114, 101, 118, 97, 108, 105, 100, 97, 116, 101] := by unfold wdM; rw [ByteArray.toList_eq]
  rw [← h]; exact txt_eq9 x wdM
theorem low_size9 (s : ByteArray) : (lowS s).size = s.size := by
  show (lowS s).data.size = s.data.size
  unfold lowS
  simp
set_option maxRecDepth 100000 in
set_option maxRecDepth 100000 in
set_option maxHeartbeats 4000000 in
theorem specRdC (s : ByteArray) (w : World) (hs : s.size ≤ maxLen) (hzs : ∀ x ∈ itemsA s, x.size ≤ 400) :
    Calls Tryz.prog 32 #[.string s] w fun e w' => e = .returned (ctV (rdCt s)) ∧ Below w.heap.size w w' := by
  have hit := fun W => specItems s W hs
  have hlen := itemsA_length s
  have HD : Hid (rdCt s = rdLt (itemsA s)) := rfl
  have Z0 : Hid (CtB ((w.alloc (.cells #[.int .i64 0, .int .i64 0, .int .i64 0, .bool false, .bool false, .bool false, .bool false] 50)).alloc (.cells #[.int .i64 (-1), .int .i64 (-1), .int .i64 (-1), .bool false, .bool false, .bool false, .bool false] 50)) w.heap.size ctZ) := (CtB.born w ctZ 50).alloc _
  have N0 : Hid (CtB ((w.alloc (.cells #[.int .i64 0, .int .i64 0, .int .i64 0, .bool false, .bool false, .bool false, .bool false] 50)).alloc (.cells #[.int .i64 (-1), .int .i64 (-1), .int .i64 (-1), .bool false, .bool false, .bool false, .bool false] 50)) (w.heap.size + 1) ctN) := by
    have := CtB.born (w.alloc (.cells #[.int .i64 0, .int .i64 0, .int .i64 0, .bool false, .bool false, .bool false, .bool false] 50)) ctN 50
    simp only [World.size_alloc] at this
    exact this
  have B0 : Hid (Below w.heap.size w ((w.alloc (.cells #[.int .i64 0, .int .i64 0, .int .i64 0, .bool false, .bool false, .bool false, .bool false] 50)).alloc (.cells #[.int .i64 (-1), .int .i64 (-1), .int .i64 (-1), .bool false, .bool false, .bool false, .bool false] 50))) := ((Below.refl _ w).alloc (by simp <;> omega) _).alloc (by simp <;> omega) _
  generalize rdCt s = R at HD ⊢
  generalize itemsA s = l at hit hlen hzs HD
  go_enter Tryz.func32, Tryz.ntmps32
  go_wp2_with fail
  refine (hit _).mono ?_
  rintro e w1 ⟨v, rfl, ho, hb1⟩
  have ho' := ho
  obtain ⟨⟨g, cap, rfl, hg0, hg1⟩, _⟩ := ho
  have O1 : Hid (∀ j (hj : j < l.length), w1.cell? ⟨g, j, Option.none⟩ = some (.string l[j])) := ho'.at rfl
  have Z1 : Hid (CtB w1 w.heap.size ctZ) := Z0.out.kept hb1
  have N1 : Hid (CtB w1 (w.heap.size + 1) ctN) := N0.out.kept hb1
  have B1 : Hid (Below w.heap.size w w1) := past9 B0.out hb1
  simp only [World.size_alloc] at hg0
  clear hb1 ho' hit Z0 N0 B0 hg1
  go_wp2
  have H1 : Hid (RdF w g l ctN w1) := ⟨N1.out, Z1.out, O1.out, B1.out⟩
  clear Z1 N1 O1 B1
  go_loopw [5, 6, 7, 8, 9, 10, 11, 12] (fun i _ _ _ _ _ _ _ wr => ∃ (k : Nat), k ≤ l.length ∧ i = .int .i64 k ∧ Hid (RdF w g l (rdLt (l.take k)) wr)) (fun i _ _ _ _ _ _ _ _ => l.length - (intOf i).toNat)
  case atStart => exact ⟨0, Nat.zero_le _, rfl, H1⟩
  case round =>
    obtain ⟨k, hk, rfl, hF⟩ := hrel
    by_cases hlt : k < l.length
    · have hc := hF.out.o k hlt
      have hst : Hid (rdLt (l.take (k + 1)) = stp (rdLt (l.take k)) (lowS l[k])) := by
        show _ = _
        rw [List.take_add_one, List.getElem?_eq_getElem hlt]
        exact rdL_snoc (l.take k) l[k]
      have hz := hzs l[k] (List.getElem_mem hlt)
      have hlo := fun W => specLow l[k] W (by unfold maxLen; omega)
      have hxs := low_size9 l[k]
      generalize l[k] = t at hc hst hz hlo hxs
      generalize lowS t = x at hst hlo hxs
      generalize rdLt (l.take k) = c at hF hst
      have q1 := fun W => specTold x nmA W (by unfold maxLen; omega) (by decide)
      have q2 := fun W => specTold x nmS W (by unfold maxLen; omega) (by decide)
      have q3 := fun W => specTold x nmT W (by unfold maxLen; omega) (by decide)
      have s1 : ∀ c : Ct, st1 c x = if (told x nmA).2 = true ∧ c.a < 0 then { c with a := (told x nmA).1 } else c := fun _ => rfl
      have s2 : ∀ c : Ct, st2 c x = if (told x nmS).2 = true ∧ c.s < 0 then { c with s := (told x nmS).1 } else c := fun _ => rfl
      have s3 : ∀ c : Ct, st3 c x = if (told x nmT).2 = true ∧ c.t < 0 then { c with t := (told x nmT).1 } else c := fun _ => rfl
      generalize (told x nmA).1 = n1 at q1 s1
      generalize (told x nmA).2 = b1 at q1 s1
      unfold nmA at q1
      generalize (told x nmS).1 = n2 at q2 s2
      generalize (told x nmS).2 = b2 at q2 s2
      unfold nmS at q2
      generalize (told x nmT).1 = n3 at q3 s3
      generalize (told x nmT).2 = b3 at q3 s3
      unfold nmT at q3
      have hst3 : Hid (rdLt (l.take (k + 1)) = st4 (st3 (st2 (st1 c x) x) x) x) := hst
      have hgw : w.heap.size + 1 < g := by omega
      have y1 : Hid _ := wdT_eq x
      have y2 : Hid _ := wdS_eq x
      have y3 : Hid _ := wdC_eq x
      have y4 : Hid _ := wdP_eq x
      have y5 : Hid _ := wdM_eq x
      clear hst
      go_wp2_with fail
      refine (hlo _).mono ?_
      rintro e w2 ⟨rfl, hb2⟩
      have F0 : Hid (RdF w g l c w2) := hF.out.kept hb2
      clear hb2 hF hc hlo hxs hz
      go_wp2_with fail
      refine (q1 _).mono ?_
      rintro e v0 ⟨rfl, hb3⟩
      have G0 : Hid (RdF w g l c v0) := F0.out.kept hb3
      clear hb3 F0 q1
      obtain ⟨e0, e1, e2, e3, e4, e5, e6⟩ := G0.out.n.all
      have ef := G0.out.n.fz
      go_upto_region 8 with fail
      go_cut [37] (fun q wx => q = .bool (b1 && decide (c.a < 0)) ∧ wx = v0)
      case first =>
        cases b1
        all_goals (go_wp2_with fail)
        all_goals go_meet
        all_goals exact ⟨rfl, rfl⟩
      case rest =>
        obtain ⟨rfl, rfl⟩ := hcut
        obtain ⟨x0, rfl⟩ : ∃ z, z = wc := ⟨wc, rfl⟩
        go_upto_if 37 with fail
        go_cut [7] (fun q wx => q = .int .i64 n1 ∧ Hid (RdF w g l (st1 c x) wx))
        case first =>
          by_cases hcc : b1 = true ∧ c.a < 0
          · obtain ⟨rfl, hca⟩ := hcc
            have HP : Hid (RdF w g l (st1 c x) (x0.setCell ⟨w.heap.size + 1, 0, Option.none⟩ (.int .i64 n1))) := by
              rw [s1, if_pos ⟨rfl, hca⟩]
              exact G0.out.put hgw 0 (by decide) _ _ rfl
            have hd : (true && decide (c.a < 0)) = true := by rw [decide_eq_true hca]; rfl
            rw [hd]
            clear hd
            go_wp2_with fail
            go_meet
            exact ⟨rfl, HP⟩
          · have HP : Hid (RdF w g l (st1 c x) x0) := by
              rw [s1, if_neg hcc]
              exact G0.out
            have hd : (b1 && decide (c.a < 0)) = false := by
              cases hb9 : b1 && decide (c.a < 0) with
              | false => rfl
              | true =>
                rw [Bool.and_eq_true, decide_eq_true_iff] at hb9
                exact absurd hb9 hcc
            go_wp2_with fail
            go_meet
            exact ⟨rfl, HP⟩
        case rest =>
          obtain ⟨rfl, F1⟩ := hcut
          obtain ⟨z0, rfl⟩ : ∃ z, z = wc := ⟨wc, rfl⟩
          clear G0 e0 e1 e2 e3 e4 e5 e6 ef
          generalize st1 c x = c1 at F1 hst3
          go_wp2_with fail
          refine (q2 _).mono ?_
          rintro e v1 ⟨rfl, hb3⟩
          have G1 : Hid (RdF w g l c1 v1) := F1.out.kept hb3
          clear hb3 F1 q2
          obtain ⟨e0, e1, e2, e3, e4, e5, e6⟩ := G1.out.n.all
          have ef := G1.out.n.fz
          go_upto_region 11 with fail
          go_cut [50] (fun q wx => q = .bool (b2 && decide (c1.s < 0)) ∧ wx = v1)
          case first =>
            cases b2
            all_goals (go_wp2_with fail)
            all_goals go_meet
            all_goals exact ⟨rfl, rfl⟩
          case rest =>
            obtain ⟨rfl, rfl⟩ := hcut
            obtain ⟨x1, rfl⟩ : ∃ z, z = wc := ⟨wc, rfl⟩
            go_upto_if 50 with fail
            go_cut [9] (fun q wx => q = .int .i64 n2 ∧ Hid (RdF w g l (st2 c1 x) wx))
            case first =>
              by_cases hcc : b2 = true ∧ c1.s < 0
              · obtain ⟨rfl, hca⟩ := hcc
                have HP : Hid (RdF w g l (st2 c1 x) (x1.setCell ⟨w.heap.size + 1, 1, Option.none⟩ (.int .i64 n2))) := by
                  rw [s2, if_pos ⟨rfl, hca⟩]
                  exact G1.out.put hgw 1 (by decide) _ _ rfl
                have hd : (true && decide (c1.s < 0)) = true := by rw [decide_eq_true hca]; rfl
                rw [hd]
                clear hd
                go_wp2_with fail
                go_meet
                exact ⟨rfl, HP⟩
              · have HP : Hid (RdF w g l (st2 c1 x) x1) := by
                  rw [s2, if_neg hcc]
                  exact G1.out
                have hd : (b2 && decide (c1.s < 0)) = false := by
                  cases hb9 : b2 && decide (c1.s < 0) with
                  | false => rfl
                  | true =>
                    rw [Bool.and_eq_true, decide_eq_true_iff] at hb9
                    exact absurd hb9 hcc
                go_wp2_with fail
                go_meet
                exact ⟨rfl, HP⟩
            case rest =>
              obtain ⟨rfl, F2⟩ := hcut
              obtain ⟨z1, rfl⟩ : ∃ z, z = wc := ⟨wc, rfl⟩
              clear G1 e0 e1 e2 e3 e4 e5 e6 ef
              generalize st2 c1 x = c2 at F2 hst3
              go_wp2_with fail
              refine (q3 _).mono ?_
              rintro e v2 ⟨rfl, hb3⟩
              have G2 : Hid (RdF w g l c2 v2) := F2.out.kept hb3
              clear hb3 F2 q3
              obtain ⟨e0, e1, e2, e3, e4, e5, e6⟩ := G2.out.n.all
              have ef := G2.out.n.fz
              go_upto_region 14 with fail
              go_cut [63] (fun q wx => q = .bool (b3 && decide (c2.t < 0)) ∧ wx = v2)
              case first =>
                cases b3
                all_goals (go_wp2_with fail)
                all_goals go_meet
                all_goals exact ⟨rfl, rfl⟩
              case rest =>
                obtain ⟨rfl, rfl⟩ := hcut
                obtain ⟨x2, rfl⟩ : ∃ z, z = wc := ⟨wc, rfl⟩
                go_upto_if 63 with fail
                go_cut [11] (fun q wx => q = .int .i64 n3 ∧ Hid (RdF w g l (st3 c2 x) wx))
                case first =>
                  by_cases hcc : b3 = true ∧ c2.t < 0
                  · obtain ⟨rfl, hca⟩ := hcc
                    have HP : Hid (RdF w g l (st3 c2 x) (x2.setCell ⟨w.heap.size + 1, 2, Option.none⟩ (.int .i64 n3))) := by
                      rw [s3, if_pos ⟨rfl, hca⟩]
                      exact G2.out.put hgw 2 (by decide) _ _ rfl
                    have hd : (true && decide (c2.t < 0)) = true := by rw [decide_eq_true hca]; rfl
                    rw [hd]
                    clear hd
                    go_wp2_with fail
                    go_meet
                    exact ⟨rfl, HP⟩
                  · have HP : Hid (RdF w g l (st3 c2 x) x2) := by
                      rw [s3, if_neg hcc]
                      exact G2.out
                    have hd : (b3 && decide (c2.t < 0)) = false := by
                      cases hb9 : b3 && decide (c2.t < 0) with
                      | false => rfl
                      | true =>
                        rw [Bool.and_eq_true, decide_eq_true_iff] at hb9
                        exact absurd hb9 hcc
                    go_wp2_with fail
                    go_meet
                    exact ⟨rfl, HP⟩
                case rest =>
                  obtain ⟨rfl, F3⟩ := hcut
                  obtain ⟨z2, rfl⟩ : ∃ z, z = wc := ⟨wc, rfl⟩
                  clear G2 e0 e1 e2 e3 e4 e5 e6 ef
                  generalize st3 c2 x = c3 at F3 hst3
                  obtain ⟨e0, e1, e2, e3, e4, e5, e6⟩ := F3.out.n.all
                  have ef := F3.out.n.fz
                  have i1 := y1.out
                  have i2 := y2.out
                  have i3 := y3.out
                  have i4 := y4.out
                  have i5 := y5.out
                  unfold st4 at hst3
                  by_cases h0 : x = wdT
                  · rw [decide_eq_true h0] at i1
                    by_cases hca : c3.t < 0
                    · have HC : Hid (rdLt (l.take (k + 1)) = { c3 with t := 1000000000 }) := by
                        have := hst3.out; rw [if_pos h0, if_pos hca] at this; exact this
                      have HP := F3.out.put hgw 2 (by decide) (.int .i64 1000000000) { c3 with t := 1000000000 } rfl
                      have HP : Hid _ := HP
                      have hd : decide (c3.t < 0) = true := decide_eq_true hca
                      clear F3 hst3 h0
                      go_wp2
                      go_roundw
                      case rel => exact ⟨k + 1, by omega, by go_num, by rw [HC.out]; exact HP⟩
                      case measure => simp [intOf]; omega
                    · have HC : Hid (rdLt (l.take (k + 1)) = c3) := by
                        have := hst3.out; rw [if_pos h0, if_neg hca] at this; exact this
                      have HP : Hid _ := F3.out
                      have hd : decide (c3.t < 0) = false := decide_eq_false hca
                      clear F3 hst3 h0
                      go_wp2
                      go_roundw
                      case rel => exact ⟨k + 1, by omega, by go_num, by rw [HC.out]; exact HP⟩
                      case measure => simp [intOf]; omega
                  rw [decide_eq_false h0] at i1
                  by_cases h1 : x = wdS
                  · rw [decide_eq_true h1] at i2
                    have HC : Hid (rdLt (l.take (k + 1)) = { c3 with ns := true }) := by
                      have := hst3.out; rw [if_neg h0, if_pos h1] at this; exact this
                    have HP := F3.out.put hgw 3 (by decide) (.bool true) { c3 with ns := true } rfl
                    have HP : Hid _ := HP
                    clear F3 hst3 h1
                    go_wp2
                    go_roundw
                    case rel => exact ⟨k + 1, by omega, by go_num, by rw [HC.out]; exact HP⟩
                    case measure => simp [intOf]; omega
                  rw [decide_eq_false h1] at i2
                  by_cases h2 : x = wdC
                  · rw [decide_eq_true h2] at i3
                    have HC : Hid (rdLt (l.take (k + 1)) = { c3 with nc := true }) := by
                      have := hst3.out; rw [if_neg h0, if_neg h1, if_pos h2] at this; exact this
                    have HP := F3.out.put hgw 4 (by decide) (.bool true) { c3 with nc := true } rfl
                    have HP : Hid _ := HP
                    clear F3 hst3 h2
                    go_wp2
                    go_roundw
                    case rel => exact ⟨k + 1, by omega, by go_num, by rw [HC.out]; exact HP⟩
                    case measure => simp [intOf]; omega
                  rw [decide_eq_false h2] at i3
                  by_cases h3 : x = wdP
                  · rw [decide_eq_true h3] at i4
                    have HC : Hid (rdLt (l.take (k + 1)) = { c3 with pr := true }) := by
                      have := hst3.out; rw [if_neg h0, if_neg h1, if_neg h2, if_pos h3] at this; exact this
                    have HP := F3.out.put hgw 5 (by decide) (.bool true) { c3 with pr := true } rfl
                    have HP : Hid _ := HP
                    clear F3 hst3 h3
                    go_wp2
                    go_roundw
                    case rel => exact ⟨k + 1, by omega, by go_num, by rw [HC.out]; exact HP⟩
                    case measure => simp [intOf]; omega
                  rw [decide_eq_false h3] at i4
                  by_cases h4 : x = wdM
                  · rw [decide_eq_true h4] at i5
                    have HC : Hid (rdLt (l.take (k + 1)) = { c3 with mu := true }) := by
                      have := hst3.out; rw [if_neg h0, if_neg h1, if_neg h2, if_neg h3, if_pos h4] at this; exact this
                    have HP := F3.out.put hgw 6 (by decide) (.bool true) { c3 with mu := true } rfl
                    have HP : Hid _ := HP
                    clear F3 hst3 h4
                    go_wp2
                    go_roundw
                    case rel => exact ⟨k + 1, by omega, by go_num, by rw [HC.out]; exact HP⟩
                    case measure => simp [intOf]; omega
                  rw [decide_eq_false h4] at i5
                  have HC : Hid (rdLt (l.take (k + 1)) = c3) := by
                    have := hst3.out; rw [if_neg h0, if_neg h1, if_neg h2, if_neg h3, if_neg h4] at this; exact this
                  have HP : Hid _ := F3.out
                  clear F3 hst3
                  go_wp2
                  go_roundw
                  case rel => exact ⟨k + 1, by omega, by go_num, by rw [HC.out]; exact HP⟩
                  case measure => simp [intOf]; omega
    · have hkl : k = l.length := by omega
      have HE : Hid (R = rdLt (l.take k)) := by show _ = _; rw [HD.out, hkl, List.take_length]
      generalize rdLt (l.take k) = c at hF HE
      obtain ⟨e0, e1, e2, e3, e4, e5, e6⟩ := hF.out.n.all
      obtain ⟨z0, z1, z2, z3, z4, z5, z6⟩ := hF.out.z.all
      have zf := hF.out.z.fz
      have HP : Hid (CtB (putL wr w.heap.size (ctE.c c) 0) w.heap.size c) := hF.out.z.puts c
      have BP : Hid (Below w.heap.size w (putL wr w.heap.size (ctE.c c) 0)) := putL_below (Nat.le_refl _) (ctE.c c) 0 hF.out.b
      unfold ctZ at z0 z1 z2 z3 z4 z5 z6
      simp only at z0 z1 z2 z3 z4 z5 z6
      clear hF hkl
      go_wp2
      obtain ⟨p0, p1, p2, p3, p4, p5, p6⟩ := CtB.all HP.out
      have bp := BP.out
      rw [ctE_c] at p0 p1 p2 p3 p4 p5 p6 bp
      simp only [putL, Nat.zero_add, Nat.reduceAdd] at p0 p1 p2 p3 p4 p5 p6 bp
      refine bodyPost_ret (v := ctV c) (by unfold ctV; simp [results, Tryz.results32, go_sem, p0, p1, p2, p3, p4, p5, p6]) rfl ⟨by rw [HE.out], bp⟩
end Go.Proofs.YtkaogmdhjcgcdaaGreatDoor
namespace Go.Proofs.YtkaogmdhjcgcdaaGreatDoor
open Go.RowKit

theorem partsF_size : ∀ (n : Nat) (l cur : List UInt8) (op : Bool), l.length ≤ n → ∀ p ∈ partsF cur op l, p.length ≤ cur.length + l.length := by
  intro n
  induction n with
  | zero =>
    intro l cur op h p hp
    have e : l = [] := List.eq_nil_of_length_eq_zero (by omega)
    subst e
    rw [partsF_nil] at hp
    rw [List.mem_singleton.1 hp]; simp
  | succ n ih =>
    intro l cur op h p hp
    cases l with
    | nil => rw [partsF_nil] at hp; rw [List.mem_singleton.1 hp]; simp
    | cons c r =>
      simp only [List.length_cons] at h ⊢
      by_cases h1 : op = false ∧ c.toNat = 44
      · obtain ⟨rfl, h1⟩ := h1
        rw [partsF_comma _ _ h1] at hp
        rcases List.mem_cons.1 hp with rfl | hp
        · omega
        · have := ih r [] false (by omega) p hp
          simp at this
          omega
      · by_cases h2 : c.toNat = 34
        · rw [partsF_quote _ _ _ h2] at hp
          have := ih r (cur ++ [c]) (!op) (by omega) p hp
          simp at this
          omega
        · by_cases h3 : op = true ∧ c.toNat = 92
          · obtain ⟨rfl, h3⟩ := h3
            rw [partsF_take _ _ h3] at hp
            cases r with
            | nil => simp at hp; subst hp; simp
            | cons d r =>
              simp only [List.length_cons] at h ⊢
              have := ih r (cur ++ [c] ++ [d]) true (by omega) p hp
              simp at this
              omega
          · rw [partsF_plain _ _ _ h1 h2 h3] at hp
            have := ih r (cur ++ [c]) op (by omega) p hp
            simp at this
            omega
theorem items_size (s : ByteArray) : ∀ x ∈ itemsA s, x.size ≤ 400 := by
  intro x hx
  cases h : visB s with
  | false => rw [← itemsA_no h] at hx; cases hx
  | true =>
    rw [← itemsA_yes h] at hx
    unfold itemsT itemsOf at hx
    obtain ⟨p, hp, hxp⟩ := List.mem_flatMap.1 hx
    have h1 := partsF_size s.data.toList.length s.data.toList [] false (Nat.le_refl _) p hp
    have h2 := vis_size h
    have h3 : s.data.toList.length = s.size := by simp
    unfold one at hxp
    split at hxp
    · rw [List.mem_singleton.1 hxp]
      have h4 := trimB_size ⟨p.toArray⟩
      have h5 : (⟨p.toArray⟩ : ByteArray).size = p.length := by show p.toArray.size = _; simp
      simp at h1
      omega
    · cases hxp
end Go.Proofs.YtkaogmdhjcgcdaaGreatDoor
namespace Go.Proofs.YtkaogmdhjcgcdaaGreatDoor
open Go.RowKit
set_option linter.unusedVariables false

theorem past7 {w w1 w2 : World} (h : Below w.heap.size w w1) (hb : Below w1.heap.size w1 w2) : Below w.heap.size w w2 := h.trans (hb.mono h.size)
/-- A tag in a block. -/
structure TgB (w : World) (b : Nat) (x : Tg) : Prop where
  c0 : w.cell? ⟨b, 0, none⟩ = some (.bool x.w)
  c1 : w.cell? ⟨b, 1, none⟩ = some (.string x.t)
  fz : ∀ k, w.frozen? ⟨b, k, none⟩ = false
  hi : b < w.heap.size
theorem TgB.new (w : World) (x : Tg) (t : TypeId) : TgB (w.alloc (.cells #[.bool x.w, .string x.t] t)) w.heap.size x where
  c0 := World.cell?_alloc_mark _ _ _ _ _
  c1 := World.cell?_alloc_mark _ _ _ _ _
  fz := fun k => by rw [World.frozen?_alloc_mark]; simp
  hi := by simp
theorem TgB.kept {w w' : World} {b : Nat} {x : Tg} (h : TgB w b x) (hb : Below w.heap.size w w') : TgB w' b x := by
  have e : w'.heap[b]? = w.heap[b]? := hb.block b h.hi
  have k : ∀ k, w'.cell? ⟨b, k, none⟩ = w.cell? ⟨b, k, none⟩ := fun k => World.cell?_of_block (a := ⟨b, k, none⟩) e
  exact ⟨(k 0).trans h.c0, (k 1).trans h.c1, fun j => (World.frozen?_of_block (a := ⟨b, j, none⟩) e).trans (h.fz j), Nat.lt_of_lt_of_le h.hi hb.size⟩
theorem TgB.alloc {w : World} {b : Nat} {x : Tg} (h : TgB w b x) (o : Obj) : TgB (w.alloc o) b x := h.kept ((Below.refl _ w).alloc (Nat.le_refl _) o)

set_option maxHeartbeats 400000 in
theorem specTag (x : Tg) (w : World) (hs : x.t.size ≤ maxLen) :
    Calls Tryz.prog 166 #[tgV x] w fun e w' => e = .returned (.bool (tagB x.t)) ∧ Below w.heap.size w w' := by
  obtain ⟨wk, s⟩ := x
  unfold tgV
  simp only at hs ⊢
  unfold maxLen at hs
  have hb0 := (Below.refl _ w).alloc (Nat.le_refl _) (.cells #[.bool wk, .string s] 131)
  have B0 : Hid (Below w.heap.size w _) := hb0
  clear hb0
  by_cases h2 : 40 < s.size
  · have HF : Hid (false = tagB s) := tagB_out h2
    have d2 : decide (40 < (s.size : Int)) = true := by simp; omega
    go_enter Tryz.func166, Tryz.ntmps166
    go_wp2
    go_ret
    exact ⟨ret_bool HF.out, B0.out⟩
  · have d2 : decide (40 < (s.size : Int)) = false := by simp; omega
    go_enter Tryz.func166, Tryz.ntmps166
    go_wp2
    go_loop [3] (fun i => ∃ k : Nat, k ≤ s.size ∧ i = .int .i64 k ∧ Hid (allB tagN (s.data.toList.take k) = true)) (fun i => s.size - (intOf i).toNat)
    case atStart => exact ⟨0, Nat.zero_le _, rfl, allB_nil _ _⟩
    case round =>
      obtain ⟨k, hk, rfl, ha⟩ := hrel
      by_cases hlt : k < s.size
      · by_cases hl : (s[k].toNat : Int) < 33
        · have HF : Hid (false = tagB s) := tagB_in (by omega) (allB_not hlt (tagN_no (by omega)))
          go_wp2
          go_ret
          exact ⟨ret_bool HF.out, B0.out⟩
        · by_cases hg : 126 < (s[k].toNat : Int)
          · have HF : Hid (false = tagB s) := tagB_in (by omega) (allB_not hlt (tagN_no (by omega)))
            go_wp2
            go_ret
            exact ⟨ret_bool HF.out, B0.out⟩
          · by_cases hq : (s[k].toNat : Int) = 34
            · have HF : Hid (false = tagB s) := tagB_in (by omega) (allB_not hlt (tagN_no (by omega)))
              have dq : ((s[k].toNat : Int) == 34) = true := by rw [hq]; rfl
              clear hq
              go_wp2
              go_ret
              exact ⟨ret_bool HF.out, B0.out⟩
            · have HV : Hid (allB tagN (s.data.toList.take (k + 1)) = true) := allB_step hlt ha.out (tagN_yes (by omega))
              have dq : ((s[k].toNat : Int) == 34) = false := by simpa using hq
              go_wp2
              go_round
              case rel => exact ⟨k + 1, by omega, by go_num, HV⟩
              case measure => simp [intOf]; omega
      · have HT : Hid (true = tagB s) := tagB_in (by omega) (allB_end hlt ha.out)
        go_wp2
        go_ret
        exact ⟨ret_bool HT.out, B0.out⟩
theorem ret_txt {a b : ByteArray} (h : a = b) : Ending.returned (.string a) = .returned (.string b) := by rw [h]
theorem l7Show (x : Tg) (w : World) (hs : x.t.size ≤ 40) :
    Calls Tryz.prog 167 #[tgV x] w fun e w' => e = .returned (.string (shU x)) ∧ Below w.heap.size w w' := by
  obtain ⟨wk, s⟩ := x
  unfold tgV
  simp only at hs ⊢
  have B0 : Hid (Below w.heap.size w (w.alloc (.cells #[.bool wk, .string s] 131))) := (Below.refl _ w).alloc (Nat.le_refl _) _
  have z1 : ((⟨#[34]⟩ : ByteArray) ++ s).size = 1 + s.size := by rw [ByteArray.size_append]; rfl
  have z2 : ((⟨#[34]⟩ : ByteArray) ++ s ++ (⟨#[34]⟩ : ByteArray)).size = 1 + s.size + 1 := by rw [ByteArray.size_append, z1]; rfl
  cases wk with
  | false =>
    have HT : Hid ((⟨#[34]⟩ : ByteArray) ++ s ++ (⟨#[34]⟩ : ByteArray) = shU ⟨false, s⟩) := rfl
    go_enter Tryz.func167, Tryz.ntmps167
    go_wp2
    go_ret
    exact ⟨ret_txt HT.out, B0.out⟩
  | true =>
    have HT : Hid ((⟨#[87, 47]⟩ : ByteArray) ++ ((⟨#[34]⟩ : ByteArray) ++ s ++ (⟨#[34]⟩ : ByteArray)) = shU ⟨true, s⟩) := rfl
    go_enter Tryz.func167, Tryz.ntmps167
    go_wp2
    go_ret
    exact ⟨ret_txt HT.out, B0.out⟩
theorem specSh (x : Tg) (w : World) (hs : x.t.size ≤ maxLen) :
    Calls Tryz.prog 134 #[tgV x] w fun e w' => e = .returned (.string (shT x)) ∧ Below w.heap.size w w' := by
  have hk := fun W => specTag x W hs
  have hu := fun W h => l7Show x W h
  have hy := @shT_yes x
  have hn := @shT_no x
  have hz := @tagB_size x.t
  have T0 := TgB.new w x 131
  have B0 : Hid (Below w.heap.size w (w.alloc (.cells #[.bool x.w, .string x.t] 131))) := (Below.refl _ w).alloc (Nat.le_refl _) _
  unfold tgV at hk hu ⊢
  generalize shT x = A at hy hn ⊢
  generalize shU x = U at hy hu
  generalize tagB x.t = ok at hk hy hn hz
  obtain ⟨wk, s⟩ := x
  simp only at *
  have T0 : Hid (TgB _ w.heap.size ⟨wk, s⟩) := T0
  go_enter Tryz.func134, Tryz.ntmps134
  go_wp2_with fail
  refine (hk _).mono ?_
  rintro e w1 ⟨rfl, hb1⟩
  have B1 : Hid (Below w.heap.size w w1) := past7 B0.out hb1
  have T1 : Hid (TgB w1 w.heap.size ⟨wk, s⟩) := T0.out.kept hb1
  clear hb1 B0 T0 hk
  cases ok with
  | false =>
    have HA : Hid (⟨#[]⟩ = A) := (hn rfl).symm
    clear hn hy hz
    go_wp2
    go_ret
    exact ⟨ret_txt HA.out, B1.out⟩
  | true =>
    have HA : Hid (U = A) := (hy rfl).symm
    have hu' := fun W => hu W (hz rfl)
    have c0 := T1.out.c0
    have c1 := T1.out.c1
    clear hn hy hz hu
    go_wp2_with (go_at_call 167; refine (hu' _).mono ?_; rintro e w2 ⟨rfl, hb2⟩)
    go_ret
    exact ⟨ret_txt HA.out, past7 B1.out hb2⟩
end Go.Proofs.YtkaogmdhjcgcdaaGreatDoor
namespace Go.Proofs.YtkaogmdhjcgcdaaGreatDoor
open Go.RowKit
set_option linter.unusedVariables false

theorem txt_eq (a b : ByteArray) : (a.toList == b.toList) = decide (a = b) := by
  by_cases h : a = b
  · subst h; simp
  · rw [decide_eq_false h]
    have : ¬ a.toList = b.toList := fun e => h (by
      have e2 : a.data.toList = b.data.toList := by simpa [ByteArray.toList_eq] using e
      exact data_ext e2)
    simp [this]
theorem tsame {a b : ByteArray} (h : a = b) : (a.toList == b.toList) = true := by rw [txt_eq]; simp [h]
theorem tdiff {a b : ByteArray} (h : ¬ a = b) : (a.toList == b.toList) = false := by rw [txt_eq]; simp [h]
theorem ret_rd {o : Option Tg} {v : Value} (h : v = rdV o) : Ending.returned v = .returned (rdV o) := by rw [h]

theorem wq_list : (⟨#[87, 47]⟩ : ByteArray).toList = [87, 47] := by rw [ByteArray.toList_eq]
theorem TgB.put {w : World} {b : Nat} {y : Tg} (h : TgB w b y) (x : Tg) : TgB ((w.setCell ⟨b, 0, none⟩ (.bool x.w)).setCell ⟨b, 1, none⟩ (.string x.t)) b x where
  c0 := by rw [World.cell?_setCell_other _ _ _ _ (by simp)]; exact World.cell?_setCell_same _ _ _ h.c0
  c1 := World.cell?_setCell_same _ _ _ (by rw [World.cell?_setCell_other _ _ _ _ (by simp)]; exact h.c1)
  fz := fun k => by rw [World.frozen?_setCell, World.frozen?_setCell]; exact h.fz k
  hi := by rw [World.size_setCell, World.size_setCell]; exact h.hi
theorem rdT_plain {s : ByteArray} (hk : wkB s = false) : rdT s = if 2 ≤ s.size ∧ shT ⟨false, s.extract 1 (s.size - 1)⟩ = s then some ⟨false, s.extract 1 (s.size - 1)⟩ else none := by
  have hc : rdC s = ⟨false, s.extract 1 (s.size - 1)⟩ := by unfold rdC; rw [if_neg (by rw [hk]; decide)]
  have hz : rdZ s = s.size := by unfold rdZ; rw [if_neg (by rw [hk]; decide)]
  unfold rdT
  rw [hc, hz]
set_option maxHeartbeats 1000000 in
theorem specRd (s : ByteArray) (w : World) (hs : s.size ≤ maxLen) :
    Calls Tryz.prog 106 #[.string s] w fun e w' => e = .returned (rdV (rdT s)) ∧ Below w.heap.size w w' := by
  unfold maxLen at hs
  by_cases h2 : 2 < s.size
  · have d2 : decide (2 < (s.size : Int)) = true := by simp; omega
    by_cases hw : s.extract 0 2 = ⟨#[87, 47]⟩
    · have dw := tsame hw
      rw [wq_list] at dw
      have hk : wkB s = true := by unfold wkB; rw [decide_eq_true h2, decide_eq_true hw]; rfl
      have hc : rdC s = ⟨true, (s.extract 2 s.size).extract 1 (s.size - 3)⟩ := by unfold rdC; rw [if_pos hk]
      have hz : rdZ s = s.size - 2 := by unfold rdZ; rw [if_pos hk]
      have hr : rdT s = if 2 ≤ s.size - 2 ∧ shT ⟨true, (s.extract 2 s.size).extract 1 (s.size - 3)⟩ = s then some ⟨true, (s.extract 2 s.size).extract 1 (s.size - 3)⟩ else none := by unfold rdT; rw [hc, hz]
      have HR : Hid (rdT s = _) := hr
      generalize rdT s = R at HR ⊢
      clear hw hk hc hz hr
      by_cases h4 : s.size < 4
      · have HN : Hid (R = none) := by rw [HR.out]; exact if_neg (by omega)
        clear HR
        go_enter Tryz.func106, Tryz.ntmps106
        go_wp2
        refine bodyPost_ret (v := .tuple #[.agg #[.bool false, .string ⟨#[]⟩], .bool false]) (by simp [results, Tryz.results106, go_sem]) rfl ⟨ret_rd (by rw [HN.out]; rfl), ?_⟩
        repeat (first | exact Below.refl _ _ | refine Below.alloc ?_ (by simp <;> omega) _ | refine Below.setCell ?_ (by simp <;> omega) _)
      · 
        have hsh := fun W => specSh ⟨true, (s.extract 2 s.size).extract 1 (s.size - 3)⟩ W (by unfold maxLen; simp; omega)
        unfold tgV at hsh
        simp only at hsh
        by_cases he : shT ⟨true, (s.extract 2 s.size).extract 1 (s.size - 3)⟩ = s
        · have HN : Hid (R = some ⟨true, (s.extract 2 s.size).extract 1 (s.size - 3)⟩) := by rw [HR.out]; exact if_pos ⟨by omega, he⟩
          have dn := tsame he
          generalize shT ⟨true, (s.extract 2 s.size).extract 1 (s.size - 3)⟩ = U at hsh dn
          clear he HR
          go_enter Tryz.func106, Tryz.ntmps106
          go_wp2_with fail
          refine (hsh _).mono ?_
          rintro e w1 ⟨rfl, hb1⟩
          have T1 : Hid (TgB w1 (w.heap.size + 1) ⟨true, (s.extract 2 s.size).extract 1 (s.size - 3)⟩) := by
            have := TgB.new (w.alloc (.cells #[.bool false, .string ⟨#[]⟩] 131)) ⟨true, (s.extract 2 s.size).extract 1 (s.size - 3)⟩ 131
            simp only [World.size_alloc] at this
            exact this.kept hb1
          have T0 : Hid (TgB w1 w.heap.size noT) := ((TgB.new w noT 131).alloc _).kept hb1
          have B1 : Hid (Below w.heap.size w w1) := by
            refine past7 ?_ hb1
            repeat (first | exact Below.refl _ _ | refine Below.alloc ?_ (by simp <;> omega) _ | refine Below.setCell ?_ (by simp <;> omega) _)
          have P1 : Hid (TgB _ w.heap.size ⟨true, (s.extract 2 s.size).extract 1 (s.size - 3)⟩) := T0.out.put ⟨true, (s.extract 2 s.size).extract 1 (s.size - 3)⟩
          have B2 : Hid (Below w.heap.size w _) := (B1.out.setCell (p := ⟨w.heap.size, 0, none⟩) (Nat.le_refl _) (.bool (⟨true, (s.extract 2 s.size).extract 1 (s.size - 3)⟩ : Tg).w)).setCell (p := ⟨w.heap.size, 1, none⟩) (Nat.le_refl _) (.string (⟨true, (s.extract 2 s.size).extract 1 (s.size - 3)⟩ : Tg).t)
          have c0 := T1.out.c0
          have c1 := T1.out.c1
          have b0 := T0.out.c0
          have b1 := T0.out.c1
          have fz := T0.out.fz
          clear hb1
          go_wp2
          have p0 := P1.out.c0
          have p1 := P1.out.c1
          have BB := B2.out
          simp only at p0 p1 BB
          refine bodyPost_ret (v := .tuple #[.agg #[.bool true, .string ((s.extract 2 s.size).extract 1 (s.size - 3))], .bool true]) (by simp [results, Tryz.results106, go_sem, p0, p1]) rfl ⟨ret_rd (by rw [HN.out]; rfl), BB⟩
        · have HN : Hid (R = none) := by rw [HR.out]; exact if_neg (fun h => he h.2)
          have dn := tdiff he
          generalize shT ⟨true, (s.extract 2 s.size).extract 1 (s.size - 3)⟩ = U at hsh dn
          clear he HR
          go_enter Tryz.func106, Tryz.ntmps106
          go_wp2_with fail
          refine (hsh _).mono ?_
          rintro e w1 ⟨rfl, hb1⟩
          have T1 : Hid (TgB w1 (w.heap.size + 1) ⟨true, (s.extract 2 s.size).extract 1 (s.size - 3)⟩) := by
            have := TgB.new (w.alloc (.cells #[.bool false, .string ⟨#[]⟩] 131)) ⟨true, (s.extract 2 s.size).extract 1 (s.size - 3)⟩ 131
            simp only [World.size_alloc] at this
            exact this.kept hb1
          have T0 : Hid (TgB w1 w.heap.size noT) := ((TgB.new w noT 131).alloc _).kept hb1
          have B1 : Hid (Below w.heap.size w w1) := by
            refine past7 ?_ hb1
            repeat (first | exact Below.refl _ _ | refine Below.alloc ?_ (by simp <;> omega) _ | refine Below.setCell ?_ (by simp <;> omega) _)
          have P1 : Hid (TgB _ w.heap.size noT) := T0.out.put noT
          have B2 : Hid (Below w.heap.size w _) := (B1.out.setCell (p := ⟨w.heap.size, 0, none⟩) (Nat.le_refl _) (.bool (noT : Tg).w)).setCell (p := ⟨w.heap.size, 1, none⟩) (Nat.le_refl _) (.string (noT : Tg).t)
          have c0 := T1.out.c0
          have c1 := T1.out.c1
          have b0 := T0.out.c0
          have b1 := T0.out.c1
          have fz := T0.out.fz
          clear hb1
          go_wp2
          have p0 := P1.out.c0
          have p1 := P1.out.c1
          have BB := B2.out
          unfold noT at p0 p1 BB
          simp only at p0 p1 BB
          refine bodyPost_ret (v := .tuple #[.agg #[.bool false, .string ⟨#[]⟩], .bool false]) (by simp [results, Tryz.results106, go_sem, p0, p1]) rfl ⟨ret_rd (by rw [HN.out]; rfl), BB⟩
    · have dw := tdiff hw
      rw [wq_list] at dw
      have hk : wkB s = false := by unfold wkB; rw [decide_eq_false hw, Bool.and_false]
      have hr : rdT s = if 2 ≤ s.size ∧ shT ⟨false, s.extract 1 (s.size - 1)⟩ = s then some ⟨false, s.extract 1 (s.size - 1)⟩ else none := rdT_plain hk
      have HR : Hid (rdT s = _) := hr
      generalize rdT s = R at HR ⊢
      clear hw hk hr
      have hsh := fun W => specSh ⟨false, s.extract 1 (s.size - 1)⟩ W (by unfold maxLen; simp; omega)
      unfold tgV at hsh
      simp only at hsh
      by_cases he : shT ⟨false, s.extract 1 (s.size - 1)⟩ = s
      · have HN : Hid (R = some ⟨false, s.extract 1 (s.size - 1)⟩) := by rw [HR.out]; exact if_pos ⟨by omega, he⟩
        have dn := tsame he
        generalize shT ⟨false, s.extract 1 (s.size - 1)⟩ = U at hsh dn
        clear he HR
        go_enter Tryz.func106, Tryz.ntmps106
        go_wp2_with fail
        refine (hsh _).mono ?_
        rintro e w1 ⟨rfl, hb1⟩
        have T1 : Hid (TgB w1 (w.heap.size + 1) ⟨false, s.extract 1 (s.size - 1)⟩) := by
          have := TgB.new (w.alloc (.cells #[.bool false, .string ⟨#[]⟩] 131)) ⟨false, s.extract 1 (s.size - 1)⟩ 131
          simp only [World.size_alloc] at this
          exact this.kept hb1
        have T0 : Hid (TgB w1 w.heap.size noT) := ((TgB.new w noT 131).alloc _).kept hb1
        have B1 : Hid (Below w.heap.size w w1) := by
          refine past7 ?_ hb1
          repeat (first | exact Below.refl _ _ | refine Below.alloc ?_ (by simp <;> omega) _ | refine Below.setCell ?_ (by simp <;> omega) _)
        have P1 : Hid (TgB _ w.heap.size ⟨false, s.extract 1 (s.size - 1)⟩) := T0.out.put ⟨false, s.extract 1 (s.size - 1)⟩
        have B2 : Hid (Below w.heap.size w _) := (B1.out.setCell (p := ⟨w.heap.size, 0, none⟩) (Nat.le_refl _) (.bool (⟨false, s.extract 1 (s.size - 1)⟩ : Tg).w)).setCell (p := ⟨w.heap.size, 1, none⟩) (Nat.le_refl _) (.string (⟨false, s.extract 1 (s.size - 1)⟩ : Tg).t)
        have c0 := T1.out.c0
        have c1 := T1.out.c1
        have b0 := T0.out.c0
        have b1 := T0.out.c1
        have fz := T0.out.fz
        clear hb1
        go_wp2
        have p0 := P1.out.c0
        have p1 := P1.out.c1
        have BB := B2.out
        simp only at p0 p1 BB
        refine bodyPost_ret (v := .tuple #[.agg #[.bool false, .string (s.extract 1 (s.size - 1))], .bool true]) (by simp [results, Tryz.results106, go_sem, p0, p1]) rfl ⟨ret_rd (by rw [HN.out]; rfl), BB⟩
      · have HN : Hid (R = none) := by rw [HR.out]; exact if_neg (fun h => he h.2)
        have dn := tdiff he
        generalize shT ⟨false, s.extract 1 (s.size - 1)⟩ = U at hsh dn
        clear he HR
        go_enter Tryz.func106, Tryz.ntmps106
        go_wp2_with fail
        refine (hsh _).mono ?_
        rintro e w1 ⟨rfl, hb1⟩
        have T1 : Hid (TgB w1 (w.heap.size + 1) ⟨false, s.extract 1 (s.size - 1)⟩) := by
          have := TgB.new (w.alloc (.cells #[.bool false, .string ⟨#[]⟩] 131)) ⟨false, s.extract 1 (s.size - 1)⟩ 131
          simp only [World.size_alloc] at this
          exact this.kept hb1
        have T0 : Hid (TgB w1 w.heap.size noT) := ((TgB.new w noT 131).alloc _).kept hb1
        have B1 : Hid (Below w.heap.size w w1) := by
          refine past7 ?_ hb1
          repeat (first | exact Below.refl _ _ | refine Below.alloc ?_ (by simp <;> omega) _ | refine Below.setCell ?_ (by simp <;> omega) _)
        have P1 : Hid (TgB _ w.heap.size noT) := T0.out.put noT
        have B2 : Hid (Below w.heap.size w _) := (B1.out.setCell (p := ⟨w.heap.size, 0, none⟩) (Nat.le_refl _) (.bool (noT : Tg).w)).setCell (p := ⟨w.heap.size, 1, none⟩) (Nat.le_refl _) (.string (noT : Tg).t)
        have c0 := T1.out.c0
        have c1 := T1.out.c1
        have b0 := T0.out.c0
        have b1 := T0.out.c1
        have fz := T0.out.fz
        clear hb1
        go_wp2
        have p0 := P1.out.c0
        have p1 := P1.out.c1
        have BB := B2.out
        unfold noT at p0 p1 BB
        simp only at p0 p1 BB
        refine bodyPost_ret (v := .tuple #[.agg #[.bool false, .string ⟨#[]⟩], .bool false]) (by simp [results, Tryz.results106, go_sem, p0, p1]) rfl ⟨ret_rd (by rw [HN.out]; rfl), BB⟩
  · have d2 : decide (2 < (s.size : Int)) = false := by simp; omega
    have hk : wkB s = false := by unfold wkB; rw [decide_eq_false h2]; rfl
    have hr : rdT s = if 2 ≤ s.size ∧ shT ⟨false, s.extract 1 (s.size - 1)⟩ = s then some ⟨false, s.extract 1 (s.size - 1)⟩ else none := rdT_plain hk
    have HR : Hid (rdT s = _) := hr
    generalize rdT s = R at HR ⊢
    clear hk hr
    by_cases h4 : s.size < 2
    · have HN : Hid (R = none) := by rw [HR.out]; exact if_neg (by omega)
      clear HR
      go_enter Tryz.func106, Tryz.ntmps106
      go_wp2
      refine bodyPost_ret (v := .tuple #[.agg #[.bool false, .string ⟨#[]⟩], .bool false]) (by simp [results, Tryz.results106, go_sem]) rfl ⟨ret_rd (by rw [HN.out]; rfl), ?_⟩
      repeat (first | exact Below.refl _ _ | refine Below.alloc ?_ (by simp <;> omega) _ | refine Below.setCell ?_ (by simp <;> omega) _)
    · 
      have hsh := fun W => specSh ⟨false, s.extract 1 (s.size - 1)⟩ W (by unfold maxLen; simp; omega)
      unfold tgV at hsh
      simp only at hsh
      by_cases he : shT ⟨false, s.extract 1 (s.size - 1)⟩ = s
      · have HN : Hid (R = some ⟨false, s.extract 1 (s.size - 1)⟩) := by rw [HR.out]; exact if_pos ⟨by omega, he⟩
        have dn := tsame he
        generalize shT ⟨false, s.extract 1 (s.size - 1)⟩ = U at hsh dn
        clear he HR
        go_enter Tryz.func106, Tryz.ntmps106
        go_wp2_with fail
        refine (hsh _).mono ?_
        rintro e w1 ⟨rfl, hb1⟩
        have T1 : Hid (TgB w1 (w.heap.size + 1) ⟨false, s.extract 1 (s.size - 1)⟩) := by
          have := TgB.new (w.alloc (.cells #[.bool false, .string ⟨#[]⟩] 131)) ⟨false, s.extract 1 (s.size - 1)⟩ 131
          simp only [World.size_alloc] at this
          exact this.kept hb1
        have T0 : Hid (TgB w1 w.heap.size noT) := ((TgB.new w noT 131).alloc _).kept hb1
        have B1 : Hid (Below w.heap.size w w1) := by
          refine past7 ?_ hb1
          repeat (first | exact Below.refl _ _ | refine Below.alloc ?_ (by simp <;> omega) _ | refine Below.setCell ?_ (by simp <;> omega) _)
        have P1 : Hid (TgB _ w.heap.size ⟨false, s.extract 1 (s.size - 1)⟩) := T0.out.put ⟨false, s.extract 1 (s.size - 1)⟩
        have B2 : Hid (Below w.heap.size w _) := (B1.out.setCell (p := ⟨w.heap.size, 0, none⟩) (Nat.le_refl _) (.bool (⟨false, s.extract 1 (s.size - 1)⟩ : Tg).w)).setCell (p := ⟨w.heap.size, 1, none⟩) (Nat.le_refl _) (.string (⟨false, s.extract 1 (s.size - 1)⟩ : Tg).t)
        have c0 := T1.out.c0
        have c1 := T1.out.c1
        have b0 := T0.out.c0
        have b1 := T0.out.c1
        have fz := T0.out.fz
        clear hb1
        go_wp2
        have p0 := P1.out.c0
        have p1 := P1.out.c1
        have BB := B2.out
        simp only at p0 p1 BB
        refine bodyPost_ret (v := .tuple #[.agg #[.bool false, .string (s.extract 1 (s.size - 1))], .bool true]) (by simp [results, Tryz.results106, go_sem, p0, p1]) rfl ⟨ret_rd (by rw [HN.out]; rfl), BB⟩
      · have HN : Hid (R = none) := by rw [HR.out]; exact if_neg (fun h => he h.2)
        have dn := tdiff he
        generalize shT ⟨false, s.extract 1 (s.size - 1)⟩ = U at hsh dn
        clear he HR
        go_enter Tryz.func106, Tryz.ntmps106
        go_wp2_with fail
        refine (hsh _).mono ?_
        rintro e w1 ⟨rfl, hb1⟩
        have T1 : Hid (TgB w1 (w.heap.size + 1) ⟨false, s.extract 1 (s.size - 1)⟩) := by
          have := TgB.new (w.alloc (.cells #[.bool false, .string ⟨#[]⟩] 131)) ⟨false, s.extract 1 (s.size - 1)⟩ 131
          simp only [World.size_alloc] at this
          exact this.kept hb1
        have T0 : Hid (TgB w1 w.heap.size noT) := ((TgB.new w noT 131).alloc _).kept hb1
        have B1 : Hid (Below w.heap.size w w1) := by
          refine past7 ?_ hb1
          repeat (first | exact Below.refl _ _ | refine Below.alloc ?_ (by simp <;> omega) _ | refine Below.setCell ?_ (by simp <;> omega) _)
        have P1 : Hid (TgB _ w.heap.size noT) := T0.out.put noT
        have B2 : Hid (Below w.heap.size w _) := (B1.out.setCell (p := ⟨w.heap.size, 0, none⟩) (Nat.le_refl _) (.bool (noT : Tg).w)).setCell (p := ⟨w.heap.size, 1, none⟩) (Nat.le_refl _) (.string (noT : Tg).t)
        have c0 := T1.out.c0
        have c1 := T1.out.c1
        have b0 := T0.out.c0
        have b1 := T0.out.c1
        have fz := T0.out.fz
        clear hb1
        go_wp2
        have p0 := P1.out.c0
        have p1 := P1.out.c1
        have BB := B2.out
        unfold noT at p0 p1 BB
        simp only at p0 p1 BB
        refine bodyPost_ret (v := .tuple #[.agg #[.bool false, .string ⟨#[]⟩], .bool false]) (by simp [results, Tryz.results106, go_sem, p0, p1]) rfl ⟨ret_rd (by rw [HN.out]; rfl), BB⟩

end Go.Proofs.YtkaogmdhjcgcdaaGreatDoor
