/-
  A region that draws its order, whose operations only read but for one that makes a block and a few at its end that wait for all the others: walked once, whenever the block is made.
  The specification's ShowControl by its contract.
  The contract of the specification's Items.
  Control read out of a text, as plain data.
-/
import Derived.Test.YtkaogmdhjcgcdaaGreatDoorH14
import Derived.ProofKit
import Derived.OpenShut
import Derived.ShutString
import Derived.Lib.SmallJoins
import Derived.Maps.AppendAt
import Derived.Test.YtkaogmdhjcgcdaaGreatDoorH05
import Derived.Test.YtkaogmdhjcgcdaaGreatDoorH13
import Derived.Test.YtkaogmdhjcgcdaaGreatDoorH08
import Derived.Test.YtkaogmdhjcgcdaaGreatDoorH04
namespace Go.Proofs.YtkaogmdhjcgcdaaGreatDoor
open Go Go.RowKit Go.Sort
set_option linter.unusedVariables false

section
variable {P : Program} {ops : Array Oper} {md : Region.Mode} {ι : Type} {C : ι → World → Prop}
/-- It yields the same value in every class. -/
def Tells (P : Program) (ops : Array Oper) (C : ι → World → Prop) (i : Nat) (K : Act → ι → Prop) (a : Act) (c : ι) : Prop :=
  ∃ o v, ops[i]? = some o ∧ (∀ c, YieldsIn P ops (C c) o v a) ∧ K (a.put o.dst v) c
/-- It yields a value and leads into another class. -/
def Makes (P : Program) (ops : Array Oper) (C : ι → World → Prop) (i : Nat) (K : Act → ι → Prop) (a : Act) (c : ι) : Prop :=
  ∃ o, ops[i]? = some o ∧ Region.wanted o (yielded ops a.tmps) = true ∧ ∀ w, C c w → ∃ v w' c', (execOp a.eval o).run P w = .ok (.value v) w' ∧ C c' w' ∧ K (a.put o.dst v) c'
def Fam (P : Program) (md : Region.Mode) (ops : Array Oper) (C : ι → World → Prop) (n : Nat) (L : Array Bool → Act → ι → Prop) : Nat → Array Bool → Act → ι → Prop
  | 0, listed, a, c => L listed a c
  | f + 1, listed, a, c => ¬ Region.ready md ops listed = [] ∧ ∀ i ∈ Region.ready md ops listed, i < n ∧ (Tells P ops C i (fun a' c' => Fam P md ops C n L f (listed.setIfInBounds i true) a' c') a c ∨ Makes P ops C i (fun a' c' => Fam P md ops C n L f (listed.setIfInBounds i true) a' c') a c)
theorem Fam.any {n g : Nat} {L : Array Bool → Act → ι → Prop} {Q : Exit → Act → World → Prop} (hL : ∀ listed a c w, C c w → L listed a c → wpAny P md ops Q g listed a w) :
    ∀ (f : Nat) (listed : Array Bool) (a : Act) (c : ι) (w : World), C c w → Fam P md ops C n L f listed a c → wpAny P md ops Q (f + g) listed a w := by
  intro f
  induction f with
  | zero => intro listed a c w hw h; rw [Nat.zero_add]; exact hL _ _ _ _ hw h
  | succ f ih =>
    intro listed a c w hw h
    rw [show f + 1 + g = (f + g) + 1 by omega]
    refine ⟨fun h0 => absurd h0 h.1, fun i hi => ?_⟩
    rcases (h.2 i hi).2 with ⟨o, v, ho, hy, hK⟩ | ⟨o, ho, hwt, hmk⟩
    · exact wpOp_of_qOp hw (fun a' w' hw' h' => ih _ a' c w' hw' h') ((hy c).qOp ho hK)
    · obtain ⟨v, w', c', hr, hc', hK⟩ := hmk w hw
      unfold wpOp
      rw [ho]
      show if Region.wanted o (yielded ops a.tmps) = true then _ else _
      rw [if_pos hwt]
      refine .inl ?_
      unfold Oper.wp
      rw [hr]
      exact ih _ _ c' w' hc' hK
theorem Fam.first {n i : Nat} {oi : Oper} {v : Value} {L : Array Bool → Act → ι → Prop} (hi : ops[i]? = some oi) (hsel : ∀ (j : Nat) (o : Oper) cs b, ops[j]? = some o → o.op ≠ .select cs b)
    (hs : Region.sinkB md ops n = true) (hc : Region.chainB md ops n = true) (hn : n < ops.size) (hin : i < n) (hdone : ∀ listed a c, L listed a c → ∀ j ∈ Region.ready md ops listed, n ≤ j) :
    ∀ (f : Nat) (listed : Array Bool) (a : Act) (c : ι), HeadInv md ops n listed →
      (∀ j oj, ops[j]? = some oj → j ≠ i → listed.getD j true = false → (∀ e ∈ oj.after, Region.binds md e = true → e.on ≠ i) → oi.apart ops oj = true) →
      i ∈ Region.ready md ops listed → (∀ c, YieldsIn P ops (C c) oi v a) → Fam P md ops C n L f (listed.setIfInBounds i true) (a.put oi.dst v) c → Fam P md ops C n L (f + 1) listed a c := by
  intro f
  induction f with
  | zero =>
    intro listed a c inv _ hr hy H
    refine ⟨fun h => (by rw [h] at hr; cases hr), fun j hj => ⟨ahead_lt hs hc hn inv hin hr hj, ?_⟩⟩
    by_cases hji : j = i
    · subst hji; exact .inl ⟨oi, v, hi, hy, H⟩
    · have h1 := hdone _ _ _ H j (ready_mono hj hji)
      have h2 := ahead_lt hs hc hn inv hin hr hj
      omega
  | succ f ih =>
    intro listed a c inv hfree hr hy H
    have hun := (mem_ready.1 hr).1
    refine ⟨fun h => (by rw [h] at hr; cases hr), fun j hj => ⟨ahead_lt hs hc hn inv hin hr hj, ?_⟩⟩
    by_cases hji : j = i
    · subst hji; exact .inl ⟨oi, v, hi, hy, H⟩
    · have h1 := (H.2 j (ready_mono hj hji)).2
      obtain ⟨hjun, oj, hoj, hall⟩ := mem_ready.1 hj
      have hnot : ∀ e ∈ oj.after, Region.binds md e = true → e.on ≠ i := fun e he hb heq => by
        have h3 := hall e he hb
        rw [heq, getD_both hun] at h3
        cases h3
      obtain ⟨p1, p2, p3⟩ := Oper.apart_spec (hfree j oj hoj hji hjun hnot)
      have hsi : ∀ cs b, oi.op ≠ .select cs b := fun cs b => hsel i oi cs b hi
      have hsj : ∀ cs b, oj.op ≠ .select cs b := fun cs b => hsel j oj cs b hoj
      have keep : ∀ u, ∀ c, YieldsIn P ops (C c) oi v (a.put oj.dst u) := fun u c => (hy c).of_same (execOp_put oi hsi a oj.dst u p3) (wanted_put oi a oj.dst u p3)
      have go : ∀ (u : Value) (c' : ι), Fam P md ops C n L f ((listed.setIfInBounds i true).setIfInBounds j true) ((a.put oi.dst v).put oj.dst u) c' → Fam P md ops C n L (f + 1) (listed.setIfInBounds j true) (a.put oj.dst u) c' := fun u c' h3 => by
        refine ih (listed.setIfInBounds j true) _ c' (inv.set hj (ahead_lt hs hc hn inv hin hr hj)) (fun k ok hk hki hku hno => ?_) (ready_mono hr (Ne.symm hji)) (keep u) ?_
        · refine hfree k ok hk hki ?_ hno
          by_cases hjk : j = k
          · subst hjk; exact hjun
          · rw [getD_set_ne true hjk] at hku; exact hku
        · rw [Array.setIfInBounds_comm _ _ hji, ← Act.put_comm a v u p2]
          exact h3
      rcases h1 with ⟨o, u, ho, hyj, hK⟩ | ⟨o, ho, hwt, hmk⟩
      · have : o = oj := Option.some.inj (ho.symm.trans hoj)
        subst this
        exact .inl ⟨o, u, ho, fun c => (hyj c).of_same (execOp_put o hsj a oi.dst v p1).symm (wanted_put o a oi.dst v p1).symm, go u c hK⟩
      · have : o = oj := Option.some.inj (ho.symm.trans hoj)
        subst this
        refine .inr ⟨o, ho, by rw [← wanted_put o a oi.dst v p1]; exact hwt, fun w hw => ?_⟩
        obtain ⟨u, w', c', hrun, hc', hK⟩ := hmk w hw
        rw [execOp_put o hsj a oi.dst v p1] at hrun
        exact ⟨u, w', c', hrun, hc', go u c' hK⟩
end
end Go.Proofs.YtkaogmdhjcgcdaaGreatDoor
namespace Go.Proofs.YtkaogmdhjcgcdaaGreatDoor
open Go.RowKit Go.Sort
set_option linter.unusedVariables false
set_option linter.unusedSimpArgs false

/-- Two rows beside each other, texts and what belongs to them. -/
structure TabB {α : Type} (w : World) (b : Nat) (f : α → Value) (l : List (ByteArray × α)) : Prop where
  hi : b + 1 < w.heap.size
  at1 : ∀ j (hj : j < l.length), w.cell? ⟨b, j, Option.none⟩ = some (.string l[j].1)
  at2 : ∀ j (hj : j < l.length), w.cell? ⟨b + 1, j, Option.none⟩ = some (f l[j].2)
theorem TabB.same {α : Type} {w w' : World} {b : Nat} {f : α → Value} {l : List (ByteArray × α)} (h : TabB w b f l) (e1 : w'.heap[b]? = w.heap[b]?) (e2 : w'.heap[b + 1]? = w.heap[b + 1]?) (hs : w.heap.size ≤ w'.heap.size) : TabB w' b f l where
  hi := Nat.lt_of_lt_of_le h.hi hs
  at1 := fun j hj => (World.cell?_of_block (a := ⟨b, j, Option.none⟩) e1).trans (h.at1 j hj)
  at2 := fun j hj => (World.cell?_of_block (a := ⟨b + 1, j, Option.none⟩) e2).trans (h.at2 j hj)
theorem TabB.kept {α : Type} {w w' : World} {b : Nat} {f : α → Value} {l : List (ByteArray × α)} (h : TabB w b f l) (hb : Below w.heap.size w w') : TabB w' b f l :=
  h.same (hb.block b (by have := h.hi; omega)) (hb.block (b + 1) h.hi) hb.size
theorem TabB.grown {α : Type} {w w' : World} {b g : Nat} {f : α → Value} {l : List (ByteArray × α)} (h : TabB w b f l) (hg : w.grownBy w' (some g)) (h1 : g ≠ b) (h2 : g ≠ b + 1) : TabB w' b f l :=
  h.same (hg.block b (by have := h.hi; omega) (fun e => h1 (Option.some.inj e).symm)) (hg.block (b + 1) h.hi (fun e => h2 (Option.some.inj e).symm)) hg.size
theorem TabB.born {α : Type} (w : World) (f : α → Value) (l : List (ByteArray × α)) (c1 c2 : Array Value) (t1 t2 : TypeId) (h1 : c1.toList = l.map fun p => Value.string p.1) (h2 : c2.toList = l.map fun p => f p.2) : TabB ((w.alloc (.cells c1 t1)).alloc (.cells c2 t2)) w.heap.size f l where
  hi := by simp
  at1 := fun j hj => by
    rw [World.cell?_of_block (w := w.alloc (.cells c1 t1)) (a := ⟨w.heap.size, j, Option.none⟩) (Below.heap_alloc (w.alloc (.cells c1 t1)) _ _ (by simp)), World.cell?_alloc_mark]
    have : c1[j]? = some (Value.string l[j].1) := by rw [← Array.getElem?_toList, h1]; simp [hj]
    simpa using this
  at2 := fun j hj => by
    have e : w.heap.size + 1 = (w.alloc (.cells c1 t1)).heap.size := by simp
    rw [e, World.cell?_alloc_mark]
    have : c2[j]? = some (f l[j].2) := by rw [← Array.getElem?_toList, h2]; simp [hj]
    simpa using this
end Go.Proofs.YtkaogmdhjcgcdaaGreatDoor
namespace Go.Proofs.YtkaogmdhjcgcdaaGreatDoor
open Go.RowKit

theorem vis_size {s : ByteArray} (h : visB s = true) : s.size ≤ 400 := by
  unfold visB at h; rw [Bool.and_eq_true] at h; exact of_decide_eq_true h.1
theorem ieq_yes {a b : Int} (h : a = b) : (a == b) = true := by simp [h]
theorem ieq_no {a b : Int} (h : a ≠ b) : (a == b) = false := by simp [h]
theorem ext_size (s : ByteArray) (a i : Nat) : (s.extract a i).size ≤ s.size := by
  have : (s.extract a i).size = min i s.size - a := by simp
  omega

/-- Spec: at the end of a part: the trimmed part is appended where it is not empty. -/
theorem At.comma' {s : ByteArray} {out : List ByteArray} {a i : Nat} (h : At s out a i false) (hi : i < s.size) (hc : (s[i].toNat : Int) = 44) : At s (out ++ one (s.extract a i)) (i + 1) (i + 1) false := by
  rw [cut_text s a i (by omega)]; exact h.comma hi hc

set_option maxRecDepth 100000 in
set_option maxHeartbeats 1000000 in
theorem specItems (s : ByteArray) (w : World) (hs : s.size ≤ maxLen) :
    Calls Tryz.prog 83 #[.string s] w fun e w' => ∃ v, e = .returned v ∧ OwnsS w' w.heap.size v (itemsA s) ∧ Below w.heap.size w w' := by
  by_cases hv : visB s = true
  · have hz := vis_size hv
    have HA : Hid (itemsT s = itemsA s) := itemsA_yes hv
    go_enter Tryz.func83, Tryz.ntmps83
    go_wp2_with (go_at_call 117; refine (specVis _ _ hs).mono ?_; rintro e w' ⟨rfl, rfl⟩)
    go_loopw [3, 4, 5, 6] (fun v f o i wr => ∃ (out : List ByteArray) (a k : Nat) (op : Bool), f = .int .i64 a ∧ o = .bool op ∧ i = .int .i64 k ∧ OwnsS wr w.heap.size v out ∧ Below w.heap.size w wr ∧ out.length ≤ k ∧ a ≤ k ∧ ((k ≤ s.size ∧ Hid (At s out a k op)) ∨ (k = s.size + 1 ∧ Hid (out = itemsT s)))) (fun _ _ _ i _ => s.size + 2 - (intOf i).toNat)
    case atStart => exact ⟨[], 0, 0, false, rfl, rfl, rfl, OwnsS.born w, (Below.refl _ w).alloc (Nat.le_refl _) _, Nat.le_refl _, Nat.le_refl _, Or.inl ⟨Nat.zero_le _, At.start s⟩⟩
    case round =>
      obtain ⟨out, a, k, op, rfl, rfl, rfl, hown, hb, hol, hak, hst⟩ := hrel
      clear hv
      rcases hst with ⟨hk, hat⟩ | ⟨hk, hout⟩
      · by_cases hend : k < s.size
        · have hqe : ((k : Int) == (s.size : Int)) = false := ieq_no (by omega)
          by_cases h44 : (s[k].toNat : Int) = 44
          · have hq44 := ieq_yes h44
            cases op with
            | false =>
              have HN : Hid (At s (out ++ one (s.extract a k)) (k + 1) (k + 1) false) := hat.out.comma' hend h44
              clear h44
              have hxz : (s.extract a k).size ≤ 1048576 := by have := ext_size s a k; omega
              by_cases ht : 0 < (trimB (s.extract a k)).size
              · have hfull := full ht
                have hfe : (trimB (s.extract a k)).toList.isEmpty = false := by simpa using hfull
                have HO : Hid (one (s.extract a k) = [trimB (s.extract a k)]) := one_yes ht
                clear ht
                go_wp2_with (first | (go_at_call 107; refine (specTrim _ _ hxz).mono ?_; rintro e w' ⟨rfl, rfl⟩) | (at_builtin; refine wpList_pushS _ rfl (.tmp 40) (.tmp 42) rfl w.heap.size _ _ _ rfl hown rfl (by omega) hb.size ?_; intro v2 w2 ho2 hg2))
                go_roundw
                case rel => exact ⟨_, k + 1, k + 1, false, by go_num, rfl, by go_num, ho2, (hb.grown hg2 hb.size (OwnsS.from hown)), by simp; omega, Nat.le_refl _, Or.inl ⟨by omega, by have := HN.out; rw [HO.out] at this; first | exact this | (rw [List.append_nil] at this; exact this)⟩⟩
                case measure => simp [intOf]; omega
              · have hnil := void ht
                have HO : Hid (one (s.extract a k) = []) := one_no ht
                clear ht
                go_wp2_with (go_at_call 107; refine (specTrim _ _ hxz).mono ?_; rintro e w' ⟨rfl, rfl⟩)
                go_roundw
                case rel => exact ⟨_, k + 1, k + 1, false, by go_num, rfl, by go_num, hown, hb, by omega, Nat.le_refl _, Or.inl ⟨by omega, by have := HN.out; rw [HO.out] at this; first | exact this | (rw [List.append_nil] at this; exact this)⟩⟩
                case measure => simp [intOf]; omega
            | true =>
              have HN : Hid (At s out a (k + 1) true) := hat.out.plain hend hak (by simp) (by omega) (by omega)
              have hq34 : ((s[k].toNat : Int) == 34) = false := ieq_no (by omega)
              have hq92 : ((s[k].toNat : Int) == 92) = false := ieq_no (by omega)
              clear h44
              go_wp2
              go_roundw
              case rel => exact ⟨out, a, k + 1, true, rfl, rfl, by go_num, hown, hb, by omega, by omega, Or.inl ⟨by omega, HN⟩⟩
              case measure => simp [intOf]; omega
          · have hq44 := ieq_no h44
            by_cases h34 : (s[k].toNat : Int) = 34
            · have hq34 := ieq_yes h34
              have HN : Hid (At s out a (k + 1) (!op)) := hat.out.quote hend hak h34
              clear h44 h34
              go_wp2
              go_roundw
              case rel => exact ⟨out, a, k + 1, !op, rfl, rfl, by go_num, hown, hb, by omega, by omega, Or.inl ⟨by omega, HN⟩⟩
              case measure => simp [intOf]; omega
            · have hq34 := ieq_no h34
              by_cases h92 : (s[k].toNat : Int) = 92
              · have hq92 := ieq_yes h92
                cases op with
                | false =>
                  have HN : Hid (At s out a (k + 1) false) := hat.out.plain hend hak (by omega) h34 (by simp)
                  clear h44 h34 h92
                  go_wp2
                  go_roundw
                  case rel => exact ⟨out, a, k + 1, false, rfl, rfl, by go_num, hown, hb, by omega, by omega, Or.inl ⟨by omega, HN⟩⟩
                  case measure => simp [intOf]; omega
                | true =>
                  by_cases hl : k + 1 < s.size
                  · have HN : Hid (At s out a (k + 2) true) := hat.out.take hend hak h92
                    have hq1 : ((k : Int) + 1 == (s.size : Int)) = false := ieq_no (by omega)
                    clear h44 h34 h92
                    go_wp2
                    go_roundw
                    case rel => exact ⟨out, a, k + 2, true, rfl, rfl, by go_num, hown, hb, by omega, by omega, Or.inl ⟨by omega, HN⟩⟩
                    case measure => simp [intOf]; omega
                  · have HN : Hid (At s out a (k + 1) true) := hat.out.last hend hak h92 hl
                    have hq1 : ((k : Int) + 1 == (s.size : Int)) = true := ieq_yes (by omega)
                    clear h44 h34 h92
                    go_wp2
                    go_roundw
                    case rel => exact ⟨out, a, k + 1, true, rfl, rfl, by go_num, hown, hb, by omega, by omega, Or.inl ⟨by omega, HN⟩⟩
                    case measure => simp [intOf]; omega
              · have hq92 := ieq_no h92
                have HN : Hid (At s out a (k + 1) op) := hat.out.plain hend hak (fun x => h44 x.2) h34 (fun x => h92 x.2)
                clear h44 h34 h92
                go_wp2
                go_roundw
                case rel => exact ⟨out, a, k + 1, op, rfl, rfl, by go_num, hown, hb, by omega, by omega, Or.inl ⟨by omega, HN⟩⟩
                case measure => simp [intOf]; omega
        · obtain rfl : k = s.size := by omega
          have hqe : ((s.size : Int) == (s.size : Int)) = true := ieq_yes rfl
          have HN : Hid (out ++ one (s.extract a s.size) = itemsT s) := hat.out.done hend
          have hxz : (s.extract a s.size).size ≤ 1048576 := by have := ext_size s a s.size; omega
          by_cases ht : 0 < (trimB (s.extract a s.size)).size
          · have hfull := full ht
            have hfe : (trimB (s.extract a s.size)).toList.isEmpty = false := by simpa using hfull
            have HO : Hid (one (s.extract a s.size) = [trimB (s.extract a s.size)]) := one_yes ht
            clear ht
            go_wp2_with (first | (go_at_call 107; refine (specTrim _ _ hxz).mono ?_; rintro e w' ⟨rfl, rfl⟩) | (at_builtin; refine wpList_pushS _ rfl (.tmp 40) (.tmp 42) rfl w.heap.size _ _ _ rfl hown rfl (by omega) hb.size ?_; intro v2 w2 ho2 hg2))
            go_roundw
            case rel => exact ⟨_, s.size + 1, s.size + 1, op, by go_num, rfl, by go_num, ho2, (hb.grown hg2 hb.size (OwnsS.from hown)), by simp; omega, Nat.le_refl _, Or.inr ⟨rfl, by have := HN.out; rw [HO.out] at this; first | exact this | (rw [List.append_nil] at this; exact this)⟩⟩
            case measure => simp [intOf]
          · have hnil := void ht
            have HO : Hid (one (s.extract a s.size) = []) := one_no ht
            clear ht
            go_wp2_with (go_at_call 107; refine (specTrim _ _ hxz).mono ?_; rintro e w' ⟨rfl, rfl⟩)
            go_roundw
            case rel => exact ⟨_, s.size + 1, s.size + 1, op, by go_num, rfl, by go_num, hown, hb, by omega, Nat.le_refl _, Or.inr ⟨rfl, by have := HN.out; rw [HO.out] at this; first | exact this | (rw [List.append_nil] at this; exact this)⟩⟩
            case measure => simp [intOf]
      · subst hk
        go_wp2
        go_ret
        exact ⟨_, rfl, by rw [← HA.out, ← hout.out]; exact hown, hb⟩
  · have hv' : visB s = false := by simpa using hv
    clear hv
    have HA : Hid ([] = itemsA s) := itemsA_no hv'
    go_enter Tryz.func83, Tryz.ntmps83
    go_wp2_with (go_at_call 117; refine (specVis _ _ hs).mono ?_; rintro e w' ⟨rfl, rfl⟩)
    go_ret
    exact ⟨_, rfl, by rw [← HA.out]; exact OwnsS.born _, (Below.refl _ _).alloc (Nat.le_refl _) _⟩
end Go.Proofs.YtkaogmdhjcgcdaaGreatDoor
namespace Go.Proofs.YtkaogmdhjcgcdaaGreatDoor
open Go.RowKit
set_option linter.unusedVariables false

/-- The number of a directive, and whether it is one. -/
def told (x name : ByteArray) : Int × Bool := if x.size ≤ name.size ∨ ¬ x.extract 0 name.size = name then (0, false) else (minI 1000000000 (numV 10 15 (x.extract name.size x.size)), numOk 10 15 (x.extract name.size x.size))
def st1 (c : Ct) (x : ByteArray) : Ct := if (told x nmA).2 = true ∧ c.a < 0 then { c with a := (told x nmA).1 } else c
def st2 (c : Ct) (x : ByteArray) : Ct := if (told x nmS).2 = true ∧ c.s < 0 then { c with s := (told x nmS).1 } else c
def st3 (c : Ct) (x : ByteArray) : Ct := if (told x nmT).2 = true ∧ c.t < 0 then { c with t := (told x nmT).1 } else c
def st4 (c : Ct) (x : ByteArray) : Ct :=
  if x = wdT then (if c.t < 0 then { c with t := 1000000000 } else c)
  else if x = wdS then { c with ns := true }
  else if x = wdC then { c with nc := true }
  else if x = wdP then { c with pr := true }
  else if x = wdM then { c with mu := true }
  else c
def stp (c : Ct) (x : ByteArray) : Ct := st4 (st3 (st2 (st1 c x) x) x) x
def lowT (s : ByteArray) : ByteArray := ⟨(s.data.toList.map lowB).toArray⟩
def rdLt (l : List ByteArray) : Ct := l.foldl (fun c t => stp c (lowT t)) ctN
/-- What ReadControl answers. -/
def rdCt (s : ByteArray) : Ct := rdLt (itemsA s)
theorem rdL_snoc (l : List ByteArray) (t : ByteArray) : rdLt (l ++ [t]) = stp (rdLt l) (lowT t) := by unfold rdLt; rw [List.foldl_append]; rfl
theorem told_sec (x name : ByteArray) (h : ∀ t, 0 ≤ numV 10 15 t) : secB (told x name).1 = true := by
  unfold told
  split
  · exact secB_iff.2 ⟨by show (-1 : Int) ≤ 0; omega, by show (0 : Int) ≤ _; omega⟩
  · rw [secB_iff]
    have := h (x.extract name.size x.size)
    show -1 ≤ minI _ _ ∧ minI _ _ ≤ _
    unfold minI
    split <;> omega
theorem stp_ok (h : ∀ t, 0 ≤ numV 10 15 t) {c : Ct} (hc : ctB c = true) (x : ByteArray) : ctB (stp c x) = true := by
  have h1 : ctB (st1 c x) = true := by
    unfold st1; split
    · rw [ctB_iff] at *; exact ⟨told_sec x nmA h, hc.2⟩
    · exact hc
  have h2 : ctB (st2 (st1 c x) x) = true := by
    unfold st2; split
    · rw [ctB_iff] at *; exact ⟨h1.1, told_sec x nmS h, h1.2.2⟩
    · exact h1
  have h3 : ctB (st3 (st2 (st1 c x) x) x) = true := by
    unfold st3; split
    · rw [ctB_iff] at *; exact ⟨h2.1, h2.2.1, told_sec x nmT h⟩
    · exact h2
  unfold stp st4
  split
  · split
    · rw [ctB_iff] at *; exact ⟨h3.1, h3.2.1, by show secB 1000000000 = true; decide⟩
    · exact h3
  · repeat' split
    all_goals exact h3
theorem rdL_ok (h : ∀ t, 0 ≤ numV 10 15 t) (l : List ByteArray) : ctB (rdLt l) = true := by
  unfold rdLt
  have : ∀ c, ctB c = true → ctB (l.foldl (fun c t => stp c (lowT t)) c) = true := by
    induction l with
    | nil => intro c hc; exact hc
    | cons t l ih => intro c hc; exact ih _ (stp_ok h hc _)
  exact this ctN (by decide)
theorem numL_bound9 (l : List UInt8) : ∀ (acc : Int) (m : Nat), 0 ≤ acc → acc < 10 ^ m → allB (digN 10) l = true → 0 ≤ l.foldl (fun n c => n * 10 + digV (c.toNat : Int)) acc ∧ l.foldl (fun n c => n * 10 + digV (c.toNat : Int)) acc < 10 ^ (m + l.length) := by
  induction l with
  | nil => intro acc m h1 h2 _; exact ⟨h1, h2⟩
  | cons c l ih =>
    intro acc m h1 h2 ha
    have h3 : digN 10 (c.toNat : Int) = true ∧ allB (digN 10) l = true := by unfold allB at ha ⊢; rw [List.all_cons, Bool.and_eq_true] at ha; exact ha
    have h4 := of_decide_eq_true h3.1
    have := ih (acc * 10 + digV (c.toNat : Int)) (m + 1) (by omega) (by rw [Int.pow_succ]; omega) h3.2
    rw [List.length_cons, show m + (l.length + 1) = m + 1 + l.length by omega]
    exact this
theorem numV_bound9 (t : ByteArray) : 0 ≤ numV 10 15 t ∧ numV 10 15 t < 1000000000000000 := by
  unfold numV
  split
  · rename_i h
    unfold numOk at h
    rw [Bool.and_eq_true] at h
    have h1 := of_decide_eq_true h.1
    have h2 := numL_bound9 t.data.toList 0 0 (Int.le_refl _) (by decide) h.2
    have hl : t.data.toList.length = t.size := by simp
    rw [hl, Nat.zero_add] at h2
    refine ⟨h2.1, Int.lt_of_lt_of_le h2.2 ?_⟩
    have : (10 : Int) ^ t.size ≤ 10 ^ 15 := by
      have h3 : (10 : Nat) ^ t.size ≤ 10 ^ 15 := Nat.pow_le_pow_right (by decide) h1.2
      exact_mod_cast h3
    exact this
  · exact ⟨Int.le_refl _, by decide⟩
end Go.Proofs.YtkaogmdhjcgcdaaGreatDoor
