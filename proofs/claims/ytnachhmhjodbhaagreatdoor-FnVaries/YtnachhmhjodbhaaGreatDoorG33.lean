/-
  The contracts of the drawing functions that lean on one drawn byte: a number below a bound, a chance, a text.
  Drawn control: whatever the code, some control.
  A region that draws its order, whose operations only read but for one that makes a block and a few at its end that wait for all the others: walked once, whenever the block is made.
  Rows of any elements: appended, and where the new row lies.
-/
import Derived.Test.YtnachhmhjodbhaaGreatDoorG32
import Derived.Test.YtnachhmhjodbhaaGreatDoorG04
import Derived.Test.YtnachhmhjodbhaaGreatDoorG28
import Derived.Test.YtnachhmhjodbhaaGreatDoorG27
import Derived.Maps.AppendAt
namespace Go.Proofs.YtnachhmhjodbhaaGreatDoor
open Go.RowKit

theorem byte_back {x : Int} (h0 : 0 ≤ x) (h1 : x ≤ 255) : x = ((UInt8.ofNat x.toNat).toNat : Int) := by
  rw [UInt8.toNat_ofNat', Nat.mod_eq_of_lt (by omega)]
  omega


theorem OwnsB.beside {w w' : World} {B b : Nat} {v : Value} {l : List UInt8} (h : OwnsB w B v l) (hb : Beside b w w') (hB : b < B) : OwnsB w' B v l := by
  refine ⟨h.1, ?_⟩
  rcases h.2 with h0 | ⟨g, cap, cur, hv, hbg, hg, rest⟩
  · exact .inl h0
  · exact .inr ⟨g, cap, cur, hv, hbg, by rw [hb.2.2.2.2 g (Array.getElem?_eq_some_iff.1 hg).1 (by omega)]; exact hg, rest⟩
theorem OwnsB.shape {w : World} {B : Nat} {v : Value} {l : List UInt8} (h : OwnsB w B v l) (hl : 0 < l.length) : ∃ g cap, v = .slice (some ⟨g, 0, none⟩) l.length cap := by
  rcases h.2 with ⟨_, h0⟩ | ⟨g, cap, cur, hv, _⟩
  · omega
  · exact ⟨g, cap, hv⟩
theorem Beside.grow {b B : Nat} {w wr w2 : World} (h : Beside b w wr) (hb : Below B wr w2) (hB : w.heap.size ≤ B) : Beside b w w2 :=
  ⟨hb.os.trans h.1, hb.tape.trans h.2.1, hb.output.trans h.2.2.1, Nat.le_trans h.2.2.2.1 hb.size, fun k hk hg => (hb.block k (by omega)).trans (h.2.2.2.2 k hk hg)⟩
/-- A byte stored into an owned row. -/
theorem OwnsB.put {w : World} {B g cap n : Nat} {l : List UInt8} (hn : n = l.length) (h : OwnsB w B (.slice (some ⟨g, 0, none⟩) n cap) l) (k : Nat) (c : UInt8) : OwnsB (w.setCell ⟨g, k, none⟩ (.int .u8 (c.toNat : Int))) B (.slice (some ⟨g, 0, none⟩) n cap) (l.set k c) := by
  subst hn
  have h2 := (World.ownsRow.stored h k (.int .u8 (c.toNat : Int))).1
  unfold OwnsB
  have e : bytesV (l.set k c) = (bytesV l).set k (.int .u8 (c.toNat : Int)) := by unfold bytesV; rw [List.map_set]
  rw [List.length_set, e]
  exact h2
theorem OwnsB.at {w : World} {B g cap n : Nat} {l : List UInt8} (hn : n = l.length) (h : OwnsB w B (.slice (some ⟨g, 0, none⟩) n cap) l) (j : Nat) (hj : j < l.length) : w.cell? ⟨g, j, none⟩ = some (.int .u8 (l[j].toNat : Int)) ∧ w.frozen? ⟨g, j, none⟩ = false ∧ B ≤ g := by
  subst hn
  refine ⟨?_, World.ownsRow.frozenAt h j, (World.ownsRow.lt h g rfl).1⟩
  rw [World.ownsRow.cellAt h j (by omega)]
  simp [bytesV, hj]
set_option maxHeartbeats 1000000 in
theorem l1DrawText (b : Nat) (sa : Option Addr) (sl sc : Nat) (signs : ByteArray) (most : Nat) (hs1 : 1 ≤ signs.size) (hs2 : signs.size ≤ 1000) (hm : most ≤ 1000) (w : World) (hc : Cur w b sa sl sc) :
    Calls Tryz.prog 78 #[.pointer (some ⟨b, 0, none⟩), .string signs, .int .i64 most] w fun e w' => ∃ t : ByteArray, e = .returned (.string t) ∧ t.size ≤ most ∧ Cur w' b sa sl sc ∧ Beside b w w' := by
  have hbz : b < w.heap.size := hc.2.2.1
  have hc0 : Cur (w.alloc (.cells #[] 5)) b sa sl sc := hc.kept ((Below.refl _ w).alloc (Nat.le_refl _) _) hbz
  clear hc
  go_enter Tryz.func78, Tryz.ntmps78
  go_wp2_with fail
  refine (l1Below b sa sl sc _ (by omega) (by omega) _ hc0).mono ?_
  rintro e w1 ⟨x, rfl, hx0, hx1, hc1, hb1⟩
  have ho1 := (OwnsB.empty w).beside hb1 hbz
  have hb2 : Beside b w w1 := ((Beside.refl b w).below ((Below.refl _ w).alloc (Nat.le_refl _) _)).trans hb1
  obtain ⟨x, rfl⟩ := Int.eq_ofNat_of_zero_le hx0
  clear hb1 hc0
  go_wp2_with fail
  go_loopw [7, 8] (fun v n wr => ∃ (k : Nat) (l : List UInt8) (g cap : Nat), n = .int .i64 k ∧ v = .slice (some ⟨g, 0, none⟩) l.length cap ∧ OwnsB wr w.heap.size (.slice (some ⟨g, 0, none⟩) l.length cap) l ∧ Cur wr b sa sl sc ∧ Beside b w wr ∧ l.length + k ≤ most) (fun _ n _ => (intOf n).toNat)
  case atStart => exact ⟨x, [], w.heap.size, 0, rfl, rfl, ho1, hc1, hb2, by simp; omega⟩
  case round =>
    clear ho1 hc1 hb2
    obtain ⟨k, l, g, cap, rfl, rfl, ho, hc, hb, hlk⟩ := hrel
    by_cases hk : 0 < k
    · go_wp2_with fail
      refine (l1Below b sa sl sc _ (by omega) (by omega) _ hc).mono ?_
      rintro e w2 ⟨y, rfl, hy0, hy1, hc2, hb2⟩
      obtain ⟨y, rfl⟩ := Int.eq_ofNat_of_zero_le hy0
      have ho2 := ho.beside hb2 hbz
      have hb3 := hb.trans hb2
      have hz2 : w.heap.size ≤ w2.heap.size := hb3.2.2.2.1
      have hys : y < signs.size := by omega
      clear ho hc hb hb2
      go_wp2_with (at_builtin; refine wpList_push _ rfl (.tmp 18) (.tmp 25) rfl w.heap.size _ _ _ signs[y] rfl rfl ho2 rfl (by omega) hz2 ?_; intro v3 w3 ho3 hg3)
      go_roundw
      case rel =>
        have hbl : Below w.heap.size w2 w3 := (Below.refl _ w2).grown hg3 hz2 (OwnsB.from ho2)
        obtain ⟨g3, cap3, rfl⟩ := ho3.shape (by simp)
        exact ⟨k - 1, _, g3, cap3, by go_num, rfl, ho3, hc2.kept hbl hbz, hb3.grow hbl (Nat.le_refl _), by simp; omega⟩
      case measure => simp [intOf]; omega
    · obtain rfl : k = 0 := by omega
      go_wp2_with fail
      refine (l1Once b sa sl sc _ (by decide) (by decide) _ hc).mono ?_
      rintro e w2 ⟨t, rfl, hc2, hb2⟩
      have ho2 := ho.beside hb2 hbz
      have hb3 := hb.trans hb2
      clear ho hc hb hb2
      cases t with
      | false =>
        have hback := ho2.text
        go_wp2
        go_ret
        exact ⟨_, rfl, by show l.toArray.size ≤ most; simp; omega, hc2, hb3⟩
      | true =>
        by_cases hl : 0 < l.length
        · go_wp2_with fail
          refine (l1Below b sa sl sc _ (by omega) (by omega) _ hc2).mono ?_
          rintro e w4 ⟨y, rfl, hy0, hy1, hc4, hb4⟩
          obtain ⟨y, rfl⟩ := Int.eq_ofNat_of_zero_le hy0
          have ho4 := ho2.beside hb4 hbz
          have hb5 := hb3.trans hb4
          clear ho2 hc2 hb3 hb4
          go_wp2_with fail
          refine (l1Byte b sa sl sc _ hc4).mono ?_
          rintro e w6 ⟨z, rfl, hz0, hz1, hc6, hb6⟩
          have ho6 := ho4.beside hb6 hbz
          have hb7 := hb5.trans hb6
          clear ho4 hc4 hb5 hb6
          obtain ⟨hcell, hfz, hgB⟩ := ho6.at rfl y (by omega)
          obtain ⟨c, hcz⟩ : ∃ c : UInt8, z = (c.toNat : Int) := ⟨_, byte_back hz0 hz1⟩
          subst hcz
          have ho8 := ho6.put rfl y c
          have hback := ho8.text
          have hbl : Below w.heap.size w6 (w6.setCell ⟨g, y, none⟩ (.int .u8 (c.toNat : Int))) := (Below.refl _ w6).setCell hgB _
          have hc8 := hc6.kept hbl hbz
          have hb8 := hb7.grow hbl (Nat.le_refl _)
          clear ho6 hc6 hb7 hbl ho8
          go_wp2
          go_ret
          exact ⟨_, rfl, by show (l.set y c).toArray.size ≤ most; simp; omega, hc8, hb8⟩
        · have hback := ho2.text
          go_wp2
          go_ret
          exact ⟨_, rfl, by show l.toArray.size ≤ most; simp; omega, hc2, hb3⟩
end Go.Proofs.YtnachhmhjodbhaaGreatDoor
namespace Go.Proofs.YtnachhmhjodbhaaGreatDoor
open Go.RowKit Go.Sort
set_option linter.unusedVariables false
set_option linter.unusedSimpArgs false

theorem BlkE.bs {α : Type} {E : Enc α} {w w' : World} {b k : Nat} {x : α} (h : BlkE E w k x) (hb : Beside b w w') (hne : k ≠ b) : BlkE E w' k x := h.same (hb.2.2.2.2 k h.hi hne) hb.2.2.2.1
theorem Cur.more9 {w : World} {b : Nat} {sa : Option Addr} {sl sc : Nat} (h : Cur w b sa sl sc) (o : Obj) : Cur (w.alloc o) b sa sl sc := h.kept ((Below.refl _ w).alloc (Nat.le_refl _) _) h.2.2.1
theorem Beside.more9 {g : Nat} {a w : World} (h : Beside g a w) (o : Obj) : Beside g a (w.alloc o) := h.below ((Below.refl _ w).alloc (Nat.le_refl _) _)
end Go.Proofs.YtnachhmhjodbhaaGreatDoor
namespace Go.Proofs.YtnachhmhjodbhaaGreatDoor
open Go Go.RowKit Go.Sort
set_option linter.unusedVariables false

section
variable {P : Program} {ops : Array Oper} {md : Region.Mode} {ι : Type} {C : ι → World → Prop}
/-- It yields the same value in every class. -/
def Tells (P : Program) (ops : Array Oper) (C : ι → World → Prop) (i : Nat) (K : Act → ι → Prop) (a : Act) (c : ι) : Prop :=
  ∃ o v, ops[i]? = some o ∧ (∀ c, YieldsIn P ops (C c) o v a) ∧ K (a.put o.dst v) c
/-- It yields a value and leads into another class. -/
def Makes (P : Program) (ops : Array Oper) (C : ι → World → Prop) (i : Nat) (K : Act → ι → Prop) (a : Act) (c : ι) : Prop :=
  ∃ o, ops[i]? = some o ∧ Region.wanted o (yielded ops a.tmps) = true ∧ ∀ w, C c w → ∃ v w' c', (execOp a.eval o).run P w = .ok (.value v) w' ∧ C c' w' ∧ K (a.put o.dst v) c'
def Fam (P : Program) (md : Region.Mode) (ops : Array Oper) (C : ι → World → Prop) (n : Nat) (L : Array Bool → Act → ι → Prop) : Nat → Array Bool → Act → ι → Prop
  | 0, listed, a, c => L listed a c
  | f + 1, listed, a, c => ¬ Region.ready md ops listed = [] ∧ ∀ i ∈ Region.ready md ops listed, i < n ∧ (Tells P ops C i (fun a' c' => Fam P md ops C n L f (listed.setIfInBounds i true) a' c') a c ∨ Makes P ops C i (fun a' c' => Fam P md ops C n L f (listed.setIfInBounds i true) a' c') a c)
theorem Fam.any {n g : Nat} {L : Array Bool → Act → ι → Prop} {Q : Exit → Act → World → Prop} (hL : ∀ listed a c w, C c w → L listed a c → wpAny P md ops Q g listed a w) :
    ∀ (f : Nat) (listed : Array Bool) (a : Act) (c : ι) (w : World), C c w → Fam P md ops C n L f listed a c → wpAny P md ops Q (f + g) listed a w := by
  intro f
  induction f with
  | zero => intro listed a c w hw h; rw [Nat.zero_add]; exact hL _ _ _ _ hw h
  | succ f ih =>
    intro listed a c w hw h
    rw [show f + 1 + g = (f + g) + 1 by omega]
    refine ⟨fun h0 => absurd h0 h.1, fun i hi => ?_⟩
    rcases (h.2 i hi).2 with ⟨o, v, ho, hy, hK⟩ | ⟨o, ho, hwt, hmk⟩
    · exact wpOp_of_qOp hw (fun a' w' hw' h' => ih _ a' c w' hw' h') ((hy c).qOp ho hK)
    · obtain ⟨v, w', c', hr, hc', hK⟩ := hmk w hw
      unfold wpOp
      rw [ho]
      show if Region.wanted o (yielded ops a.tmps) = true then _ else _
      rw [if_pos hwt]
      refine .inl ?_
      unfold Oper.wp
      rw [hr]
      exact ih _ _ c' w' hc' hK
theorem Fam.first {n i : Nat} {oi : Oper} {v : Value} {L : Array Bool → Act → ι → Prop} (hi : ops[i]? = some oi) (hsel : ∀ (j : Nat) (o : Oper) cs b, ops[j]? = some o → o.op ≠ .select cs b)
    (hs : Region.sinkB md ops n = true) (hc : Region.chainB md ops n = true) (hn : n < ops.size) (hin : i < n) (hdone : ∀ listed a c, L listed a c → ∀ j ∈ Region.ready md ops listed, n ≤ j) :
    ∀ (f : Nat) (listed : Array Bool) (a : Act) (c : ι), HeadInv md ops n listed →
      (∀ j oj, ops[j]? = some oj → j ≠ i → listed.getD j true = false → (∀ e ∈ oj.after, Region.binds md e = true → e.on ≠ i) → oi.apart ops oj = true) →
      i ∈ Region.ready md ops listed → (∀ c, YieldsIn P ops (C c) oi v a) → Fam P md ops C n L f (listed.setIfInBounds i true) (a.put oi.dst v) c → Fam P md ops C n L (f + 1) listed a c := by
  intro f
  induction f with
  | zero =>
    intro listed a c inv _ hr hy H
    refine ⟨fun h => (by rw [h] at hr; cases hr), fun j hj => ⟨ahead_lt hs hc hn inv hin hr hj, ?_⟩⟩
    by_cases hji : j = i
    · subst hji; exact .inl ⟨oi, v, hi, hy, H⟩
    · have h1 := hdone _ _ _ H j (ready_mono hj hji)
      have h2 := ahead_lt hs hc hn inv hin hr hj
      omega
  | succ f ih =>
    intro listed a c inv hfree hr hy H
    have hun := (mem_ready.1 hr).1
    refine ⟨fun h => (by rw [h] at hr; cases hr), fun j hj => ⟨ahead_lt hs hc hn inv hin hr hj, ?_⟩⟩
    by_cases hji : j = i
    · subst hji; exact .inl ⟨oi, v, hi, hy, H⟩
    · have h1 := (H.2 j (ready_mono hj hji)).2
      obtain ⟨hjun, oj, hoj, hall⟩ := mem_ready.1 hj
      have hnot : ∀ e ∈ oj.after, Region.binds md e = true → e.on ≠ i := fun e he hb heq => by
        have h3 := hall e he hb
        rw [heq, getD_both hun] at h3
        cases h3
      obtain ⟨p1, p2, p3⟩ := Oper.apart_spec (hfree j oj hoj hji hjun hnot)
      have hsi : ∀ cs b, oi.op ≠ .select cs b := fun cs b => hsel i oi cs b hi
      have hsj : ∀ cs b, oj.op ≠ .select cs b := fun cs b => hsel j oj cs b hoj
      have keep : ∀ u, ∀ c, YieldsIn P ops (C c) oi v (a.put oj.dst u) := fun u c => (hy c).of_same (execOp_put oi hsi a oj.dst u p3) (wanted_put oi a oj.dst u p3)
      have go : ∀ (u : Value) (c' : ι), Fam P md ops C n L f ((listed.setIfInBounds i true).setIfInBounds j true) ((a.put oi.dst v).put oj.dst u) c' → Fam P md ops C n L (f + 1) (listed.setIfInBounds j true) (a.put oj.dst u) c' := fun u c' h3 => by
        refine ih (listed.setIfInBounds j true) _ c' (inv.set hj (ahead_lt hs hc hn inv hin hr hj)) (fun k ok hk hki hku hno => ?_) (ready_mono hr (Ne.symm hji)) (keep u) ?_
        · refine hfree k ok hk hki ?_ hno
          by_cases hjk : j = k
          · subst hjk; exact hjun
          · rw [getD_set_ne true hjk] at hku; exact hku
        · rw [Array.setIfInBounds_comm _ _ hji, ← Act.put_comm a v u p2]
          exact h3
      rcases h1 with ⟨o, u, ho, hyj, hK⟩ | ⟨o, ho, hwt, hmk⟩
      · have : o = oj := Option.some.inj (ho.symm.trans hoj)
        subst this
        exact .inl ⟨o, u, ho, fun c => (hyj c).of_same (execOp_put o hsj a oi.dst v p1).symm (wanted_put o a oi.dst v p1).symm, go u c hK⟩
      · have : o = oj := Option.some.inj (ho.symm.trans hoj)
        subst this
        refine .inr ⟨o, ho, by rw [← wanted_put o a oi.dst v p1]; exact hwt, fun w hw => ?_⟩
        obtain ⟨u, w', c', hrun, hc', hK⟩ := hmk w hw
        rw [execOp_put o hsj a oi.dst v p1] at hrun
        exact ⟨u, w', c', hrun, hc', go u c' hK⟩
end
end Go.Proofs.YtnachhmhjodbhaaGreatDoor
namespace Go.Proofs.YtnachhmhjodbhaaGreatDoor
open Go.RowKit
set_option linter.unusedVariables false

theorem wpList_rowE_at {α : Type} {E : Enc α} {P : Program} {ops : Array Oper} {rest : List Oper} {o : Oper} {a : Act} {Q : Exit → Act → World → Prop} (w : World) (hgd : o.guard = Option.none) (s x : Operand) (ts te : TypeId) (z : Value) (bytes : Nat)
    (hts : P.underlying ts = some (.slice te)) (hinfo : (P.info? te).map (fun i => (i.zero, i.size, i.bytes)) = some (some z, E.k, bytes)) (hz : z.cells.size = E.k)
    (ho : o.op = .call { callee := .builtin .append, args := #[s, x], argTypes := #[ts, ts] }) (B : Nat) (v : Value) (l : List α) (hs : a.eval s = v) (hown : OwnsE E te w B v l)
    (ad : Addr) (c : Nat) (m : List α) (hx : a.eval x = .slice (some ad) m.length c) (hcell : ∀ j u, (cellsE E m)[j]? = some u → w.cell? (ad.add j) = some u)
    (h63 : l.length + m.length ≤ maxLen) (hbytes : (l.length + m.length) * bytes ≤ 140737488355328) (hB : B ≤ w.heap.size)
    (h : ∀ v' w', OwnsE E te w' B v' (l ++ m) → w.grownBy w' v.ownBlock → (v' = .slice Option.none 0 0 ↔ v = .slice Option.none 0 0 ∧ m.length = 0) → (v'.ownBlock = v.ownBlock ∨ v'.ownBlock = some w.heap.size) → wpList P ops Q rest (a.put o.dst v') w') :
    wpList P ops Q (o :: rest) a w := by
  obtain ⟨i0, hi, hz0, hz1, hz2⟩ := info_parts hinfo
  refine wpList_append_own_at _ hgd s x ts ho B te i0 z E.k bytes hts hi hz0 hz1 hz2 hz E.pos v l.length (cellsE E l) hs hown ad m.length c (cellsE E m) hx (cellsE_length E m) hcell (cellsE_one E m) h63 hbytes hB ?_
  intro v' w' h1 h2 h3 h4
  refine h v' w' ?_ h2 h3 h4
  unfold OwnsE
  rw [cellsE_append, List.length_append]
  exact h1
end Go.Proofs.YtnachhmhjodbhaaGreatDoor
