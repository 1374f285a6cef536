/-
  The contract of the specification's sorting of texts.
  The names that the program goes through: what its function over names hands on, one by one.
  The contract of the specification's SortedQuery.
  Calls that lay new blocks and draw, and turn nothing that lay before.
-/
import Derived.Test.YtnachhmhjodbhaaGreatDoorG17
import Derived.Test.YtnachhmhjodbhaaGreatDoorG18
import Derived.Deep.QuietTactic
import Derived.BigQuiet
import Derived.Laws.Cover1
import Derived.Test.YtnachhmhjodbhaaGreatDoorG11
import Derived.Test.YtnachhmhjodbhaaGreatDoorG14
import Derived.Test.YtnachhmhjodbhaaGreatDoorG15
import Derived.Test.YtnachhmhjodbhaaGreatDoorShelfB
import Derived.Test.YtnachhmhjodbhaaGreatDoorShelfL
import Derived.RangeFuncNested
import Derived.RangeFuncBound
import Derived.RangeFuncCalls
import Derived.RangeFuncLeaves
import Derived.RangeFuncBox
import Derived.Shelf.Abstract
import Derived.Shelf.RegionOpen
import Derived.WalkKit
import Derived.OwnWalkIn
import Derived.TacticsInMore
import Derived.LoopNIn
import Derived.LoopIn
import Derived.Test.YtnachhmhjodbhaaGreatDoorProg
import Derived.Test.YtnachhmhjodbhaaGreatDoorRows
import Derived.Test.YtnachhmhjodbhaaGreatDoorG16
import Derived.WalkSpells
import Derived.Below
import Derived.Laws.IdiomStrings
import Derived.Shelf.SlSortCmp.QuietGrown
namespace Go.Proofs.YtnachhmhjodbhaaGreatDoor
open Go.RowKit

/-- A text stored into an owned slice. -/
theorem OwnsT.stored {w : World} {B g cap n : Nat} {l : List ByteArray} (h : OwnsT w B (.slice (some ⟨g, 0, none⟩) n cap) l) (hn : n = l.length) (j : Nat) (x : ByteArray) :
    OwnsT (w.setCell ⟨g, j, none⟩ (.string x)) B (.slice (some ⟨g, 0, none⟩) n cap) (l.set j x) ∧ w.grownBy (w.setCell ⟨g, j, none⟩ (.string x)) (some g) := by
  subst hn
  have := World.ownsRow.stored h j (.string x)
  rw [← List.map_set] at this
  refine ⟨?_, this.2⟩
  unfold OwnsT
  rw [List.length_set]
  exact this.1
theorem OwnsT.unfrozen {w : World} {B g cap n : Nat} {l : List ByteArray} (h : OwnsT w B (.slice (some ⟨g, 0, none⟩) n cap) l) (hn : n = l.length) (j : Nat) : w.frozen? ⟨g, j, none⟩ = false := by
  subst hn
  exact World.ownsRow.frozenAt h j
theorem OwnsT.cellAt {w : World} {B g cap n : Nat} {l : List ByteArray} (h : OwnsT w B (.slice (some ⟨g, 0, none⟩) n cap) l) (hn : n = l.length) {j : Nat} {x : ByteArray} (hx : l[j]? = some x) : w.cell? ⟨g, j, none⟩ = some (.string x) := by
  subst hn
  have := World.ownsRow.cells h (g := g) rfl j (.string x) (by rw [List.getElem?_map, hx]; rfl)
  rw [addr_add, Nat.zero_add] at this
  exact this

theorem below_drew {n : Nat} {w w' : World} (h : Below n w w') : Below n w w'.drew := ⟨h.os, h.tape, h.output, h.size, h.block⟩
/-- Two texts: the first one is above, below, or the same. -/
theorem cmp3 (a x : List UInt8) : (x < a ∧ Op.bytesLess (txt a).toList (txt x).toList = false ∧ ((txt a).toList == (txt x).toList) = false) ∨ (a ≤ x ∧ Op.bytesLess (txt a).toList (txt x).toList = true) ∨ (a ≤ x ∧ Op.bytesLess (txt a).toList (txt x).toList = false ∧ ((txt a).toList == (txt x).toList) = true) := by
  rw [txt_toList, txt_toList, bytesLess_eq]
  by_cases h : x < a
  · have h1 : ¬ a < x := fun e => List.lt_irrefl _ (List.lt_trans h e)
    have h2 : a ≠ x := fun e => by rw [e] at h; exact List.lt_irrefl _ h
    exact Or.inl ⟨h, decide_eq_false h1, by simpa using h2⟩
  · by_cases h1 : a < x
    · exact Or.inr (Or.inl ⟨h, decide_eq_true h1⟩)
    · exact Or.inr (Or.inr ⟨h, decide_eq_false h1, by simpa using leL_anti a x h h1⟩)
theorem last_snoc (A' : List (List UInt8)) (a x : List UInt8) (h : a ≤ x) : ∀ b, (A' ++ [a]).getLast? = some b → b ≤ x := by
  intro b hb
  simp at hb
  rw [← hb]; exact h

set_option maxRecDepth 100000 in
set_option maxHeartbeats 4000000 in
theorem specSrt (v : Value) (B : Nat) (ps : List (List UInt8)) (w : World) (h : OwnsT w B v (ps.map txt)) (hl : ps.length ≤ 1000000) :
    Calls Tryz.prog 63 #[v] w fun e w' => ∃ v', e = .returned v' ∧ OwnsT w' w.heap.size v' ((srtL ps).map txt) ∧ Below w.heap.size w w' := by
  obtain ⟨av, cv, hv⟩ := h.form
  rw [List.length_map] at hv
  subst hv
  go_enter Tryz.func63, Tryz.ntmps63
  go_wp2
  go_loopw [3, 4] (fun o i wr => ∃ (k : Nat) (ys : List (List UInt8)), k ≤ ps.length ∧ i = .int .i64 k ∧ OwnsT wr w.heap.size o (ys.map txt) ∧ Below w.heap.size w wr ∧ Hid (SrtL ys ∧ ys.Perm (ps.take k))) (fun _ i _ => ps.length - (intOf i).toNat)
  case atStart => exact ⟨0, [], Nat.zero_le _, rfl, OwnsT.born w, (Below.refl _ w).alloc (Nat.le_refl _) _, List.Pairwise.nil, List.Perm.refl _⟩
  case round =>
    obtain ⟨k, ys, hk, rfl, hown, hb, HY⟩ := hrel
    have hbs := hb.size
    have hyl : ys.length ≤ 1000000 := by
      have := HY.out.2.length_eq
      rw [List.length_take] at this
      omega
    by_cases hlt : k < ps.length
    · obtain ⟨g, cap, hv, hBg, hgz, hgc, hcell⟩ := h.open (by intro e; rw [List.map_eq_nil_iff] at e; rw [e] at hlt; simp at hlt)
      injection hv with hv1 hv2 hv3
      clear hv2
      subst hv1
      subst hv3
      have hkc0 : w.cell? ⟨g, k, none⟩ = some (.string (txt ps[k])) := hcell k _ (by simp [hlt])
      have hkc : wr.cell? ⟨g, k, none⟩ = some (.string (txt ps[k])) := (hb.cell (p := ⟨g, k, none⟩) hgz).trans hkc0
      obtain ⟨ao, co, hvo⟩ := hown.form
      rw [List.length_map] at hvo
      subst hvo
      have hyl' : (ys.map txt).length ≤ 7000000000000 := by simp; omega
      go_wp2_with (at_builtin; refine wpList_pushT _ rfl (.tmp 15) (.tmp 20) rfl w.heap.size _ _ _ rfl hown rfl hyl' hbs ?_; intro v2 w2 ho2 hg2; have hb2 := hb.grown hg2 hbs (OwnsT.from hown))
      obtain ⟨g2, c2, hv2, hB2, hz2, hc2, -⟩ := ho2.open (by simp)
      rw [List.length_append, List.length_map, List.length_singleton] at hv2
      subst hv2
      have HYS : Hid (SrtL ys ∧ ys.Perm (ps.take k)) := HY
      have HT : Hid (ps.take (k + 1) = ps.take k ++ [ps[k]]) := List.take_succ_eq_append_getElem hlt
      generalize hxk : ps[k] = x at hkc0 ho2 HT
      have ho3 : OwnsT w2 w.heap.size (.slice (some ⟨g2, 0, none⟩) (ys.length + 1) c2) ((ys ++ [x] ++ []).map txt) := by
        rw [List.append_nil, map_txt_snoc]; exact ho2
      clear hkc hown hb hbs hg2 HY hyl' ho2 hxk hcell
      go_loopw [5] (fun kk wr => ∃ (A B' : List (List UInt8)) (y : List UInt8), kk = .int .i64 A.length ∧ OwnsT wr w.heap.size (.slice (some ⟨g2, 0, none⟩) (ys.length + 1) c2) ((A ++ [y] ++ B').map txt) ∧ Below w.heap.size w wr ∧ A.length ≤ ys.length ∧ Hid (A ++ B' = ys ∧ (∀ b ∈ B', x < b))) (fun kk _ => (intOf kk).toNat)
      case atStart => exact ⟨ys, [], x, rfl, ho3, hb2, Nat.le_refl _, by simp, by simp⟩
      case round =>
        clear ho3 hb2 hz2 w2
        obtain ⟨A, B', y, rfl, hox, hbx, hAl, HAB⟩ := hrel
        have hlen : (A ++ [y] ++ B').length = ys.length + 1 := by
          have := congrArg List.length HAB.out.1
          simp at this ⊢
          omega
        have hkx : wr.cell? ⟨g, k, none⟩ = some (.string (txt x)) := (hbx.cell (p := ⟨g, k, none⟩) hgz).trans hkc0
        have hgg : g ≠ g2 := by omega
        have hcA : wr.cell? ⟨g2, A.length, none⟩ = some (.string (txt y)) := hox.cellAt (by simp at hlen ⊢; omega) (by simp)
        have hfA := hox.unfrozen (by simp at hlen ⊢; omega) A.length
        have hput := hox.stored (by simp at hlen ⊢; omega) A.length (txt x)
        rw [map_set, hole_fill] at hput
        have HP : Hid (OwnsT (wr.setCell ⟨g2, A.length, none⟩ (.string (txt x))) w.heap.size (.slice (some ⟨g2, 0, none⟩) (ys.length + 1) c2) ((A ++ [x] ++ B').map txt) ∧ Below w.heap.size w (wr.setCell ⟨g2, A.length, none⟩ (.string (txt x)))) :=
          ⟨hput.1, hbx.grown hput.2 hbx.size (fun j hj => by injection hj with hj; omega)⟩
        have HPm : Hid ((A ++ [x] ++ B').Perm (ps.take (k + 1))) := by
          show (A ++ [x] ++ B').Perm (ps.take (k + 1))
          rw [HT.out]
          exact perm_put A B' x (by rw [HAB.out.1]; exact HYS.out.2)
        clear hput
        by_cases hA : A = []
        · subst hA
          have HS : Hid (SrtL ([] ++ [x] ++ B')) := srt_put (by rw [HAB.out.1]; exact HYS.out.1) HAB.out.2 (by simp)
          simp only [List.length_nil] at hcA hfA HP
          go_wp2
          go_region
          all_goals
            go_wp2
            go_roundw
            case rel => exact ⟨k + 1, _, by omega, by go_num, HP.out.1, below_drew HP.out.2, HS.out, HPm.out⟩
            case measure => simp [intOf]; omega
        · obtain ⟨A', a, rfl⟩ := snoc_of hA
          have hca : wr.cell? ⟨g2, A'.length, none⟩ = some (.string (txt a)) := hox.cellAt (by simp at hlen ⊢; omega) (get_before A' B' a y)
          have hput := hox.stored (by simp at hlen ⊢; omega) (A'.length + 1) (txt a)
          rw [map_set, hole_step] at hput
          have HQ : Hid (OwnsT (wr.setCell ⟨g2, A'.length + 1, none⟩ (.string (txt a))) w.heap.size (.slice (some ⟨g2, 0, none⟩) (ys.length + 1) c2) ((A' ++ [a] ++ (a :: B')).map txt) ∧ Below w.heap.size w (wr.setCell ⟨g2, A'.length + 1, none⟩ (.string (txt a)))) :=
            ⟨hput.1, hbx.grown hput.2 hbx.size (fun j hj => by injection hj with hj; omega)⟩
          have hl1 : (A' ++ [a]).length = A'.length + 1 := by simp
          rw [hl1] at hcA hfA HP hAl
          have HR : Hid (a ≤ x → SrtL (A' ++ [a] ++ [x] ++ B')) := fun hle => srt_put (by rw [HAB.out.1]; exact HYS.out.1) HAB.out.2 (last_snoc A' a x hle)
          have HB : Hid (x < a → A' ++ (a :: B') = ys ∧ ∀ b ∈ a :: B', x < b) := fun hlt => ⟨by rw [← HAB.out.1]; simp, fun b hb => by
            rcases List.mem_cons.1 hb with rfl | hb
            · exact hlt
            · exact HAB.out.2 b hb⟩
          have hcl : A'.length + 1 < ys.length + 1 := by omega
          clear hput hl1 hox hA hlen
          rcases cmp3 a x with ⟨hxa, q1, q2⟩ | ⟨hxa, q1⟩ | ⟨hxa, q1, q2⟩
          · have HB2 := HB.out hxa
            have HB3 : Hid (A' ++ (a :: B') = ys ∧ ∀ b ∈ a :: B', x < b) := HB2
            clear HB2 HB HR hxa HP HPm
            generalize txt a = ta at hca q1 q2 HQ
            generalize txt x = tx at hkx q1 q2 hkc0
            go_wp2
            go_region
            all_goals
              go_wp2
              go_roundw
              case rel => exact ⟨A', a :: B', a, by go_num, HQ.out.1, below_drew HQ.out.2, by omega, HB3⟩
              case measure => simp [intOf]
          · have HS : Hid (SrtL (A' ++ [a] ++ [x] ++ B')) := HR.out hxa
            clear HB HR hxa HQ
            generalize txt a = ta at hca q1
            generalize txt x = tx at hkx q1 hkc0 HP
            go_wp2
            go_region
            all_goals
              go_wp2
              go_roundw
              case rel => exact ⟨k + 1, _, by omega, by go_num, HP.out.1, below_drew HP.out.2, HS.out, HPm.out⟩
              case measure => simp [intOf]; omega
          · have HS : Hid (SrtL (A' ++ [a] ++ [x] ++ B')) := HR.out hxa
            clear HB HR hxa HQ
            generalize txt a = ta at hca q1 q2
            generalize txt x = tx at hkx q1 q2 hkc0 HP
            go_wp2
            go_region
            all_goals
              go_wp2
              go_roundw
              case rel => exact ⟨k + 1, _, by omega, by go_num, HP.out.1, below_drew HP.out.2, HS.out, HPm.out⟩
              case measure => simp [intOf]; omega
    · have htk : ps.take k = ps := List.take_of_length_le (by omega)
      have HE : Hid (ys = srtL ps) := srtL_is HY.out.1 (by rw [← htk]; exact HY.out.2)
      clear htk
      go_wp2
      go_ret
      exact ⟨_, rfl, by rw [← HE.out]; exact hown, hb⟩
end Go.Proofs.YtnachhmhjodbhaaGreatDoor
namespace Go.Proofs.YtnachhmhjodbhaaGreatDoor
open Go.RowKit Go.Sort Go.Shelf
set_option linter.unusedVariables false
set_option linter.unusedSimpArgs false

/-- Every row of texts lies as it lay. -/
def KeepN (W W' : World) : Prop := ∀ (k : Nat) (vs : Array Value) (fz : Nat × Nat), W.heap[k]? = some (.cells vs 9 fz) → W'.heap[k]? = some (.cells vs 9 fz)
theorem KeepN.refl (W : World) : KeepN W W := fun _ _ _ h => h
theorem KeepN.trans {A B C : World} (h : KeepN A B) (k : KeepN B C) : KeepN A C := fun j vs fz e => k j vs fz (h j vs fz e)
theorem KeepN.book {w : World} (W : World) (l : Nat) (o o' : Obj) (_ : w.heap.size ≤ l) (h : W.heap[l]? = some o) (hc : o.isCells = false) (_ : o.isWalk = false) : KeepN W (W.putObj l o') := by
  intro k vs fz e
  have hne : k ≠ l := by
    intro hk
    subst hk
    rw [h] at e
    injection e with e
    subst e
    cases hc
  rw [World.putObj_heap_other hne]
  exact e
theorem KeepN.below {W W' : World} (h : Below W.heap.size W W') : KeepN W W' := fun k vs fz e => by
  rw [h.block k (Array.getElem?_eq_some_iff.1 e).1]; exact e
theorem KeepN.grown {W W' : World} {r : Option Nat} (hg : W.grownBy W' r) (hr : ∀ k, r = some k → ∀ vs fz, W.heap[k]? ≠ some (.cells vs 9 fz)) : KeepN W W' := fun k vs fz e => by
  rw [hg.block k (Array.getElem?_eq_some_iff.1 e).1 (fun h => hr k h.symm vs fz e)]; exact e

/-- Block g is a row of texts. -/
def RowT (w : World) (g : Nat) : Prop := ∃ vs fz, w.heap[g]? = some (.cells vs 9 fz)
theorem RowT.put {w : World} {g : Nat} (h : RowT w g) (d : Array (List UInt8)) (q : Nat) : RowT (putRow encStr (Sort.ahead w q) g 0 d) g := by
  obtain ⟨vs, fz, h⟩ := h
  refine ⟨putCells encStr 0 d vs, fz, ?_⟩
  show (w.heap.modify g _)[g]? = _
  rw [Array.getElem?_modify, if_pos rfl, h]
  rfl
theorem RowT.grow {w : World} {g : Nat} (h : RowT w g) (os : Array Obj) : RowT (grow w os) g := by
  obtain ⟨vs, fz, h⟩ := h
  exact ⟨vs, fz, by rw [heap_grow_old _ _ (Array.getElem?_eq_some_iff.1 h).1]; exact h⟩
theorem RowT.of {w : World} {B g n c : Nat} {l : List ByteArray} (h : OwnsT w B (.slice (some ⟨g, 0, none⟩) n c) l) : RowT w g := by
  rcases h.2 with ⟨e, _⟩ | ⟨g', cap, cur, e, _, hg, _⟩
  · cases e
  · injection e with e1 _ _
    injection e1 with e1
    injection e1 with e1
    subst e1
    exact ⟨cur, _, hg⟩
theorem RowT.keep {w w' : World} {g : Nat} (h : RowT w g) (hk : KeepN w w') : w'.heap[g]? = w.heap[g]? := by
  obtain ⟨vs, fz, h⟩ := h
  rw [h]; exact hk g vs fz h
theorem holdsV {w1 : World} {g n c B : Nat} {ps : List (List UInt8)} (ho : OwnsT w1 B (.slice (some ⟨g, 0, none⟩) n c) (ps.map txt)) (hn : n = ps.length) : Holds encStr w1 g 0 ps.toArray := by
  intro j hj
  have hj' : j < ps.length := by simpa using hj
  rw [Nat.zero_add]
  refine ⟨?_, ho.unfrozen (by rw [List.length_map]; exact hn) j⟩
  rw [ho.cellAt (x := txt ps[j]) (by rw [List.length_map]; exact hn) (by simp [hj'])]
  simp [hj', txt]
theorem below_put {w : World} {g B : Nat} (d : Array (List UInt8)) (q : Nat) (hB : B ≤ g) : Below B w (putRow encStr (Sort.ahead w q) g 0 d) := by
  refine ⟨rfl, rfl, rfl, ?_, fun k hk => ?_⟩
  · show w.heap.size ≤ (w.heap.modify g _).size
    rw [Array.size_modify]; exact Nat.le_refl _
  · show (w.heap.modify g _)[k]? = _
    rw [Array.getElem?_modify, if_neg (by omega)]
theorem below_growV {w : World} {B : Nat} (os : Array Obj) (hB : B ≤ w.heap.size) : Below B w (grow w os) := by
  refine ⟨rfl, rfl, rfl, ?_, fun k hk => heap_grow_old _ _ (by omega)⟩
  show w.heap.size ≤ (w.heap ++ os).size
  rw [Array.size_append]; omega
theorem holds_growV {w : World} {g : Nat} {d : Array (List UInt8)} (os : Array Obj) (h : Holds encStr w g 0 d) (hg : g < w.heap.size) : Holds encStr (grow w os) g 0 d := fun j hj => by
  have e := heap_grow_old w os hg
  exact ⟨(World.cell?_of_block (a := ⟨g, 0 + j, none⟩) e).trans (h j hj).1, (World.frozen?_of_block (a := ⟨g, 0 + j, none⟩) e).trans (h j hj).2⟩
theorem holds_aheadV {w : World} {g q : Nat} {d : Array (List UInt8)} (h : Holds encStr w g 0 d) : Holds encStr (Sort.ahead w q) g 0 d := holds_ahead encStr w q g 0 d h

/-- The first k names are in lower letters. -/
def lowTo (items : List ByteArray) (k : Nat) : List ByteArray := (items.take k).map lowS ++ items.drop k
theorem lowTo_zero (items : List ByteArray) : lowTo items 0 = items := by simp [lowTo]
theorem lowTo_length (items : List ByteArray) (k : Nat) (h : k ≤ items.length) : (lowTo items k).length = items.length := by
  simp [lowTo]; omega
theorem lowTo_at {items : List ByteArray} {k : Nat} (h : k < items.length) : (lowTo items k)[k]? = some items[k] := by
  unfold lowTo
  rw [List.getElem?_append_right (by simp; omega)]
  simp [Nat.min_eq_left (Nat.le_of_lt h), h]
theorem lowTo_next {items : List ByteArray} {k : Nat} (h : k < items.length) : (lowTo items k).set k (lowS items[k]) = lowTo items (k + 1) := by
  unfold lowTo
  have e : ((items.take k).map lowS).length = k := by simp; omega
  rw [List.set_append_right _ _ (by omega), e, Nat.sub_self, List.drop_eq_getElem_cons h, List.set_cons_zero, List.take_succ_eq_append_getElem h, List.map_append, List.append_assoc]
  rfl
theorem lowTo_all (items : List ByteArray) : lowTo items items.length = (lowL items).map txt := by
  unfold lowTo lowL
  rw [List.take_of_length_le (Nat.le_refl _), List.drop_of_length_le (Nat.le_refl _), List.append_nil, List.map_map]
  refine List.map_congr_left fun t _ => (txt_back (lowS t)).symm

/-- A name: a text that is not long. -/
structure Nm where
  s : ByteArray
  small : s.size ≤ 400
def txtN (y : List UInt8) : Nm := if h : (txt y).size ≤ 400 then ⟨txt y, h⟩ else ⟨⟨#[]⟩, by decide⟩
theorem txtN_is {y : List UInt8} (h : (txt y).size ≤ 400) : (txtN y).s = txt y := by
  unfold txtN
  rw [dif_pos h]
theorem nmI_small {items : List ByteArray} (h : ∀ t ∈ items, t.size ≤ 400) : ∀ y ∈ nmI items, (txt y).size ≤ 400 := by
  intro y hy
  have h1 : txt y ∈ srtN (nmsL items) := by
    rw [← nmI_is]
    exact List.mem_map.2 ⟨y, hy, rfl⟩
  obtain ⟨t, ht, e⟩ := mem_nmsL (mem_srtN h1)
  rw [e]
  have : (lowS t).size = t.size := by
    show (lowS t).data.size = t.data.size
    simp [lowS]
  rw [this]
  exact h t ht
theorem nmI_names {items : List ByteArray} (h : ∀ t ∈ items, t.size ≤ 400) : ((nmI items).map txtN).map Nm.s = (nmI items).map txt := by
  rw [List.map_map]
  exact List.map_congr_left fun y hy => txtN_is (nmI_small h y hy)

set_option maxRecDepth 100000 in
set_option maxHeartbeats 4000000 in
/-- What the function over the names hands on. -/
theorem implIter (n : Nat) (hn : 1 ≤ n) (vary : ByteArray) (hs : vary.size ≤ maxLen) (l Bv : Nat) (J Jx : List Nm → World → Prop) (W : World) (hJ : AbidesFrom W.heap.size J)
    (hY : ∀ pre x W1, J pre W1 → pre.length < (nmI (itemsA vary)).length → YieldAt Fence.wide (n - 1) Tryz.prog l #[.string x.s] W1 fun e W' =>
      (e = .returned (.bool true) ∧ J (pre ++ [x]) W' ∧ KeepN W1 W') ∨ (e = .returned (.bool false) ∧ Jx (pre ++ [x]) W'))
    (hBv : W.cell? ⟨Bv, 0, none⟩ = some (.string vary)) (h0 : J [] W) :
    Calls Tryz.prog 50 #[.func (.yield l) #[] #[], .pointer (some ⟨Bv, 0, none⟩)] W fun e W' => (∃ v, e = .returned v) ∧
      ((∃ ys, ys = (nmI (itemsA vary)).map txtN ∧ J ys W') ∨ (∃ pre, pre <+: (nmI (itemsA vary)).map txtN ∧ Jx pre W')) := by
  have hci := fun x => implItems vary x hs
  have hil := itemsA_length vary
  have hism : ∀ y ∈ nmI (itemsA vary), (txt y).size ≤ 400 := nmI_small fun t ht => items_size vary t ht
  have hisz : ∀ t ∈ itemsA vary, t.size ≤ maxLen := fun t ht => by
    have := items_size vary t ht
    unfold maxLen
    omega
  clear hs
  generalize itemsA vary = items at hci hil hism hisz hY ⊢
  have hY' : Hid (∀ pre x W1, J pre W1 → pre.length < (nmI items).length → YieldAt Fence.wide (n - 1) Tryz.prog l #[.string x.s] W1 fun e W' => (e = .returned (.bool true) ∧ J (pre ++ [x]) W' ∧ KeepN W1 W') ∨ (e = .returned (.bool false) ∧ Jx (pre ++ [x]) W')) := hY
  clear hY
  go_enter Tryz.func50, Tryz.ntmps50
  go_wp2_with (go_at_call 51; refine (hci _).mono ?_; rintro e w1 ⟨v, rfl, hos, hb1⟩; obtain ⟨g, cap, rfl, hgB, hgz⟩ := hos.1; have ho1 : Hid (OwnsT w1 W.heap.size (.slice (some ⟨g, 0, none⟩) items.length cap) items) := hos.2; clear hos)
  clear hci
  have B1 : Hid (Below W.heap.size W w1) := hb1
  clear hb1
  go_loopw [12] (fun i wr => ∃ k : Nat, k ≤ items.length ∧ i = .int .i64 k ∧ Hid (OwnsT wr W.heap.size (.slice (some ⟨g, 0, none⟩) items.length cap) (lowTo items k)) ∧ Hid (Below W.heap.size W wr)) (fun i _ => items.length - (intOf i).toNat)
  case atStart => exact ⟨0, Nat.zero_le _, rfl, by rw [lowTo_zero]; exact ho1, B1⟩
  case round =>
    obtain ⟨k, hk, rfl, hown, hb⟩ := hrel
    by_cases hlt : k < items.length
    · have hc0 : wr.cell? ⟨g, k, none⟩ = some (.string items[k]) := hown.out.cellAt (by rw [lowTo_length items k hk]) (lowTo_at hlt)
      have hsz := hisz _ (List.getElem_mem hlt)
      go_wp2_with (go_at_call 52; refine (implLow _ _ hsz).mono ?_; rintro e w2 ⟨rfl, hb2⟩; have ho2 : Hid (OwnsT w2 W.heap.size (.slice (some ⟨g, 0, none⟩) items.length cap) (lowTo items k)) := hown.out.kept hb2; have hf2 : w2.frozen? ⟨g, k, none⟩ = false := ho2.out.unfrozen (by rw [lowTo_length items k hk]) k; have hc2 : w2.cell? ⟨g, k, none⟩ = some (.string items[k]) := ho2.out.cellAt (by rw [lowTo_length items k hk]) (lowTo_at hlt))
      go_roundw
      case rel =>
        obtain ⟨h3, h4⟩ := ho2.out.stored (by rw [lowTo_length items k hk]) k (lowS items[k])
        rw [lowTo_next hlt] at h3
        exact ⟨k + 1, by omega, by go_num, h3, (hb.out.trans (hb2.mono hb.out.size)).grown h4 (Nat.le_trans hb.out.size hb2.size) (fun j e => by cases e; exact hgB)⟩
      case measure => simp [intOf]; omega
    · obtain rfl : k = items.length := by omega
      have ho3 : OwnsT wr W.heap.size (.slice (some ⟨g, 0, none⟩) items.length cap) ((lowL items).map txt) := by rw [← lowTo_all]; exact hown.out
      have hll : (lowL items).length = items.length := by simp [lowL]
      have hcap : items.length ≤ cap := by
        rcases ho3.2 with ⟨e, _⟩ | ⟨g', cap', cur, e, _, _, hc, _⟩
        · cases e
        · injection e with _ _ e3
          rw [e3]; simpa [hll] using hc
      have hgr : g < wr.heap.size := by
        obtain ⟨vs, fz, h⟩ := RowT.of ho3
        exact (Array.getElem?_eq_some_iff.1 h).1
      have hsort := Tryz.slices_Sort_string g 0 cap (lowL items) wr (holdsV ho3 hll.symm) hgr (by omega)
      rw [hll] at hsort
      have hH3 : Hid (Holds encStr wr g 0 (lowL items).toArray) := holdsV ho3 hll.symm
      have R3 : Hid (RowT wr g) := RowT.of ho3
      clear ho3 hown ho1 B1
      have hml : ((lowL items).mergeSort fun x y => decide (x ≤ y)).length = items.length := by rw [List.length_mergeSort, hll]
      have hnm : Lib.compact ((lowL items).mergeSort fun x y => decide (x ≤ y)) = nmI items := rfl
      have hnl := nmI_length items
      generalize ((lowL items).mergeSort fun x y => decide (x ≤ y)) = ms at hsort hml hnm
      go_wp2_with (go_at_call 53; refine hsort.mono ?_; rintro e w4 ⟨rfl, q4, os4, hw4⟩; have hH4 : Hid (Holds encStr w4 g 0 ms.toArray) := (by rw [hw4]; exact holds_growV _ (holds_putRow encStr _ g 0 (lowL items).toArray ms.toArray (holds_aheadV hH3.out) (by simp [hml, hll])) (by rw [size_putRow]; exact hgr)); have R4 : Hid (RowT w4 g) := (by rw [hw4]; exact (R3.out.put _ _).grow _); have B4 : Hid (Below W.heap.size W w4) := (by rw [hw4]; exact (hb.out.trans (below_put _ _ hgB)).trans (below_growV _ (by rw [size_putRow]; exact hb.out.size))); clear hw4)
      have hcomp := fun hH => Tryz.slices_Compact_string g 0 cap ms w4 hH (by omega) (by omega)
      rw [hml, hnm] at hcomp
      go_wp2_with (go_at_call 54; refine (hcomp hH4.out).mono ?_; rintro e w5 ⟨rfl, q5, hw5⟩; have hH5 : Hid (Holds encStr w5 g 0 (nmI items ++ List.replicate (items.length - (nmI items).length) []).toArray) := (by rw [hw5]; exact holds_putRow encStr _ g 0 ms.toArray _ (holds_aheadV hH4.out) (by simp [hml]; omega)); have R5 : Hid (RowT w5 g) := (by rw [hw5]; exact R4.out.put _ _); have B5 : Hid (Below W.heap.size W w5) := (by rw [hw5]; exact B4.out.trans (below_put _ _ hgB)); clear hw5)
      clear hsort hcomp hH3 R3 hH4 R4 hb B4
      have hcell : ∀ j (h : j < (nmI items).length), w5.cell? ⟨g, j, none⟩ = some (.string (txtN (nmI items)[j]).s) := by
        intro j h
        rw [txtN_is (hism _ (List.getElem_mem h))]
        have := (hH5.out j (by simp; omega)).1
        rw [Nat.zero_add] at this
        rw [this]
        have e : ((nmI items ++ List.replicate (items.length - (nmI items).length) ([] : List UInt8)).toArray)[j]! = (nmI items)[j] := by
          have hj2 : j < (nmI items ++ List.replicate (items.length - (nmI items).length) ([] : List UInt8)).toArray.size := by simp; omega
          rw [getElem!_pos _ j hj2]
          simp [List.getElem_append_left h]
        rw [e]
        rfl
      have J5 : Hid (J [] w5) := hJ [] W w5 none h0 ⟨B5.out.os, B5.out.tape, B5.out.output, B5.out.size, fun k hk _ => B5.out.block k hk⟩ (fun r e => by cases e)
      have HC : Hid (∀ j (h : j < (nmI items).length), w5.cell? ⟨g, j, none⟩ = some (.string (txtN (nmI items)[j]).s)) := hcell
      clear hcell hH5 hnm hml hll hisz hism hJ h0 hBv B5
      obtain ⟨ns, hns⟩ : ∃ ns, ns = nmI items := ⟨_, rfl⟩
      rw [← hns] at HC hnl hY' ⊢
      have HNS : Hid (ns = nmI items) := hns
      clear hns
      refine (wpIn_wide (n := n)).1 ?_
      gi_loopw [28] (fun i wr => ∃ k : Nat, k ≤ ns.length ∧ i = .int .i64 k ∧ Hid (J ((ns.map txtN).take k) wr) ∧ Hid (wr.heap[g]? = w5.heap[g]?)) (fun i _ => ns.length - (intOf i).toNat)
      case atStart => exact ⟨0, Nat.zero_le _, rfl, by rw [List.take_zero]; exact J5, (show Hid _ from rfl)⟩
      case round =>
        obtain ⟨k, hk, rfl, hJs, hg⟩ := hrel
        by_cases hlt : k < ns.length
        · have hc0 : wr.cell? ⟨g, k, none⟩ = some (.string (txtN ns[k]).s) := (World.cell?_of_block (a := ⟨g, k, none⟩) hg.out).trans (HC.out k hlt)
          obtain ⟨fn, tmps, assign, body, hy, hR⟩ := hY'.out _ (txtN ns[k]) wr hJs.out (by rw [List.length_take, List.length_map]; omega)
          have HT : Hid ((ns.map txtN).take (k + 1) = (ns.map txtN).take k ++ [txtN ns[k]]) := by
            show _ = _
            rw [List.take_succ_eq_append_getElem (by simpa using hlt)]
            simp
          have hR' : RoundIn Fence.wide (n - 1) Tryz.prog l fn tmps assign body wr fun e W' => (e = .returned (.bool true) ∧ Hid (J ((ns.map txtN).take (k + 1)) W') ∧ KeepN wr W') ∨ (e = .returned (.bool false) ∧ Hid (Jx ((ns.map txtN).take (k + 1)) W')) := by
            rw [HT.out]; exact hR
          have hk9 : k ≤ 401 := by omega
          clear hil hnl hk hgz hgr hcap
          have RW : RowT wr g := by
            obtain ⟨vs, fz, h⟩ := R5.out
            exact ⟨vs, fz, hg.out.trans h⟩
          clear hR hJs HT
          gi_wp2
          refine hR'.mono ?_
          rintro e W3 (⟨rfl, hJ3, hk3⟩ | ⟨rfl, hJx3⟩)
          · gi_wp2
            go_roundw
            case rel => exact ⟨k + 1, hlt, by go_num, hJ3, (show Hid _ from (RW.keep hk3).trans hg.out)⟩
            case measure => simp [intOf]; omega
          · gi_wp2
            refine bodyPost_ret (results_none rfl _ _ _) rfl ?_
            exact ⟨⟨_, rfl⟩, .inr ⟨_, by rw [← HNS.out]; exact List.take_prefix _ _, hJx3.out⟩⟩
        · obtain rfl : k = ns.length := by omega
          have HJ : Hid (J (ns.map txtN) wr) := by
            have := hJs.out
            rw [List.take_of_length_le (by rw [List.length_map]; exact Nat.le_refl _)] at this
            exact this
          gi_wp2
          go_end0
          exact ⟨⟨_, rfl⟩, .inl ⟨_, by rw [← HNS.out], HJ.out⟩⟩
/-- The iterator's value. -/
theorem implNames (vary : ByteArray) (w : World) :
    Calls Tryz.prog 31 #[.string vary] w fun e w' => e = .returned (.func (.func 50) #[] #[.pointer (some ⟨w.heap.size, 0, none⟩)]) ∧ w' = w.alloc (.cells #[.string vary] 9) := by
  go_enter Tryz.func31, Tryz.ntmps31
  go_wp2
  go_ret
  exact ⟨rfl, rfl⟩
/-- What it hands on, as the law of ranges over functions wants it. -/
theorem names_stops (n : Nat) (hn : 1 ≤ n) (vary : ByteArray) (hs : vary.size ≤ maxLen) (Bv : Nat) (w : World) (hBv : Bv < w.heap.size) (hc : w.cell? ⟨Bv, 0, none⟩ = some (.string vary)) :
    SeqStopsK Fence.wide n Tryz.prog 50 #[.pointer (some ⟨Bv, 0, none⟩)] (fun x : Nm => #[Value.string x.s]) KeepN (fun ys => ys = (nmI (itemsA vary)).map txtN) (fun pre => pre <+: (nmI (itemsA vary)).map txtN) (nmI (itemsA vary)).length w := fun l J Jx W hW hJ _ hY h0 =>
  callsIn_wide.2 (implIter n hn vary hs l Bv J Jx W hJ hY ((hW.cell (p := ⟨Bv, 0, none⟩) hBv).trans hc) h0)
end Go.Proofs.YtnachhmhjodbhaaGreatDoor
namespace Go.Proofs.YtnachhmhjodbhaaGreatDoor
open Go.RowKit

theorem below_drew' {n : Nat} {w w' : World} (h : Below n w w') (o : Obj) (hn : n ≤ w'.heap.size) : Below n w (w'.drew.alloc o) := by
  have h2 := h.alloc hn o
  exact ⟨h2.os, h2.tape, h2.output, h2.size, h2.block⟩
/-- The first text appended to a slice that has none and no room. -/
theorem wpList_pushT0 {ops : Array Oper} {rest : List Oper} {o : Oper} {a : Act} {Q : Exit → Act → World → Prop} (w : World) (hgd : o.guard = none) (s x : Operand)
    (ho : o.op = .call { callee := .builtin .append, args := #[s, x], argTypes := #[61, 61] }) (b : Nat) (c : ByteArray) (hs : a.eval s = .slice (some ⟨b, 0, none⟩) 0 0)
    (hx : a.eval x = .slice (some ⟨w.heap.size, 0, none⟩) 1 1)
    (h : ∀ v' w', OwnsT w' w.heap.size v' [c] → Below w.heap.size w w' → wpList Tryz.prog ops Q rest (a.put o.dst v') w') :
    wpList Tryz.prog ops Q (o :: rest) a (w.alloc (.cells #[.string c] 9)) := by
  obtain ⟨i0, hi, hz0, hz1, hz2⟩ := info_parts Tryz.info9T
  refine wpList_plain hgd fun K hK => ?_
  have hr := run_append_grow (P := Tryz.prog) (w.alloc (.cells #[.string c] 9)) 61 o.type 9 i0 (.string ⟨#[]⟩) Tryz.underlying61 hi hz0 ⟨b, 0, none⟩ 0 0 [] (by simp) (by simp) ⟨w.heap.size, 0, none⟩ 1 1 [.string c] (by rw [hz1]; rfl) (cell_one_new _ _ _) (by decide) (by decide)
    (by rw [show 0 + 1 = 1 from rfl, nextslicecap_zero (by decide), hz2]; decide)
  unfold Oper.wp execOp
  simp only [ho, resolve, invoke, builtin, Sem.run_bind, Sem.run_pure, Result.andThen_ok, List.map_toArray, List.map_cons, List.map_nil, hs, hx, hr]
  refine hK _ _ (h _ _ ?_ ?_)
  · have hge := grownCap_ge (w.alloc (.cells #[.string c] 9)) (0 + 1) 0 9
    have hle := grownCap_le_maxLen (w.alloc (.cells #[.string c] 9)) (0 + 1) 0 9 (by unfold maxLen; decide)
    generalize grownCap (w.alloc (.cells #[.string c] 9)) (0 + 1) 0 9 = cp at hge hle
    have hC1 : (([] : List Value).toArray ++ [Value.string c].toArray ++ Builtin.zeroCells (Value.string ⟨#[]⟩).cells (cp - (0 + 1))).size = cp * 1 := by
      rw [Array.size_append, size_zeroCells]
      show 1 + (cp - (0 + 1)) * 1 = cp * 1
      omega
    have hC2 : (([] : List Value).toArray ++ [Value.string c].toArray ++ Builtin.zeroCells (Value.string ⟨#[]⟩).cells (cp - (0 + 1))).toList.take ([c].length * 1) = [c].map Value.string := by
      simp
    generalize (([] : List Value).toArray ++ [Value.string c].toArray ++ Builtin.zeroCells (Value.string ⟨#[]⟩).cells (cp - (0 + 1))) = C at hC1 hC2
    refine ⟨rfl, .inr ⟨_, cp, C, rfl, by simp, ?_, hge, hle, hC1, hC2⟩⟩
    show ((w.alloc (.cells #[.string c] 9)).heap.push _)[(w.alloc (.cells #[.string c] 9)).heap.size]? = _
    rw [Array.getElem?_push_size]
  · exact below_drew' ((Below.refl _ w).alloc (Nat.le_refl _) _) _ (by simp)
end Go.Proofs.YtnachhmhjodbhaaGreatDoor
namespace Go.Proofs.YtnachhmhjodbhaaGreatDoor
open Go.RowKit Go.Sort

theorem mixed : Tryz.prog.follows .mixedOrders = true := by kernel_rfl

/-- New blocks and draws alone. -/
def Grew (w w' : World) : Prop := Below w.heap.size w w' ∧ w.drawn ≤ w'.drawn
theorem Grew.refl (w : World) : Grew w w := ⟨Below.refl _ _, Nat.le_refl _⟩
theorem Grew.of_eq {w w' : World} (h : w = w') : Grew w w' := h ▸ Grew.refl w
theorem Grew.trans {a b c : World} (h : Grew a b) (k : Grew b c) : Grew a c :=
  ⟨⟨k.1.os.trans h.1.os, k.1.tape.trans h.1.tape, k.1.output.trans h.1.output, Nat.le_trans h.1.size k.1.size, fun i hi => (k.1.block i (Nat.lt_of_lt_of_le hi h.1.size)).trans (h.1.block i hi)⟩, Nat.le_trans h.2 k.2⟩
theorem Grew.alloc {w w' : World} (h : Grew w w') (o : Obj) : Grew w (w'.alloc o) := ⟨h.1.alloc h.1.size o, h.2⟩
theorem Grew.drew {w w' : World} (h : Grew w w') : Grew w w'.drew := ⟨⟨h.1.os, h.1.tape, h.1.output, h.1.size, h.1.block⟩, Nat.le_trans h.2 (Nat.le_succ _)⟩
theorem Grew.drewN {w w' : World} (h : Grew w w') (n : Nat) : Grew w (w'.drewN n) := ⟨⟨h.1.os, h.1.tape, h.1.output, h.1.size, h.1.block⟩, Nat.le_trans h.2 (Nat.le_add_right _ _)⟩
theorem Grew.put {w w' : World} (h : Grew w w') {b : Nat} (hb : w.heap.size ≤ b) (j : Nat) (v : Value) : Grew w (w'.setCell ⟨b, j, none⟩ v) := ⟨h.1.setCell hb _, h.2⟩
theorem Grew.more {w w' : World} (h : Grew w w') (os : Array Obj) : Grew w (grow w' os) :=
  ⟨⟨h.1.os, h.1.tape, h.1.output, by rw [size_grow]; exact Nat.le_trans h.1.size (Nat.le_add_right _ _), fun k hk => (heap_grow_old _ _ (Nat.lt_of_lt_of_le hk h.1.size)).trans (h.1.block k hk)⟩, h.2⟩
theorem Grew.low {w w' : World} (h : Grew w w') : Below w.heap.size w w' := h.1
theorem Grew.out {w w' : World} (h : Grew w w') : ∃ q os, w' = grow (w.drewN q) os := by
  obtain ⟨⟨ho, ht, hp, hz, hk⟩, hd⟩ := h
  refine ⟨w'.drawn - w.drawn, w'.heap.extract w.heap.size w'.heap.size, ?_⟩
  obtain ⟨heap, tape, drawn, os, output⟩ := w'
  simp only at ho ht hp hz hk hd
  have e1 : w.drawn + (drawn - w.drawn) = drawn := by omega
  have e2 : w.heap ++ heap.extract w.heap.size heap.size = heap := by
    apply Array.ext_getElem?
    intro k
    rw [Array.getElem?_append]
    split
    · next h => exact (hk k h).symm
    · next h =>
      rw [Array.getElem?_extract]
      split
      · next h2 => rw [show w.heap.size + (k - w.heap.size) = k from by omega]
      · next h2 => rw [Array.getElem?_eq_none (by omega)]
  simp only [grow, World.drewN, e1, e2, ho, ht, hp]
theorem Grew.cell {w x : World} {b j : Nat} {v : Value} (hb : Grew w x) (h : w.cell? ⟨b, j, none⟩ = some v) (hB : b < w.heap.size) : x.cell? ⟨b, j, none⟩ = some v := (hb.1.cell (p := ⟨b, j, none⟩) hB).trans h
theorem callGrew {P : Program} {f : FuncId} {args : Array Value} {w : World} {n : Nat} {os : Array Obj} {v : Value}
    (h : Calls P f args (grow (w.drewN n) os) fun e w' => e = .returned v ∧ Grew (grow (w.drewN n) os) w') : Calls P f args (grow (w.drewN n) os) fun e w'' => e = .returned v ∧ ∃ p : GrownBy, w'' = grow (w.drewN p.n) p.os :=
  Calls.grown_of (h.mono fun _ _ ⟨he, hg⟩ => ⟨he, hg.out⟩)
theorem callSame {P : Program} {f : FuncId} {args : Array Value} {w : World} {n : Nat} {os : Array Obj} {v : Value}
    (h : Calls P f args (grow (w.drewN n) os) fun e w' => e = .returned v ∧ grow (w.drewN n) os = w') : Calls P f args (grow (w.drewN n) os) fun e w'' => e = .returned v ∧ ∃ p : GrownBy, w'' = grow (w.drewN p.n) p.os :=
  callGrew (h.mono fun _ _ ⟨he, hg⟩ => ⟨he, Grew.of_eq hg⟩)
/-- What is boxed stays. -/
theorem boxed {w : World} {t : TypeId} {fr : Nat × Nat} (C : Array Value) (j n : Nat) (os : Array Obj) : (grow ((w.alloc (.cells C t fr)).drewN n) os).cell? ⟨w.heap.size, j, none⟩ = C[j]? := by
  rw [cell?_grow _ _ _ (by show w.heap.size < (w.alloc (.cells C t fr)).heap.size; simp)]
  exact World.cell?_alloc_mark w C t fr j
end Go.Proofs.YtnachhmhjodbhaaGreatDoor
