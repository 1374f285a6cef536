/-
  The contract of the specification's sorting of texts.
-/
import Derived.Test.YthadmhleibhlgaaDoorStr
import Derived.Test.YthadmhleibhlgaaDoorPthF
import Derived.Deep.QuietTactic
import Derived.BigQuiet
import Derived.Laws.Cover1
namespace Go.Proofs.YthadmhleibhlgaaDoor
open Go.RowKit

/-- A text stored into an owned slice. -/
theorem OwnsT.stored {w : World} {B g cap n : Nat} {l : List ByteArray} (h : OwnsT w B (.slice (some ⟨g, 0, none⟩) n cap) l) (hn : n = l.length) (j : Nat) (x : ByteArray) :
    OwnsT (w.setCell ⟨g, j, none⟩ (.string x)) B (.slice (some ⟨g, 0, none⟩) n cap) (l.set j x) ∧ w.grownBy (w.setCell ⟨g, j, none⟩ (.string x)) (some g) := by
  subst hn
  have := World.ownsRow.stored h j (.string x)
  rw [← List.map_set] at this
  refine ⟨?_, this.2⟩
  unfold OwnsT
  rw [List.length_set]
  exact this.1
theorem OwnsT.unfrozen {w : World} {B g cap n : Nat} {l : List ByteArray} (h : OwnsT w B (.slice (some ⟨g, 0, none⟩) n cap) l) (hn : n = l.length) (j : Nat) : w.frozen? ⟨g, j, none⟩ = false := by
  subst hn
  exact World.ownsRow.frozenAt h j
theorem OwnsT.cellAt {w : World} {B g cap n : Nat} {l : List ByteArray} (h : OwnsT w B (.slice (some ⟨g, 0, none⟩) n cap) l) (hn : n = l.length) {j : Nat} {x : ByteArray} (hx : l[j]? = some x) : w.cell? ⟨g, j, none⟩ = some (.string x) := by
  subst hn
  have := World.ownsRow.cells h (g := g) rfl j (.string x) (by rw [List.getElem?_map, hx]; rfl)
  rw [addr_add, Nat.zero_add] at this
  exact this

theorem below_drew {n : Nat} {w w' : World} (h : Below n w w') : Below n w w'.drew := ⟨h.os, h.tape, h.output, h.size, h.block⟩
/-- Two texts: the first one is above, below, or the same. -/
theorem cmp3 (a x : List UInt8) : (x < a ∧ Op.bytesLess (txt a).toList (txt x).toList = false ∧ ((txt a).toList == (txt x).toList) = false) ∨ (a ≤ x ∧ Op.bytesLess (txt a).toList (txt x).toList = true) ∨ (a ≤ x ∧ Op.bytesLess (txt a).toList (txt x).toList = false ∧ ((txt a).toList == (txt x).toList) = true) := by
  rw [txt_toList, txt_toList, bytesLess_eq]
  by_cases h : x < a
  · have h1 : ¬ a < x := fun e => List.lt_irrefl _ (List.lt_trans h e)
    have h2 : a ≠ x := fun e => by rw [e] at h; exact List.lt_irrefl _ h
    exact Or.inl ⟨h, decide_eq_false h1, by simpa using h2⟩
  · by_cases h1 : a < x
    · exact Or.inr (Or.inl ⟨h, decide_eq_true h1⟩)
    · exact Or.inr (Or.inr ⟨h, decide_eq_false h1, by simpa using leL_anti a x h h1⟩)
theorem last_snoc (A' : List (List UInt8)) (a x : List UInt8) (h : a ≤ x) : ∀ b, (A' ++ [a]).getLast? = some b → b ≤ x := by
  intro b hb
  simp at hb
  rw [← hb]; exact h

set_option maxRecDepth 100000 in
set_option maxHeartbeats 4000000 in
theorem specSrt (v : Value) (B : Nat) (ps : List (List UInt8)) (w : World) (h : OwnsT w B v (ps.map txt)) (hl : ps.length ≤ 1000000) :
    Calls Tryd.prog 74 #[v] w fun e w' => ∃ v', e = .returned v' ∧ OwnsT w' w.heap.size v' ((srtL ps).map txt) ∧ Below w.heap.size w w' := by
  obtain ⟨av, cv, hv⟩ := h.form
  rw [List.length_map] at hv
  subst hv
  go_enter Tryd.func74, Tryd.ntmps74
  go_wp2
  go_loopw [3, 4] (fun o i wr => ∃ (k : Nat) (ys : List (List UInt8)), k ≤ ps.length ∧ i = .int .i64 k ∧ OwnsT wr w.heap.size o (ys.map txt) ∧ Below w.heap.size w wr ∧ Hid (SrtL ys ∧ ys.Perm (ps.take k))) (fun _ i _ => ps.length - (intOf i).toNat)
  case atStart => exact ⟨0, [], Nat.zero_le _, rfl, OwnsT.born w, (Below.refl _ w).alloc (Nat.le_refl _) _, List.Pairwise.nil, List.Perm.refl _⟩
  case round =>
    obtain ⟨k, ys, hk, rfl, hown, hb, HY⟩ := hrel
    have hbs := hb.size
    have hyl : ys.length ≤ 1000000 := by
      have := HY.out.2.length_eq
      rw [List.length_take] at this
      omega
    by_cases hlt : k < ps.length
    · obtain ⟨g, cap, hv, hBg, hgz, hgc, hcell⟩ := h.open (by intro e; rw [List.map_eq_nil_iff] at e; rw [e] at hlt; simp at hlt)
      injection hv with hv1 hv2 hv3
      clear hv2
      subst hv1
      subst hv3
      have hkc0 : w.cell? ⟨g, k, none⟩ = some (.string (txt ps[k])) := hcell k _ (by simp [hlt])
      have hkc : wr.cell? ⟨g, k, none⟩ = some (.string (txt ps[k])) := (hb.cell (p := ⟨g, k, none⟩) hgz).trans hkc0
      obtain ⟨ao, co, hvo⟩ := hown.form
      rw [List.length_map] at hvo
      subst hvo
      have hyl' : (ys.map txt).length ≤ 7000000000000 := by simp; omega
      go_wp2_with (at_builtin; refine wpList_pushT _ rfl (.tmp 15) (.tmp 20) rfl w.heap.size _ _ _ rfl hown rfl hyl' hbs ?_; intro v2 w2 ho2 hg2; have hb2 := hb.grown hg2 hbs (OwnsT.from hown))
      obtain ⟨g2, c2, hv2, hB2, hz2, hc2, -⟩ := ho2.open (by simp)
      rw [List.length_append, List.length_map, List.length_singleton] at hv2
      subst hv2
      have HYS : Hid (SrtL ys ∧ ys.Perm (ps.take k)) := HY
      have HT : Hid (ps.take (k + 1) = ps.take k ++ [ps[k]]) := List.take_succ_eq_append_getElem hlt
      generalize hxk : ps[k] = x at hkc0 ho2 HT
      have ho3 : OwnsT w2 w.heap.size (.slice (some ⟨g2, 0, none⟩) (ys.length + 1) c2) ((ys ++ [x] ++ []).map txt) := by
        rw [List.append_nil, map_txt_snoc]; exact ho2
      clear hkc hown hb hbs hg2 HY hyl' ho2 hxk hcell
      go_loopw [5] (fun kk wr => ∃ (A B' : List (List UInt8)) (y : List UInt8), kk = .int .i64 A.length ∧ OwnsT wr w.heap.size (.slice (some ⟨g2, 0, none⟩) (ys.length + 1) c2) ((A ++ [y] ++ B').map txt) ∧ Below w.heap.size w wr ∧ A.length ≤ ys.length ∧ Hid (A ++ B' = ys ∧ (∀ b ∈ B', x < b))) (fun kk _ => (intOf kk).toNat)
      case atStart => exact ⟨ys, [], x, rfl, ho3, hb2, Nat.le_refl _, by simp, by simp⟩
      case round =>
        clear ho3 hb2 hz2 w2
        obtain ⟨A, B', y, rfl, hox, hbx, hAl, HAB⟩ := hrel
        have hlen : (A ++ [y] ++ B').length = ys.length + 1 := by
          have := congrArg List.length HAB.out.1
          simp at this ⊢
          omega
        have hkx : wr.cell? ⟨g, k, none⟩ = some (.string (txt x)) := (hbx.cell (p := ⟨g, k, none⟩) hgz).trans hkc0
        have hgg : g ≠ g2 := by omega
        have hcA : wr.cell? ⟨g2, A.length, none⟩ = some (.string (txt y)) := hox.cellAt (by simp at hlen ⊢; omega) (by simp)
        have hfA := hox.unfrozen (by simp at hlen ⊢; omega) A.length
        have hput := hox.stored (by simp at hlen ⊢; omega) A.length (txt x)
        rw [map_set, hole_fill] at hput
        have HP : Hid (OwnsT (wr.setCell ⟨g2, A.length, none⟩ (.string (txt x))) w.heap.size (.slice (some ⟨g2, 0, none⟩) (ys.length + 1) c2) ((A ++ [x] ++ B').map txt) ∧ Below w.heap.size w (wr.setCell ⟨g2, A.length, none⟩ (.string (txt x)))) :=
          ⟨hput.1, hbx.grown hput.2 hbx.size (fun j hj => by injection hj with hj; omega)⟩
        have HPm : Hid ((A ++ [x] ++ B').Perm (ps.take (k + 1))) := by
          show (A ++ [x] ++ B').Perm (ps.take (k + 1))
          rw [HT.out]
          exact perm_put A B' x (by rw [HAB.out.1]; exact HYS.out.2)
        clear hput
        by_cases hA : A = []
        · subst hA
          have HS : Hid (SrtL ([] ++ [x] ++ B')) := srt_put (by rw [HAB.out.1]; exact HYS.out.1) HAB.out.2 (by simp)
          simp only [List.length_nil] at hcA hfA HP
          go_wp2
          go_region
          all_goals
            go_wp2
            go_roundw
            case rel => exact ⟨k + 1, _, by omega, by go_num, HP.out.1, below_drew HP.out.2, HS.out, HPm.out⟩
            case measure => simp [intOf]; omega
        · obtain ⟨A', a, rfl⟩ := snoc_of hA
          have hca : wr.cell? ⟨g2, A'.length, none⟩ = some (.string (txt a)) := hox.cellAt (by simp at hlen ⊢; omega) (get_before A' B' a y)
          have hput := hox.stored (by simp at hlen ⊢; omega) (A'.length + 1) (txt a)
          rw [map_set, hole_step] at hput
          have HQ : Hid (OwnsT (wr.setCell ⟨g2, A'.length + 1, none⟩ (.string (txt a))) w.heap.size (.slice (some ⟨g2, 0, none⟩) (ys.length + 1) c2) ((A' ++ [a] ++ (a :: B')).map txt) ∧ Below w.heap.size w (wr.setCell ⟨g2, A'.length + 1, none⟩ (.string (txt a)))) :=
            ⟨hput.1, hbx.grown hput.2 hbx.size (fun j hj => by injection hj with hj; omega)⟩
          have hl1 : (A' ++ [a]).length = A'.length + 1 := by simp
          rw [hl1] at hcA hfA HP hAl
          have HR : Hid (a ≤ x → SrtL (A' ++ [a] ++ [x] ++ B')) := fun hle => srt_put (by rw [HAB.out.1]; exact HYS.out.1) HAB.out.2 (last_snoc A' a x hle)
          have HB : Hid (x < a → A' ++ (a :: B') = ys ∧ ∀ b ∈ a :: B', x < b) := fun hlt => ⟨by rw [← HAB.out.1]; simp, fun b hb => by
            rcases List.mem_cons.1 hb with rfl | hb
            · exact hlt
            · exact HAB.out.2 b hb⟩
          have hcl : A'.length + 1 < ys.length + 1 := by omega
          clear hput hl1 hox hA hlen
          rcases cmp3 a x with ⟨hxa, q1, q2⟩ | ⟨hxa, q1⟩ | ⟨hxa, q1, q2⟩
          · have HB2 := HB.out hxa
            have HB3 : Hid (A' ++ (a :: B') = ys ∧ ∀ b ∈ a :: B', x < b) := HB2
            clear HB2 HB HR hxa HP HPm
            generalize txt a = ta at hca q1 q2 HQ
            generalize txt x = tx at hkx q1 q2 hkc0
            go_wp2
            go_region
            all_goals
              go_wp2
              go_roundw
              case rel => exact ⟨A', a :: B', a, by go_num, HQ.out.1, below_drew HQ.out.2, by omega, HB3⟩
              case measure => simp [intOf]
          · have HS : Hid (SrtL (A' ++ [a] ++ [x] ++ B')) := HR.out hxa
            clear HB HR hxa HQ
            generalize txt a = ta at hca q1
            generalize txt x = tx at hkx q1 hkc0 HP
            go_wp2
            go_region
            all_goals
              go_wp2
              go_roundw
              case rel => exact ⟨k + 1, _, by omega, by go_num, HP.out.1, below_drew HP.out.2, HS.out, HPm.out⟩
              case measure => simp [intOf]; omega
          · have HS : Hid (SrtL (A' ++ [a] ++ [x] ++ B')) := HR.out hxa
            clear HB HR hxa HQ
            generalize txt a = ta at hca q1 q2
            generalize txt x = tx at hkx q1 q2 hkc0 HP
            go_wp2
            go_region
            all_goals
              go_wp2
              go_roundw
              case rel => exact ⟨k + 1, _, by omega, by go_num, HP.out.1, below_drew HP.out.2, HS.out, HPm.out⟩
              case measure => simp [intOf]; omega
    · have htk : ps.take k = ps := List.take_of_length_le (by omega)
      have HE : Hid (ys = srtL ps) := srtL_is HY.out.1 (by rw [← htk]; exact HY.out.2)
      clear htk
      go_wp2
      go_ret
      exact ⟨_, rfl, by rw [← HE.out]; exact hown, hb⟩
end Go.Proofs.YthadmhleibhlgaaDoor
