/-
  The contract of the program's Dotless.
-/
import Derived.Test.YthadmhleibhlgaaDoorDot
import Derived.Test.YthadmhleibhlgaaDoorDot2
import Derived.Test.YthadmhleibhlgaaDoorPth2
namespace Go.Proofs.YthadmhleibhlgaaDoor
open Go.RowKit

/-- The last one of the first k parts. -/
def lastAt (ps : List (List UInt8)) (k : Nat) : List UInt8 := (ps.take k).getLastD []
theorem lastAt_next {ps : List (List UInt8)} {k : Nat} (h : k < ps.length) : lastAt ps (k + 1) = ps[k] := by
  unfold lastAt
  rw [List.take_succ_eq_append_getElem h, getLastD_snoc]
theorem dotK_dd {ps : List (List UInt8)} {k : Nat} (h : k < ps.length) (hp : ps[k] = [46, 46]) : (dotK (ps.take (k + 1))).map txt = ((dotK (ps.take k)).map txt).dropLast := by
  rw [dotK_take_next ps k h, hp, dotS_two, List.map_dropLast]
theorem dotK_d {ps : List (List UInt8)} {k : Nat} (h : k < ps.length) (hp : ps[k] = [46]) : (dotK (ps.take (k + 1))).map txt = (dotK (ps.take k)).map txt := by
  rw [dotK_take_next ps k h, hp, dotS_one]
theorem dotK_else {ps : List (List UInt8)} {k : Nat} (h : k < ps.length) (h1 : ps[k] ≠ [46]) (h2 : ps[k] ≠ [46, 46]) : (dotK (ps.take (k + 1))).map txt = (dotK (ps.take k)).map txt ++ [txt ps[k]] := by
  rw [dotK_take_next ps k h, dotS_else _ h1 h2, map_txt_snoc]
theorem dotK_take_length (ps : List (List UInt8)) (k : Nat) : (dotK (ps.take k)).length ≤ ps.length := by
  have ht := dotK_length (ps.take k)
  have hl : (ps.take k).length ≤ ps.length := List.length_take_le' _ _
  omega
theorem map_back (ks : List (List UInt8)) : (ks.map txt).map (fun x : ByteArray => x.data.toList) = ks := by
  rw [List.map_map]
  have : ((fun x : ByteArray => x.data.toList) ∘ txt) = id := by funext x; exact txt_data x
  rw [this, List.map_id]
theorem slash_txt (l : List UInt8) : (⟨#[47]⟩ : ByteArray) ++ txt l = txt (47 :: l) := by
  apply ext_bytes
  rw [ByteArray.data_append, Array.toList_append, txt_data, txt_data]
  rfl
theorem dotP_dot {ps : List (List UInt8)} (h : isDot (ps.getLastD []) = true) : (dotP ps).map txt = (dotK ps).map txt ++ [⟨#[]⟩] := by
  unfold dotP; rw [if_pos h, map_txt_snoc]; rfl
theorem dotP_nod {ps : List (List UInt8)} (h : isDot (ps.getLastD []) = false) : (dotP ps).map txt = (dotK ps).map txt := by
  unfold dotP; rw [if_neg (by rw [h]; decide)]

theorem join_le (d : UInt8) : ∀ (ps : List (List UInt8)), (Lib.join ps [d]).length ≤ sumL ps
  | [] => by simp [Lib.join, List.intercalate]
  | [a] => by rw [Lib.join_one]; simp [sumL]
  | a :: b :: r => by
    have e1 : Lib.join (a :: b :: r) [d] = a ++ [d] ++ Lib.join (b :: r) [d] := by simp [Lib.join, List.intercalate, List.intersperse]
    have ih := join_le d (b :: r)
    have e2 : sumL (a :: b :: r) = (a.length + 1) + sumL (b :: r) := by simp [sumL]
    rw [e1, e2, List.length_append, List.length_append]
    simp
    omega
/-- strings.Join of texts with a / between. -/
theorem joinT (g cap : Nat) (xs : List ByteArray) (ks : List (List UInt8)) (hx : xs = ks.map txt) (w : World) (hcells : ∀ (j : Nat) x, xs[j]? = some x → w.cell? ⟨g, j, none⟩ = some (.string x)) (hg : g < w.heap.size) (hcap : xs.length ≤ cap) (hl : sumL ks ≤ 1000000) :
    Calls Tryd.prog 69 #[.slice (some ⟨g, 0, none⟩) xs.length cap, .string ⟨#[47]⟩] w fun e w' => e = .returned (.string (txt (Lib.join ks [47]))) ∧ Below w.heap.size w w' := by
  have hb : xs.map (fun x : ByteArray => x.data.toList) = ks := by rw [hx, map_back]
  have hjl := join_le 47 ks
  have hkl := sumL_length ks
  have hxl : xs.length = ks.length := by rw [hx, List.length_map]
  have k := Tryd.strings_Join g 0 cap xs ⟨#[47]⟩ w (fun j x h => by rw [Nat.zero_add]; exact hcells j x h) hg (by omega) hcap (by rw [hb]; show (Lib.join ks [47]).length ≤ _; omega)
  rw [hb] at k
  exact k
/-- How a stack is born, and the parts behind it. -/
theorem box_start {w w1 : World} {ps : List (List UInt8)} {t : TypeId} (hp : ps.length ≤ maxLen) (hw1 : w1 = (w.alloc (.cells #[.slice none 0 0] t)).alloc (.cells ((ps.map txt).map Value.string).toArray 9)) :
    Stk w1 w.heap.size (w.heap.size + 2) [] ∧ Below w.heap.size w w1 ∧ w1.heap.size = w.heap.size + 2 ∧ ∀ j x, (ps.map txt)[j]? = some x → w1.cell? ⟨w.heap.size + 1, j, none⟩ = some (.string x) := by
  have hz : w1.heap.size = w.heap.size + 2 := by rw [hw1]; simp
  have hc : w1.cell? ⟨w.heap.size, 0, none⟩ = some (.slice none 0 0) := by
    rw [hw1, World.cell?_alloc_old _ _ _ (by show w.heap.size ≠ _; simp), World.cell?_alloc_mark]
    rfl
  have hf : w1.frozen? ⟨w.heap.size, 0, none⟩ = false := by
    rw [hw1]
    have e : ((w.alloc (.cells #[.slice none 0 0] t)).alloc (.cells ((ps.map txt).map Value.string).toArray 9)).frozen? ⟨w.heap.size, 0, none⟩ = (w.alloc (.cells #[.slice none 0 0] t)).frozen? ⟨w.heap.size, 0, none⟩ :=
      World.frozen?_of_block (a := ⟨w.heap.size, 0, none⟩) (Below.heap_alloc _ _ _ (by simp))
    rw [e]
    exact World.frozen?_alloc_new w #[.slice none 0 0] t 0
  refine ⟨⟨_, hc, hf, OwnsT.nil _ _, by omega, by omega, by omega⟩, ?_, hz, fun j x hx => ?_⟩
  · rw [hw1]
    exact ((Below.refl _ w).alloc (Nat.le_refl _) _).alloc (by simp) _
  · have ho := split_owns (w.alloc (.cells #[.slice none 0 0] t)) ps hp
    rw [← hw1] at ho
    have hne : ps.map txt ≠ [] := fun e => by rw [e] at hx; simp at hx
    obtain ⟨g, cap, hv, _, _, _, hcell⟩ := ho.open hne
    injection hv with hv1
    injection hv1 with hv1
    have hg : g = w.heap.size + 1 := by
      have := congrArg Addr.block hv1
      simpa using this.symm
    have := hcell j x hx
    rw [hg] at this
    exact this

set_option maxRecDepth 100000 in
set_option maxHeartbeats 2000000 in
theorem implDot (s : ByteArray) (w : World) (hs : s.size ≤ maxLen) :
    Calls Tryd.prog 37 #[.string s] w fun e w' => e = .returned (.string (dotA s)) ∧ Below w.heap.size w w' := by
  have hs' := hs
  unfold maxLen at hs
  cases hp : pthB s with
  | false =>
    have HN : Hid ((⟨#[]⟩ : ByteArray) = dotA s) := dotA_no hp
    go_enter Tryd.func37, Tryd.ntmps37
    go_wp2_with (go_at_call 63; refine (implPath _ _ hs').mono ?_; rintro e w1 ⟨rfl, rfl⟩; rw [hp])
    go_ret
    exact ⟨ret_str3 HN.out, Below.refl _ _⟩
  | true =>
    have HN : Hid (txt (dotL s.data.toList) = dotA s) := dotA_yes hp
    have hz : s.size ≤ 200 := (of_decide_eq_true hp).1
    have h0 : 0 < s.size := by
      by_cases h : 0 < s.size
      · exact h
      · rw [pthB_void h] at hp; cases hp
    have hx : (s.extract 1 s.size).size = s.size - 1 := by simp
    have hsum := parts_size s
    have HD : Hid (dotL s.data.toList = pthL (dotP (splL 47 (s.extract 1 s.size).data.toList))) := by
      show dotL s.data.toList = _
      rw [drop_one]; rfl
    have hne := splF_ne 47 (s.extract 1 s.size).data.toList []
    have hc := fun w => split1 (s.extract 1 s.size) 47 w (by omega)
    generalize hps : splL 47 (s.extract 1 s.size).data.toList = ps at hsum HD hc
    have hne' : ps ≠ [] := by rw [← hps]; exact hne
    clear hps hne
    have hpl := sumL_length ps
    go_enter Tryd.func37, Tryd.ntmps37
    go_wp2_with (first | (go_at_call 63; refine (implPath _ _ hs').mono ?_; rintro e w1 ⟨rfl, rfl⟩; rw [hp]) | (go_at_call 66; refine (hc _).mono ?_; rintro e w1 ⟨rfl, hw1⟩; obtain ⟨hst, hbw, hwz, hcell⟩ := box_start (by unfold maxLen; omega) hw1; clear hw1))
    clear hc
    go_loopw [4, 15] (fun l i wr => ∃ (k : Nat), k ≤ ps.length ∧ i = .int .i64 k ∧ l = .string (txt (lastAt ps k)) ∧ Stk wr w.heap.size (w.heap.size + 2) ((dotK (ps.take k)).map txt) ∧ But w.heap.size (w.heap.size + 2) w1 wr) (fun _ i _ => ps.length - (intOf i).toNat)
    case atStart => exact ⟨0, Nat.zero_le _, rfl, rfl, hst, But.refl _ _ _⟩
    case round =>
      obtain ⟨k, hk, rfl, rfl, hst2, hb⟩ := hrel
      have hkl := dotK_take_length ps k
      clear hst
      by_cases hlt : k < ps.length
      · have hkc : wr.cell? ⟨w.heap.size + 1, k, none⟩ = some (.string (txt ps[k])) := (World.cell?_of_block (a := ⟨w.heap.size + 1, k, none⟩) (hb.2.2.2.2 (w.heap.size + 1) (by omega) (by omega))).trans (hcell k _ (by simp [hlt]))
        have HL : Hid (txt (lastAt ps (k + 1)) = txt ps[k]) := by
          show txt (lastAt ps (k + 1)) = txt ps[k]
          rw [lastAt_next hlt]
        have q2 := txt_eq2 (p := ps[k])
        have q1 := txt_eq1 (p := ps[k])
        by_cases h1 : ps[k] = [46]
        · rw [decide_eq_true h1] at q1
          have HK : Hid ((dotK (ps.take (k + 1))).map txt = (dotK (ps.take k)).map txt) := dotK_d hlt h1
          clear h1 q2
          generalize txt ps[k] = x at hkc q1 HL
          go_wp2
          go_roundw
          case rel => exact ⟨k + 1, by omega, by go_num, by rw [HL.out], by rw [HK.out]; exact hst2, hb⟩
          case measure => simp [intOf]; omega
        · rw [decide_eq_false h1] at q1
          by_cases h2 : ps[k] = [46, 46]
          · rw [decide_eq_true h2] at q2
            have HK : Hid ((dotK (ps.take (k + 1))).map txt = ((dotK (ps.take k)).map txt).dropLast) := dotK_dd hlt h2
            clear h1 h2
            generalize txt ps[k] = x at hkc q1 q2 HL
            go_wp2_with (go_at_call 67; refine (stkDrop _ _ _ _ hst2 (by simp; omega)).mono ?_; rintro e w3 ⟨rfl, hst3, hb3⟩)
            go_roundw
            case rel => exact ⟨k + 1, by omega, by go_num, by rw [HL.out], by rw [HK.out]; exact hst3, hb.trans hb3⟩
            case measure => simp [intOf]; omega
          · rw [decide_eq_false h2] at q2
            have HK : Hid ((dotK (ps.take (k + 1))).map txt = (dotK (ps.take k)).map txt ++ [txt ps[k]]) := dotK_else hlt h1 h2
            clear h1 h2
            generalize txt ps[k] = x at hkc q1 q2 HL HK
            go_wp2_with (go_at_call 68; refine (stkPush _ _ _ _ _ hst2 (by simp; omega)).mono ?_; rintro e w3 ⟨rfl, hst3, hb3⟩)
            go_roundw
            case rel => exact ⟨k + 1, by omega, by go_num, by rw [HL.out], by rw [HK.out]; exact hst3, hb.trans hb3⟩
            case measure => simp [intOf]; omega
      · have htk : ps.take k = ps := List.take_of_length_le (by omega)
        have hla : lastAt ps k = ps.getLastD [] := by unfold lastAt; rw [htk]
        have q2 := txt_eq2 (p := lastAt ps k)
        have q1 := txt_eq1 (p := lastAt ps k)
        rw [htk] at hst2
        have hne2 := dotP_ne ps hne'
        have hks := dotP_sum ps hne'
        have hjl := join_le 47 (dotP ps)
        have HE : Hid ((⟨#[47]⟩ : ByteArray) ++ txt (Lib.join (dotP ps) [47]) = dotA s) := by
          show (⟨#[47]⟩ : ByteArray) ++ txt (Lib.join (dotP ps) [47]) = dotA s
          rw [slash_txt, pthL_join _ hne2, ← HD.out]
          exact HN.out
        have hlk := sumL_length (dotP ps)
        obtain ⟨z, HJ⟩ : ∃ z, Hid (txt (Lib.join (dotP ps) [47]) = z) := ⟨_, rfl⟩
        rw [HJ.out] at HE
        have hzz : z.size ≤ 300 := by rw [← HJ.out, txt_size]; omega
        obtain ⟨xs, hxs⟩ : ∃ xs, Hid (xs = (dotP ps).map txt) := ⟨_, rfl⟩
        have hxne : xs ≠ [] := by rw [hxs.out]; simpa using hne2
        have hkl2 : ((dotK ps).map txt).length ≤ 1000000 := by
          have := dotK_length ps
          simp; omega
        clear htk hjl hcell hkl hlk
        cases hd : isDot (ps.getLastD []) with
        | true =>
          have hdd := of_decide_eq_true hd
          rw [← hla] at hdd
          have HP : Hid (xs = (dotK ps).map txt ++ [⟨#[]⟩]) := hxs.out.trans (dotP_dot hd)
          clear hd hla
          rcases hdd with hdd | hdd
          · rw [decide_eq_false (show lastAt ps k ≠ [46, 46] by rw [hdd]; decide)] at q2
            rw [decide_eq_true hdd] at q1
            clear hdd
            generalize txt (lastAt ps k) = y at q1 q2
            go_wp2_with (first | (go_at_call 68; refine (stkPush _ _ _ ⟨#[]⟩ _ hst2 hkl2).mono ?_; rintro e w3 ⟨rfl, hst3, hb3⟩; rw [← HP.out] at hst3; have hbw4 := hbw.trans (((hb.trans hb3).below (Nat.le_refl _) (by omega))); obtain ⟨v, hcb, hfb, hown, -, -, -⟩ := hst3; obtain ⟨g, cap, hv, hBg, hgz, hgc, hcl⟩ := hown.open hxne; subst hv; clear hown) | (go_at_call 69; refine (joinT g cap xs _ hxs.out _ hcl hgz hgc (by omega)).mono ?_; rw [HJ.out]; rintro e w4 ⟨rfl, hb4⟩; have hbf := hbw4.trans (hb4.mono hbw4.size)))
            go_ret
            exact ⟨ret_str3 HE.out, hbf⟩
          · rw [decide_eq_false (show lastAt ps k ≠ [46] by rw [hdd]; decide)] at q1
            rw [decide_eq_true hdd] at q2
            clear hdd
            generalize txt (lastAt ps k) = y at q1 q2
            go_wp2_with (first | (go_at_call 68; refine (stkPush _ _ _ ⟨#[]⟩ _ hst2 hkl2).mono ?_; rintro e w3 ⟨rfl, hst3, hb3⟩; rw [← HP.out] at hst3; have hbw4 := hbw.trans (((hb.trans hb3).below (Nat.le_refl _) (by omega))); obtain ⟨v, hcb, hfb, hown, -, -, -⟩ := hst3; obtain ⟨g, cap, hv, hBg, hgz, hgc, hcl⟩ := hown.open hxne; subst hv; clear hown) | (go_at_call 69; refine (joinT g cap xs _ hxs.out _ hcl hgz hgc (by omega)).mono ?_; rw [HJ.out]; rintro e w4 ⟨rfl, hb4⟩; have hbf := hbw4.trans (hb4.mono hbw4.size)))
            go_ret
            exact ⟨ret_str3 HE.out, hbf⟩
        | false =>
          have hdd := of_decide_eq_false hd
          rw [← hla] at hdd
          have HP : Hid (xs = (dotK ps).map txt) := hxs.out.trans (dotP_nod hd)
          rw [decide_eq_false (fun e => hdd (Or.inl e))] at q1
          rw [decide_eq_false (fun e => hdd (Or.inr e))] at q2
          clear hd hla hdd
          generalize txt (lastAt ps k) = y at q1 q2
          rw [← HP.out] at hst2
          have hbw4 := hbw.trans (hb.below (Nat.le_refl _) (by omega))
          obtain ⟨v, hcb, hfb, hown, -, -, -⟩ := hst2
          obtain ⟨g, cap, hv, hBg, hgz, hgc, hcl⟩ := hown.open hxne
          subst hv
          clear hown
          go_wp2_with (go_at_call 69; refine (joinT g cap xs _ hxs.out _ hcl hgz hgc (by omega)).mono ?_; rw [HJ.out]; rintro e w4 ⟨rfl, hb4⟩; have hbf := hbw4.trans (hb4.mono hbw4.size))
          go_ret
          exact ⟨ret_str3 HE.out, hbf⟩
end Go.Proofs.YthadmhleibhlgaaDoor
