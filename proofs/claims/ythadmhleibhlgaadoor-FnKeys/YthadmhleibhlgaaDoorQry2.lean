/-
  The contract of the specification's SortedQuery.
-/
import Derived.Test.YthadmhleibhlgaaDoorQry
namespace Go.Proofs.YthadmhleibhlgaaDoor
open Go.RowKit

theorem ret_str4 {a b : ByteArray} (h : a = b) : Ending.returned (.string a) = .returned (.string b) := by rw [h]
theorem query_size (s : ByteArray) : sumL (splL 38 s.data.toList) = s.size + 1 := by
  have e : sumL (splL 38 s.data.toList) = 0 + s.data.toList.length + 1 := splF_sum 38 _ []
  have e2 : s.data.toList.length = s.size := by simp
  omega

set_option maxRecDepth 100000 in
set_option maxHeartbeats 4000000 in
theorem specQry (s : ByteArray) (w : World) (hs : s.size ≤ maxLen) :
    Calls Tryd.prog 45 #[.string s] w fun e w' => e = .returned (.string (qryA s)) ∧ Below w.heap.size w w' := by
  unfold maxLen at hs
  by_cases hz : s.size ≤ 200
  · have HN : Hid (txt (qryL s.data.toList) = qryA s) := qryA_yes hz
    have hd : decide (200 < (s.size : Int)) = false := by simp; omega
    have hsum := query_size s
    have HD : Hid (qryL s.data.toList = Lib.join (srtL ((splL 38 s.data.toList).filter fulB)) [38]) := rfl
    have hne := splF_ne 38 s.data.toList []
    have hc := fun w => specSplit s 38 38 rfl w (by omega)
    generalize hps : splL 38 s.data.toList = ps at hsum HD hc
    have hne' : ps ≠ [] := by rw [← hps]; exact hne
    clear hps hne
    have hpl := sumL_length ps
    go_enter Tryd.func45, Tryd.ntmps45
    go_wp2_with (go_at_call 71; refine (hc _).mono ?_; rintro e w1 ⟨v1, rfl, ho1, hb1⟩; obtain ⟨g, cap, hv1, hBg, hgz, hgc, hcell⟩ := ho1.open (by simpa using hne'); rw [List.length_map] at hv1; subst hv1; have ho0 := (OwnsT.born w).kept hb1; have hbw1 := ((Below.refl w.heap.size w).alloc (Nat.le_refl _) _).trans (hb1.mono (by simp)))
    clear hc ho1
    have hgw : w.heap.size < g := by simp at hBg; omega
    go_loopw [3, 5] (fun v i wr => ∃ (k : Nat), k ≤ ps.length ∧ i = .int .i64 k ∧ Below w1.heap.size w1 wr ∧ ((v = .slice (some ⟨w.heap.size, 0, none⟩) 0 0 ∧ Hid ((ps.take k).filter fulB = [])) ∨ OwnsT wr w1.heap.size v (((ps.take k).filter fulB).map txt))) (fun _ i _ => ps.length - (intOf i).toNat)
    case atStart => exact ⟨0, Nat.zero_le _, rfl, Below.refl _ _, Or.inl ⟨rfl, rfl⟩⟩
    case round =>
      obtain ⟨k, hk, rfl, hb, hst⟩ := hrel
      have hbs := hb.size
      have hfl := fil_length ps k
      by_cases hlt : k < ps.length
      · have hkc : wr.cell? ⟨g, k, none⟩ = some (.string (txt ps[k])) := (hb.cell (p := ⟨g, k, none⟩) hgz).trans (hcell k _ (by simp [hlt]))
        by_cases hf : ps[k] = []
        · have HF : Hid ((ps.take (k + 1)).filter fulB = (ps.take k).filter fulB) := fil_no hlt hf
          have hem := txt_empty hf
          clear hf
          generalize txt ps[k] = x at hkc hem
          go_wp2
          go_roundw
          case rel =>
            refine ⟨k + 1, by omega, by go_num, hb, ?_⟩
            rcases hst with ⟨h1, h2⟩ | h1
            · exact Or.inl ⟨h1, HF.out.trans h2.out⟩
            · exact Or.inr (by rw [HF.out]; exact h1)
          case measure => simp [intOf]; omega
        · have HF : Hid (((ps.take (k + 1)).filter fulB).map txt = ((ps.take k).filter fulB).map txt ++ [txt ps[k]]) := by
            show ((ps.take (k + 1)).filter fulB).map txt = ((ps.take k).filter fulB).map txt ++ [txt ps[k]]
            rw [fil_yes hlt hf, map_txt_snoc]
          have hem := txt_full hf
          clear hf
          generalize txt ps[k] = x at hkc hem HF
          rcases hst with ⟨h1, h2⟩ | h1
          · subst h1
            rw [h2.out] at HF
            go_wp2_with (at_builtin; refine wpList_pushT0 _ rfl (.tmp 25) (.tmp 30) rfl w.heap.size _ rfl rfl ?_; intro v2 w2 ho2 hb2)
            go_roundw
            case rel => exact ⟨k + 1, by omega, by go_num, hb.trans (hb2.mono hbs), Or.inr (by rw [HF.out]; exact ho2.low hbs)⟩
            case measure => simp [intOf]; omega
          · have hml : (((ps.take k).filter fulB).map txt).length ≤ 7000000000000 := by simp; omega
            go_wp2_with (at_builtin; refine wpList_pushT _ rfl (.tmp 25) (.tmp 30) rfl w1.heap.size _ _ _ rfl h1 rfl hml hbs ?_; intro v2 w2 ho2 hg2)
            go_roundw
            case rel => exact ⟨k + 1, by omega, by go_num, hb.grown hg2 hbs (OwnsT.from h1), Or.inr (by rw [HF.out]; exact ho2)⟩
            case measure => simp [intOf]; omega
      · have htk : ps.take k = ps := List.take_of_length_le (by omega)
        rw [htk] at hst hfl
        obtain ⟨v0, hv0⟩ : ∃ v0, Hid (v0 = Value.slice (some ⟨w.heap.size, 0, none⟩) 0 0) := ⟨_, rfl⟩
        rw [← hv0.out] at hst ho0
        have hfs := sumL_filter ps
        have hov : ∀ v, (v = v0 ∧ Hid (ps.filter fulB = [])) ∨ OwnsT wr w1.heap.size v ((ps.filter fulB).map txt) → OwnsT wr w.heap.size v ((ps.filter fulB).map txt) := by
          intro v hh
          rcases hh with ⟨h1, h2⟩ | h1
          · rw [h1, h2.out]; exact ho0.kept hb
          · exact h1.low hbw1.size
        have hov2 := hov _ hst
        have hbw2 := hbw1.trans (hb.mono hbw1.size)
        generalize ps.filter fulB = fs at hov2 HD hfs hfl
        have hss : sumL (srtL fs) = sumL fs := sumL_perm (srtL_perm fs)
        have hcs := fun v h => specSrt v w.heap.size fs wr h (by omega)
        have hcs2 := hcs _ hov2
        generalize srtL fs = ss at HD hss hcs2
        have hsl := sumL_length ss
        clear hov hcs hst hov2 ho0 hcell htk hfl
        obtain ⟨w4, rfl⟩ : ∃ x, x = wr := ⟨wr, rfl⟩
        go_wp2_with (go_at_call 74; refine hcs2.mono ?_; rintro e w5 ⟨v5, rfl, ho5, hb5⟩; obtain ⟨a5, c5, hv5⟩ := ho5.form; rw [List.length_map] at hv5; subst hv5; have hbw5 := hbw2.trans (hb5.mono hbw2.size))
        clear hcs2
        go_loop [6, 7] (fun o i => ∃ (m : Nat), m ≤ ss.length ∧ i = .int .i64 m ∧ o = .string (txt (Lib.join (ss.take m) [38]))) (fun _ i => ss.length - (intOf i).toNat)
        case atStart => exact ⟨0, Nat.zero_le _, rfl, rfl⟩
        case round =>
          obtain ⟨m, hm, rfl, rfl⟩ := hrel
          have hjz := join_take_le 38 ss m
          have hjs := txt_size (Lib.join (ss.take m) [38])
          by_cases hml : m < ss.length
          · obtain ⟨g2, cc, hv, hBg2, hgz2, hgc2, hcell2⟩ := ho5.open (by intro e; rw [List.map_eq_nil_iff] at e; rw [e] at hml; simp at hml)
            injection hv with hv1 hv2 hv3
            clear hv2
            subst hv1
            subst hv3
            have hmc : w5.cell? ⟨g2, m, none⟩ = some (.string (txt ss[m])) := hcell2 m _ (by simp [hml])
            have hpz := part_le (List.getElem_mem hml)
            have hps := txt_size ss[m]
            clear hcell2 ho5
            by_cases h0 : 0 < m
            · have HJ : Hid (txt (Lib.join (ss.take m) [38]) ++ ⟨#[38]⟩ ++ txt ss[m] = txt (Lib.join (ss.take (m + 1)) [38])) := by
                show txt (Lib.join (ss.take m) [38]) ++ txt [38] ++ txt ss[m] = txt (Lib.join (ss.take (m + 1)) [38])
                rw [join_take_next 38 ss m hml h0, txt_append, txt_append]
              generalize txt ss[m] = x at hmc hps HJ
              generalize txt (Lib.join (ss.take m) [38]) = y at hjs HJ
              have hyz : y.size ≤ 300 := by omega
              have hxz : x.size ≤ 300 := by omega
              have hyz2 : (y ++ ⟨#[38]⟩).size ≤ 301 := by rw [ByteArray.size_append]; show y.size + 1 ≤ 301; omega
              have hd0 : decide (0 < (m : Int)) = true := by simp; omega
              clear hps hjs hpz
              go_wp2
              go_round
              case rel => exact ⟨m + 1, by omega, by go_num, by rw [HJ.out]⟩
              case measure => simp [intOf]; omega
            · obtain rfl : m = 0 := by omega
              have HJ : Hid (txt (Lib.join (ss.take 0) [38]) ++ txt ss[0] = txt (Lib.join (ss.take (0 + 1)) [38])) := by
                show txt [] ++ txt ss[0] = txt (Lib.join (ss.take (0 + 1)) [38])
                rw [txt_append, List.nil_append, join_take_first 38 ss hml]
              generalize txt ss[0] = x at hmc hps HJ
              generalize txt (Lib.join (ss.take 0) [38]) = y at hjs HJ
              have hyz : y.size ≤ 300 := by omega
              have hxz : x.size ≤ 300 := by omega
              clear hps hjs hpz
              go_wp2
              go_round
              case rel => exact ⟨0 + 1, by omega, by go_num, by rw [HJ.out]⟩
              case measure => simp [intOf]; omega
          · have HE : Hid (txt (Lib.join (ss.take m) [38]) = qryA s) := by
              show txt (Lib.join (ss.take m) [38]) = qryA s
              rw [List.take_of_length_le (by omega), ← HD.out]
              exact HN.out
            generalize txt (Lib.join (ss.take m) [38]) = y at HE hjs
            go_wp2
            go_ret
            exact ⟨ret_str4 HE.out, hbw5⟩
  · have HN : Hid ((⟨#[]⟩ : ByteArray) = qryA s) := qryA_no (by omega)
    have hd : decide (200 < (s.size : Int)) = true := by simp; omega
    go_enter Tryd.func45, Tryd.ntmps45
    go_wp2
    go_ret
    exact ⟨ret_str4 HN.out, Below.refl _ _⟩
end Go.Proofs.YthadmhleibhlgaaDoor
