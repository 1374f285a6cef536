/-
  The contract of the specification's Dotless.
-/
import Derived.Test.YthadmhleibhlgaaDoorSpl
import Derived.Test.YthadmhleibhlgaaDoorPth
namespace Go.Proofs.YthadmhleibhlgaaDoor
open Go.RowKit

theorem ret_str3 {a b : ByteArray} (h : a = b) : Ending.returned (.string a) = .returned (.string b) := by rw [h]
/-- The bytes of a text appended to an owned row. -/
theorem wpList_pushStr {ops : Array Oper} {rest : List Oper} {o : Oper} {a : Act} {Q : Exit → Act → World → Prop} (w : World) (hgd : o.guard = none) (s x : Operand)
    (ho : o.op = .call { callee := .builtin .append, args := #[s, x], argTypes := #[22, 9] }) (B : Nat) (v : Value) (l : List UInt8) (t : ByteArray) (hs : a.eval s = v) (hown : OwnsB w B v l)
    (hx : a.eval x = .string t) (hlen : l.length + t.size ≤ 1000000) (hB : B ≤ w.heap.size)
    (h : ∀ v' w', OwnsB w' B v' (l ++ t.data.toList) → w.grownBy w' v.ownBlock → wpList Tryd.prog ops Q rest (a.put o.dst v') w') :
    wpList Tryd.prog ops Q (o :: rest) a w := by
  obtain ⟨i0, hi, hz0, hz1, hz2⟩ := info_parts Tryd.info5
  refine Lib.wpList_append_own_string _ hgd s x 22 9 ho B 5 i0 Tryd.underlying22 Tryd.underlying9 hi hz0 hz1 hz2 v l.length (bytesV l) hs hown t hx (by unfold maxLen; omega) (by omega) hB ?_
  intro v' w' h1 h2 _
  refine h v' w' ?_ h2
  unfold OwnsB
  have e : bytesV (l ++ t.data.toList) = bytesV l ++ Lib.strCells t := by
    unfold bytesV Lib.strCells
    rw [List.map_append]
  rw [e, List.length_append, show t.data.toList.length = t.size from by simp]
  exact h1

theorem isDot_no {p : List UInt8} (h1 : p ≠ [46]) (h2 : p ≠ [46, 46]) : isDot p = false := decide_eq_false (by rintro (e | e); exact h1 e; exact h2 e)
theorem parts_size (s : ByteArray) : sumL (splL 47 (s.extract 1 s.size).data.toList) ≤ s.size + 1 := by
  have e : sumL (splL 47 (s.extract 1 s.size).data.toList) = 0 + (s.extract 1 s.size).data.toList.length + 1 := splF_sum 47 _ []
  have e2 : (s.extract 1 s.size).data.toList.length = (s.extract 1 s.size).size := by simp
  have e3 : (s.extract 1 s.size).size = s.size - 1 := by simp
  omega
theorem drop_one (s : ByteArray) : (s.extract 1 s.size).data.toList = s.data.toList.drop 1 := by
  rw [ByteArray.data_extract, Array.toList_extract]
  show (s.data.toList.drop 1).take (s.size - 1) = _
  exact List.take_of_length_le (by rw [List.length_drop]; simp)

set_option maxRecDepth 100000 in
set_option maxHeartbeats 2000000 in
theorem specDot (s : ByteArray) (w : World) (hs : s.size ≤ maxLen) :
    Calls Tryd.prog 38 #[.string s] w fun e w' => e = .returned (.string (dotA s)) ∧ Below w.heap.size w w' := by
  have hs' := hs
  unfold maxLen at hs
  cases hp : pthB s with
  | false =>
    have HN : Hid ((⟨#[]⟩ : ByteArray) = dotA s) := dotA_no hp
    go_enter Tryd.func38, Tryd.ntmps38
    go_wp2_with (go_at_call 70; refine (specPath _ _ hs').mono ?_; rintro e w1 ⟨rfl, rfl⟩; rw [hp])
    go_ret
    exact ⟨ret_str3 HN.out, Below.refl _ _⟩
  | true =>
    have HN : Hid (txt (dotL s.data.toList) = dotA s) := dotA_yes hp
    have hz : s.size ≤ 200 := (of_decide_eq_true hp).1
    have h0 : 0 < s.size := by
      by_cases h : 0 < s.size
      · exact h
      · rw [pthB_void h] at hp; cases hp
    have hx : (s.extract 1 s.size).size = s.size - 1 := by simp
    have hsum := parts_size s
    have HD : Hid (dotL s.data.toList = pthL (dotP (splL 47 (s.extract 1 s.size).data.toList))) := by
      show dotL s.data.toList = _
      rw [drop_one]; rfl
    have hne := splF_ne 47 (s.extract 1 s.size).data.toList []
    have hc := fun w => specSplit (s.extract 1 s.size) 47 47 rfl w (by omega)
    generalize hps : splL 47 (s.extract 1 s.size).data.toList = ps at hsum HD hc
    have hne' : ps ≠ [] := by rw [← hps]; exact hne
    clear hps hne
    go_enter Tryd.func38, Tryd.ntmps38
    go_wp2_with (first | (go_at_call 70; refine (specPath _ _ hs').mono ?_; rintro e w1 ⟨rfl, rfl⟩; rw [hp]) | (go_at_call 71; refine (hc _).mono ?_; rintro e w1 ⟨v1, rfl, ho1, hb1⟩; obtain ⟨g, cap, rfl, hBg, hgz, hgc, hcell⟩ := ho1.open (by simpa using hne')))
    go_loopw [4, 5] (fun v i wr => ∃ (k : Nat), k ≤ ps.length ∧ i = .int .i64 k ∧ OwnsT wr w1.heap.size v ((keptAt ps k).map txt) ∧ Below w1.heap.size w1 wr) (fun _ i _ => ps.length - (intOf i).toNat)
    case atStart => exact ⟨0, Nat.zero_le _, rfl, by rw [keptAt_zero hne']; exact OwnsT.born w1, (Below.refl _ w1).alloc (Nat.le_refl _) _⟩
    case round =>
      obtain ⟨k, hk, rfl, hown, hb⟩ := hrel
      have hbs := hb.size
      have hkl := keptAt_length ps k
      have hpl := sumL_length ps
      by_cases hlt : k < ps.length
      · have hkc : wr.cell? ⟨g, k, none⟩ = some (.string (txt ps[k])) := (hb.cell (p := ⟨g, k, none⟩) hgz).trans (hcell k _ (by simp [hlt]))
        have q2 := txt_eq2 (p := ps[k])
        have q1 := txt_eq1 (p := ps[k])
        by_cases h2 : ps[k] = [46, 46]
        · rw [decide_eq_true h2] at q2
          by_cases hl : k + 1 = ps.length
          · have hle : ((k : Int) == (ps.length : Int) - 1) = true := beq_yes3 (by omega)
            have HK : Hid ((keptAt ps (k + 1)).map txt = ((keptAt ps k).map txt).dropLast ++ [⟨#[]⟩]) := keptAt_ddl hl h2
            clear q1 h2
            generalize txt ps[k] = x at hkc q2
            generalize hkk : (keptAt ps k).map txt = kk at hown HK
            have hkz : kk.length ≤ 300 := by rw [← hkk]; simp; omega
            clear hkk
            by_cases hk0 : kk = []
            · subst hk0
              obtain ⟨a, cp, rfl⟩ := hown.form
              go_wp2_with (at_builtin; refine wpList_pushT _ rfl (.tmp 51) (.tmp 52) rfl w1.heap.size _ _ _ rfl hown rfl (by simp) hbs ?_; intro v2 w2 ho2 hg2)
              go_roundw
              case rel => exact ⟨k + 1, by omega, by go_num, by rw [HK.out]; exact ho2, hb.grown hg2 hbs (OwnsT.from hown)⟩
              case measure => simp [intOf]; omega
            · obtain ⟨g2, cp, rfl, hB2, hz2, hc2, -⟩ := hown.open hk0
              have hl0 : 0 < kk.length := List.length_pos_iff.2 hk0
              have hless := hown.less rfl hk0
              have e1 : ((kk.length : Int) - 1).toNat = kk.length - 1 := by omega
              have e2 : (kk.length : Int) - 1 ≤ (cp : Int) := by omega
              have e3 : 0 ≤ (kk.length : Int) - 1 := by omega
              have hdz : kk.dropLast.length ≤ 300 := by simp; omega
              go_wp2_with (at_builtin; refine wpList_pushT _ rfl (.tmp 51) (.tmp 52) rfl w1.heap.size _ _ _ rfl hless rfl (by omega) hbs ?_; intro v2 w2 ho2 hg2)
              go_roundw
              case rel => exact ⟨k + 1, by omega, by go_num, by rw [HK.out]; exact ho2, hb.grown hg2 hbs (OwnsT.from hless)⟩
              case measure => simp [intOf]; omega
          · have hle : ((k : Int) == (ps.length : Int) - 1) = false := beq_no3 (by omega)
            have HK : Hid ((keptAt ps (k + 1)).map txt = ((keptAt ps k).map txt).dropLast) := keptAt_ddm (by omega) h2
            clear q1 h2
            generalize txt ps[k] = x at hkc q2
            generalize hkk : (keptAt ps k).map txt = kk at hown HK
            have hkz : kk.length ≤ 300 := by rw [← hkk]; simp; omega
            clear hkk
            by_cases hk0 : kk = []
            · subst hk0
              obtain ⟨a, cp, rfl⟩ := hown.form
              go_wp2
              go_roundw
              case rel => exact ⟨k + 1, by omega, by go_num, by rw [HK.out]; exact hown, hb⟩
              case measure => simp [intOf]; omega
            · obtain ⟨g2, cp, rfl, hB2, hz2, hc2, -⟩ := hown.open hk0
              have hl0 : 0 < kk.length := List.length_pos_iff.2 hk0
              have hless := hown.less rfl hk0
              have e1 : ((kk.length : Int) - 1).toNat = kk.length - 1 := by omega
              have e2 : (kk.length : Int) - 1 ≤ (cp : Int) := by omega
              have e3 : 0 ≤ (kk.length : Int) - 1 := by omega
              go_wp2
              go_roundw
              case rel => exact ⟨k + 1, by omega, by go_num, by rw [HK.out]; exact hless, hb⟩
              case measure => simp [intOf]; omega
        · rw [decide_eq_false h2] at q2
          by_cases h1 : ps[k] = [46]
          · rw [decide_eq_true h1] at q1
            by_cases hl : k + 1 = ps.length
            · have hle : ((k : Int) == (ps.length : Int) - 1) = true := beq_yes3 (by omega)
              have HK : Hid ((keptAt ps (k + 1)).map txt = (keptAt ps k).map txt ++ [⟨#[]⟩]) := keptAt_dl hl h1
              clear h1 h2
              generalize txt ps[k] = x at hkc q2 q1
              generalize hkk : (keptAt ps k).map txt = kk at hown HK
              have hkz : kk.length ≤ 300 := by rw [← hkk]; simp; omega
              clear hkk
              go_wp2_with (at_builtin; refine wpList_pushT _ rfl (.tmp 51) (.tmp 52) rfl w1.heap.size _ _ _ rfl hown rfl (by omega) hbs ?_; intro v2 w2 ho2 hg2)
              go_roundw
              case rel => exact ⟨k + 1, by omega, by go_num, by rw [HK.out]; exact ho2, hb.grown hg2 hbs (OwnsT.from hown)⟩
              case measure => simp [intOf]; omega
            · have hle : ((k : Int) == (ps.length : Int) - 1) = false := beq_no3 (by omega)
              have HK : Hid ((keptAt ps (k + 1)).map txt = (keptAt ps k).map txt) := keptAt_dm (by omega) h1
              clear h1 h2
              generalize txt ps[k] = x at hkc q2 q1
              go_wp2
              go_roundw
              case rel => exact ⟨k + 1, by omega, by go_num, by rw [HK.out]; exact hown, hb⟩
              case measure => simp [intOf]; omega
          · rw [decide_eq_false h1] at q1
            have HK : Hid ((keptAt ps (k + 1)).map txt = (keptAt ps k).map txt ++ [txt ps[k]]) := keptAt_else hlt h1 h2
            clear h1 h2
            generalize txt ps[k] = x at hkc q2 q1 HK
            generalize hkk : (keptAt ps k).map txt = kk at hown HK
            have hkz : kk.length ≤ 300 := by rw [← hkk]; simp; omega
            clear hkk
            go_wp2_with (at_builtin; refine wpList_pushT _ rfl (.tmp 46) (.tmp 48) rfl w1.heap.size _ _ _ rfl hown rfl (by omega) hbs ?_; intro v2 w2 ho2 hg2)
            go_roundw
            case rel => exact ⟨k + 1, by omega, by go_num, by rw [HK.out]; exact ho2, hb.grown hg2 hbs (OwnsT.from hown)⟩
            case measure => simp [intOf]; omega
      · have HK : Hid ((keptAt ps k).map txt = (dotP ps).map txt) := by
          show (keptAt ps k).map txt = (dotP ps).map txt
          rw [keptAt_end hlt hk]
        have hne2 := dotP_ne ps hne'
        have hks := dotP_sum ps hne'
        generalize dotP ps = ks at HK hne2 hks HD
        have hlk := sumL_length ks
        rw [HK.out] at hown
        obtain ⟨g2, cp, hv2, hB2, hz2, hc2, hcell2⟩ := hown.open (by simpa using hne2)
        rw [List.length_map] at hv2
        subst hv2
        have hpz := pthL_length ks
        have hp0 : 0 < (pthL ks).length := by rw [hpz]; have := List.length_pos_iff.2 hne2; omega
        clear hkl hpl hown HK hcell hgc ho1
        obtain ⟨w4, rfl⟩ : ∃ x, x = wr := ⟨wr, rfl⟩
        go_wp2
        go_loopw [8, 9] (fun v i wr => ∃ (j : Nat), j ≤ ks.length ∧ i = .int .i64 j ∧ OwnsB wr w4.heap.size v (pthL (ks.take j)) ∧ Below w4.heap.size w4 wr) (fun _ i _ => ks.length - (intOf i).toNat)
        case atStart => exact ⟨0, Nat.zero_le _, rfl, OwnsB.empty w4, (Below.refl _ w4).alloc (Nat.le_refl _) _⟩
        case round =>
          obtain ⟨j, hj, rfl, hox, hbx⟩ := hrel
          have hbxs := hbx.size
          by_cases hjl : j < ks.length
          · have hjc : wr.cell? ⟨g2, j, none⟩ = some (.string (txt ks[j])) := (hbx.cell (p := ⟨g2, j, none⟩) hz2).trans (hcell2 j _ (by simp [hjl]))
            have hjp := part_le (List.getElem_mem hjl)
            have hjt := sumL_take ks j
            have hjl2 := pthL_length (ks.take j)
            have hts := txt_size ks[j]
            have HX : Hid (pthL (ks.take j) ++ ((⟨#[47]⟩ : ByteArray) ++ txt ks[j]).data.toList = pthL (ks.take (j + 1))) := by
              show pthL (ks.take j) ++ ((⟨#[47]⟩ : ByteArray) ++ txt ks[j]).data.toList = pthL (ks.take (j + 1))
              rw [← pthL_next ks j hjl, ByteArray.data_append, Array.toList_append, txt_data]
              rfl
            generalize txt ks[j] = x at hjc hts HX
            have hxz : x.size ≤ 300 := by omega
            have hxs : ((⟨#[47]⟩ : ByteArray) ++ x).size ≤ 301 := by rw [ByteArray.size_append]; show 1 + x.size ≤ 301; omega
            go_wp2_with (at_builtin; refine wpList_pushStr _ rfl (.tmp 61) (.tmp 66) rfl w4.heap.size _ _ ((⟨#[47]⟩ : ByteArray) ++ x) rfl hox rfl (by omega) hbxs ?_; intro v2 w2 ho2 hg2)
            go_roundw
            case rel => exact ⟨j + 1, by omega, by go_num, by rw [← HX.out]; exact ho2, hbx.grown hg2 hbxs (OwnsB.from hox)⟩
            case measure => simp [intOf]; omega
          · have HE : Hid (txt (pthL (ks.take j)) = dotA s) := by
              show txt (pthL (ks.take j)) = dotA s
              rw [List.take_of_length_le (by omega), ← HD.out]
              exact HN.out
            have hl1 : (pthL (ks.take j)).length = (pthL ks).length := by rw [List.take_of_length_le (by omega)]
            have hback := hox.text
            obtain ⟨a, cp2, hv3⟩ := hox.form
            generalize (pthL (ks.take j)).length = m at hv3 hl1
            clear hox
            subst hv3
            have hm0 : m ≠ 0 := by omega
            have hq0 : ((m : Int) == 0) = false := beq_no3 (by omega)
            have hbw : Below w.heap.size w wr := (hb1.trans (hb.mono hb1.size)).trans (hbx.mono (Nat.le_trans hb1.size hbs))
            clear hl1 hpz hp0 hm0
            go_wp2
            go_ret
            exact ⟨ret_str3 HE.out, hbw⟩
end Go.Proofs.YthadmhleibhlgaaDoor
