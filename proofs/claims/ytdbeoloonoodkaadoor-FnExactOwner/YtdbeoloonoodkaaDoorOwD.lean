/-
  The specification's Ranked, Owner and Moved, whatever they are given.
-/
import Derived.Test.YtdbeoloonoodkaaDoorOwC
namespace Go.Proofs.YtdbeoloonoodkaaDoor
open Go.RowKit Go.Sort Ow
set_option linter.unusedVariables false
set_option linter.unusedSimpArgs false

theorem specRnk (v : Value) (l : List Int) (key : ByteArray) (w : World) (h : Sls intE w v l) (hk : key.size ≤ 1048576) :
    Calls Tryd.prog 17 #[v, .string key] w fun e w' => ∃ u, e = .returned u ∧ OwnsN w' w.heap.size u (rnkV l key) ∧ Below w.heap.size w w' := by
  cases hT : srvOk l with
  | true =>
    have e : rnkV l key = rnk (wgV key) l := by unfold rnkV; rw [if_pos hT]
    rw [e]
    exact specRnkIn v l key w h (srvOk_iff.1 hT) hk
  | false =>
    have HR : Hid (rnkV l key = []) := by show _ = _; unfold rnkV; rw [if_neg (by simp [hT])]
    have B0 : Below w.heap.size w (w.alloc (.cells #[] 2)) := (Below.refl _ w).alloc (Nat.le_refl _) _
    have HB0 : Hid (Below w.heap.size w (w.alloc (.cells #[] 2))) := B0
    have hsv := specSrvs v l _ (h.kept B0)
    rw [hT] at hsv
    obtain ⟨a, cap, rfl, _⟩ := h.one
    clear h B0
    go_enter Tryd.func17, Tryd.ntmps17
    go_wp2_with fail
    refine hsv.mono ?_
    rintro e w1 ⟨rfl, hb1⟩
    have B1 : Hid (Below w.heap.size w w1) := (show Hid _ from pastO HB0.out hb1)
    have O1 : Hid (OwnsN w1 w.heap.size (.slice (some ⟨w.heap.size, 0, none⟩) 0 0) []) := (show Hid _ from (OwnsE.born (E := intE) (ty := 2) w).kept hb1)
    clear hb1 HB0 hsv
    go_wp2
    go_ret
    exact ⟨_, rfl, by rw [HR.out]; exact O1.out, B1.out⟩
theorem rnkV_len (l : List Int) (key : ByteArray) : (rnkV l key).length ≤ 9 := by
  unfold rnkV
  split
  · rename_i h
    rw [rnk_length]
    exact (srvOk_iff.1 h).len
  · exact Nat.zero_le _
theorem specOwn (v : Value) (l : List Int) (key : ByteArray) (w : World) (h : Sls intE w v l) (hk : key.size ≤ 1048576) :
    Calls Tryd.prog 18 #[v, .string key] w fun e w' => e = .returned (.int .i64 (ownV l key)) ∧ Below w.heap.size w w' := by
  have hR := fun W hW => specRnk v l key W hW hk
  have HE : Hid (∀ R, rnkV l key = R → ownV l key = R.headD (-1)) := (show ∀ _, _ from fun R e => by unfold ownV; rw [e])
  have hl9 := rnkV_len l key
  generalize rnkV l key = R at hR HE hl9
  obtain ⟨a, cap, rfl, _⟩ := h.one
  have HV : Hid (Sls intE w (.slice a l.length cap) l) := h
  clear h
  go_enter Tryd.func18, Tryd.ntmps18
  go_wp2_with fail
  refine (hR _ HV.out).mono ?_
  rintro e w1 ⟨u, rfl, ho, hb⟩
  have HB : Hid (Below w.heap.size w w1) := hb
  obtain ⟨a1, c1, rfl, hf1, hf2, hf3⟩ := ho.form
  clear hR hb
  cases R with
  | nil =>
    clear ho hf1 hf2 hf3
    simp only [List.length_nil]
    go_wp2
    go_ret
    exact ⟨congrArg (fun z => Ending.returned (.int .i64 z)) (HE.out [] rfl).symm, HB.out⟩
  | cons x t =>
    obtain ⟨g, rfl⟩ := ownsN_some ho (by simp)
    have c0 := ownsN_at ho 0 (by simp)
    simp only [List.getElem_cons_zero] at c0
    have hn : ¬ ((x :: t).length = 0) := by simp
    have hni : (0 : Int) < ((x :: t).length : Int) := by simp only [List.length_cons]; omega
    generalize (x :: t).length = n at hn hni hf1 hl9 ⊢
    clear ho hf1 hf2 hf3
    go_wp2
    go_ret
    exact ⟨congrArg (fun z => Ending.returned (.int .i64 z)) (HE.out (x :: t) rfl).symm, HB.out⟩
/-- One number appended, and where the new row lies. -/
theorem wpList_pushNa {ops : Array Oper} {rest : List Oper} {o : Oper} {a : Act} {Q : Exit → Act → World → Prop} (w : World) (hgd : o.guard = none) (s x : Operand)
    (ho : o.op = .call { callee := .builtin .append, args := #[s, x], argTypes := #[24, 24] }) (B g n cap : Nat) (l : List Int) (c : Int) (hs : a.eval s = .slice (some ⟨g, 0, none⟩) n cap) (hown : OwnsN w B (.slice (some ⟨g, 0, none⟩) n cap) l)
    (hx : a.eval x = .slice (some ⟨w.heap.size, 0, none⟩) 1 1) (hlen : l.length ≤ 1100000) (hB : B ≤ w.heap.size)
    (h : ∀ g' cap' w', OwnsN w' B (.slice (some ⟨g', 0, none⟩) (l.length + 1) cap') (l ++ [c]) → (g' = g ∨ w.heap.size < g') → w.grownBy w' (some g) → wpList Tryd.prog ops Q rest (a.put o.dst (.slice (some ⟨g', 0, none⟩) (l.length + 1) cap')) w') :
    wpList Tryd.prog ops Q (o :: rest) a (w.alloc (.cells #[.int .i64 c] 2)) := by
  refine wpList_rowE_at (E := intE) _ hgd s x 24 2 (.int .i64 0) 8 Tryd.underlying24 Tryd.infoN2 rfl ho B _ l hs (OwnsE.alloc hown _) ⟨w.heap.size, 0, none⟩ 1 [c] hx (fresh_cell w c #[.int .i64 c] 2 rfl) (by unfold maxLen; simp; omega) (by simp; omega) (by simp; omega) ?_
  intro v' w' h1 h2 h3 h4
  obtain ⟨g', c', rfl, h5, h6, h7⟩ := OwnsE.moved h1 (by simp) h4
  have el : (l ++ [c]).length = l.length + 1 := by simp
  rw [el] at h1 ⊢
  refine h g' c' w' h1 (by simp at h5; omega) ⟨h2.os, h2.tape, h2.output, ?_, ?_⟩
  · have := h2.size
    simp at this
    omega
  · intro k hk hne
    rw [h2.block k (by simp; omega) hne]
    exact Below.heap_alloc _ _ _ hk
theorem Sls.txO {w : World} {v : Value} {l : List ByteArray} (h : Sls txtE w v l) : ∃ a cap, v = .slice a l.length cap ∧ l.length ≤ cap ∧ cap ≤ maxLen ∧ (0 < l.length → ∃ g o, a = some ⟨g, o, Option.none⟩ ∧ g < w.heap.size ∧
    ∀ j (hj : j < l.length), w.cell? ⟨g, o + j, Option.none⟩ = some (.string l[j])) := by
  obtain ⟨a, cap, rfl, h1, h2, h3⟩ := h
  refine ⟨a, cap, rfl, h1, h2, fun h0 => ?_⟩
  obtain ⟨g, o, rfl, hg, hc⟩ := h3 h0
  refine ⟨g, o, rfl, hg, fun j hj => hc j _ ?_⟩
  have := cellsE_at txtE l j hj 0 (by decide)
  rw [show j * txtE.k + 0 = j from by show j * 1 + 0 = j; omega] at this
  exact this
/-- The specification's Moved where nothing moves, for something is not as told. -/
theorem movOk_no1 {l : List Int} {z : Int} {n : Nat} (h : srvOk l = false) : movOk l z n = false := by unfold movOk; rw [h]; rfl
theorem movOk_no2 {l : List Int} {z : Int} {n : Nat} (h : (gon l z).length = l.length) : movOk l z n = false := by unfold movOk; rw [h]; simp
theorem movOk_no3 {l : List Int} {z : Int} {n : Nat} (h : (gon l z).length < 1) : movOk l z n = false := by unfold movOk; rw [decide_eq_false (p := 1 ≤ _) (by omega)]; simp
theorem movOk_no4 {l : List Int} {z : Int} {n : Nat} (h : 100 < n) : movOk l z n = false := by unfold movOk; rw [decide_eq_false (p := n ≤ 100) (by omega)]; simp
theorem movOk_yes {l : List Int} {z : Int} {n : Nat} (h1 : srvOk l = true) (h2 : ¬ (gon l z).length = l.length) (h3 : 1 ≤ (gon l z).length) (h4 : n ≤ 100) : movOk l z n = true := by
  unfold movOk; rw [h1, decide_eq_false h2, decide_eq_true h3, decide_eq_true h4]; rfl
set_option maxRecDepth 100000 in
set_option maxHeartbeats 2000000 in
theorem specMov (v : Value) (l : List Int) (z : Int) (vk : Value) (keys : List ByteArray) (w : World) (h : Sls intE w v l) (hl : l.length ≤ 1048576) (hkk : Sls txtE w vk keys) (hkl : keys.length ≤ 1048576) (hks : ∀ x ∈ keys, x.size ≤ 1048576) :
    Calls Tryd.prog 19 #[v, .int .i64 z, vk] w fun e w' => ∃ u, e = .returned u ∧ OwnsN w' w.heap.size u (movV l z keys) ∧ Below w.heap.size w w' := by
  have B0 : Below w.heap.size w (w.alloc (.cells #[] 2)) := (Below.refl _ w).alloc (Nat.le_refl _) _
  have HB0 : Hid (Below w.heap.size w (w.alloc (.cells #[] 2))) := B0
  have hgn := specGon v l z _ (h.kept B0) hl
  have hsv := fun W hW => specSrvs v l W hW
  have hOw := fun W key hW (hk : key.size ≤ 1048576) => specOwn v l key W hW hk
  obtain ⟨a, cap, rfl, _⟩ := h.one
  obtain ⟨ak, ck, rfl, q1, q2, q3⟩ := hkk.txO
  have HV : Hid (Sls intE w (.slice a l.length cap) l) := h
  have HK : Hid (Sls txtE w (.slice ak keys.length ck) keys) := hkk
  have HQ : Hid (0 < keys.length → ∃ g o, ak = some ⟨g, o, Option.none⟩ ∧ g < w.heap.size ∧ ∀ j (hj : j < keys.length), w.cell? ⟨g, o + j, Option.none⟩ = some (.string keys[j])) := q3
  have HS : Hid (∀ x ∈ keys, x.size ≤ 1048576) := hks
  have hgl := gon_len l z
  clear h B0 hkk q3 hks q2
  go_enter Tryd.func19, Tryd.ntmps19
  go_wp2_with fail
  refine hgn.mono ?_
  rintro e w1 ⟨u, rfl, ho, hb1⟩
  obtain ⟨au, cu, rfl, _⟩ := ho.form
  have B1 : Hid (Below w.heap.size w w1) := (show Hid _ from pastO HB0.out hb1)
  have O1 : Hid (OwnsN w1 w.heap.size (.slice (some ⟨w.heap.size, 0, none⟩) 0 0) []) := (show Hid _ from (OwnsE.born (E := intE) (ty := 2) w).kept hb1)
  have U1 : Hid (OwnsN w1 (w.heap.size + 1) (.slice au (gon l z).length cu) (gon l z)) := (show Hid _ from ho.low (by simp))
  have HE : Hid (∀ G, gon l z = G → movOk l z keys.length = (srvOk l && (!decide (G.length = l.length) && (decide (1 ≤ G.length) && decide (keys.length ≤ 100))))) := (show ∀ _, _ from fun G e => by unfold movOk; rw [e])
  clear hb1 HB0 hgn ho HE
  go_upto_region 3 with fail
  obtain ⟨M, hM⟩ : ∃ M, M = movOk l z keys.length := ⟨_, rfl⟩
  have HM : Hid (M = movOk l z keys.length) := hM
  clear hM
  go_cut [33] from 14 to 33 (fun s wx => s = .bool (!M) ∧ Hid (Below w1.heap.size w1 wx))
  case first =>
    go_wp2_with fail
    refine (hsv _ (HV.out.kept B1.out)).mono ?_
    rintro e w2 ⟨rfl, hb2⟩
    have B2 : Hid (Below w1.heap.size w1 w2) := hb2
    clear hb2 B1 O1 U1 HV HK HQ HS hsv hOw
    cases hT : srvOk l with
    | false =>
      obtain rfl : M = false := by rw [HM.out]; exact movOk_no1 hT
      clear hT
      go_wp2_with fail
      go_meet
      exact ⟨rfl, B2⟩
    | true =>
      by_cases h2 : (gon l z).length = l.length
      · obtain rfl : M = false := by rw [HM.out]; exact movOk_no2 h2
        have e2 : (((gon l z).length : Int) == (l.length : Int)) = true := by rw [h2]; simp
        have HH : Hid _ := h2
        clear hT h2
        go_wp2_with fail
        go_meet
        exact ⟨rfl, B2⟩
      · have e2 : (((gon l z).length : Int) == (l.length : Int)) = false := by rw [beq_eq_false_iff_ne]; omega
        by_cases h3 : (gon l z).length < 1
        · obtain rfl : M = false := by rw [HM.out]; exact movOk_no3 h3
          have h3i : ((gon l z).length : Int) < 1 := by omega
          clear hT h2
          go_wp2_with fail
          go_meet
          exact ⟨rfl, B2⟩
        · have h3i : ¬ ((gon l z).length : Int) < 1 := by omega
          by_cases h4 : 100 < keys.length
          · obtain rfl : M = false := by rw [HM.out]; exact movOk_no4 h4
            have h4i : (100 : Int) < (keys.length : Int) := by omega
            clear hT
            go_wp2_with fail
            go_meet
            exact ⟨rfl, B2⟩
          · obtain rfl : M = true := by rw [HM.out]; exact movOk_yes hT h2 (by omega) (by omega)
            have h4i : ¬ (100 : Int) < (keys.length : Int) := by omega
            clear hT
            go_wp2_with fail
            go_meet
            exact ⟨by rw [decide_eq_false (p := ((gon l z).length : Int) < 1) (by omega), decide_eq_false (p := (100 : Int) < (keys.length : Int)) (by omega)]; rfl, B2⟩
  case rest =>
    obtain ⟨rfl, BN⟩ := hcut
    obtain ⟨w2, rfl⟩ : ∃ x, x = wc := ⟨wc, rfl⟩
    have B2 : Hid (Below w.heap.size w w2) := (show Hid _ from pastO B1.out BN.out)
    have O2 : Hid (OwnsN w2 w.heap.size (.slice (some ⟨w.heap.size, 0, none⟩) 0 0) []) := O1.out.kept BN.out
    have U2 : Hid (OwnsN w2 (w.heap.size + 1) (.slice au (gon l z).length cu) (gon l z)) := U1.out.kept BN.out
    clear BN B1 O1 U1
    cases M with
    | false =>
      have HR : Hid (movV l z keys = []) := by show _ = _; unfold movV; rw [← HM.out]; rfl
      go_wp2
      go_ret
      exact ⟨_, rfl, by rw [HR.out]; exact O2.out, B2.out⟩
    | true =>
      have HR : Hid (movV l z keys = movL l z keys keys.length) := by show _ = _; unfold movV; rw [← HM.out]; rfl
      have hw2 := B2.out.size
      have h1s : w.heap.size < w2.heap.size := O2.out.under w.heap.size rfl
      have hUf := U2.out.from
      have hUu := U2.out.under
      have U2s : Hid (Sls intE w2 (.slice au (gon l z).length cu) (gon l z)) := U2.out.sls
      have HUB : Hid (∀ b, (Value.slice au (gon l z).length cu).ownBlock = some b → w.heap.size + 1 ≤ b ∧ b < w2.heap.size) := (show ∀ _, _ from fun b hb => ⟨hUf b hb, hUu b hb⟩)
      have hOu := fun W key hW (hk : key.size ≤ 1048576) => specOwn (.slice au (gon l z).length cu) (gon l z) key W hW hk
      have hk100 : keys.length ≤ 100 := by
        have := HM.out.symm
        unfold movOk at this
        rw [Bool.and_eq_true, Bool.and_eq_true, Bool.and_eq_true] at this
        exact of_decide_eq_true this.2.2.2
      clear U2 hUf hUu hsv HM hl hkl
      simp only [Bool.not_true]
      go_wp2_with fail
      go_loopw [7, 9] (fun s i wr => ∃ (k sg sc : Nat), k ≤ keys.length ∧ i = .int .i64 k ∧ s = .slice (some ⟨sg, 0, none⟩) (movL l z keys k).length sc ∧ (sg = w.heap.size ∨ w2.heap.size ≤ sg) ∧ Hid (OwnsN wr w.heap.size (.slice (some ⟨sg, 0, none⟩) (movL l z keys k).length sc) (movL l z keys k)) ∧ Hid (Sls intE wr (.slice au (gon l z).length cu) (gon l z)) ∧ w2.heap.size ≤ wr.heap.size ∧ Hid (Below w.heap.size w wr)) (fun _ i _ => keys.length - (intOf i).toNat)
      case atStart => exact ⟨0, _, _, Nat.zero_le _, rfl, rfl, .inl rfl, O2, U2s, Nat.le_refl _, B2⟩
      case round =>
        clear O2 U2s B2
        obtain ⟨k, sg, sc, hk, rfl, rfl, hsg, ho, hu, hw2r, hb⟩ := hrel
        by_cases hlt : k < keys.length
        · obtain ⟨gk, ok, rfl, hgk, hck⟩ := HQ.out (by omega)
          have c0 := (hb.out.cell (p := ⟨gk, ok + k, none⟩) hgk).trans (hck k hlt)
          have hks := HS.out keys[k] (List.getElem_mem hlt)
          have eg : keys.getD k ⟨#[]⟩ = keys[k] := by simp [hlt]
          have HY : Hid (¬ ownV l keys[k] = ownV (gon l z) keys[k] → movL l z keys (k + 1) = movL l z keys k ++ [(k : Int)]) := (show Hid _ from fun h => movL_yes l z keys k (by rw [eg]; exact h))
          have HN : Hid (ownV l keys[k] = ownV (gon l z) keys[k] → movL l z keys (k + 1) = movL l z keys k) := (show Hid _ from fun h => movL_no l z keys k (by rw [eg]; exact h))
          have hml := movL_length l z keys k
          have k1 := cell_regrown c0
          have j1 : ∀ d os, Calls Tryd.prog 18 #[.slice a l.length cap, .string keys[k]] (grow (redrawn wr d) os) fun e w'' => e = .returned (.int .i64 (ownV l keys[k])) ∧ ∃ p : Regrown, w'' = grow (redrawn wr p.d) p.os := fun d os => Calls.regrown_of (hOw _ _ (HV.out.kept (pastO hb.out (below_regrown wr d os))) hks)
          have j2 : ∀ d os, Calls Tryd.prog 18 #[.slice au (gon l z).length cu, .string keys[k]] (grow (redrawn wr d) os) fun e w'' => e = .returned (.int .i64 (ownV (gon l z) keys[k])) ∧ ∃ p : Regrown, w'' = grow (redrawn wr p.d) p.os := fun d os => Calls.regrown_of (hOu _ _ (hu.out.kept (below_regrown wr d os)) hks)
          generalize keys[k] = y at c0 k1 j1 j2 HY HN hks
          generalize ownV l y = o1 at j1 HY HN
          generalize ownV (gon l z) y = o2 at j2 HY HN
          generalize movL l z keys k = S at ho HY HN hml
          have hki : (k : Int) < (keys.length : Int) := by omega
          clear eg c0 hck
          go_wp2_with fail
          refine wp_region_quiet_below (by kernel_rfl) (by kernel_rfl) ?_
          repeat (go_big_quiet_step (first | with_reducible exact j1 _ _ | with_reducible exact j2 _ _))
          refine wpQuiet_nil ?_
          intro _ hw'
          obtain ⟨⟨dq, osq⟩, hw''⟩ := hw'
          subst hw''
          have hbn := below_regrown wr dq osq
          have BN : Hid (Below w.heap.size w (grow (redrawn wr dq) osq)) := (show Hid _ from pastO hb.out hbn)
          have ON : Hid (OwnsN (grow (redrawn wr dq) osq) w.heap.size (.slice (some ⟨sg, 0, none⟩) S.length sc) S) := ho.out.kept hbn
          have UN : Hid (Sls intE (grow (redrawn wr dq) osq) (.slice au (gon l z).length cu) (gon l z)) := hu.out.kept hbn
          have hwn := Nat.le_trans hw2r hbn.size
          generalize grow (redrawn wr dq) osq = wn at BN ON UN hwn ⊢
          clear hbn hb ho hu k1 j1 j2
          by_cases he : o1 = o2
          · have e1 : (o1 != o2) = false := by simp [he]
            have HP : Hid (movL l z keys (k + 1) = S) := HN.out he
            clear he HY HN
            go_wp2
            go_roundw
            case rel => exact ⟨k + 1, sg, sc, by omega, by go_num, by rw [HP.out], hsg, by rw [HP.out]; exact ON, UN, hwn, BN⟩
            case measure => simp [intOf]; omega
          · have e1 : (o1 != o2) = true := by simp [he]
            have HP : Hid (movL l z keys (k + 1) = S ++ [(k : Int)]) := HY.out he
            clear he HY HN
            go_wp2_with (at_builtin; refine wpList_pushNa _ rfl (.tmp 54) (.tmp 56) rfl w.heap.size sg S.length sc S (k : Int) rfl ON.out rfl (by omega) BN.out.size ?_; intro g4 c4 w4 ho4 hg4 hr4)
            have B4 : Hid (Below w.heap.size w w4) := (show Hid _ from belowE BN.out hr4 BN.out.size (fun b hb => by injection hb with hb; have := ON.out.from sg rfl; omega))
            have U4 : Hid (Sls intE w4 (.slice au (gon l z).length cu) (gon l z)) := (show Hid _ from UN.out.grown hr4 (fun b hb e => by have := HUB.out b hb; injection e with e; omega))
            have hz4 := hr4.size
            have el4 : (S ++ [(k : Int)]).length = S.length + 1 := by simp
            rw [← el4] at ho4
            have HO4 : Hid (OwnsN w4 w.heap.size (.slice (some ⟨g4, 0, none⟩) (S ++ [(k : Int)]).length c4) (S ++ [(k : Int)])) := ho4
            clear el4
            clear ON UN BN ho4 hr4
            go_roundw
            case rel => exact ⟨k + 1, g4, c4, by omega, by go_num, by rw [HP.out]; simp, by omega, by rw [HP.out]; exact HO4, U4, by omega, B4⟩
            case measure => simp [intOf]; omega
        · obtain rfl : k = keys.length := by omega
          go_wp2
          go_ret
          exact ⟨_, rfl, by rw [HR.out]; exact ho.out, hb.out⟩
end Go.Proofs.YtdbeoloonoodkaaDoor
