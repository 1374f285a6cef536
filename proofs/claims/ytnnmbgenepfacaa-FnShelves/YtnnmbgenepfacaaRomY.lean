/-
  The specification's Used.
-/
import Derived.Test.YtnnmbgenepfacaaRpK
namespace Go.Proofs.Ytnnmbgenepfacaa
open Go.RowKit Go.Sort Rom
set_option linter.unusedVariables false
set_option linter.unusedSimpArgs false

/-- One item appended, and where the new row lies. -/
theorem wpList_pushI {ops : Array Oper} {rest : List Oper} {o : Oper} {a : Act} {Q : Exit → Act → World → Prop} (w : World) (hgd : o.guard = none) (s x : Operand)
    (ho : o.op = .call { callee := .builtin .append, args := #[s, x], argTypes := #[32, 32] }) (B g n cp : Nat) (l : List It) (c : It) (hs : a.eval s = .slice (some ⟨g, 0, none⟩) n cp) (hown : OwnsI8 w B (.slice (some ⟨g, 0, none⟩) n cp) l)
    (hx : a.eval x = .slice (some ⟨w.heap.size, 0, none⟩) 1 1) (hlen : l.length ≤ 1000000) (hB : B ≤ w.heap.size)
    (h : ∀ g' c' w', OwnsI8 w' B (.slice (some ⟨g', 0, none⟩) (l ++ [c]).length c') (l ++ [c]) → w.grownBy w' (some g) → (g' = g ∨ w.heap.size ≤ g') → wpList Try.prog ops Q rest (a.put o.dst (.slice (some ⟨g', 0, none⟩) (l ++ [c]).length c')) w') :
    wpList Try.prog ops Q (o :: rest) a (w.alloc (.cells #[.string c.1, .int .i64 c.2] 47)) := by
  refine wpList_rowE_at (E := itE) _ hgd s x 32 47 (.agg #[.string ⟨#[]⟩, .int .i64 0]) 24 Try.underlying32 Try.infoIT rfl ho B _ l hs (OwnsE.alloc hown _) ⟨w.heap.size, 0, none⟩ 1 [c] hx (fresh_cell w c #[.string c.1, .int .i64 c.2] 47 rfl) (by unfold maxLen; simp; omega) (by simp; omega) (by simp; omega) ?_
  intro v' w' h1 h2 h3 h4
  obtain ⟨g', c', rfl, e, _, _⟩ := h1.moved (by simp) h4
  refine h g' c' w' h1 ⟨h2.os, h2.tape, h2.output, ?_, ?_⟩ ?_
  · have := h2.size
    simp at this
    omega
  · intro k hk hne
    rw [h2.block k (by simp; omega) hne]
    exact Below.heap_alloc _ _ _ hk
  · rcases e with e | e
    · exact .inl e
    · simp at e
      exact .inr (by omega)
theorem filtI_next {p : It → Bool} {l : List It} {k : Nat} (h : k < l.length) : (l.take (k + 1)).filter p = (l.take k).filter p ++ (if p l[k] = true then [l[k]] else []) := by
  rw [List.take_succ_eq_append_getElem h, List.filter_append]
  congr 1
  by_cases e : p l[k] = true
  · rw [if_pos e, List.filter_cons_of_pos e]; rfl
  · rw [if_neg e, List.filter_cons_of_neg e]; rfl
def eqK (key : ByteArray) (x : It) : Bool := decide (x.1 = key)
def neK (key : ByteArray) (x : It) : Bool := !decide (x.1 = key)
set_option maxRecDepth 100000 in
set_option maxHeartbeats 4000000 in
theorem specUsd (q : Int) (v : Value) (l : List It) (key : ByteArray) (w : World) (h : Sls itE w v l) (hlen : l.length ≤ 1048576) (hs : ∀ x ∈ l, x.1.size ≤ maxLen) :
    Calls Try.prog 35 #[shV q v, .string key] w fun e w' => ∃ u, e = .returned (shV (usdQ q l) u) ∧ OwnsI8 w' w.heap.size u (usdL q l key) ∧ Below w.heap.size w w' := by
  have H0 : Hid (Sls itE w v l) := h
  obtain ⟨a, cap, rfl, _⟩ := h.itm
  have T0 := TwoB.new w (.int .i64 q) (.slice a l.length cap) 34
  have BA : Below w.heap.size w (w.alloc (.cells #[.int .i64 q, .slice a l.length cap] 34)) := (Below.refl _ w).alloc (Nat.le_refl _) _
  have hzA : (w.alloc (.cells #[.int .i64 q, .slice a l.length cap] 34)).heap.size = w.heap.size + 1 := by simp
  have T1 := TwoB.new (w.alloc (.cells #[.int .i64 q, .slice a l.length cap] 34)) (.int .i64 0) (.slice none 0 0) 34
  rw [hzA] at T1
  have BB : Below (w.heap.size + 1) (w.alloc (.cells #[.int .i64 q, .slice a l.length cap] 34)) ((w.alloc (.cells #[.int .i64 q, .slice a l.length cap] 34)).alloc (.cells #[.int .i64 0, .slice none 0 0] 34)) := (Below.refl _ _).alloc (by rw [hzA]; exact Nat.le_refl _) _
  have T0B := T0.kept BB (Nat.lt_succ_self _)
  have BW : Below w.heap.size w ((w.alloc (.cells #[.int .i64 q, .slice a l.length cap] 34)).alloc (.cells #[.int .i64 0, .slice none 0 0] 34)) := BA.trans (BB.mono (Nat.le_succ _))
  have hzB : ((w.alloc (.cells #[.int .i64 q, .slice a l.length cap] 34)).alloc (.cells #[.int .i64 0, .slice none 0 0] 34)).heap.size = w.heap.size + 1 + 1 := by simp
  unfold shV
  have hsk := fun W (hW : Below w.heap.size w W) => specSok q (.slice a l.length cap) l W (H0.out.kept hW) hs
  unfold shV at hsk
  clear h T0 BA BB hzA
  go_enter Try.func35, Try.ntmps35
  generalize hwB : (w.alloc (.cells #[.int .i64 q, .slice a l.length cap] 34)).alloc (.cells #[.int .i64 0, .slice none 0 0] 34) = wB at T1 T0B BW hzB
  have x0 := T0B.c0
  have x1 := T0B.c1
  go_wp2_with fail
  refine (hsk _ BW).mono ?_
  rintro e w1 ⟨rfl, hb1⟩
  have hz1 := hb1.size
  rw [hzB] at hz1
  have T1' : Hid (TwoB w1 (w.heap.size + 1) (.int .i64 0) (.slice none 0 0)) := T1.kept hb1 (by omega)
  have S1 : Hid (TwoB w1 w.heap.size (.int .i64 q) (.slice a l.length cap)) := T0B.kept hb1 (by omega)
  have B1 : Hid (Below w.heap.size w w1) := (show Hid _ from BW.trans (hb1.mono BW.size))
  clear hb1 T1 BW hwB hzB x0 x1 T0B hsk
  cases hok : shOk q l with
  | false =>
    have HQ : Hid (usdQ q l = 0 ∧ usdL q l key = []) := by
      show _ ∧ _
      unfold usdQ usdL
      rw [hok]
      exact ⟨rfl, rfl⟩
    obtain ⟨y0, y1, f0, f1, yl⟩ := T1'.out
    go_wp2
    refine bodyPost_ret (v := .agg #[.int .i64 0, .slice none 0 0]) (by simp [results, Try.results35, go_sem, y0, y1]) rfl ⟨_, by rw [HQ.out.1], by rw [HQ.out.2]; exact OwnsE.none _ _, (B1.out.setCell (Nat.le_succ _) _).setCell (Nat.le_succ _) _⟩
  | true =>
    have ho := shOk_iff.1 hok
    have hl5 := ho.len
    have HQ : Hid (usdQ q l = q ∧ usdL q l key = l.filter (eqK key) ++ l.filter (neK key)) := by
      show _ ∧ _
      unfold usdQ usdL
      rw [hok]
      exact ⟨rfl, rfl⟩
    have HL : Hid (∀ (k : Nat) (hk : k < l.length) W, Below w.heap.size w W → ∃ g o, a = some ⟨g, o, Option.none⟩ ∧ W.cell? ⟨g, o + k * 2, Option.none⟩ = some (.string l[k].1) ∧ W.cell? ⟨g, o + k * 2 + 1, Option.none⟩ = some (.int .i64 l[k].2)) := (show ∀ _, _ from fun k hk W hW => by
      obtain ⟨a', cap', ea, hcap, hmx, h3⟩ := H0.out.itm
      injection ea with ea1 _ ea3
      subst ea1; subst ea3
      obtain ⟨g, o, ha, hg, hc⟩ := h3 (by omega)
      exact ⟨g, o, ha, (hW.cell (p := ⟨g, o + k * 2, none⟩) hg).trans (hc k hk).1, (hW.cell (p := ⟨g, o + k * 2 + 1, none⟩) hg).trans (hc k hk).2⟩)
    have hcl := H0.out.itm
    clear hok ho
    have oF : Hid (OwnsI8 ((w1.alloc (.cells #[] 47)).alloc (.cells #[] 47)) (w.heap.size + 1 + 1) (.slice (some ⟨w1.heap.size, 0, none⟩) 0 0) ([] : List It)) := (show Hid _ from (OwnsE.low (OwnsE.born w1) (by omega)).alloc _)
    have oR : Hid (OwnsI8 ((w1.alloc (.cells #[] 47)).alloc (.cells #[] 47)) (w.heap.size + 1 + 1) (.slice (some ⟨w1.heap.size + 1, 0, none⟩) 0 0) ([] : List It)) := by
      have := OwnsE.born (E := itE) (ty := 47) (w1.alloc (.cells #[] 47))
      simp only [World.size_alloc] at this
      exact (show Hid _ from OwnsE.low this (by omega))
    have bA : Below w1.heap.size w1 ((w1.alloc (.cells #[] 47)).alloc (.cells #[] 47)) := ((Below.refl _ w1).alloc (Nat.le_refl _) _).alloc (by simp) _
    have T2 : Hid (TwoB ((w1.alloc (.cells #[] 47)).alloc (.cells #[] 47)) (w.heap.size + 1) (.int .i64 0) (.slice none 0 0)) := T1'.out.kept bA (by omega)
    have S2 : Hid (TwoB ((w1.alloc (.cells #[] 47)).alloc (.cells #[] 47)) w.heap.size (.int .i64 q) (.slice a l.length cap)) := S1.out.kept bA (by omega)
    have B2 : Hid (Below w.heap.size w ((w1.alloc (.cells #[] 47)).alloc (.cells #[] 47))) := (show Hid _ from B1.out.trans (bA.mono B1.out.size))
    clear bA T1' S1 B1 hcl
    go_wp2_with fail
    generalize (w1.alloc (.cells #[] 47)).alloc (.cells #[] 47) = w2 at oF oR T2 S2 B2 ⊢
    go_loopw [5, 6, 7] (fun fv rv i wr => ∃ (k gf cf gr cr : Nat), k ≤ l.length ∧ i = .int .i64 k ∧ fv = .slice (some ⟨gf, 0, none⟩) ((l.take k).filter (eqK key)).length cf ∧ rv = .slice (some ⟨gr, 0, none⟩) ((l.take k).filter (neK key)).length cr ∧ Hid (gf ≠ gr) ∧ Hid (OwnsI8 wr (w.heap.size + 1 + 1) (.slice (some ⟨gf, 0, none⟩) ((l.take k).filter (eqK key)).length cf) ((l.take k).filter (eqK key))) ∧ Hid (OwnsI8 wr (w.heap.size + 1 + 1) (.slice (some ⟨gr, 0, none⟩) ((l.take k).filter (neK key)).length cr) ((l.take k).filter (neK key))) ∧ Hid (TwoB wr (w.heap.size + 1) (.int .i64 0) (.slice none 0 0)) ∧ Hid (TwoB wr w.heap.size (.int .i64 q) (.slice a l.length cap)) ∧ Hid (Below w.heap.size w wr)) (fun _ _ i _ => l.length - (intOf i).toNat)
    case atStart => exact ⟨0, w1.heap.size, 0, w1.heap.size + 1, 0, Nat.zero_le _, rfl, rfl, rfl, (show _ ≠ _ from by omega), oF, oR, T2, S2, B2⟩
    case round =>
      clear oF oR T2 S2 B2
      obtain ⟨k, gf, cf, gr, cr, hk, rfl, rfl, rfl, hne, hF, hR, hT, hS, hb⟩ := hrel
      have s0 := hS.out.c0
      have s1 := hS.out.c1
      by_cases hlt : k < l.length
      · obtain ⟨g, o, rfl, c1, c2⟩ := HL.out k hlt wr hb.out
        have hki : (k : Int) < (l.length : Int) := by omega
        have HF : Hid ((l.take (k + 1)).filter (eqK key) = (l.take k).filter (eqK key) ++ (if eqK key l[k] = true then [l[k]] else [])) := filtI_next hlt
        have HR : Hid ((l.take (k + 1)).filter (neK key) = (l.take k).filter (neK key) ++ (if neK key l[k] = true then [l[k]] else [])) := filtI_next hlt
        have hfl : ((l.take k).filter (eqK key)).length ≤ k := Nat.le_trans (List.length_filter_le _ _) (List.length_take_le _ _)
        have hrl : ((l.take k).filter (neK key)).length ≤ k := Nat.le_trans (List.length_filter_le _ _) (List.length_take_le _ _)
        generalize l[k] = x at c1 c2 HF HR
        generalize (l.take k).filter (eqK key) = F at hF HF hfl
        generalize (l.take k).filter (neK key) = R at hR HR hrl
        obtain ⟨x1, x2⟩ := x
        dsimp only at c1 c2
        have hz : w.heap.size + 1 + 1 ≤ wr.heap.size := by have := hT.out.lt; omega
        have hgF := hF.out.from gf rfl
        have hgR := hR.out.from gr rfl
        have huF := hF.out.under gf rfl
        have huR := hR.out.under gr rfl
        by_cases e : x1 = key
        · have q1 := key_eq e
          have HF2 : Hid ((l.take (k + 1)).filter (eqK key) = F ++ [(x1, x2)]) := (show _ = _ from by rw [HF.out, if_pos (show eqK key (x1, x2) = true from decide_eq_true e)])
          have HR2 : Hid ((l.take (k + 1)).filter (neK key) = R) := (show _ = _ from by rw [HR.out, if_neg (show ¬ neK key (x1, x2) = true from by unfold neK; rw [decide_eq_true (show (x1, x2).1 = key from e)]; decide), List.append_nil])
          clear e HF HR
          go_wp2_with (at_builtin; refine wpList_pushI _ rfl (.tmp 29) (.tmp 35) rfl (w.heap.size + 1 + 1) gf _ cf F (x1, x2) rfl hF.out rfl (by omega) hz ?_; intro g4 c4 w4 ho4 hg4 hat4)
          have hB4 : Hid (Below w.heap.size w w4) := (show Hid _ from belowE hb.out hg4 (by omega) (fun k hk => by injection hk with hk; omega))
          have hR4 := hR.out.grown hg4 (fun k hk e2 => by injection e2 with e2; simp [Value.ownBlock] at hk; exact hne.out (e2.trans hk.symm))
          have hb24 : Below (w.heap.size + 1 + 1) wr w4 := belowE (Below.refl _ wr) hg4 hz (fun k hk => by injection hk with hk; omega)
          go_roundw
          case rel => exact ⟨k + 1, g4, c4, gr, cr, by omega, by go_num, by rw [HF2.out]; simp, by rw [HR2.out], (show g4 ≠ gr from hat4.elim (fun q => by rw [q]; exact hne.out) (fun q => by omega)), by rw [HF2.out]; exact ho4, by rw [HR2.out]; exact hR4, (show Hid _ from hT.out.kept hb24 (by omega)), (show Hid _ from hS.out.kept hb24 (by omega)), hB4⟩
          case measure => simp [intOf]; omega
        · have q1 := key_ne e
          have HF2 : Hid ((l.take (k + 1)).filter (eqK key) = F) := (show _ = _ from by rw [HF.out, if_neg (show ¬ eqK key (x1, x2) = true from by unfold eqK; rw [decide_eq_false (show ¬ (x1, x2).1 = key from e)]; decide), List.append_nil])
          have HR2 : Hid ((l.take (k + 1)).filter (neK key) = R ++ [(x1, x2)]) := (show _ = _ from by rw [HR.out, if_pos (show neK key (x1, x2) = true from by unfold neK; rw [decide_eq_false (show ¬ (x1, x2).1 = key from e)]; rfl)])
          clear e HF HR
          go_wp2_with (at_builtin; refine wpList_pushI _ rfl (.tmp 37) (.tmp 43) rfl (w.heap.size + 1 + 1) gr _ cr R (x1, x2) rfl hR.out rfl (by omega) hz ?_; intro g4 c4 w4 ho4 hg4 hat4)
          have hB4 : Hid (Below w.heap.size w w4) := (show Hid _ from belowE hb.out hg4 (by omega) (fun k hk => by injection hk with hk; omega))
          have hF4 := hF.out.grown hg4 (fun k hk e2 => by injection e2 with e2; simp [Value.ownBlock] at hk; exact hne.out (hk.trans e2.symm))
          have hb24 : Below (w.heap.size + 1 + 1) wr w4 := belowE (Below.refl _ wr) hg4 hz (fun k hk => by injection hk with hk; omega)
          go_roundw
          case rel => exact ⟨k + 1, gf, cf, g4, c4, by omega, by go_num, by rw [HF2.out], by rw [HR2.out]; simp, (show gf ≠ g4 from hat4.elim (fun q => by rw [q]; exact hne.out) (fun q => by omega)), by rw [HF2.out]; exact hF4, by rw [HR2.out]; exact ho4, (show Hid _ from hT.out.kept hb24 (by omega)), (show Hid _ from hS.out.kept hb24 (by omega)), hB4⟩
          case measure => simp [intOf]; omega
      · obtain rfl : k = l.length := by omega
        rw [List.take_of_length_le (Nat.le_refl _)] at hF hR ⊢
        have hfl : (l.filter (eqK key)).length ≤ l.length := List.length_filter_le _ _
        have hrl : (l.filter (neK key)).length ≤ l.length := List.length_filter_le _ _
        generalize l.filter (eqK key) = F at hF HQ hfl
        generalize l.filter (neK key) = R at hR HQ hrl
        have hz : w.heap.size + 1 + 1 ≤ wr.heap.size := by have := hT.out.lt; omega
        obtain ⟨y0, y1, f0, f1, yl⟩ := hT.out
        have hgF := hF.out.from gf rfl
        have HC : Hid (∀ j u, (cellsE itE R)[j]? = some u → wr.cell? ((⟨gr, 0, none⟩ : Addr).add j) = some u) := World.ownsRow.cells hR.out rfl
        go_wp2_with fail
        go_region_law (refine step_rowE (E := itE) rfl (.tmp 47) (.tmp 48) 32 47 (.agg #[.string ⟨#[]⟩, .int .i64 0]) 24 Try.underlying32 Try.infoIT rfl rfl (w.heap.size + 1 + 1) (.slice (some ⟨gf, 0, none⟩) F.length cf) F (by simp [Act.eval, Act.put]) (by exact hF.out) ⟨gr, 0, none⟩ cr R (by simp [Act.eval, Act.put]) (by exact HC.out) (by unfold maxLen; omega) (by omega) (by exact hz) ?_; intro v4 w4 ho4 hg4 hn4; have hb24 : Below (w.heap.size + 1 + 1) wr w4 := belowE (w1 := wr) (Below.refl _ wr) (by exact ⟨hg4.os, hg4.tape, hg4.output, hg4.size, hg4.block⟩) hz (fun k hk => by simp [Value.ownBlock] at hk; omega); obtain ⟨z0, z1, g0, g1, zl⟩ := hT.out.kept hb24 (by omega); have zq := (hb24.cell (p := ⟨w.heap.size, 0, none⟩) (show w.heap.size < w.heap.size + 1 + 1 by omega)).trans s0; have HO4 : Hid (OwnsI8 w4 (w.heap.size + 1 + 1) v4 (F ++ R)) := ho4; obtain ⟨a4, c4, hv4, _⟩ := ho4.form; subst hv4; clear ho4 hg4)
        all_goals
          rw [show F.length + R.length = (F ++ R).length from List.length_append.symm]
          have HNE : Hid (∀ k, (Value.slice a4 (F ++ R).length c4).ownBlock = some k → k ≠ w.heap.size + 1) := (show ∀ _, _ from fun k hk => by have := HO4.out.from k hk; omega)
          have HOF : Hid (OwnsI8 ((w4.setCell ⟨w.heap.size + 1, 0, none⟩ (.int .i64 q)).setCell ⟨w.heap.size + 1, 1, none⟩ (.slice a4 (F ++ R).length c4)) w.heap.size (.slice a4 (F ++ R).length c4) (F ++ R)) := (HO4.out.two HNE.out _ _).low (by omega)
          have HBF : Hid (Below w.heap.size w ((w4.setCell ⟨w.heap.size + 1, 0, none⟩ (.int .i64 q)).setCell ⟨w.heap.size + 1, 1, none⟩ (.slice a4 (F ++ R).length c4))) := (show Hid _ from ((hb.out.trans (hb24.mono (by omega))).setCell (Nat.le_succ _) _).setCell (Nat.le_succ _) _)
          generalize F ++ R = M at HOF HBF HQ HO4 HNE ⊢
          go_wp2
          refine bodyPost_ret (v := .agg #[.int .i64 q, .slice a4 M.length c4]) (by simp [results, Try.results35, go_sem, z0, z1]) rfl ⟨_, by rw [HQ.out.1], by rw [HQ.out.2]; exact HOF.out, HBF.out⟩
end Go.Proofs.Ytnnmbgenepfacaa
