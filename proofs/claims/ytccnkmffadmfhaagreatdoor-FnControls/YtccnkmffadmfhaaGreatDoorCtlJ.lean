/-
  The specification's ReadControl by its contract.
-/
import Derived.Test.YtccnkmffadmfhaaGreatDoorCtlI
import Derived.Test.YtccnkmffadmfhaaGreatDoorItl
import Derived.Test.YtccnkmffadmfhaaGreatDoorQMk
import Derived.Deep.DeepCutAuto
namespace Go.Proofs.YtccnkmffadmfhaaGreatDoor
open Go.RowKit Go.Sort
set_option linter.unusedVariables false
set_option linter.unusedSimpArgs false

/-- What holds in a round of ReadControl. -/
structure RdF (w : World) (g : Nat) (l : List ByteArray) (c : Ct) (x : World) : Prop where
  n : CtB x (w.heap.size + 1) c
  z : CtB x w.heap.size ctZ
  o : ∀ j (hj : j < l.length), x.cell? ⟨g, j, Option.none⟩ = some (.string l[j])
  b : Below w.heap.size w x
theorem RdF.kept {w x x' : World} {g : Nat} {l : List ByteArray} {c : Ct} (h : RdF w g l c x) (hb : Below x.heap.size x x') : RdF w g l c x' :=
  ⟨h.n.kept hb, h.z.kept hb, fun j hj => (hb.cell (p := ⟨g, j, Option.none⟩) (block_lt_of_cell (h.o j hj))).trans (h.o j hj), past9 h.b hb⟩
theorem RdF.put {w x : World} {g : Nat} {l : List ByteArray} {c : Ct} (h : RdF w g l c x) (hg : w.heap.size + 1 < g) (i : Nat) (hi : i < 7) (u : Value) (c' : Ct) (hy : ctE.c c' = (ctE.c c).set i u) : RdF w g l c' (x.setCell ⟨w.heap.size + 1, i, Option.none⟩ u) :=
  ⟨h.n.put hi u c' hy, h.z.other _ u (by show w.heap.size ≠ w.heap.size + 1; omega), fun j hj => by
    rw [World.cell?_setCell_other _ _ _ _ (by simp <;> omega)]
    exact h.o j hj, h.b.setCell (p := ⟨w.heap.size + 1, i, Option.none⟩) (by show w.heap.size ≤ w.heap.size + 1; omega) u⟩
theorem wdT_eq (x : ByteArray) : (x.toList == [109, 97, 120, 45, 115, 116, 97, 108, 101]) = decide (x = wdT) := by
  have h : wdT.toList = [109, 97, 120, 45, 115, 116, 97, 108, 101] := by unfold wdT; rw [ByteArray.toList_eq]
  rw [← h]; exact txt_eq9 x wdT
theorem wdS_eq (x : ByteArray) : (x.toList == [110, 111, 45, 115, 116, 111, 114, 101]) = decide (x = wdS) := by
  have h : wdS.toList = [110, 111, 45, 115, 116, 111, 114, 101] := by unfold wdS; rw [ByteArray.toList_eq]
  rw [← h]; exact txt_eq9 x wdS
theorem wdC_eq (x : ByteArray) : (x.toList == [110, 111, 45, 99, 97, 99, 104, 101]) = decide (x = wdC) := by
  have h : wdC.toList = [110, 111, 45, 99, 97, 99, 104, 101] := by unfold wdC; rw [ByteArray.toList_eq]
  rw [← h]; exact txt_eq9 x wdC
theorem wdP_eq (x : ByteArray) : (x.toList == [112, 114, 105, 118, 97, 116, 101]) = decide (x = wdP) := by
  have h : wdP.toList = [112, 114, 105, 118, 97, 116, 101] := by unfold wdP; rw [ByteArray.toList_eq]
  rw [← h]; exact txt_eq9 x wdP
theorem wdM_eq (x : ByteArray) : (x.toList == [109, 117, 115, 116, 45, 114, 101, 118, 97, 108, 105, 100, 97, 116, 101]) = decide (x = wdM) := by
  have h : wdM.toList = [109, 117, 115, 116, 45, 114, 101, 118, 97, 108, 105, 100, 97, 116, 101] := by unfold wdM; rw [ByteArray.toList_eq]
  rw [← h]; exact txt_eq9 x wdM
theorem low_size9 (s : ByteArray) : (lowS s).size = s.size := by
  show (lowS s).data.size = s.data.size
  unfold lowS
  simp
set_option maxRecDepth 100000 in
set_option maxRecDepth 100000 in
set_option maxHeartbeats 4000000 in
theorem specRdC (s : ByteArray) (w : World) (hs : s.size ≤ maxLen) (hzs : ∀ x ∈ itemsA s, x.size ≤ 400) :
    Calls Tryz.prog 12 #[.string s] w fun e w' => e = .returned (ctV (rdCt s)) ∧ Below w.heap.size w w' := by
  have hit := fun W => specItems s W hs
  have hlen := itemsA_length s
  have HD : Hid (rdCt s = rdLt (itemsA s)) := rfl
  have Z0 : Hid (CtB ((w.alloc (.cells #[.int .i64 0, .int .i64 0, .int .i64 0, .bool false, .bool false, .bool false, .bool false] 25)).alloc (.cells #[.int .i64 (-1), .int .i64 (-1), .int .i64 (-1), .bool false, .bool false, .bool false, .bool false] 25)) w.heap.size ctZ) := (CtB.born w ctZ 25).alloc _
  have N0 : Hid (CtB ((w.alloc (.cells #[.int .i64 0, .int .i64 0, .int .i64 0, .bool false, .bool false, .bool false, .bool false] 25)).alloc (.cells #[.int .i64 (-1), .int .i64 (-1), .int .i64 (-1), .bool false, .bool false, .bool false, .bool false] 25)) (w.heap.size + 1) ctN) := by
    have := CtB.born (w.alloc (.cells #[.int .i64 0, .int .i64 0, .int .i64 0, .bool false, .bool false, .bool false, .bool false] 25)) ctN 25
    simp only [World.size_alloc] at this
    exact this
  have B0 : Hid (Below w.heap.size w ((w.alloc (.cells #[.int .i64 0, .int .i64 0, .int .i64 0, .bool false, .bool false, .bool false, .bool false] 25)).alloc (.cells #[.int .i64 (-1), .int .i64 (-1), .int .i64 (-1), .bool false, .bool false, .bool false, .bool false] 25))) := ((Below.refl _ w).alloc (by simp <;> omega) _).alloc (by simp <;> omega) _
  generalize rdCt s = R at HD ⊢
  generalize itemsA s = l at hit hlen hzs HD
  go_enter Tryz.func12, Tryz.ntmps12
  go_wp2_with fail
  refine (hit _).mono ?_
  rintro e w1 ⟨v, rfl, ho, hb1⟩
  have ho' := ho
  obtain ⟨⟨g, cap, rfl, hg0, hg1⟩, _⟩ := ho
  have O1 : Hid (∀ j (hj : j < l.length), w1.cell? ⟨g, j, Option.none⟩ = some (.string l[j])) := ho'.at rfl
  have Z1 : Hid (CtB w1 w.heap.size ctZ) := Z0.out.kept hb1
  have N1 : Hid (CtB w1 (w.heap.size + 1) ctN) := N0.out.kept hb1
  have B1 : Hid (Below w.heap.size w w1) := past9 B0.out hb1
  simp only [World.size_alloc] at hg0
  clear hb1 ho' hit Z0 N0 B0 hg1
  go_wp2
  have H1 : Hid (RdF w g l ctN w1) := ⟨N1.out, Z1.out, O1.out, B1.out⟩
  clear Z1 N1 O1 B1
  go_loopw [5, 6, 7, 8, 9, 10, 11, 12] (fun i _ _ _ _ _ _ _ wr => ∃ (k : Nat), k ≤ l.length ∧ i = .int .i64 k ∧ Hid (RdF w g l (rdLt (l.take k)) wr)) (fun i _ _ _ _ _ _ _ _ => l.length - (intOf i).toNat)
  case atStart => exact ⟨0, Nat.zero_le _, rfl, H1⟩
  case round =>
    obtain ⟨k, hk, rfl, hF⟩ := hrel
    by_cases hlt : k < l.length
    · have hc := hF.out.o k hlt
      have hst : Hid (rdLt (l.take (k + 1)) = stp (rdLt (l.take k)) (lowS l[k])) := by
        show _ = _
        rw [List.take_add_one, List.getElem?_eq_getElem hlt]
        exact rdL_snoc (l.take k) l[k]
      have hz := hzs l[k] (List.getElem_mem hlt)
      have hlo := fun W => specLow l[k] W (by unfold maxLen; omega)
      have hxs := low_size9 l[k]
      generalize l[k] = t at hc hst hz hlo hxs
      generalize lowS t = x at hst hlo hxs
      generalize rdLt (l.take k) = c at hF hst
      have q1 := fun W => specTold x nmA W (by unfold maxLen; omega) (by decide)
      have q2 := fun W => specTold x nmS W (by unfold maxLen; omega) (by decide)
      have q3 := fun W => specTold x nmT W (by unfold maxLen; omega) (by decide)
      have s1 : ∀ c : Ct, st1 c x = if (told x nmA).2 = true ∧ c.a < 0 then { c with a := (told x nmA).1 } else c := fun _ => rfl
      have s2 : ∀ c : Ct, st2 c x = if (told x nmS).2 = true ∧ c.s < 0 then { c with s := (told x nmS).1 } else c := fun _ => rfl
      have s3 : ∀ c : Ct, st3 c x = if (told x nmT).2 = true ∧ c.t < 0 then { c with t := (told x nmT).1 } else c := fun _ => rfl
      generalize (told x nmA).1 = n1 at q1 s1
      generalize (told x nmA).2 = b1 at q1 s1
      unfold nmA at q1
      generalize (told x nmS).1 = n2 at q2 s2
      generalize (told x nmS).2 = b2 at q2 s2
      unfold nmS at q2
      generalize (told x nmT).1 = n3 at q3 s3
      generalize (told x nmT).2 = b3 at q3 s3
      unfold nmT at q3
      have hst3 : Hid (rdLt (l.take (k + 1)) = st4 (st3 (st2 (st1 c x) x) x) x) := hst
      have hgw : w.heap.size + 1 < g := by omega
      have y1 : Hid _ := wdT_eq x
      have y2 : Hid _ := wdS_eq x
      have y3 : Hid _ := wdC_eq x
      have y4 : Hid _ := wdP_eq x
      have y5 : Hid _ := wdM_eq x
      clear hst
      go_wp2_with fail
      refine (hlo _).mono ?_
      rintro e w2 ⟨rfl, hb2⟩
      have F0 : Hid (RdF w g l c w2) := hF.out.kept hb2
      clear hb2 hF hc hlo hxs hz
      go_wp2_with fail
      refine (q1 _).mono ?_
      rintro e v0 ⟨rfl, hb3⟩
      have G0 : Hid (RdF w g l c v0) := F0.out.kept hb3
      clear hb3 F0 q1
      obtain ⟨e0, e1, e2, e3, e4, e5, e6⟩ := G0.out.n.all
      have ef := G0.out.n.fz
      go_upto_region 8 with fail
      go_cut [37] (fun q wx => q = .bool (b1 && decide (c.a < 0)) ∧ wx = v0)
      case first =>
        cases b1
        all_goals (go_wp2_with fail)
        all_goals go_meet
        all_goals exact ⟨rfl, rfl⟩
      case rest =>
        obtain ⟨rfl, rfl⟩ := hcut
        obtain ⟨x0, rfl⟩ : ∃ z, z = wc := ⟨wc, rfl⟩
        go_upto_if 37 with fail
        go_cut [7] (fun q wx => q = .int .i64 n1 ∧ Hid (RdF w g l (st1 c x) wx))
        case first =>
          by_cases hcc : b1 = true ∧ c.a < 0
          · obtain ⟨rfl, hca⟩ := hcc
            have HP : Hid (RdF w g l (st1 c x) (x0.setCell ⟨w.heap.size + 1, 0, Option.none⟩ (.int .i64 n1))) := by
              rw [s1, if_pos ⟨rfl, hca⟩]
              exact G0.out.put hgw 0 (by decide) _ _ rfl
            have hd : (true && decide (c.a < 0)) = true := by rw [decide_eq_true hca]; rfl
            rw [hd]
            clear hd
            go_wp2_with fail
            go_meet
            exact ⟨rfl, HP⟩
          · have HP : Hid (RdF w g l (st1 c x) x0) := by
              rw [s1, if_neg hcc]
              exact G0.out
            have hd : (b1 && decide (c.a < 0)) = false := by
              cases hb9 : b1 && decide (c.a < 0) with
              | false => rfl
              | true =>
                rw [Bool.and_eq_true, decide_eq_true_iff] at hb9
                exact absurd hb9 hcc
            go_wp2_with fail
            go_meet
            exact ⟨rfl, HP⟩
        case rest =>
          obtain ⟨rfl, F1⟩ := hcut
          obtain ⟨z0, rfl⟩ : ∃ z, z = wc := ⟨wc, rfl⟩
          clear G0 e0 e1 e2 e3 e4 e5 e6 ef
          generalize st1 c x = c1 at F1 hst3
          go_wp2_with fail
          refine (q2 _).mono ?_
          rintro e v1 ⟨rfl, hb3⟩
          have G1 : Hid (RdF w g l c1 v1) := F1.out.kept hb3
          clear hb3 F1 q2
          obtain ⟨e0, e1, e2, e3, e4, e5, e6⟩ := G1.out.n.all
          have ef := G1.out.n.fz
          go_upto_region 11 with fail
          go_cut [50] (fun q wx => q = .bool (b2 && decide (c1.s < 0)) ∧ wx = v1)
          case first =>
            cases b2
            all_goals (go_wp2_with fail)
            all_goals go_meet
            all_goals exact ⟨rfl, rfl⟩
          case rest =>
            obtain ⟨rfl, rfl⟩ := hcut
            obtain ⟨x1, rfl⟩ : ∃ z, z = wc := ⟨wc, rfl⟩
            go_upto_if 50 with fail
            go_cut [9] (fun q wx => q = .int .i64 n2 ∧ Hid (RdF w g l (st2 c1 x) wx))
            case first =>
              by_cases hcc : b2 = true ∧ c1.s < 0
              · obtain ⟨rfl, hca⟩ := hcc
                have HP : Hid (RdF w g l (st2 c1 x) (x1.setCell ⟨w.heap.size + 1, 1, Option.none⟩ (.int .i64 n2))) := by
                  rw [s2, if_pos ⟨rfl, hca⟩]
                  exact G1.out.put hgw 1 (by decide) _ _ rfl
                have hd : (true && decide (c1.s < 0)) = true := by rw [decide_eq_true hca]; rfl
                rw [hd]
                clear hd
                go_wp2_with fail
                go_meet
                exact ⟨rfl, HP⟩
              · have HP : Hid (RdF w g l (st2 c1 x) x1) := by
                  rw [s2, if_neg hcc]
                  exact G1.out
                have hd : (b2 && decide (c1.s < 0)) = false := by
                  cases hb9 : b2 && decide (c1.s < 0) with
                  | false => rfl
                  | true =>
                    rw [Bool.and_eq_true, decide_eq_true_iff] at hb9
                    exact absurd hb9 hcc
                go_wp2_with fail
                go_meet
                exact ⟨rfl, HP⟩
            case rest =>
              obtain ⟨rfl, F2⟩ := hcut
              obtain ⟨z1, rfl⟩ : ∃ z, z = wc := ⟨wc, rfl⟩
              clear G1 e0 e1 e2 e3 e4 e5 e6 ef
              generalize st2 c1 x = c2 at F2 hst3
              go_wp2_with fail
              refine (q3 _).mono ?_
              rintro e v2 ⟨rfl, hb3⟩
              have G2 : Hid (RdF w g l c2 v2) := F2.out.kept hb3
              clear hb3 F2 q3
              obtain ⟨e0, e1, e2, e3, e4, e5, e6⟩ := G2.out.n.all
              have ef := G2.out.n.fz
              go_upto_region 14 with fail
              go_cut [63] (fun q wx => q = .bool (b3 && decide (c2.t < 0)) ∧ wx = v2)
              case first =>
                cases b3
                all_goals (go_wp2_with fail)
                all_goals go_meet
                all_goals exact ⟨rfl, rfl⟩
              case rest =>
                obtain ⟨rfl, rfl⟩ := hcut
                obtain ⟨x2, rfl⟩ : ∃ z, z = wc := ⟨wc, rfl⟩
                go_upto_if 63 with fail
                go_cut [11] (fun q wx => q = .int .i64 n3 ∧ Hid (RdF w g l (st3 c2 x) wx))
                case first =>
                  by_cases hcc : b3 = true ∧ c2.t < 0
                  · obtain ⟨rfl, hca⟩ := hcc
                    have HP : Hid (RdF w g l (st3 c2 x) (x2.setCell ⟨w.heap.size + 1, 2, Option.none⟩ (.int .i64 n3))) := by
                      rw [s3, if_pos ⟨rfl, hca⟩]
                      exact G2.out.put hgw 2 (by decide) _ _ rfl
                    have hd : (true && decide (c2.t < 0)) = true := by rw [decide_eq_true hca]; rfl
                    rw [hd]
                    clear hd
                    go_wp2_with fail
                    go_meet
                    exact ⟨rfl, HP⟩
                  · have HP : Hid (RdF w g l (st3 c2 x) x2) := by
                      rw [s3, if_neg hcc]
                      exact G2.out
                    have hd : (b3 && decide (c2.t < 0)) = false := by
                      cases hb9 : b3 && decide (c2.t < 0) with
                      | false => rfl
                      | true =>
                        rw [Bool.and_eq_true, decide_eq_true_iff] at hb9
                        exact absurd hb9 hcc
                    go_wp2_with fail
                    go_meet
                    exact ⟨rfl, HP⟩
                case rest =>
                  obtain ⟨rfl, F3⟩ := hcut
                  obtain ⟨z2, rfl⟩ : ∃ z, z = wc := ⟨wc, rfl⟩
                  clear G2 e0 e1 e2 e3 e4 e5 e6 ef
                  generalize st3 c2 x = c3 at F3 hst3
                  obtain ⟨e0, e1, e2, e3, e4, e5, e6⟩ := F3.out.n.all
                  have ef := F3.out.n.fz
                  have i1 := y1.out
                  have i2 := y2.out
                  have i3 := y3.out
                  have i4 := y4.out
                  have i5 := y5.out
                  unfold st4 at hst3
                  by_cases h0 : x = wdT
                  · rw [decide_eq_true h0] at i1
                    by_cases hca : c3.t < 0
                    · have HC : Hid (rdLt (l.take (k + 1)) = { c3 with t := 1000000000 }) := by
                        have := hst3.out; rw [if_pos h0, if_pos hca] at this; exact this
                      have HP := F3.out.put hgw 2 (by decide) (.int .i64 1000000000) { c3 with t := 1000000000 } rfl
                      have HP : Hid _ := HP
                      have hd : decide (c3.t < 0) = true := decide_eq_true hca
                      clear F3 hst3 h0
                      go_wp2
                      go_roundw
                      case rel => exact ⟨k + 1, by omega, by go_num, by rw [HC.out]; exact HP⟩
                      case measure => simp [intOf]; omega
                    · have HC : Hid (rdLt (l.take (k + 1)) = c3) := by
                        have := hst3.out; rw [if_pos h0, if_neg hca] at this; exact this
                      have HP : Hid _ := F3.out
                      have hd : decide (c3.t < 0) = false := decide_eq_false hca
                      clear F3 hst3 h0
                      go_wp2
                      go_roundw
                      case rel => exact ⟨k + 1, by omega, by go_num, by rw [HC.out]; exact HP⟩
                      case measure => simp [intOf]; omega
                  rw [decide_eq_false h0] at i1
                  by_cases h1 : x = wdS
                  · rw [decide_eq_true h1] at i2
                    have HC : Hid (rdLt (l.take (k + 1)) = { c3 with ns := true }) := by
                      have := hst3.out; rw [if_neg h0, if_pos h1] at this; exact this
                    have HP := F3.out.put hgw 3 (by decide) (.bool true) { c3 with ns := true } rfl
                    have HP : Hid _ := HP
                    clear F3 hst3 h1
                    go_wp2
                    go_roundw
                    case rel => exact ⟨k + 1, by omega, by go_num, by rw [HC.out]; exact HP⟩
                    case measure => simp [intOf]; omega
                  rw [decide_eq_false h1] at i2
                  by_cases h2 : x = wdC
                  · rw [decide_eq_true h2] at i3
                    have HC : Hid (rdLt (l.take (k + 1)) = { c3 with nc := true }) := by
                      have := hst3.out; rw [if_neg h0, if_neg h1, if_pos h2] at this; exact this
                    have HP := F3.out.put hgw 4 (by decide) (.bool true) { c3 with nc := true } rfl
                    have HP : Hid _ := HP
                    clear F3 hst3 h2
                    go_wp2
                    go_roundw
                    case rel => exact ⟨k + 1, by omega, by go_num, by rw [HC.out]; exact HP⟩
                    case measure => simp [intOf]; omega
                  rw [decide_eq_false h2] at i3
                  by_cases h3 : x = wdP
                  · rw [decide_eq_true h3] at i4
                    have HC : Hid (rdLt (l.take (k + 1)) = { c3 with pr := true }) := by
                      have := hst3.out; rw [if_neg h0, if_neg h1, if_neg h2, if_pos h3] at this; exact this
                    have HP := F3.out.put hgw 5 (by decide) (.bool true) { c3 with pr := true } rfl
                    have HP : Hid _ := HP
                    clear F3 hst3 h3
                    go_wp2
                    go_roundw
                    case rel => exact ⟨k + 1, by omega, by go_num, by rw [HC.out]; exact HP⟩
                    case measure => simp [intOf]; omega
                  rw [decide_eq_false h3] at i4
                  by_cases h4 : x = wdM
                  · rw [decide_eq_true h4] at i5
                    have HC : Hid (rdLt (l.take (k + 1)) = { c3 with mu := true }) := by
                      have := hst3.out; rw [if_neg h0, if_neg h1, if_neg h2, if_neg h3, if_pos h4] at this; exact this
                    have HP := F3.out.put hgw 6 (by decide) (.bool true) { c3 with mu := true } rfl
                    have HP : Hid _ := HP
                    clear F3 hst3 h4
                    go_wp2
                    go_roundw
                    case rel => exact ⟨k + 1, by omega, by go_num, by rw [HC.out]; exact HP⟩
                    case measure => simp [intOf]; omega
                  rw [decide_eq_false h4] at i5
                  have HC : Hid (rdLt (l.take (k + 1)) = c3) := by
                    have := hst3.out; rw [if_neg h0, if_neg h1, if_neg h2, if_neg h3, if_neg h4] at this; exact this
                  have HP : Hid _ := F3.out
                  clear F3 hst3
                  go_wp2
                  go_roundw
                  case rel => exact ⟨k + 1, by omega, by go_num, by rw [HC.out]; exact HP⟩
                  case measure => simp [intOf]; omega
    · have hkl : k = l.length := by omega
      have HE : Hid (R = rdLt (l.take k)) := by show _ = _; rw [HD.out, hkl, List.take_length]
      generalize rdLt (l.take k) = c at hF HE
      obtain ⟨e0, e1, e2, e3, e4, e5, e6⟩ := hF.out.n.all
      obtain ⟨z0, z1, z2, z3, z4, z5, z6⟩ := hF.out.z.all
      have zf := hF.out.z.fz
      have HP : Hid (CtB (putL wr w.heap.size (ctE.c c) 0) w.heap.size c) := hF.out.z.puts c
      have BP : Hid (Below w.heap.size w (putL wr w.heap.size (ctE.c c) 0)) := putL_below (Nat.le_refl _) (ctE.c c) 0 hF.out.b
      unfold ctZ at z0 z1 z2 z3 z4 z5 z6
      simp only at z0 z1 z2 z3 z4 z5 z6
      clear hF hkl
      go_wp2
      obtain ⟨p0, p1, p2, p3, p4, p5, p6⟩ := CtB.all HP.out
      have bp := BP.out
      rw [ctE_c] at p0 p1 p2 p3 p4 p5 p6 bp
      simp only [putL, Nat.zero_add, Nat.reduceAdd] at p0 p1 p2 p3 p4 p5 p6 bp
      refine bodyPost_ret (v := ctV c) (by unfold ctV; simp [results, Tryz.results12, go_sem, p0, p1, p2, p3, p4, p5, p6]) rfl ⟨by rw [HE.out], bp⟩
end Go.Proofs.YtccnkmffadmfhaaGreatDoor
