/-
  The walk of the law FnMattson, given what the program's Recent, Misses and Distance answer.
-/
import Derived.Test.YtnnmbgenepfacaaRomI
import Derived.Lib.QuietBelow
namespace Go.Proofs.Ytnnmbgenepfacaa
open Go.RowKit Go.Sort Rom
set_option linter.unusedVariables false
set_option linter.unusedSimpArgs false
set_option maxRecDepth 100000 in
set_option maxHeartbeats 8000000 in
theorem fnMat (hiR : ∀ (v : Value) (l : List Int) (r : Int) (w : World), Sls numE w v l → l.length ≤ 1048576 → Calls Try.prog 15 #[v, .int .i64 r] w fun e w' => ∃ u, e = .returned u ∧ HasN w' w.heap.size u (recA l r) ∧ Below w.heap.size w w')
    (hiM : ∀ (v : Value) (l : List Int) (r : Int) (w : World), Sls numE w v l → l.length ≤ 1048576 → Calls Try.prog 16 #[v, .int .i64 r] w fun e w' => e = .returned (.int .i64 (misA l r)) ∧ Below w.heap.size w w')
    (hiD : ∀ (v : Value) (l : List Int) (r : Int) (w : World), Sls numE w v l → l.length ≤ 1048576 → Calls Try.prog 21 #[v, .int .i64 r] w fun e w' => e = .returned (.int .i64 (disA l r)) ∧ Below w.heap.size w w')
    (sa : Option Addr) (sl sc : Nat) (zs : List Int) (w : World) (hw : IsRow w sa sl sc zs) :
    Calls Try.prog 3 #[.slice sa sl sc] w fun e w' => e = .returned (.bool true) ∧ Below w.heap.size w w' := by
  by_cases hbig : 4096 < sl
  · have hlen := hw.len
    clear hw
    go_enter Try.func3, Try.ntmps3
    go_wp2_with (go_at_call 13; refine (isBig sa sl sc _ hbig hlen).mono ?_; rintro e w1 ⟨rfl, rfl⟩)
    go_ret
    exact ⟨rfl, Below.refl _ _⟩
  · have hl : sl ≤ 4096 := by omega
    have h8 : Hid (Code8 w w.heap.size sa sl) := hw.code.code
    clear hw hbig
    go_enter Try.func3, Try.ntmps3
    go_wp2_with fail
    refine (notBig sa sl sc _ hl).mono ?_
    rintro e w0 ⟨rfl, rfl⟩
    go_wp2_with fail
    refine (drawRc sa sl sc _ h8.out hl).mono ?_
    rintro e w1 ⟨⟨u, l, r, rfl, ho1, hf, hr64⟩, hb1⟩
    obtain ⟨a1, c1, rfl, _, _, _⟩ := ho1.form
    have B1 : Hid (Below w.heap.size w w1) := hb1
    have L1 : Hid (Sls numE w1 (.slice a1 l.length c1) l) := ho1.sls
    have iR := fun W hW => hiR (.slice a1 l.length c1) l r W hW (by omega)
    have iM := fun W hW => hiM (.slice a1 l.length c1) l r W hW (by omega)
    have sR := fun W hW => specRec (.slice a1 l.length c1) l r W hW
    have sM := fun W hW => specMis (.slice a1 l.length c1) l r W hW
    have hMl := recA_length l r
    obtain ⟨M, hM⟩ : ∃ M, M = recA l r := ⟨_, rfl⟩
    obtain ⟨m, hm⟩ : ∃ m, m = misA l r := ⟨_, rfl⟩
    have HM : Hid (M = recA l r) := hM
    have Hm : Hid (m = misA l r) := hm
    rw [← hM] at iR sR hMl
    rw [← hm] at iM sM
    have dm : (m != m) = false := by simp
    clear hb1 ho1 hM hm
    go_wp2_with fail
    refine (iR _ L1.out).mono ?_
    rintro e w2 ⟨g0, rfl, hg0, hb2⟩
    have B2 : Hid (Below w.heap.size w w2) := past12 B1.out hb2
    have L2 : Hid (Sls numE w2 (.slice a1 l.length c1) l) := L1.out.kept hb2
    have G2 : Hid (Sls numE w2 g0 M) := hg0.sls
    obtain ⟨a2, c2, rfl, _, _, _⟩ := hg0.form
    clear hb2 hg0 B1 L1
    go_wp2_with fail
    refine (iM _ L2.out).mono ?_
    rintro e w3 ⟨rfl, hb3⟩
    have B3 : Hid (Below w.heap.size w w3) := past12 B2.out hb3
    have L3 : Hid (Sls numE w3 (.slice a1 l.length c1) l) := L2.out.kept hb3
    have G3 : Hid (Sls numE w3 (.slice a2 M.length c2) M) := G2.out.kept hb3
    clear hb3 B2 L2 G2 iM
    go_wp2_with fail
    refine (drawDs sa sl sc _ ((h8.out.kept B3.out (Nat.le_refl _)).upN B3.out.size) hl).mono ?_
    rintro e w4 ⟨⟨v, l2, r2, rfl, ho4, hf4, _⟩, hb4⟩
    obtain ⟨a4, c4, rfl, _, _, _⟩ := ho4.form
    have B4 : Hid (Below w.heap.size w w4) := past12 B3.out hb4
    have L4 : Hid (Sls numE w4 (.slice a1 l.length c1) l) := L3.out.kept hb4
    have G4 : Hid (Sls numE w4 (.slice a2 M.length c2) M) := G3.out.kept hb4
    have V4 : Hid (Sls numE w4 (.slice a4 l2.length c4) l2) := ho4.sls
    clear hb4 ho4 B3 L3 G3 h8
    go_wp2_with fail
    refine (sR _ L4.out).mono ?_
    rintro e w5 ⟨r0, rfl, hr0, hb5⟩
    have B5 : Hid (Below w.heap.size w w5) := past12 B4.out hb5
    have L5 : Hid (Sls numE w5 (.slice a1 l.length c1) l) := L4.out.kept hb5
    have G5 : Hid (Sls numE w5 (.slice a2 M.length c2) M) := G4.out.kept hb5
    have V5 : Hid (Sls numE w5 (.slice a4 l2.length c4) l2) := V4.out.kept hb5
    have R5 : Hid (Sls numE w5 r0 M) := hr0.sls
    clear hb5 hr0 B4 L4 G4 V4
    go_wp2_with fail
    refine (likeNum _ _ M _ G5.out R5.out (by omega)).mono ?_
    rintro e w6 ⟨rfl, hg6⟩
    have B6 : Hid (Below w.heap.size w w6) := past12 B5.out hg6.low
    have L6 : Hid (Sls numE w6 (.slice a1 l.length c1) l) := L5.out.kept hg6.low
    have G6 : Hid (Sls numE w6 (.slice a2 M.length c2) M) := G5.out.kept hg6.low
    have V6 : Hid (Sls numE w6 (.slice a4 l2.length c4) l2) := V5.out.kept hg6.low
    clear hg6 B5 L5 G5 V5 R5
    go_wp2_with fail
    refine (sM _ L6.out).mono ?_
    rintro e w7 ⟨rfl, hb7⟩
    have B7 : Hid (Below w.heap.size w w7) := past12 B6.out hb7
    have L7 : Hid (Sls numE w7 (.slice a1 l.length c1) l) := L6.out.kept hb7
    have G7 : Hid (Sls numE w7 (.slice a2 M.length c2) M) := G6.out.kept hb7
    have V7 : Hid (Sls numE w7 (.slice a4 l2.length c4) l2) := V6.out.kept hb7
    clear hb7 B6 L6 G6 V6
    go_wp2_with fail
    refine (hiD _ l2 r2 _ V7.out (by omega)).mono ?_
    rintro e w8 ⟨rfl, hb8⟩
    have B8 : Hid (Below w.heap.size w w8) := past12 B7.out hb8
    have L8 : Hid (Sls numE w8 (.slice a1 l.length c1) l) := L7.out.kept hb8
    have G8 : Hid (Sls numE w8 (.slice a2 M.length c2) M) := G7.out.kept hb8
    have V8 : Hid (Sls numE w8 (.slice a4 l2.length c4) l2) := V7.out.kept hb8
    clear hb8 B7 L7 G7 V7
    go_wp2_with fail
    refine (specDis _ l2 r2 _ V8.out (by omega)).mono ?_
    rintro e w9 ⟨rfl, hb9⟩
    have B9 : Hid (Below w.heap.size w w9) := past12 B8.out hb9
    have L9 : Hid (Sls numE w9 (.slice a1 l.length c1) l) := L8.out.kept hb9
    have G9 : Hid (Sls numE w9 (.slice a2 M.length c2) M) := G8.out.kept hb9
    generalize disA l2 r2 = D
    have dD : (D != D) = false := by simp
    clear hb9 B8 L8 G8 V8 iR sR sM
    cases hT : toldB l r with
    | false =>
      have e1 : m = -1 := by rw [Hm.out]; unfold misA; rw [if_neg (by simp [hT])]
      have e2 : M = [] := by rw [HM.out]; unfold recA; rw [if_neg (by simp [hT])]
      subst e1
      subst e2
      go_wp2
      go_ret
      exact ⟨rfl, B9.out⟩
    | true =>
      have hp := toldB_parts hT
      have hp1 := hp.1
      have hp2 := hp.2.1
      obtain ⟨R, rfl⟩ : ∃ R : Nat, r = (R : Int) := ⟨r.toNat, by omega⟩
      have e1 : m = (mis R l l.length : Int) := by rw [Hm.out, misA_told hT]
      have e2 : M = shf R l := by rw [HM.out, recA_told hT]
      have hmle := mis_le R l l.length
      have hDis : Hid (∀ k, k < l.length → ∀ W, Sls numE W (.slice a1 l.length c1) l → Calls Try.prog 21 #[.slice a1 l.length c1, .int .i64 (k : Int)] W fun e w' => e = .returned (.int .i64 (dis l k : Int)) ∧ Below W.heap.size W w') := fun k hk W hW => by
        have := hiD _ l (k : Int) W hW (by omega)
        rw [disA_told hT hk] at this
        exact this
      have hRec : Hid (R + 1 ≤ 10 → ∀ W, Sls numE W (.slice a1 l.length c1) l → Calls Try.prog 15 #[.slice a1 l.length c1, .int .i64 ((R : Int) + 1)] W fun e w' => ∃ u, e = .returned u ∧ HasN w' W.heap.size u (shf (R + 1) l) ∧ Below W.heap.size W w') := fun h1 W hW => by
        have := hiR _ l ((R + 1 : Nat) : Int) W hW (by omega)
        rw [recA_told (told_one hT _ (by omega))] at this
        exact this
      have hMis : Hid (R + 1 ≤ 10 → ∀ W, Sls numE W (.slice a1 l.length c1) l → Calls Try.prog 16 #[.slice a1 l.length c1, .int .i64 ((R : Int) + 1)] W fun e w' => e = .returned (.int .i64 (mis (R + 1) l l.length : Int)) ∧ Below W.heap.size W w') := fun h1 W hW => by
        have := hiM _ l ((R + 1 : Nat) : Int) W hW (by omega)
        rw [misA_told (told_one hT _ (by omega))] at this
        exact this
      subst e1
      subst e2
      have hm0 : ¬ ((mis R l l.length : Int) < 0) := by omega
      clear hiR hiM hiD HM Hm hp hT dm
      go_wp2_with fail
      go_loopw [9, 10] (fun n i wr => ∃ k : Nat, k ≤ l.length ∧ i = .int .i64 k ∧ n = .int .i64 (mis R l k : Int) ∧ Hid (Below w9.heap.size w9 wr)) (fun _ i _ => l.length - (intOf i).toNat)
      case atStart => exact ⟨0, Nat.zero_le _, rfl, rfl, (show Hid _ from Below.refl _ _)⟩
      case round =>
        obtain ⟨k, hk, rfl, rfl, hb⟩ := hrel
        have hz9 := B9.out.size
        obtain ⟨wk, rfl⟩ : ∃ z, z = wr := ⟨wr, rfl⟩
        have BK : Hid (Below w.heap.size w wk) := past12 B9.out hb.out
        have LK : Hid (Sls numE wk (.slice a1 l.length c1) l) := L9.out.kept hb.out
        have GK : Hid (Sls numE wk (.slice a2 (shf R l).length c2) (shf R l)) := G9.out.kept hb.out
        by_cases hlt : k < l.length
        · have hki : (k : Int) < (l.length : Int) := by omega
          have hd := dis_le l k (by omega)
          have hnx := mis_ge (r := R) (t := l) (i := k)
          have hmk := mis_le R l k
          have HNX : Hid _ := hnx
          obtain ⟨d, hd0⟩ : ∃ d, d = dis l k := ⟨_, rfl⟩
          have IDk := hDis.out k hlt
          rw [← hd0] at hd hnx IDk
          obtain ⟨N, hN⟩ : ∃ N, N = mis R l k := ⟨_, rfl⟩
          obtain ⟨N', hN'⟩ : ∃ N, N = mis R l (k + 1) := ⟨_, rfl⟩
          rw [← hN, ← hN'] at hnx
          rw [← hN] at hmk ⊢
          have HN' : Hid (N' = mis R l (k + 1)) := hN'
          clear hd0 hN hN' HNX
          go_wp2_with fail
          refine (IDk _ LK.out).mono ?_
          rintro e wj ⟨rfl, hbj⟩
          have hb2 : Hid (Below w9.heap.size w9 wj) := past12 hb.out hbj
          clear hbj
          by_cases h0 : d = 0
          · rw [if_pos (.inl h0)] at hnx
            subst h0
            go_wp2_with fail
            go_roundw
            case rel => exact ⟨k + 1, by omega, by go_num, by rw [← HN'.out, hnx]; go_num, hb2⟩
            case measure => simp [intOf]; omega
          · have d0 : ((d : Int) == 0) = false := by rw [beq_eq_false_iff_ne]; omega
            by_cases h1 : R < d
            · rw [if_pos (.inr h1)] at hnx
              have d1 : (R : Int) < (d : Int) := by omega
              go_wp2_with fail
              go_roundw
              case rel => exact ⟨k + 1, by omega, by go_num, by rw [← HN'.out, hnx]; go_num, hb2⟩
              case measure => simp [intOf]; omega
            · rw [if_neg (fun e => e.elim h0 h1)] at hnx
              have d1 : ¬ (R : Int) < (d : Int) := by omega
              go_wp2_with fail
              go_roundw
              case rel => exact ⟨k + 1, by omega, by go_num, by rw [← HN'.out, hnx]; go_num, hb2⟩
              case measure => simp [intOf]; omega
        · obtain rfl : k = l.length := by omega
          have hmore := mis_more R l l.length
          by_cases h10 : R = 10
          · subst h10
            go_wp2
            go_ret
            exact ⟨rfl, BK.out⟩
          · have d10 : ((R : Int) == 10) = false := by rw [beq_eq_false_iff_ne]; omega
            have ew : IntKind.i64.wrap ((R : Int) + 1) = (R : Int) + 1 := by rw [IntKind.wrap_i64]; omega
            go_wp2_with fail
            refine (hRec.out (by omega) _ LK.out).mono ?_
            rintro e wa ⟨ga, rfl, hga, hba⟩
            have BA : Hid (Below w.heap.size w wa) := past12 BK.out hba
            have LA : Hid (Sls numE wa (.slice a1 l.length c1) l) := LK.out.kept hba
            have GA : Hid (Sls numE wa (.slice a2 (shf R l).length c2) (shf R l)) := GK.out.kept hba
            have hsl := (shf_more R l).length_le
            have hpre := shf_pre R l
            have HA : Hid (HasN wa wk.heap.size ga (shf (R + 1) l)) := hga
            obtain ⟨aa, ca, rfl, hca, hca2, _⟩ := hga.form
            have PA : Hid (Sls numE wa (.slice aa (shf R l).length ca) (shf R l)) := by
              have := slsN_pre (m := (shf R l).length) hga.sls hsl
              rw [hpre] at this
              exact this
            clear hba hga
            have hs10 := shf_length R l
            generalize shf R l = P at hMl GA PA hsl hs10 ⊢
            generalize shf (R + 1) l = Q at HA hsl hca ⊢
            go_wp2_with fail
            refine (likeNum _ _ P _ PA.out GA.out (by omega)).mono ?_
            rintro e wb ⟨rfl, hgb⟩
            have BB : Hid (Below w.heap.size w wb) := past12 BA.out hgb.low
            have LB : Hid (Sls numE wb (.slice a1 l.length c1) l) := LA.out.kept hgb.low
            clear hgb
            go_wp2_with fail
            refine (hMis.out (by omega) _ LB.out).mono ?_
            rintro e wc ⟨rfl, hbc⟩
            have BC : Hid (Below w.heap.size w wc) := past12 BB.out hbc
            have dle : ((mis (R + 1) l l.length : Nat) : Int) ≤ ((mis R l l.length : Nat) : Int) := by omega
            clear hbc
            generalize mis (R + 1) l l.length = m1 at dle ⊢
            generalize mis R l l.length = m0 at dle ⊢
            go_wp2
            go_ret
            exact ⟨rfl, BC.out⟩
end Go.Proofs.Ytnnmbgenepfacaa
