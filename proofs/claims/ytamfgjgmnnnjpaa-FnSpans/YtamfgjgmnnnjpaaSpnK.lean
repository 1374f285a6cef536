/-
  The walk of the law FnSpans, given what the program's Merged and Total answer.
-/
import Derived.Test.YtamfgjgmnnnjpaaSpnD
import Derived.Test.YtamfgjgmnnnjpaaSpnJ
import Derived.Lib.QuietBelow
namespace Go.Proofs.Ytamfgjgmnnnjpaa
open Go.RowKit Go.Sort
set_option linter.unusedVariables false

theorem past8k {w w1 w2 : World} (h : Below w.heap.size w w1) (hb : Below w1.heap.size w1 w2) : Below w.heap.size w w2 := h.trans (hb.mono h.size)
/-- Does one of them have the byte k? -/
def covB (l : List Sp) (k : Int) : Bool := l.any fun x => decide (x.1 ≤ k) && decide (k ≤ x.2)
theorem covB_iff {l : List Sp} {k : Int} : covB l k = true ↔ Cov l k := by
  unfold covB Cov
  rw [List.any_eq_true]
  constructor
  · rintro ⟨x, hx, h⟩
    rw [Bool.and_eq_true] at h
    exact ⟨x, hx, of_decide_eq_true h.1, of_decide_eq_true h.2⟩
  · rintro ⟨x, hx, h1, h2⟩
    exact ⟨x, hx, by rw [decide_eq_true h1, decide_eq_true h2]; rfl⟩
theorem covB_same {l m : List Sp} {k : Int} (h : Cov l k ↔ Cov m k) : covB l k = covB m k := by
  rw [Bool.eq_iff_iff, covB_iff, covB_iff]; exact h
theorem covB_next {l : List Sp} {k : Int} {j : Nat} (hj : j < l.length) : covB (l.take (j + 1)) k = (covB (l.take j) k || (decide (l[j].1 ≤ k) && decide (k ≤ l[j].2))) := by
  unfold covB; rw [List.take_succ_eq_append_getElem hj, List.any_append]; simp
theorem wrap_sum {S a b : Int} : wrap64 (wrap64 (wrap64 (wrap64 S + b) - a) + 1) = wrap64 (S + (b - a + 1)) := by
  unfold wrap64; omega
theorem wrap_small {S : Int} (h0 : 0 ≤ S) (h1 : S ≤ 100000000000000) : wrap64 S = S := by unfold wrap64; omega
theorem nrm_at {m : List Sp} (h : Nrm m) {i : Nat} (hi : i + 1 < m.length) : m[i].2 + 1 < m[i + 1].1 := List.pairwise_iff_getElem.1 h.2 i (i + 1) (by omega) hi (by omega)
set_option maxRecDepth 100000 in
set_option maxHeartbeats 8000000 in
theorem fnSp (hiM : ∀ (v : Value) (l : List Sp) (w : World), Sls spnE w v l → l.length ≤ 1048576 → (∀ x ∈ l, InR x) → Calls Try.prog 9 #[v] w fun e w' => ∃ u, e = .returned u ∧ HasS8 w' w.heap.size u (mgd l) ∧ Below w.heap.size w w')
    (hiT : ∀ (v : Value) (l : List Sp) (w : World), Sls spnE w v l → l.length ≤ 1048576 → (∀ x ∈ l, InR x) → Calls Try.prog 12 #[v] w fun e w' => e = .returned (.int .i64 (totS l)) ∧ Below w.heap.size w w')
    (sa : Option Addr) (sl sc : Nat) (zs : List Int) (w : World) (hw : IsRow w sa sl sc zs) :
    Calls Try.prog 3 #[.slice sa sl sc] w fun e w' => e = .returned (.bool true) ∧ Below w.heap.size w w' := by
  by_cases hbig : 4096 < sl
  · have hlen := hw.len
    clear hw
    go_enter Try.func3, Try.ntmps3
    go_wp2_with (go_at_call 7; refine (isBig sa sl sc _ hbig hlen).mono ?_; rintro e w1 ⟨rfl, rfl⟩)
    go_ret
    exact ⟨rfl, Below.refl _ _⟩
  · have hl : sl ≤ 4096 := by omega
    have h8 : Hid (Code8 w w.heap.size sa sl) := hw.code.code
    clear hw hbig
    go_enter Try.func3, Try.ntmps3
    go_wp2_with fail
    refine (notBig sa sl sc _ hl).mono ?_
    rintro e w0 ⟨rfl, rfl⟩
    go_wp2_with fail
    refine (drawMg sa sl sc _ h8.out hl).mono ?_
    rintro e w1 ⟨⟨u, l, rfl, ho1, hf⟩, hb1⟩
    have hl20 := hf.1
    have hin := hf.2
    have B1 : Hid (Below w.heap.size w w1) := hb1
    have L1 : Hid (Sls spnE w1 u l) := ho1.sls
    have iM := fun W hW => hiM u l W hW (by omega) hin
    have iT := fun W hW => hiT u l W hW (by omega) hin
    have sM := fun W hW => specMg u l W hW hin
    have sT := fun W hW => specTot u l W hW hin
    have hM := mgd_nrm l
    have hMl := (mgd_length l).1
    have hMw := mgd_wide (M := 9223372036854775807) (l := l) (fun x hx => (hin x hx).2.2)
    have hag := mgd_again l
    have t1 := @totS_none l
    have t2 := @totS_wide l
    have t3 := @totS_sum l
    have hcov : ¬ mgd l = [] → ∀ k, Cov l k ↔ Cov (mgd l) k := fun hne k => by
      by_cases hc : l.length ≤ 10 ∧ allS l = true
      · exact (mgd_cov hc.1 hc.2 k).symm
      · exact absurd (mgd_out hc) hne
    have hMr : ∀ x ∈ mgd l, InR x := fun x hx => by
      have h1 := hM.1 x hx
      have h2 := hMw x hx
      exact ⟨⟨by omega, by omega⟩, by omega, by omega⟩
    have iA := fun v W hW => hiM v (mgd l) W hW (by omega) hMr
    rw [hag] at iA
    generalize mgd l = M at iM sM hM hMl hMw t1 t2 t3 hcov iA
    generalize totS l = T at iT sT t1 t2 t3
    clear hb1 ho1 hf hiM hiT hag hMr
    go_wp2_with fail
    refine (iM _ L1.out).mono ?_
    rintro e w2 ⟨g0, rfl, hg0, hb2⟩
    have B2 : Hid (Below w.heap.size w w2) := past8k B1.out hb2
    have L2 : Hid (Sls spnE w2 u l) := L1.out.kept hb2
    have G2 : Hid (Sls spnE w2 g0 M) := hg0.sls
    obtain ⟨a2, c2, rfl, _, hc2, _⟩ := hg0.form
    clear hb2 hg0 B1 L1
    go_wp2_with fail
    refine (sM _ L2.out).mono ?_
    rintro e w3 ⟨r0, rfl, hr0, hb3⟩
    have B3 : Hid (Below w.heap.size w w3) := past8k B2.out hb3
    have L3 : Hid (Sls spnE w3 u l) := L2.out.kept hb3
    have G3 : Hid (Sls spnE w3 (.slice a2 M.length c2) M) := G2.out.kept hb3
    have R3 : Hid (Sls spnE w3 r0 M) := hr0.sls
    clear hb3 hr0 B2 L2 G2 sM
    go_wp2_with fail
    refine (likeSp _ _ M _ G3.out R3.out (by omega)).mono ?_
    rintro e w4 ⟨rfl, hg4⟩
    have B4 : Hid (Below w.heap.size w w4) := past8k B3.out hg4.low
    have L4 : Hid (Sls spnE w4 u l) := L3.out.kept hg4.low
    have G4 : Hid (Sls spnE w4 (.slice a2 M.length c2) M) := G3.out.kept hg4.low
    clear hg4 B3 L3 G3 R3
    go_wp2_with fail
    refine (iT _ L4.out).mono ?_
    rintro e w5 ⟨rfl, hb5⟩
    have B5 : Hid (Below w.heap.size w w5) := past8k B4.out hb5
    have L5 : Hid (Sls spnE w5 u l) := L4.out.kept hb5
    have G5 : Hid (Sls spnE w5 (.slice a2 M.length c2) M) := G4.out.kept hb5
    clear hb5 B4 L4 G4
    go_wp2_with fail
    refine (sT _ L5.out).mono ?_
    rintro e w6 ⟨rfl, hb6⟩
    have B6 : Hid (Below w.heap.size w w6) := past8k B5.out hb6
    have L6 : Hid (Sls spnE w6 u l) := L5.out.kept hb6
    have G6 : Hid (Sls spnE w6 (.slice a2 M.length c2) M) := G5.out.kept hb6
    have dT : (T != T) = false := by simp
    clear hb6 B5 L5 G5 sT
    by_cases h0 : M.length = 0
    · have hT : T = -1 := t1 (List.eq_nil_of_length_eq_zero h0)
      subst hT
      rw [h0]
      clear t1 t2 t3 hcov hM hMw iA iM
      go_wp2_with fail
      refine (iT _ L6.out).mono ?_
      rintro e w7 ⟨rfl, hb7⟩
      have B7 : Hid (Below w.heap.size w w7) := past8k B6.out hb7
      clear hb7
      go_wp2
      go_ret
      exact ⟨rfl, B7.out⟩
    · have hne : ¬ M = [] := fun e => h0 (by rw [e]; rfl)
      have dz : ((M.length : Int) == 0) = false := by simp; omega
      have HC : Hid (∀ k, covB l k = covB M k) := fun k => covB_same (hcov hne k)
      have HN : Hid (Nrm M) := hM
      have HW : Hid (∀ x ∈ M, x.2 ≤ 9223372036854775807) := hMw
      have HT2 : Hid (wideS M = true → T = -1) := t2
      have HT3 : Hid (wideS M = false → T = sumS M) := t3 hne
      obtain ⟨_, _, e2, _, _, q2⟩ := G6.out.two
      injection e2 with e21 e22 e23
      subst e21 e23
      obtain ⟨g2, o2, rfl, hg2, hc2⟩ := q2 (by omega)
      have Q2 : Hid (∀ j (hj : j < M.length), w6.cell? ⟨g2, o2 + j * 2, Option.none⟩ = some (.int .i64 M[j].1) ∧ w6.cell? ⟨g2, o2 + j * 2 + 1, Option.none⟩ = some (.int .i64 M[j].2)) := hc2
      clear t1 t2 t3 hcov hM hMw q2 e22 hc2
      go_wp2
      go_loopw [5, 6] (fun s i wr => ∃ (j : Nat), j ≤ M.length ∧ i = .int .i64 j ∧ s = .int .i64 (wrap64 (sumS (M.take j))) ∧ Hid (Below w6.heap.size w6 wr)) (fun _ i _ => M.length - (intOf i).toNat)
      case atStart => exact ⟨0, Nat.zero_le _, rfl, by simp [sumS, wrap64], Below.refl _ _⟩
      case round =>
        obtain ⟨j, hj, rfl, rfl, hb⟩ := hrel
        by_cases hlt : j < M.length
        · obtain ⟨e1, e2⟩ := Q2.out j hlt
          have e1 := (hb.out.cell (p := ⟨g2, o2 + j * 2, Option.none⟩) hg2).trans e1
          have e2 := (hb.out.cell (p := ⟨g2, o2 + j * 2 + 1, Option.none⟩) hg2).trans e2
          have hx := HN.out.1 M[j] (List.getElem_mem hlt)
          have hx2 := HW.out M[j] (List.getElem_mem hlt)
          have HS : Hid (sumS (M.take (j + 1)) = sumS (M.take j) + (M[j].2 - M[j].1 + 1)) := sumS_next hlt
          cases j with
          | zero =>
            generalize M[0] = x at e1 e2 hx hx2 HS
            obtain ⟨x1, x2⟩ := x
            simp only [Nat.zero_mul, Nat.add_zero] at e1 e2 hx hx2 HS
            generalize sumS (M.take 0) = S at HS
            have dx : decide (x2 < x1) = false := decide_eq_false (by omega)
            go_wp2
            have k1 := cell_regrown e1
            have k2 := cell_regrown e2
            refine wp_region_quiet_below (by kernel_rfl) (by kernel_rfl) ?_
            repeat (go_big_quiet_step (fail))
            refine wpQuiet_nil ?_
            intro _ hw'
            obtain ⟨⟨dq, osq⟩, hw''⟩ := hw'
            subst hw''
            have b2 : Hid (Below w6.heap.size w6 (grow (redrawn wr dq) osq)) := past8k hb.out (below_regrown wr dq osq)
            have e4 := cell_regrown e1 dq osq
            have e5 := cell_regrown e2 dq osq
            generalize grow (redrawn wr dq) osq = w7 at b2 e4 e5 ⊢
            clear k1 k2 e1 e2 hb
            go_wp2
            have k1 := cell_regrown e4
            have k2 := cell_regrown e5
            refine wp_region_quiet_below (by kernel_rfl) (by kernel_rfl) ?_
            repeat (go_big_quiet_step (fail))
            refine wpQuiet_nil ?_
            intro _ hw'
            obtain ⟨⟨dq, osq⟩, hw''⟩ := hw'
            subst hw''
            have b3 : Hid (Below w6.heap.size w6 (grow (redrawn w7 dq) osq)) := past8k b2.out (below_regrown w7 dq osq)
            generalize grow (redrawn w7 dq) osq = w8 at b3 ⊢
            go_wp2
            go_roundw
            case rel => exact ⟨0 + 1, by omega, by go_num, by rw [HS.out, ← wrap_sum], b3⟩
            case measure => simp [intOf]; omega
          | succ i =>
            have hp := nrm_at HN.out hlt
            have e3 := (hb.out.cell (p := ⟨g2, o2 + i * 2 + 1, Option.none⟩) hg2).trans (Q2.out i (by omega)).2
            generalize M[i + 1] = x at e1 e2 hx hx2 HS hp
            generalize (M[i]'(by omega)).2 = y2 at hp e3
            obtain ⟨x1, x2⟩ := x
            simp only at e1 e2 hx hx2 HS hp
            generalize sumS (M.take (i + 1)) = S at HS
            have dx : decide (x2 < x1) = false := decide_eq_false (by omega)
            have ex : IntKind.i64.wrap (x1 - 1) = x1 - 1 := by rw [IntKind.wrap_i64]; omega
            have dp : decide (x1 - 1 ≤ y2) = false := decide_eq_false (by omega)
            have en : IntKind.i64.wrap (i : Int) = (i : Int) := by rw [IntKind.wrap_i64]; omega
            go_wp2
            have k1 := cell_regrown e1
            have k2 := cell_regrown e2
            have k3 := cell_regrown e3
            refine wp_region_quiet_below (by kernel_rfl) (by kernel_rfl) ?_
            repeat (go_big_quiet_step (fail))
            refine wpQuiet_nil ?_
            intro _ hw'
            obtain ⟨⟨dq, osq⟩, hw''⟩ := hw'
            subst hw''
            have b2 : Hid (Below w6.heap.size w6 (grow (redrawn wr dq) osq)) := past8k hb.out (below_regrown wr dq osq)
            have e4 := cell_regrown e1 dq osq
            have e5 := cell_regrown e2 dq osq
            generalize grow (redrawn wr dq) osq = w7 at b2 e4 e5 ⊢
            clear k1 k2 e1 e2 hb
            go_wp2
            have k1 := cell_regrown e4
            have k2 := cell_regrown e5
            refine wp_region_quiet_below (by kernel_rfl) (by kernel_rfl) ?_
            repeat (go_big_quiet_step (fail))
            refine wpQuiet_nil ?_
            intro _ hw'
            obtain ⟨⟨dq, osq⟩, hw''⟩ := hw'
            subst hw''
            have b3 : Hid (Below w6.heap.size w6 (grow (redrawn w7 dq) osq)) := past8k b2.out (below_regrown w7 dq osq)
            generalize grow (redrawn w7 dq) osq = w8 at b3 ⊢
            go_wp2
            go_roundw
            case rel => exact ⟨i + 1 + 1, by omega, by go_num, by rw [HS.out, ← wrap_sum], b3⟩
            case measure => simp [intOf]; omega
        · obtain ⟨w7, rfl⟩ : ∃ x, x = wr := ⟨wr, rfl⟩
          obtain rfl : j = M.length := by omega
          rw [List.take_length]
          have HTS : Hid (T = -1 ∨ T = wrap64 (sumS M)) := by
            show T = -1 ∨ _
            cases hw : wideS M with
            | true => exact .inl (HT2.out hw)
            | false =>
              have h1 := sumS_bound HN.out.1 hw
              have h2 : (M.length : Int) ≤ 10 := by omega
              exact .inr (by rw [HT3.out hw, wrap_small h1.1 (by omega)])
          generalize wrap64 (sumS M) = S at HTS
          have L7 : Hid (Sls spnE w7 u l) := L6.out.kept hb.out
          have G7 : Hid (Sls spnE w7 (.slice (some ⟨g2, o2, Option.none⟩) M.length c2) M) := G6.out.kept hb.out
          have B7 : Hid (Below w.heap.size w w7) := past8k B6.out hb.out
          have QM : Hid (∀ j (hj : j < M.length), ∃ g o, (some ⟨g2, o2, Option.none⟩ : Option Addr) = some ⟨g, o, Option.none⟩ ∧ w7.cell? ⟨g, o + j * 2, Option.none⟩ = some (.int .i64 M[j].1) ∧ w7.cell? ⟨g, o + j * 2 + 1, Option.none⟩ = some (.int .i64 M[j].2)) := fun j hj => by
            obtain ⟨e1, e2⟩ := Q2.out j hj
            exact ⟨g2, o2, rfl, (hb.out.cell (p := ⟨g2, o2 + j * 2, Option.none⟩) hg2).trans e1, (hb.out.cell (p := ⟨g2, o2 + j * 2 + 1, Option.none⟩) hg2).trans e2⟩
          obtain ⟨a1, c1, rfl, _, _, q1⟩ := L7.out.two
          have QL : Hid (∀ j (hj : j < l.length), ∃ g o, a1 = some ⟨g, o, Option.none⟩ ∧ w7.cell? ⟨g, o + j * 2, Option.none⟩ = some (.int .i64 l[j].1) ∧ w7.cell? ⟨g, o + j * 2 + 1, Option.none⟩ = some (.int .i64 l[j].2)) := fun j hj => by
            obtain ⟨g, o, ha, _, hc⟩ := q1 (by omega)
            exact ⟨g, o, ha, hc j hj⟩
          clear hb q1 Q2 L6 G6 B6 HT2 HT3 HN HW hg2
          go_wp2
          go_loop [7] (fun v => ∃ (k : Nat), k ≤ 40 ∧ v = .int .i64 k) (fun v => 40 - (intOf v).toNat)
          case atStart => exact ⟨0, by omega, rfl⟩
          case round =>
            obtain ⟨k, hk, rfl⟩ := hrel
            by_cases hk40 : k < 40
            · go_wp2
              go_loop [8, 10] (fun a i => ∃ (j : Nat), j ≤ l.length ∧ i = .int .i64 j ∧ a = .bool (covB (l.take j) k)) (fun _ i => l.length - (intOf i).toNat)
              case atStart => exact ⟨0, Nat.zero_le _, rfl, rfl⟩
              case round =>
                obtain ⟨j, hj, rfl, rfl⟩ := hrel
                by_cases hlt : j < l.length
                · obtain ⟨g1, o1, hg1, d1, d2⟩ := QL.out j hlt
                  subst hg1
                  have hcn : covB (l.take (j + 1)) k = (covB (l.take j) k || (decide (l[j].1 ≤ k) && decide (k ≤ l[j].2))) := covB_next hlt
                  have HCN : Hid (covB (l.take (j + 1)) k = (covB (l.take j) k || (decide (l[j].1 ≤ k) && decide (k ≤ l[j].2)))) := hcn
                  clear hcn
                  generalize l[j] = x at d1 d2 HCN
                  generalize hcv : covB (l.take j) k = cv at HCN
                  cases cv with
                  | true =>
                    go_wp2
                    go_round
                    case rel => exact ⟨j + 1, by omega, by go_num, by rw [HCN.out]; rfl⟩
                    case measure => simp [intOf]; omega
                  | false =>
                    by_cases h1 : x.1 ≤ k
                    · have f1 : decide (x.1 ≤ (k : Int)) = true := decide_eq_true h1
                      rw [f1] at HCN
                      by_cases h2 : k ≤ x.2
                      · have f2 : decide ((k : Int) ≤ x.2) = true := decide_eq_true h2
                        rw [f2] at HCN
                        go_wp2
                        go_round
                        case rel => exact ⟨j + 1, by omega, by go_num, by rw [HCN.out]; rfl⟩
                        case measure => simp [intOf]; omega
                      · have f2 : decide ((k : Int) ≤ x.2) = false := decide_eq_false h2
                        rw [f2] at HCN
                        go_wp2
                        go_round
                        case rel => exact ⟨j + 1, by omega, by go_num, by rw [HCN.out]; rfl⟩
                        case measure => simp [intOf]; omega
                    · have f1 : decide (x.1 ≤ (k : Int)) = false := decide_eq_false h1
                      rw [f1] at HCN
                      go_wp2
                      go_round
                      case rel => exact ⟨j + 1, by omega, by go_num, by rw [HCN.out]; rfl⟩
                      case measure => simp [intOf]; omega
                · obtain rfl : j = l.length := by omega
                  rw [List.take_length]
                  go_wp2
                  go_loop [9, 11] (fun a i => ∃ (j : Nat), j ≤ M.length ∧ i = .int .i64 j ∧ a = .bool (covB (M.take j) k)) (fun _ i => M.length - (intOf i).toNat)
                  case atStart => exact ⟨0, Nat.zero_le _, rfl, rfl⟩
                  case round =>
                    obtain ⟨j, hj, rfl, rfl⟩ := hrel
                    by_cases hlt : j < M.length
                    · obtain ⟨g1, o1, hg1, d1, d2⟩ := QM.out j hlt
                      cases hg1
                      have hcn : covB (M.take (j + 1)) k = (covB (M.take j) k || (decide (M[j].1 ≤ k) && decide (k ≤ M[j].2))) := covB_next hlt
                      have HCN : Hid (covB (M.take (j + 1)) k = (covB (M.take j) k || (decide (M[j].1 ≤ k) && decide (k ≤ M[j].2)))) := hcn
                      clear hcn
                      generalize M[j] = x at d1 d2 HCN
                      generalize hcv : covB (M.take j) k = cv at HCN
                      cases cv with
                      | true =>
                        go_wp2
                        go_round
                        case rel => exact ⟨j + 1, by omega, by go_num, by rw [HCN.out]; rfl⟩
                        case measure => simp [intOf]; omega
                      | false =>
                        by_cases h1 : x.1 ≤ k
                        · have f1 : decide (x.1 ≤ (k : Int)) = true := decide_eq_true h1
                          rw [f1] at HCN
                          by_cases h2 : k ≤ x.2
                          · have f2 : decide ((k : Int) ≤ x.2) = true := decide_eq_true h2
                            rw [f2] at HCN
                            go_wp2
                            go_round
                            case rel => exact ⟨j + 1, by omega, by go_num, by rw [HCN.out]; rfl⟩
                            case measure => simp [intOf]; omega
                          · have f2 : decide ((k : Int) ≤ x.2) = false := decide_eq_false h2
                            rw [f2] at HCN
                            go_wp2
                            go_round
                            case rel => exact ⟨j + 1, by omega, by go_num, by rw [HCN.out]; rfl⟩
                            case measure => simp [intOf]; omega
                        · have f1 : decide (x.1 ≤ (k : Int)) = false := decide_eq_false h1
                          rw [f1] at HCN
                          go_wp2
                          go_round
                          case rel => exact ⟨j + 1, by omega, by go_num, by rw [HCN.out]; rfl⟩
                          case measure => simp [intOf]; omega
                    · obtain rfl : j = M.length := by omega
                      rw [List.take_length]
                      have hcc := HC.out k
                      rw [← hcc]
                      generalize covB l k = cb
                      have dcc : (cb != cb) = false := by simp
                      go_wp2
                      go_round
                      case rel => exact ⟨k + 1, by omega, by go_num⟩
                      case measure => simp [intOf]; omega
            · obtain rfl : k = 40 := by omega
              go_wp2_with fail
              refine (iA _ _ G7.out).mono ?_
              rintro e w8 ⟨h8v, rfl, hh8, hb8⟩
              have B8 : Hid (Below w.heap.size w w8) := past8k B7.out hb8
              have L8 : Hid (Sls spnE w8 (.slice a1 l.length c1) l) := L7.out.kept hb8
              have G8 : Hid (Sls spnE w8 (.slice (some ⟨g2, o2, Option.none⟩) M.length c2) M) := G7.out.kept hb8
              have H8 : Hid (Sls spnE w8 h8v M) := hh8.sls
              clear hb8 hh8 B7 L7 G7 QM QL
              go_wp2_with fail
              refine (likeSp _ _ M _ H8.out G8.out (by omega)).mono ?_
              rintro e w9 ⟨rfl, hg9⟩
              have B9 : Hid (Below w.heap.size w w9) := past8k B8.out hg9.low
              have L9 : Hid (Sls spnE w9 (.slice a1 l.length c1) l) := L8.out.kept hg9.low
              clear hg9 B8 L8 G8 H8
              go_wp2_with fail
              refine (iT _ L9.out).mono ?_
              rintro e wa ⟨rfl, hba⟩
              have BA : Hid (Below w.heap.size w wa) := past8k B9.out hba
              have LA : Hid (Sls spnE wa (.slice a1 l.length c1) l) := L9.out.kept hba
              clear hba B9 L9
              by_cases hT1 : T = -1
              · have dT1 : (T == -1) = true := by simp [hT1]
                go_wp2
                go_ret
                exact ⟨rfl, BA.out⟩
              · have dT1 : (T == -1) = false := by simp [hT1]
                have hTS : T = S := HTS.out.resolve_left hT1
                subst hTS
                go_wp2_with fail
                refine (iT _ LA.out).mono ?_
                rintro e wb ⟨rfl, hbb⟩
                have BB : Hid (Below w.heap.size w wb) := past8k BA.out hbb
                clear hbb
                go_wp2
                go_ret
                exact ⟨rfl, BB.out⟩
end Go.Proofs.Ytamfgjgmnnnjpaa
