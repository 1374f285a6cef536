/-
  The library's heap over the heap of servers: down.
-/
import Derived.Test.YtdbeoloonoodkaaDoorIhC
namespace Go.Proofs.YtdbeoloonoodkaaDoor.Ih
open Go.RowKit Go.Sort Ow
set_option linter.unusedVariables false
set_option linter.unusedSimpArgs false
variable {H : Hw}

set_option maxRecDepth 100000 in
set_option maxHeartbeats 8000000 in
theorem heapDown (b B g cap i0 n : Nat) (l : List Co) (w : World) (h : HpB H w B b l (.slice (some ⟨g, 0, none⟩) l.length cap)) (hl : l.length ≤ 100) (hi : i0 < l.length) (hnn : n ≤ l.length) (hn : Nm H l) (hu : Dn (aL l) n i0 i0) :
    Calls Tryd.prog 55 #[hpI b, .int .i64 (i0 : Int), .int .i64 (n : Int)] w fun e w' => ∃ m l', e = .returned (.bool m) ∧ HpB H w' B b l' (.slice (some ⟨g, 0, none⟩) l.length cap) ∧ l'.Perm l ∧ (∀ k, n ≤ k → l'[k]? = l[k]?) ∧ (m = true → Hp (aL l') n) ∧ (m = false → Up (aL l') n i0 ∧ l' = l) ∧ Below B w w' := by
  have HB0 : Hid (HpB H w B b l (.slice (some ⟨g, 0, none⟩) l.length cap)) := h
  have HN : Hid (Nm H l) := hn
  have HU : Hid (DnL l l n i0 i0) := ⟨hu, List.Perm.refl _, fun _ _ => rfl, fun _ => rfl⟩
  obtain ⟨N, hN⟩ : ∃ N, N = l.length := ⟨_, rfl⟩
  rw [← hN] at HB0 hl hi hnn ⊢
  have HNN : Hid (N = l.length) := hN
  unfold hpI
  have HX : Hid (∀ (i : Nat) (l' : List Co), i0 ≤ i → DnL l l' n i i0 → (∀ c, c < n → 0 < c → par c = i → aL l' c ≤ aL l' i) → l'.Perm l ∧ (∀ k, n ≤ k → l'[k]? = l[k]?) ∧ (decide (i0 < i) = true → Hp (aL l') n) ∧ (decide (i0 < i) = false → Up (aL l') n i0 ∧ l' = l)) := by
    intro i l' hge hd hx
    obtain ⟨h1, h2⟩ := hd.d.exit hx
    refine ⟨hd.p, hd.o, fun e => h2 (by have := of_decide_eq_true e; omega), fun e => ?_⟩
    have : ¬ i0 < i := of_decide_eq_false e
    have e2 : i = i0 := by omega
    exact ⟨e2 ▸ h1, hd.s e2⟩
  clear h hn hu hN
  go_enter Tryd.func55, Tryd.ntmps55
  go_wp2_with fail
  go_loopw [7] (fun iv wr => ∃ (i : Nat) (l' : List Co), iv = .int .i64 (i : Int) ∧ i0 ≤ i ∧ i < N ∧ Hid (HpB H wr B b l' (.slice (some ⟨g, 0, none⟩) N cap)) ∧ Hid (DnL l l' n i i0) ∧ Hid (Below B w wr)) (fun iv _ => N - (intOf iv).toNat)
  case atStart => exact ⟨i0, l, rfl, Nat.le_refl _, hi, HB0, HU, (show Hid _ from Below.refl _ _)⟩
  case round =>
    obtain ⟨i, l', rfl, hge, hiN, hp, hdn, hb⟩ := hrel
    have hlN : Hid (l'.length = N) := (show _ = _ from by rw [HNN.out]; exact hdn.out.p.length_eq)
    obtain ⟨c, hc⟩ : ∃ c, c = 2 * i + 1 := ⟨_, rfl⟩
    have hw1 : IntKind.i64.wrap (2 * (i : Int)) = 2 * (i : Int) := by rw [IntKind.wrap_i64]; omega
    have hw2 : IntKind.i64.wrap (2 * (i : Int) + 1) = (c : Int) := by rw [IntKind.wrap_i64]; omega
    have HC : Hid (c = 2 * i + 1) := hc
    have hci : i < c := by omega
    have hcb : c ≤ 201 := by omega
    by_cases hcn : n ≤ c
    · have HE := HX.out i l' hge hdn.out (fun q q1 q2 q3 => by
        have := kids q2 q3
        omega)
      have HEH : Hid _ := HE
      have hcn1 : (n : Int) ≤ (c : Int) := by omega
      clear hc HE
      go_wp2
      go_ret
      exact ⟨_, l', rfl, hp.out, HEH.out.1, HEH.out.2.1, HEH.out.2.2.1, HEH.out.2.2.2, hb.out⟩
    · obtain ⟨d, hd⟩ : ∃ d, d = c + 1 := ⟨_, rfl⟩
      have hw3 : IntKind.i64.wrap ((c : Int) + 1) = (d : Int) := by rw [IntKind.wrap_i64]; omega
      have hcn1 : ¬ (n : Int) ≤ (c : Int) := by omega
      have hpc : Hid (par c = i) := (show _ = _ from by rw [hc]; exact par_kid1 i)
      have hpd : Hid (par d = i) := (show _ = _ from by rw [hd, hc]; exact par_kid2 i)
      have hc0 : ¬ (c : Int) < 0 := by omega
      have hdi : i < d := by omega
      have HD : Hid (d = 2 * i + 2) := (show _ = _ from by omega)
      have hm := mthLess b
      obtain ⟨L2, hL2, hle2⟩ := lessHp hp.out hlN.out hl (show c < N by omega) hiN (HN.out.perm hdn.out.p)
      have HL2 : Hid (L2 = true ↔ aL l' i < aL l' c) := hL2
      clear hc hL2
      by_cases hdnn : d < n
      · have hdn1 : (d : Int) < (n : Int) := by omega
        obtain ⟨L1, hL1, hle1⟩ := lessHp hp.out hlN.out hl (show d < N by omega) (show c < N by omega) (HN.out.perm hdn.out.p)
        have HL1 : Hid (L1 = true ↔ aL l' c < aL l' d) := hL1
        clear hd hL1
        cases L1 with
        | true =>
          clear hle2
          have HBS : Hid (∀ q, q < n → 0 < q → par q = i → aL l' q ≤ aL l' d) := (show ∀ _, _ from fun q q1 q2 q3 => by
            have k1 := HL1.out.1 rfl
            have k2 := HC.out
            have k3 := HD.out
            rcases kids q2 q3 with e | e
            · rw [show q = c by omega]; omega
            · rw [show q = d by omega]; exact Int.le_refl _)
          go_wp2_with fail
          refine hle1.mono ?_
          rintro e wx ⟨rfl, hq1⟩
          have hp1 : Hid (HpB H wx B b l' (.slice (some ⟨g, 0, none⟩) N cap)) := (hp.out.past hb.out hq1).1
          have hb1 : Hid (Below B w wx) := (hp.out.past hb.out hq1).2
          clear hp hb hm HL2 hle1 hq1
          have hm1 := mthLess b
          obtain ⟨L3, hL3, hle3⟩ := lessHp hp1.out hlN.out hl (show d < N by omega) hiN (HN.out.perm hdn.out.p)
          have HL3 : Hid (L3 = true ↔ aL l' i < aL l' d) := hL3
          clear hL3
          cases L3 with
          | false =>
            have HE := HX.out i l' hge hdn.out (fun q q1 q2 q3 => by
              have k1 := HBS.out q q1 q2 q3
              have k2 := mt HL3.out.2 (by decide)
              omega)
            have HEH : Hid _ := HE
            clear HE
            go_wp2_with (go_at_call 87; refine hle3.mono ?_; rintro e w1 ⟨rfl, hq2⟩; have HQ : Hid (Below wx.heap.size wx w1) := hq2; clear hq2)
            go_ret
            exact ⟨_, l', rfl, (hp1.out.past hb1.out HQ.out).1, HEH.out.1, HEH.out.2.1, HEH.out.2.2.1, HEH.out.2.2.2, (hp1.out.past hb1.out HQ.out).2⟩
          | true =>
            have HS2 : Hid (DnL l (swpC l' i d) n d i0) := hdn.out.step (by rw [hlN.out]; exact hnn) hpd.out (by omega) (by omega) hge (HL3.out.1 rfl) HBS.out
            go_wp2_with (first | (go_at_call 87; refine hle3.mono ?_; rintro e wy ⟨rfl, hq2⟩; have hp2 : Hid (HpB H wy B b l' (.slice (some ⟨g, 0, none⟩) N cap)) := (hp1.out.past hb1.out hq2).1; have hb2 : Hid (Below B w wy) := (hp1.out.past hb1.out hq2).2; clear hp1 hb1 hm1 hle3 hq2; have hms := mthSwap b; have hsw := swapHp hp2.out hlN.out hl hiN (show d < N by omega)) | (go_at_call 90; refine hsw.mono ?_; rintro e w2 ⟨rfl, hp3, hb3⟩))
            go_roundw
            case rel => exact ⟨d, swpC l' i d, rfl, by omega, by omega, hp3, HS2, (show Hid _ from hb2.out.trans hb3)⟩
            case measure => simp [intOf]; omega
        | false =>
          have HBS : Hid (∀ q, q < n → 0 < q → par q = i → aL l' q ≤ aL l' c) := (show ∀ _, _ from fun q q1 q2 q3 => by
            have k1 := mt HL1.out.2 (by decide)
            have k2 := HC.out
            have k3 := HD.out
            rcases kids q2 q3 with e | e
            · rw [show q = c by omega]; exact Int.le_refl _
            · rw [show q = d by omega]; omega)
          clear hle2
          go_wp2_with fail
          refine hle1.mono ?_
          rintro e wx ⟨rfl, hq1⟩
          have hp1 : Hid (HpB H wx B b l' (.slice (some ⟨g, 0, none⟩) N cap)) := (hp.out.past hb.out hq1).1
          have hb1 : Hid (Below B w wx) := (hp.out.past hb.out hq1).2
          clear hp hb hm HL2 hle1 hq1
          have hm1 := mthLess b
          obtain ⟨L3, hL3, hle3⟩ := lessHp hp1.out hlN.out hl (show c < N by omega) hiN (HN.out.perm hdn.out.p)
          have HL3 : Hid (L3 = true ↔ aL l' i < aL l' c) := hL3
          clear hL3
          cases L3 with
          | false =>
            have HE := HX.out i l' hge hdn.out (fun q q1 q2 q3 => by
              have k1 := HBS.out q q1 q2 q3
              have k2 := mt HL3.out.2 (by decide)
              omega)
            have HEH : Hid _ := HE
            clear HE
            go_wp2_with (go_at_call 87; refine hle3.mono ?_; rintro e w1 ⟨rfl, hq2⟩; have HQ : Hid (Below wx.heap.size wx w1) := hq2; clear hq2)
            go_ret
            exact ⟨_, l', rfl, (hp1.out.past hb1.out HQ.out).1, HEH.out.1, HEH.out.2.1, HEH.out.2.2.1, HEH.out.2.2.2, (hp1.out.past hb1.out HQ.out).2⟩
          | true =>
            have HS2 : Hid (DnL l (swpC l' i c) n c i0) := hdn.out.step (by rw [hlN.out]; exact hnn) hpc.out (by omega) (by omega) hge (HL3.out.1 rfl) HBS.out
            go_wp2_with (first | (go_at_call 87; refine hle3.mono ?_; rintro e wy ⟨rfl, hq2⟩; have hp2 : Hid (HpB H wy B b l' (.slice (some ⟨g, 0, none⟩) N cap)) := (hp1.out.past hb1.out hq2).1; have hb2 : Hid (Below B w wy) := (hp1.out.past hb1.out hq2).2; clear hp1 hb1 hm1 hle3 hq2; have hms := mthSwap b; have hsw := swapHp hp2.out hlN.out hl hiN (show c < N by omega)) | (go_at_call 90; refine hsw.mono ?_; rintro e w2 ⟨rfl, hp3, hb3⟩))
            go_roundw
            case rel => exact ⟨c, swpC l' i c, rfl, by omega, by omega, hp3, HS2, (show Hid _ from hb2.out.trans hb3)⟩
            case measure => simp [intOf]; omega
      · have hdn1 : ¬ (d : Int) < (n : Int) := by omega
        clear hd
        have HBS : Hid (∀ q, q < n → 0 < q → par q = i → aL l' q ≤ aL l' c) := (show ∀ _, _ from fun q q1 q2 q3 => by
          have k2 := HC.out
          have k3 := HD.out
          rcases kids q2 q3 with e | e
          · rw [show q = c by omega]; exact Int.le_refl _
          · omega)
        clear hle2
        obtain ⟨wx, hwx⟩ : ∃ wx, wx = wr := ⟨wr, rfl⟩
        have hq1 : Below wr.heap.size wr wx := by rw [hwx]; exact Below.refl _ _
        rw [← hwx]
        clear hwx
        have hp1 : Hid (HpB H wx B b l' (.slice (some ⟨g, 0, none⟩) N cap)) := (hp.out.past hb.out hq1).1
        have hb1 : Hid (Below B w wx) := (hp.out.past hb.out hq1).2
        clear hp hb hm HL2 hq1
        have hm1 := mthLess b
        obtain ⟨L3, hL3, hle3⟩ := lessHp hp1.out hlN.out hl (show c < N by omega) hiN (HN.out.perm hdn.out.p)
        have HL3 : Hid (L3 = true ↔ aL l' i < aL l' c) := hL3
        clear hL3
        cases L3 with
        | false =>
          have HE := HX.out i l' hge hdn.out (fun q q1 q2 q3 => by
            have k1 := HBS.out q q1 q2 q3
            have k2 := mt HL3.out.2 (by decide)
            omega)
          have HEH : Hid _ := HE
          clear HE
          go_wp2_with (go_at_call 87; refine hle3.mono ?_; rintro e w1 ⟨rfl, hq2⟩; have HQ : Hid (Below wx.heap.size wx w1) := hq2; clear hq2)
          go_ret
          exact ⟨_, l', rfl, (hp1.out.past hb1.out HQ.out).1, HEH.out.1, HEH.out.2.1, HEH.out.2.2.1, HEH.out.2.2.2, (hp1.out.past hb1.out HQ.out).2⟩
        | true =>
          have HS2 : Hid (DnL l (swpC l' i c) n c i0) := hdn.out.step (by rw [hlN.out]; exact hnn) hpc.out (by omega) (by omega) hge (HL3.out.1 rfl) HBS.out
          go_wp2_with (first | (go_at_call 87; refine hle3.mono ?_; rintro e wy ⟨rfl, hq2⟩; have hp2 : Hid (HpB H wy B b l' (.slice (some ⟨g, 0, none⟩) N cap)) := (hp1.out.past hb1.out hq2).1; have hb2 : Hid (Below B w wy) := (hp1.out.past hb1.out hq2).2; clear hp1 hb1 hm1 hle3 hq2; have hms := mthSwap b; have hsw := swapHp hp2.out hlN.out hl hiN (show c < N by omega)) | (go_at_call 90; refine hsw.mono ?_; rintro e w2 ⟨rfl, hp3, hb3⟩))
          go_roundw
          case rel => exact ⟨c, swpC l' i c, rfl, by omega, by omega, hp3, HS2, (show Hid _ from hb2.out.trans hb3)⟩
          case measure => simp [intOf]; omega
end Go.Proofs.YtdbeoloonoodkaaDoor.Ih
