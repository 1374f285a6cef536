/-
  The library's heap over the heap of servers: down.
  The library's heap over the heap of servers: Push and Pop.
-/
import Derived.Test.YtdbeoloonoodkaaDoorG23
namespace Go.Proofs.YtdbeoloonoodkaaDoor.Ih
open Go.RowKit Go.Sort Ow
set_option linter.unusedVariables false
set_option linter.unusedSimpArgs false
variable {H : Hw}

set_option maxRecDepth 100000 in
set_option maxHeartbeats 8000000 in
theorem heapDown (b B g cap i0 n : Nat) (l : List Co) (w : World) (h : HpB H w B b l (.slice (some ⟨g, 0, none⟩) l.length cap)) (hl : l.length ≤ 100) (hi : i0 < l.length) (hnn : n ≤ l.length) (hn : Nm H l) (hu : Dn (aL l) n i0 i0) :
    Calls Tryd.prog 55 #[hpI b, .int .i64 (i0 : Int), .int .i64 (n : Int)] w fun e w' => ∃ m l', e = .returned (.bool m) ∧ HpB H w' B b l' (.slice (some ⟨g, 0, none⟩) l.length cap) ∧ l'.Perm l ∧ (∀ k, n ≤ k → l'[k]? = l[k]?) ∧ (m = true → Hp (aL l') n) ∧ (m = false → Up (aL l') n i0 ∧ l' = l) ∧ Below B w w' := by
  have HB0 : Hid (HpB H w B b l (.slice (some ⟨g, 0, none⟩) l.length cap)) := h
  have HN : Hid (Nm H l) := hn
  have HU : Hid (DnL l l n i0 i0) := ⟨hu, List.Perm.refl _, fun _ _ => rfl, fun _ => rfl⟩
  obtain ⟨N, hN⟩ : ∃ N, N = l.length := ⟨_, rfl⟩
  rw [← hN] at HB0 hl hi hnn ⊢
  have HNN : Hid (N = l.length) := hN
  unfold hpI
  have HX : Hid (∀ (i : Nat) (l' : List Co), i0 ≤ i → DnL l l' n i i0 → (∀ c, c < n → 0 < c → par c = i → aL l' c ≤ aL l' i) → l'.Perm l ∧ (∀ k, n ≤ k → l'[k]? = l[k]?) ∧ (decide (i0 < i) = true → Hp (aL l') n) ∧ (decide (i0 < i) = false → Up (aL l') n i0 ∧ l' = l)) := by
    intro i l' hge hd hx
    obtain ⟨h1, h2⟩ := hd.d.exit hx
    refine ⟨hd.p, hd.o, fun e => h2 (by have := of_decide_eq_true e; omega), fun e => ?_⟩
    have : ¬ i0 < i := of_decide_eq_false e
    have e2 : i = i0 := by omega
    exact ⟨e2 ▸ h1, hd.s e2⟩
  clear h hn hu hN
  go_enter Tryd.func55, Tryd.ntmps55
  go_wp2_with fail
  go_loopw [7] (fun iv wr => ∃ (i : Nat) (l' : List Co), iv = .int .i64 (i : Int) ∧ i0 ≤ i ∧ i < N ∧ Hid (HpB H wr B b l' (.slice (some ⟨g, 0, none⟩) N cap)) ∧ Hid (DnL l l' n i i0) ∧ Hid (Below B w wr)) (fun iv _ => N - (intOf iv).toNat)
  case atStart => exact ⟨i0, l, rfl, Nat.le_refl _, hi, HB0, HU, (show Hid _ from Below.refl _ _)⟩
  case round =>
    obtain ⟨i, l', rfl, hge, hiN, hp, hdn, hb⟩ := hrel
    have hlN : Hid (l'.length = N) := (show _ = _ from by rw [HNN.out]; exact hdn.out.p.length_eq)
    obtain ⟨c, hc⟩ : ∃ c, c = 2 * i + 1 := ⟨_, rfl⟩
    have hw1 : IntKind.i64.wrap (2 * (i : Int)) = 2 * (i : Int) := by rw [IntKind.wrap_i64]; omega
    have hw2 : IntKind.i64.wrap (2 * (i : Int) + 1) = (c : Int) := by rw [IntKind.wrap_i64]; omega
    have HC : Hid (c = 2 * i + 1) := hc
    have hci : i < c := by omega
    have hcb : c ≤ 201 := by omega
    by_cases hcn : n ≤ c
    · have HE := HX.out i l' hge hdn.out (fun q q1 q2 q3 => by
        have := kids q2 q3
        omega)
      have HEH : Hid _ := HE
      have hcn1 : (n : Int) ≤ (c : Int) := by omega
      clear hc HE
      go_wp2
      go_ret
      exact ⟨_, l', rfl, hp.out, HEH.out.1, HEH.out.2.1, HEH.out.2.2.1, HEH.out.2.2.2, hb.out⟩
    · obtain ⟨d, hd⟩ : ∃ d, d = c + 1 := ⟨_, rfl⟩
      have hw3 : IntKind.i64.wrap ((c : Int) + 1) = (d : Int) := by rw [IntKind.wrap_i64]; omega
      have hcn1 : ¬ (n : Int) ≤ (c : Int) := by omega
      have hpc : Hid (par c = i) := (show _ = _ from by rw [hc]; exact par_kid1 i)
      have hpd : Hid (par d = i) := (show _ = _ from by rw [hd, hc]; exact par_kid2 i)
      have hc0 : ¬ (c : Int) < 0 := by omega
      have hdi : i < d := by omega
      have HD : Hid (d = 2 * i + 2) := (show _ = _ from by omega)
      have hm := mthLess b
      obtain ⟨L2, hL2, hle2⟩ := lessHp hp.out hlN.out hl (show c < N by omega) hiN (HN.out.perm hdn.out.p)
      have HL2 : Hid (L2 = true ↔ aL l' i < aL l' c) := hL2
      clear hc hL2
      by_cases hdnn : d < n
      · have hdn1 : (d : Int) < (n : Int) := by omega
        obtain ⟨L1, hL1, hle1⟩ := lessHp hp.out hlN.out hl (show d < N by omega) (show c < N by omega) (HN.out.perm hdn.out.p)
        have HL1 : Hid (L1 = true ↔ aL l' c < aL l' d) := hL1
        clear hd hL1
        cases L1 with
        | true =>
          clear hle2
          have HBS : Hid (∀ q, q < n → 0 < q → par q = i → aL l' q ≤ aL l' d) := (show ∀ _, _ from fun q q1 q2 q3 => by
            have k1 := HL1.out.1 rfl
            have k2 := HC.out
            have k3 := HD.out
            rcases kids q2 q3 with e | e
            · rw [show q = c by omega]; omega
            · rw [show q = d by omega]; exact Int.le_refl _)
          go_wp2_with fail
          refine hle1.mono ?_
          rintro e wx ⟨rfl, hq1⟩
          have hp1 : Hid (HpB H wx B b l' (.slice (some ⟨g, 0, none⟩) N cap)) := (hp.out.past hb.out hq1).1
          have hb1 : Hid (Below B w wx) := (hp.out.past hb.out hq1).2
          clear hp hb hm HL2 hle1 hq1
          have hm1 := mthLess b
          obtain ⟨L3, hL3, hle3⟩ := lessHp hp1.out hlN.out hl (show d < N by omega) hiN (HN.out.perm hdn.out.p)
          have HL3 : Hid (L3 = true ↔ aL l' i < aL l' d) := hL3
          clear hL3
          cases L3 with
          | false =>
            have HE := HX.out i l' hge hdn.out (fun q q1 q2 q3 => by
              have k1 := HBS.out q q1 q2 q3
              have k2 := mt HL3.out.2 (by decide)
              omega)
            have HEH : Hid _ := HE
            clear HE
            go_wp2_with (go_at_call 87; refine hle3.mono ?_; rintro e w1 ⟨rfl, hq2⟩; have HQ : Hid (Below wx.heap.size wx w1) := hq2; clear hq2)
            go_ret
            exact ⟨_, l', rfl, (hp1.out.past hb1.out HQ.out).1, HEH.out.1, HEH.out.2.1, HEH.out.2.2.1, HEH.out.2.2.2, (hp1.out.past hb1.out HQ.out).2⟩
          | true =>
            have HS2 : Hid (DnL l (swpC l' i d) n d i0) := hdn.out.step (by rw [hlN.out]; exact hnn) hpd.out (by omega) (by omega) hge (HL3.out.1 rfl) HBS.out
            go_wp2_with (first | (go_at_call 87; refine hle3.mono ?_; rintro e wy ⟨rfl, hq2⟩; have hp2 : Hid (HpB H wy B b l' (.slice (some ⟨g, 0, none⟩) N cap)) := (hp1.out.past hb1.out hq2).1; have hb2 : Hid (Below B w wy) := (hp1.out.past hb1.out hq2).2; clear hp1 hb1 hm1 hle3 hq2; have hms := mthSwap b; have hsw := swapHp hp2.out hlN.out hl hiN (show d < N by omega)) | (go_at_call 90; refine hsw.mono ?_; rintro e w2 ⟨rfl, hp3, hb3⟩))
            go_roundw
            case rel => exact ⟨d, swpC l' i d, rfl, by omega, by omega, hp3, HS2, (show Hid _ from hb2.out.trans hb3)⟩
            case measure => simp [intOf]; omega
        | false =>
          have HBS : Hid (∀ q, q < n → 0 < q → par q = i → aL l' q ≤ aL l' c) := (show ∀ _, _ from fun q q1 q2 q3 => by
            have k1 := mt HL1.out.2 (by decide)
            have k2 := HC.out
            have k3 := HD.out
            rcases kids q2 q3 with e | e
            · rw [show q = c by omega]; exact Int.le_refl _
            · rw [show q = d by omega]; omega)
          clear hle2
          go_wp2_with fail
          refine hle1.mono ?_
          rintro e wx ⟨rfl, hq1⟩
          have hp1 : Hid (HpB H wx B b l' (.slice (some ⟨g, 0, none⟩) N cap)) := (hp.out.past hb.out hq1).1
          have hb1 : Hid (Below B w wx) := (hp.out.past hb.out hq1).2
          clear hp hb hm HL2 hle1 hq1
          have hm1 := mthLess b
          obtain ⟨L3, hL3, hle3⟩ := lessHp hp1.out hlN.out hl (show c < N by omega) hiN (HN.out.perm hdn.out.p)
          have HL3 : Hid (L3 = true ↔ aL l' i < aL l' c) := hL3
          clear hL3
          cases L3 with
          | false =>
            have HE := HX.out i l' hge hdn.out (fun q q1 q2 q3 => by
              have k1 := HBS.out q q1 q2 q3
              have k2 := mt HL3.out.2 (by decide)
              omega)
            have HEH : Hid _ := HE
            clear HE
            go_wp2_with (go_at_call 87; refine hle3.mono ?_; rintro e w1 ⟨rfl, hq2⟩; have HQ : Hid (Below wx.heap.size wx w1) := hq2; clear hq2)
            go_ret
            exact ⟨_, l', rfl, (hp1.out.past hb1.out HQ.out).1, HEH.out.1, HEH.out.2.1, HEH.out.2.2.1, HEH.out.2.2.2, (hp1.out.past hb1.out HQ.out).2⟩
          | true =>
            have HS2 : Hid (DnL l (swpC l' i c) n c i0) := hdn.out.step (by rw [hlN.out]; exact hnn) hpc.out (by omega) (by omega) hge (HL3.out.1 rfl) HBS.out
            go_wp2_with (first | (go_at_call 87; refine hle3.mono ?_; rintro e wy ⟨rfl, hq2⟩; have hp2 : Hid (HpB H wy B b l' (.slice (some ⟨g, 0, none⟩) N cap)) := (hp1.out.past hb1.out hq2).1; have hb2 : Hid (Below B w wy) := (hp1.out.past hb1.out hq2).2; clear hp1 hb1 hm1 hle3 hq2; have hms := mthSwap b; have hsw := swapHp hp2.out hlN.out hl hiN (show c < N by omega)) | (go_at_call 90; refine hsw.mono ?_; rintro e w2 ⟨rfl, hp3, hb3⟩))
            go_roundw
            case rel => exact ⟨c, swpC l' i c, rfl, by omega, by omega, hp3, HS2, (show Hid _ from hb2.out.trans hb3)⟩
            case measure => simp [intOf]; omega
      · have hdn1 : ¬ (d : Int) < (n : Int) := by omega
        clear hd
        have HBS : Hid (∀ q, q < n → 0 < q → par q = i → aL l' q ≤ aL l' c) := (show ∀ _, _ from fun q q1 q2 q3 => by
          have k2 := HC.out
          have k3 := HD.out
          rcases kids q2 q3 with e | e
          · rw [show q = c by omega]; exact Int.le_refl _
          · omega)
        clear hle2
        obtain ⟨wx, hwx⟩ : ∃ wx, wx = wr := ⟨wr, rfl⟩
        have hq1 : Below wr.heap.size wr wx := by rw [hwx]; exact Below.refl _ _
        rw [← hwx]
        clear hwx
        have hp1 : Hid (HpB H wx B b l' (.slice (some ⟨g, 0, none⟩) N cap)) := (hp.out.past hb.out hq1).1
        have hb1 : Hid (Below B w wx) := (hp.out.past hb.out hq1).2
        clear hp hb hm HL2 hq1
        have hm1 := mthLess b
        obtain ⟨L3, hL3, hle3⟩ := lessHp hp1.out hlN.out hl (show c < N by omega) hiN (HN.out.perm hdn.out.p)
        have HL3 : Hid (L3 = true ↔ aL l' i < aL l' c) := hL3
        clear hL3
        cases L3 with
        | false =>
          have HE := HX.out i l' hge hdn.out (fun q q1 q2 q3 => by
            have k1 := HBS.out q q1 q2 q3
            have k2 := mt HL3.out.2 (by decide)
            omega)
          have HEH : Hid _ := HE
          clear HE
          go_wp2_with (go_at_call 87; refine hle3.mono ?_; rintro e w1 ⟨rfl, hq2⟩; have HQ : Hid (Below wx.heap.size wx w1) := hq2; clear hq2)
          go_ret
          exact ⟨_, l', rfl, (hp1.out.past hb1.out HQ.out).1, HEH.out.1, HEH.out.2.1, HEH.out.2.2.1, HEH.out.2.2.2, (hp1.out.past hb1.out HQ.out).2⟩
        | true =>
          have HS2 : Hid (DnL l (swpC l' i c) n c i0) := hdn.out.step (by rw [hlN.out]; exact hnn) hpc.out (by omega) (by omega) hge (HL3.out.1 rfl) HBS.out
          go_wp2_with (first | (go_at_call 87; refine hle3.mono ?_; rintro e wy ⟨rfl, hq2⟩; have hp2 : Hid (HpB H wy B b l' (.slice (some ⟨g, 0, none⟩) N cap)) := (hp1.out.past hb1.out hq2).1; have hb2 : Hid (Below B w wy) := (hp1.out.past hb1.out hq2).2; clear hp1 hb1 hm1 hle3 hq2; have hms := mthSwap b; have hsw := swapHp hp2.out hlN.out hl hiN (show c < N by omega)) | (go_at_call 90; refine hsw.mono ?_; rintro e w2 ⟨rfl, hp3, hb3⟩))
          go_roundw
          case rel => exact ⟨c, swpC l' i c, rfl, by omega, by omega, hp3, HS2, (show Hid _ from hb2.out.trans hb3)⟩
          case measure => simp [intOf]; omega
end Go.Proofs.YtdbeoloonoodkaaDoor.Ih
namespace Go.Proofs.YtdbeoloonoodkaaDoor.Ih
open Go.RowKit Go.Sort Ow
set_option linter.unusedVariables false
set_option linter.unusedSimpArgs false
variable {H : Hw}

def isHp (l : List Co) : Prop := Hp (aL l) l.length
theorem HpB.open {w : World} {B b : Nat} {l : List Co} {v : Value} (h : HpB H w B b l v) (h0 : 0 < l.length) : ∃ g cap, v = .slice (some ⟨g, 0, none⟩) l.length cap := by
  obtain ⟨a, cap, rfl, _, _, h3⟩ := h.o.form
  rcases h3 with ⟨_, rfl⟩ | ⟨g, rfl⟩
  · obtain ⟨_, _, e, h1, _⟩ := h.o.form
    injection e with _ _ e3
    omega
  · exact ⟨g, cap, rfl⟩
theorem aL_append_else {l : List Co} {x : Co} {k : Nat} (h : k < l.length) : aL (l ++ [x]) k = aL l k := by
  unfold aL
  simp [List.getD, List.getElem?_append_left h]
theorem push_up {l : List Co} {x : Co} (h : isHp l) : Up (aL (l ++ [x])) (l ++ [x]).length l.length := by
  rw [List.length_append]
  refine ⟨fun k k0 kn kl => ?_, fun j0 c cn c0 cp => ?_⟩
  · have := par_lt k0
    simp at kn
    rw [aL_append_else (by omega), aL_append_else (by omega)]
    exact h k k0 (by omega)
  · have := par_lt c0
    simp at cn
    omega
set_option maxHeartbeats 1000000 in
theorem heapPush (b B : Nat) (l : List Co) (v : Value) (x : Co) (w : World) (h : HpB H w B b l v) (hl : l.length ≤ 90) (hn : Nm H (l ++ [x])) (hh : isHp l) :
    Calls Tryd.prog 38 #[hpI b, .iface 2 (.int .i64 x.1)] w fun e w' => e = .returned (.tuple #[]) ∧ ∃ l' v', HpB H w' B b l' v' ∧ l'.Perm (l ++ [x]) ∧ isHp l' ∧ Below B w w' := by
  have hm := mthPush b
  have hpu := implPushM b B l v x w h (by omega)
  have hup := fun g cap W (hW : HpB H W B b (l ++ [x]) (.slice (some ⟨g, 0, none⟩) (l ++ [x]).length cap)) => heapUp b B g cap l.length (l ++ [x]) W hW (by rw [List.length_append]; simp; omega) (by rw [List.length_append]; simp) hn (push_up hh)
  have hlx : (l ++ [x]).length = l.length + 1 := by rw [List.length_append]; rfl
  have HI : Hid (∀ l', l'.Perm (l ++ [x]) → Hp (aL l') (l ++ [x]).length → isHp l') := (show ∀ _, _ from fun l' p h => by show Hp _ _; rw [p.length_eq]; exact h)
  generalize l ++ [x] = m at hpu hup hlx HI ⊢
  have hw : IntKind.i64.wrap ((m.length : Int) - 1) = (l.length : Int) := by rw [IntKind.wrap_i64]; omega
  have hm0 : 0 < m.length := by omega
  unfold hpI at *
  clear h hn hh hlx
  go_enter Tryd.func38, Tryd.ntmps38
  go_wp2_with fail
  refine hpu.mono ?_
  rintro e w1 ⟨rfl, v1, hp1, hb1⟩
  obtain ⟨g, cap, rfl⟩ := hp1.open (by omega)
  have hm2 := mthLen b
  have hl1 := implLen b (some ⟨g, 0, none⟩) m.length cap w1 hp1.c
  have hup1 := hup g cap w1 hp1
  have HB1 : Hid _ := hb1
  clear hp1 hb1 hup hpu hm
  go_wp2_with fail
  refine hl1.mono ?_
  rintro e w' ⟨rfl, rfl⟩
  go_wp2_with fail
  refine hup1.mono ?_
  rintro e w2 ⟨rfl, l2, hp2, hpm2, hh2, hb2⟩
  have HP2 : Hid _ := hp2
  have HM2 : Hid _ := hpm2
  have HB2 : Hid (Below B w w2) := (show Hid _ from HB1.out.trans hb2)
  have HH : Hid (isHp l2) := HI.out l2 hpm2 hh2
  clear hp2 hpm2 hh2 hb2
  go_wp2
  go_returns
  exact ⟨rfl, l2, _, HP2.out, HM2.out, HH.out, HB2.out⟩
theorem swp_last {l : List Co} {n : Nat} (hn : l.length = n + 1) : (swpC l 0 n)[n]? = l[0]? := by
  unfold swpC
  have h0 : 0 < l.length := by omega
  have hn' : n < l.length := by omega
  simp [List.getElem?_set, hn', List.getD, h0]
theorem pop_dn {l : List Co} {n : Nat} (hn : l.length = n + 1) (h : isHp l) : Dn (aL (swpC l 0 n)) n 0 0 := by
  refine ⟨fun j j0 jn jp ji => ?_, fun h => absurd h (by decide), fun e => absurd rfl e⟩
  have := par_lt j0
  rw [swpC_else ji (by omega), swpC_else jp (by omega)]
  exact h j j0 (by omega)
/-- What is left behind the last one went: the rest of what was, but the front. -/
theorem pop_perm {l l' : List Co} {n : Nat} (hn : l.length = n + 1) (hp : l'.Perm (swpC l 0 n)) (ho : ∀ k, n ≤ k → l'[k]? = (swpC l 0 n)[k]?) (h0 : 0 < l.length) : (l[0] :: l'.take n).Perm l := by
  have hl : l'.length = n + 1 := by rw [hp.length_eq, swpC_length, hn]
  have e1 : l'[n]? = some l[0] := by
    rw [ho n (Nat.le_refl _), swp_last hn]
    simp [h0]
  have e2 : l' = l'.take n ++ [l[0]] := by
    have h3 := List.take_succ_eq_append_getElem (l := l') (i := n) (by omega)
    have h4 : l'[n]'(by omega) = l[0] := by
      have := List.getElem?_eq_getElem (l := l') (i := n) (by omega)
      rw [this] at e1
      injection e1
    rw [h4, List.take_of_length_le (by omega)] at h3
    exact h3
  have p1 : (l[0] :: l'.take n).Perm (l'.take n ++ [l[0]]) := (List.perm_append_comm (l₁ := l'.take n) (l₂ := [l[0]])).symm
  rw [← e2] at p1
  exact p1.trans (hp.trans (swpC_perm h0 (by omega)))
theorem aL_take {l : List Co} {n k : Nat} (h : k < n) : aL (l.take n) k = aL l k := by
  unfold aL
  simp [List.getD, List.getElem?_take, h]
theorem pop_last {l l' : List Co} {n : Nat} (hn : l.length = n + 1) (ho : ∀ k, n ≤ k → l'[k]? = (swpC l 0 n)[k]?) (h0 : 0 < l.length) (hl : n < l'.length) : l'[n] = l[0] := by
  have e1 : l'[n]? = some l[0] := by
    rw [ho n (Nat.le_refl _), swp_last hn]
    simp [h0]
  rw [List.getElem?_eq_getElem hl] at e1
  injection e1
set_option maxRecDepth 100000 in
set_option maxHeartbeats 2000000 in
theorem heapPop (b B : Nat) (l : List Co) (v : Value) (w : World) (h : HpB H w B b l v) (hl : l.length ≤ 90) (h0 : 0 < l.length) (hn : Nm H l) (hh : isHp l) :
    Calls Tryd.prog 40 #[hpI b] w fun e w' => e = .returned (.iface 2 (.int .i64 l[0].1)) ∧ ∃ l' v', HpB H w' B b l' v' ∧ (l[0] :: l').Perm l ∧ isHp l' ∧ Below B w w' := by
  obtain ⟨g, cap, rfl⟩ := h.open h0
  obtain ⟨n, hnl⟩ : ∃ n, l.length = n + 1 := ⟨l.length - 1, by omega⟩
  have hm := mthLen b
  have hms := mthSwap b
  have hsw := swapHp (i := 0) (j := n) h rfl (by omega) (by omega) (by omega)
  have hlen := implLen b (some ⟨g, 0, none⟩) l.length cap w h.c
  have hsl : (swpC l 0 n).length = l.length := swpC_length l 0 n
  have hsn : Nm H (swpC l 0 n) := hn.perm (swpC_perm h0 (by omega))
  have hdn := fun W (hW : HpB H W B b (swpC l 0 n) (.slice (some ⟨g, 0, none⟩) l.length cap)) => heapDown b B g cap 0 n (swpC l 0 n) W (by rw [hsl]; exact hW) (by rw [hsl]; omega) (by rw [hsl]; omega) (by rw [hsl]; omega) hsn (pop_dn hnl hh)
  rw [hsl] at hdn
  have HF : Hid (∀ (l' : List Co), l'.Perm (swpC l 0 n) → (∀ k, n ≤ k → l'[k]? = (swpC l 0 n)[k]?) → Hp (aL l') n → l'.length = n + 1 ∧ (l[0] :: l'.take n).Perm l ∧ isHp (l'.take n) ∧ ∀ h : n < l'.length, l'[n] = l[0]) := by
    intro l' hp ho hhp
    have e : l'.length = n + 1 := by rw [hp.length_eq, hsl, hnl]
    refine ⟨e, pop_perm hnl hp ho h0, fun k k0 kn => ?_, fun hh9 => pop_last hnl ho h0 hh9⟩
    rw [List.length_take] at kn
    have := par_lt k0
    rw [aL_take (by omega), aL_take (by omega)]
    exact hhp k k0 (by omega)
  have hw : IntKind.i64.wrap ((l.length : Int) - 1) = (n : Int) := by rw [IntKind.wrap_i64]; omega
  have HU : Hid (∀ l', Up (aL l') n 0 → Hp (aL l') n) := (show ∀ _, _ from fun l' hu => hu.exit (fun e => absurd e (by decide)))
  have HNL : Hid (l.length = n + 1) := hnl
  have hn9 : n < 90 := by omega
  unfold hpI at *
  clear h hnl hsl hsn hn hh
  go_enter Tryd.func40, Tryd.ntmps40
  go_wp2_with fail
  refine hlen.mono ?_
  rintro e w' ⟨rfl, rfl⟩
  go_wp2_with fail
  refine hsw.mono ?_
  rintro e w1 ⟨rfl, hp1, hb1⟩
  have hdn1 := hdn w1 hp1
  have HB1 : Hid _ := hb1
  clear hp1 hb1 hdn hm hms hsw
  go_wp2_with fail
  refine hdn1.mono ?_
  rintro e w2 ⟨m, l2, rfl, hp2, hpm2, ho2, h12, h22, hb2⟩
  have HH : Hp (aL l2) n := by
    cases m with
    | true => exact h12 rfl
    | false => exact HU.out l2 (h22 rfl).1
  obtain ⟨k1, k2, k3, k4⟩ := HF.out l2 hpm2 ho2 HH
  have hpo := implPopM b B l2 (.slice (some ⟨g, 0, none⟩) l.length cap) w2 hp2 (by omega) n k1
  rw [k4 (by omega)] at hpo
  have HB2 : Hid (Below B w w2) := (show Hid _ from HB1.out.trans hb2)
  have K2 : Hid _ := k2
  have K3 : Hid _ := k3
  have hm3 := mthPop b
  clear hp2 hpm2 ho2 h12 h22 hb2 HH k1 k2 k3 k4 hdn1
  go_wp2_with fail
  refine hpo.mono ?_
  rintro e w3 ⟨rfl, v3, hp3, hb3⟩
  have HP3 : Hid _ := hp3
  have HB3 : Hid (Below B w w3) := (show Hid _ from HB2.out.trans hb3)
  clear hp3 hb3 hpo
  go_wp2
  go_ret
  exact ⟨rfl, _, _, HP3.out, K2.out, K3.out, HB3.out⟩
end Go.Proofs.YtdbeoloonoodkaaDoor.Ih
