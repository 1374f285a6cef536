/-
  The specification's ReplicaOk of one that is not Normal; and whole.
  What a replica of a call lives in; the walk of FnExactReplicaOk, given the program's ReplicaOk.
  A slice that lies anywhere, nil or not, appended to a row of one's own.
-/
import Derived.Test.YtlngleinegkoeaaGreatT29
import Derived.Test.YtlngleinegkoeaaGreatT22
import Derived.Test.YtlngleinegkoeaaGreatT28
import Derived.Deep.RegionWith
import Derived.Deep.DeepCutAuto
import Derived.Deep.Cut
import Derived.Deep.CutRange
import Derived.Test.YtlngleinegkoeaaGreatT13
import Derived.Tactics
namespace Go.Proofs.YtlngleinegkoeaaGreat.Rl
open Go.RowKit Go.Sort Pg Sk
set_option linter.unusedVariables false
set_option linter.unusedSimpArgs false

theorem mem_next {l : List Int} {x : Int} {k : Nat} (hk : k < l.length) : x ∈ l.take (k + 1) ↔ x ∈ l.take k ∨ l[k] = x := by
  rw [List.take_succ_eq_append_getElem hk, List.mem_append, List.mem_singleton]
  exact or_congr Iff.rfl eq_comm
set_option maxRecDepth 100000 in
set_option maxHeartbeats 16000000 in
theorem rokTailF (r : Rp) (u : Rv) (w W : World) (s : Nat → Value) (s1 : s 1 = .pointer (some ⟨w.heap.size, 0, none⟩)) (s2 : s 2 = .bool false) (s3 : s 3 = .bool (dB (mine r))) (h : Rk r u w W) (hn : r.n = false) :
    Code.wp Tryz.prog rok4 (bodyPost Tryz.prog Tryz.f20 fun e w' => e = .returned (.bool (dB (RpOk r))) ∧ Below w.heap.size w w') (frK s) W := by
  have HF : Hid (¬ RpOk r → ∀ b, b = false → Ending.returned (.bool b) = .returned (.bool (dB (RpOk r)))) := (show _ → ∀ _, _ from fun h1 b h2 => by rw [h2, dB_no h1])
  have HE : Hid (∀ b, (RpOk r ↔ b = true) → Ending.returned (.bool b) = .returned (.bool (dB (RpOk r)))) := (show ∀ _, _ from fun b h1 => by rw [dB_iff h1])
  have HR : Hid (RpOk r ↔ OkP r ∧ ChP r ∧ TeP r) := h.rok
  obtain ⟨oa, oc, hvo⟩ := Sls.slen0 h.got.ok
  obtain ⟨ca, cc, hvc, o1, o2, o3⟩ := h.got.ch.one
  obtain ⟨ta, tc, hvt⟩ := Sls.slen0 h.got.te.1
  rw [h.got.tlen] at hvt
  unfold maxLen at o2
  have hfo := h.fit.ok
  have hft := h.fit.te.1
  have hid := h.id
  have HPP : Hid (pOk r.p) := h.p
  have HS : Hid (∀ m ∈ r.te, ∀ x ∈ m.l, x.size ≤ 1048576) := fun m hm => (h.fit.te.2 m hm).2
  have O3 : Hid (0 < r.ch.length → ∃ g o, ca = some ⟨g, o, none⟩ ∧ g < w.heap.size ∧ ∀ j (hj : j < r.ch.length), w.cell? ⟨g, o + j, none⟩ = some (.int .i64 r.ch[j])) := o3
  have BB : Hid (Below w.heap.size w W) := h.low
  have HB : Hid (RpB W w.heap.size r u) := h.b
  have HG : Hid (RpGot w u r) := h.got
  have VC : Hid (u.ch = .slice ca r.ch.length cc) := hvc
  have VT : Hid (u.te = .slice ta r.te.length tc) := hvt
  have VO : Hid (u.ok = .slice oa r.ok.length oc) := hvo
  obtain ⟨c0, c1, c2, c3, c4, c5, c6, c7, c8, c9⟩ := HB.out.cells
  rw [hn] at c3
  rw [hvc] at c8
  have HN : Hid (r.n = false) := hn
  have HNL : Hid (¬ leads r) := (show ¬ _ from fun hl => by have := hl.1; rw [HN.out] at this; cases this)
  have HOK : Hid (OkP r ↔ r.ok = []) := (show _ ↔ _ from ⟨fun hh => hh.2 HNL.out, fun hh => ⟨fun hl => absurd hl HNL.out, fun _ => hh⟩⟩)
  clear h o3 hvo hvc hvt c2 c4 c5 c6 c7 c9 hn
  have K0 : Hid _ := c0
  have K1 : Hid _ := c1
  have K8 : Hid _ := c8
  conv => arg 2; whnf
  unfold frK
  go_wp2_with fail
  clear c0 c1 c3 c8
  go_loopw [5, 6] (fun b i wr => ∃ k : Nat, k ≤ r.ch.length ∧ i = .int .i64 k ∧ b = .bool (decide (r.id ∈ r.ch.take k)) ∧ Hid (Below W.heap.size W wr)) (fun _ i _ => r.ch.length - (intOf i).toNat)
  case atStart => exact ⟨0, Nat.zero_le _, rfl, by simp, (show Hid _ from Below.refl _ _)⟩
  case round =>
    obtain ⟨k, hk, rfl, rfl, hb⟩ := hrel
    have B3 : Hid (Below w.heap.size w wr) := (show Hid _ from BB.out.trans (hb.out.mono BB.out.size))
    have d0 := (hb.out.cell (p := ⟨w.heap.size, 0, none⟩) (cell_ltR K0.out)).trans K0.out
    have d8 := (hb.out.cell (p := ⟨w.heap.size, 8, none⟩) (cell_ltR K8.out)).trans K8.out
    by_cases hlt : k < r.ch.length
    · obtain ⟨g, o, rfl, hg, hc⟩ := O3.out (by omega)
      have cx := (B3.out.cell (p := ⟨g, o + k, none⟩) hg).trans (hc k hlt)
      have hki : (k : Int) < (r.ch.length : Int) := by omega
      by_cases hm : r.id ∈ r.ch.take k
      · have HM : Hid (decide (r.id ∈ r.ch.take (k + 1)) = true) := decide_eq_true ((mem_next hlt).2 (.inl hm))
        rw [decide_eq_true hm]
        clear hm hc
        generalize r.ch[k] = x at cx

        go_upto_region 21 with fail
        go_quiet (fail)
        have BN : Hid (Below wr.heap.size wr (wr.drewN nq)) := (show Hid _ from ⟨rfl, rfl, rfl, Nat.le_refl _, fun _ _ => rfl⟩)
        generalize wr.drewN nq = W4 at BN ⊢
        have B4 : Hid (Below W.heap.size W W4) := (show Hid _ from hb.out.trans (BN.out.mono hb.out.size))
        clear d0 d8 cx
        go_wp2_with fail
        go_roundw
        case rel => exact ⟨k + 1, by omega, by go_num, by rw [HM.out], B4⟩
        case measure => simp [intOf]; omega
      · have HM : Hid (decide (r.id ∈ r.ch.take (k + 1)) = (r.ch[k] == r.id)) := (show _ = _ by
          by_cases he : r.ch[k] = r.id
          · rw [decide_eq_true ((mem_next hlt).2 (.inr he)), he]; simp
          · rw [decide_eq_false (fun hh => by rcases (mem_next hlt).1 hh with h1 | h1; exact hm h1; exact he h1)]
            simp [he])
        rw [decide_eq_false hm]
        clear hm hc
        generalize r.ch[k] = x at cx HM

        go_upto_region 21 with fail
        go_quiet (fail)
        have BN : Hid (Below wr.heap.size wr (wr.drewN nq)) := (show Hid _ from ⟨rfl, rfl, rfl, Nat.le_refl _, fun _ _ => rfl⟩)
        generalize wr.drewN nq = W4 at BN ⊢
        have B4 : Hid (Below W.heap.size W W4) := (show Hid _ from hb.out.trans (BN.out.mono hb.out.size))
        clear d0 d8 cx
        go_wp2_with fail
        go_roundw
        case rel => exact ⟨k + 1, by omega, by go_num, by rw [HM.out], B4⟩
        case measure => simp [intOf]; omega
    · obtain rfl : k = r.ch.length := by omega
      have htk : r.ch.take r.ch.length = r.ch := List.take_of_length_le (Nat.le_refl _)
      rw [htk]
      obtain ⟨w3, rfl⟩ : ∃ z, z = wr := ⟨wr, rfl⟩
      have HB3 : Hid (RpB w3 w.heap.size r u) := (show Hid _ from HB.out.kept hb.out)
      clear d0 d8 hb K0 K1 K8 HB BB
      obtain ⟨c0, c1, c2, c3, c4, c5, c6, c7, c8, c9⟩ := HB3.out.cells
      rw [VO.out] at c7
      rw [VC.out] at c8
      rw [VT.out] at c9
      clear c0 c2 c3 c4 c5 c6
      by_cases h0 : 0 < r.ok.length
      · have HV : Hid (¬ RpOk r) := (show ¬ _ from fun hh => by
          have := HOK.out.1 (HR.out.1 hh).1
          rw [this] at h0
          simp at h0)
        have hoi : (0 : Int) < (r.ok.length : Int) := by omega
        generalize r.ok.length = no at c7 h0 hoi
        go_wp2
        go_ret
        exact ⟨HF.out HV.out _ rfl, B3.out⟩
      have HO0 : Hid (OkP r) := HOK.out.2 (List.eq_nil_of_length_eq_zero (by omega))
      have hoz : r.ok.length = 0 := by omega
      rw [hoz] at c7
      clear hoz h0
      by_cases hm : ¬ (r.id ∈ r.ch)
      · have HV : Hid (¬ RpOk r) := (show ¬ _ from fun hh => hm ((HR.out.1 hh).2.1.2 HN.out).1)
        rw [decide_eq_false hm]
        clear hm
        go_wp2
        go_ret
        exact ⟨HF.out HV.out _ rfl, B3.out⟩
      replace hm : r.id ∈ r.ch := Decidable.not_not.1 hm
      rw [decide_eq_true hm]
      have HM : Hid (r.id ∈ r.ch) := hm
      clear hm
      have jr := fun W (hW : Below w.heap.size w W) => specRs u.ch r.ch r.p W (HG.out.ch.kept hW) HPP.out
      rw [VC.out] at jr
      go_wp2_with fail
      refine (jr _ B3.out).mono ?_
      rintro e w4 ⟨rfl, hb⟩
      have B4 : Hid (Below w.heap.size w w4) := (show Hid _ from B3.out.trans (hb.mono B3.out.size))
      have HB4 : Hid (RpB w4 w.heap.size r u) := (show Hid _ from HB3.out.kept hb)
      clear hb c1 c7 c8 c9 jr HB3 B3
      cases hr : dB (r.ch.Pairwise (· < ·) ∧ ∀ x ∈ r.ch, 0 ≤ x ∧ x < r.p) with
      | false =>
        have HV : Hid (¬ RpOk r) := (show ¬ _ from fun hh => dB_not hr ((HR.out.1 hh).2.1.2 HN.out).2)
        clear hr
        go_wp2
        go_ret
        exact ⟨HF.out HV.out _ rfl, B4.out⟩
      | true =>
      have HCH : Hid (ChP r) := ⟨fun e => (by rw [HN.out] at e; cases e), fun _ => ⟨HM.out, dB_is hr⟩⟩
      clear hr
      obtain ⟨c0, c1, c2, c3, c4, c5, c6, c7, c8, c9⟩ := HB4.out.cells
      rw [VT.out] at c9
      have K9 : Hid _ := c9
      clear c0 c1 c2 c3 c4 c5 c6 c7 c8
      by_cases hmi : ¬ (mine r)
      · have hdm : dB (mine r) = false := dB_no hmi
        by_cases ht : 0 < r.te.length
        · have HV : Hid (¬ RpOk r) := (show ¬ _ from fun hh => by
            have := (HR.out.1 hh).2.2.1 (.inr hmi)
            rw [this] at ht
            simp at ht)
          have hti : (0 : Int) < (r.te.length : Int) := by omega
          clear hmi K9
          generalize r.te.length = nt at c9 ht hti
          go_wp2
          go_ret
          exact ⟨HF.out HV.out _ rfl, B4.out⟩
        · have HV : Hid (RpOk r) := HR.out.2 ⟨HO0.out, HCH.out, ⟨fun _ => List.eq_nil_of_length_eq_zero (by omega), fun _ hmm => absurd hmm hmi⟩⟩
          have hz : r.te.length = 0 := by omega
          clear hmi
          rw [hz] at c9
          clear ht hft hz
          go_wp2_with fail
          go_loopw [7] (fun i wr => i = .int .i64 0 ∧ Hid (Below w4.heap.size w4 wr)) (fun i _ => 0)
          case atStart => exact ⟨rfl, (show Hid _ from Below.refl _ _)⟩
          case round =>
            obtain ⟨rfl, hb⟩ := hrel
            have d9 := (hb.out.cell (p := ⟨w.heap.size, 9, none⟩) (cell_ltR c9)).trans c9
            have B5 : Hid (Below w.heap.size w wr) := (show Hid _ from B4.out.trans (hb.out.mono B4.out.size))
            go_wp2
            go_ret
            exact ⟨HE.out _ ⟨fun _ => rfl, fun _ => HV.out⟩, B5.out⟩
      replace hmi : mine r := Classical.not_not.1 hmi
      have hdm : dB (mine r) = true := dB_yes hmi
      have HMI : Hid (mine r) := hmi
      clear hmi
      go_wp2_with fail
      clear c9
      go_loopw [7] (fun i wr => ∃ k : Nat, k ≤ r.te.length ∧ i = .int .i64 k ∧ Hid (TeS r k) ∧ Hid (Below w4.heap.size w4 wr)) (fun i _ => r.te.length - (intOf i).toNat)
      case atStart => exact ⟨0, Nat.zero_le _, rfl, (show Hid _ from TeS.zero _), (show Hid _ from Below.refl _ _)⟩
      case round =>
        obtain ⟨k, hk, rfl, hst, hb4⟩ := hrel
        have hb : Hid (Below w.heap.size w wr) := (show Hid _ from B4.out.trans (hb4.out.mono B4.out.size))
        have d9 := (hb4.out.cell (p := ⟨w.heap.size, 9, none⟩) (cell_ltR K9.out)).trans K9.out
        by_cases hlt : k < r.te.length
        · have HG2 := HG.out.kept hb.out
          have HB2 := HB4.out.kept hb4.out
          obtain ⟨x, hxT, hxm, hkT, hxk⟩ := HG2.at hlt
          have hxk := hxk hkT
          have HT2 := HG2.te.1
          rw [VT.out, ← HG2.tlen] at HT2
          obtain ⟨g, q, rfl⟩ := mxAt HT2 (by omega)
          have CK := mxCells HT2 hkT
          rw [hxk] at CK
          have ml := HG2.te.2 x hxT
          have HXX : Hid (bef1 (r.te.map (·.f)) k < r.te[k].f → TeOk r.te[k] r → TeS r (k + 1)) := (show _ → _ → _ from fun h1 h2 => hst.out.next hlt h1 h2)
          have HNo : Hid (¬ (bef1 (r.te.map (·.f)) k < r.te[k].f ∧ TeOk r.te[k] r) → ¬ RpOk r) := (show _ → ¬ _ from fun hb hte => hst.out.bad hlt hb ((HR.out.1 hte).2.2.2 HN.out HMI.out))
          have hsx := HS.out _ (List.getElem_mem hlt)
          have hki : (k : Int) < (r.te.length : Int) := by omega
          have HBF : Hid (∀ (h0 : 0 < k) (hkp : k - 1 < u.T.length), bef1 (r.te.map (·.f)) k = u.T[k - 1].m.f) := (show ∀ _ _, _ from fun h0 hkp => by
            obtain ⟨y, _, hym, hyT, hyk⟩ := HG2.at (k := k - 1) (by omega)
            rw [hyk hkp, hym]
            have := bef1_map (r := r) (k := k - 1) (by omega)
            rw [show k - 1 + 1 = k by omega] at this
            exact this)
          have CP : Hid (∀ (h0 : 0 < k), ∃ f0, wr.cell? ⟨g, q + (k - 1) * 7 + 1, none⟩ = some (.int .i64 f0) ∧ bef1 (r.te.map (·.f)) k = f0) := (show ∀ _, _ from fun h0 => ⟨_, (mxCells HT2 (j := k - 1) (by omega)).2.1, HBF.out h0 (by omega)⟩)
          have hk0f : k = 0 → bef1 (r.te.map (·.f)) k = -1 := fun h0 => by rw [h0]; rfl
          rw [← hxm] at HXX HNo hsx
          obtain ⟨mm, px, cx⟩ := x
          unfold Mx.u at CK
          unfold Mx.u MsGot at ml
          simp only at CK ml HXX HNo hsx
          obtain ⟨k0, k1, k2, k3, k4, k5, k6⟩ := CK
          have HM2 : Hid (Sls txtE wr (.slice px mm.l.length cx) mm.l) := ml
          have HB3 : Hid (RpB wr w.heap.size r u) := HB2
          have HTL : Hid (u.T.length = r.te.length) := HG2.tlen
          rw [HTL.out] at *
          clear HG2 HB2 ml hxT hxm hkT hxk HBF
          go_upto_region 28 with fail
          clear k0 k1 k2 k3 k4 k5 k6
          have XB : Hid (Bx (wr.alloc (.cells #[.int .i64 mm.k, .int .i64 mm.f, .int .i64 mm.t, .int .i64 mm.v, .int .i64 mm.la, .slice px mm.l.length cx, .int .i64 mm.c] 30)) wr.heap.size 30 #[.int .i64 mm.k, .int .i64 mm.f, .int .i64 mm.t, .int .i64 mm.v, .int .i64 mm.la, .slice px mm.l.length cx, .int .i64 mm.c]) := (show Hid _ from Bx.new _ _ _)
          have HB5 : Hid (RpB (wr.alloc (.cells #[.int .i64 mm.k, .int .i64 mm.f, .int .i64 mm.t, .int .i64 mm.v, .int .i64 mm.la, .slice px mm.l.length cx, .int .i64 mm.c] 30)) w.heap.size r u) := (show Hid _ from Bx.alloc HB3.out _)
          have HM4 : Hid (Sls txtE (wr.alloc (.cells #[.int .i64 mm.k, .int .i64 mm.f, .int .i64 mm.t, .int .i64 mm.v, .int .i64 mm.la, .slice px mm.l.length cx, .int .i64 mm.c] 30)) (.slice px mm.l.length cx) mm.l) := (show Hid _ from Sls.kept HM2.out ((Below.refl _ wr).alloc (Nat.le_refl _) _))
          have B5 : Hid (Below w4.heap.size w4 (wr.alloc (.cells #[.int .i64 mm.k, .int .i64 mm.f, .int .i64 mm.t, .int .i64 mm.v, .int .i64 mm.la, .slice px mm.l.length cx, .int .i64 mm.c] 30))) := (show Hid _ from hb4.out.alloc hb4.out.size _)
          have CPZ : Hid (∀ (h0 : 0 < k), ∃ f0, (wr.alloc (.cells #[.int .i64 mm.k, .int .i64 mm.f, .int .i64 mm.t, .int .i64 mm.v, .int .i64 mm.la, .slice px mm.l.length cx, .int .i64 mm.c] 30)).cell? ⟨g, q + (k - 1) * 7 + 1, none⟩ = some (.int .i64 f0) ∧ bef1 (r.te.map (·.f)) k = f0) := (show ∀ _, _ from fun h0 => by
            obtain ⟨f0, h1, h2⟩ := CP.out h0
            exact ⟨f0, (((Below.refl _ wr).alloc (Nat.le_refl _) _).cell (p := ⟨g, q + (k - 1) * 7 + 1, none⟩) (cell_ltR h1)).trans h1, h2⟩)
          have d9z : (wr.alloc (.cells #[.int .i64 mm.k, .int .i64 mm.f, .int .i64 mm.t, .int .i64 mm.v, .int .i64 mm.la, .slice px mm.l.length cx, .int .i64 mm.c] 30)).cell? ⟨w.heap.size, 9, none⟩ = some (.slice (some ⟨g, q, none⟩) r.te.length tc) := (((Below.refl _ wr).alloc (Nat.le_refl _) _).cell (p := ⟨w.heap.size, 9, none⟩) (cell_ltR d9)).trans d9
          generalize (wr.alloc (.cells #[.int .i64 mm.k, .int .i64 mm.f, .int .i64 mm.t, .int .i64 mm.v, .int .i64 mm.la, .slice px mm.l.length cx, .int .i64 mm.c] 30)) = wz at XB HB5 HM4 B5 CPZ d9z ⊢
          have n0 := cell_regrown (XB.out.cell 0)
          have n1 := cell_regrown (XB.out.cell 1)
          have n2 := cell_regrown (XB.out.cell 2)
          have n3 := cell_regrown (XB.out.cell 3)
          have n4 := cell_regrown (XB.out.cell 4)
          have n5 := cell_regrown (XB.out.cell 5)
          have n6 := cell_regrown (XB.out.cell 6)
          have r0 := cell_regrown HB5.out.cells.1
          have r1 := cell_regrown HB5.out.cells.2.1
          have r2 := cell_regrown HB5.out.cells.2.2.1
          have r9 := cell_regrown d9z
          have jm := fun W (hW : Below wz.heap.size wz W) => specMok mm (.slice px mm.l.length cx) r.p W (Sls.kept HM4.out hW) hsx HPP.out
          unfold msA at jm
          have j1 : ∀ d os, Calls Tryz.prog 102 #[.agg #[.int .i64 mm.k, .int .i64 mm.f, .int .i64 mm.t, .int .i64 mm.v, .int .i64 mm.la, .slice px mm.l.length cx, .int .i64 mm.c], .int .i64 r.p] (grow (redrawn wz d) os) fun e w'' => e = .returned (.bool (msB mm r.p)) ∧ ∃ p : Regrown, w'' = grow (redrawn wz p.d) p.os := fun d os => Calls.regrown_of (jm _ (below_regrown wz d os))
          clear jm hsx d9 CP d9z

          by_cases d1 : ¬ mm.k = 4
          · have e1 : (mm.k != 4) = true := by simpa using d1
            go_upto_region 28 with fail
            refine wp_region_quiet_below (by kernel_rfl) (by kernel_rfl) ?_
            repeat (go_big_quiet_step (first | (with_reducible exact j1 _ _)))
            refine wpQuiet_nil ?_
            intro _ hw'
            obtain ⟨⟨dq, osq⟩, hw''⟩ := hw'
            subst hw''
            have BN : Hid (Below wz.heap.size wz (grow (redrawn wz dq) osq)) := (show Hid _ from below_regrown wz dq osq)
            generalize grow (redrawn wz dq) osq = w6 at BN ⊢
            have B6 : Hid (Below w.heap.size w w6) := (show Hid _ from B4.out.trans ((B5.out.trans (BN.out.mono B5.out.size)).mono B4.out.size))
            go_wp2
            go_ret
            exact ⟨HF.out (HNo.out (fun hh => d1 hh.2.k)) _ rfl, B6.out⟩
          replace d1 : mm.k = 4 := Decidable.not_not.1 d1
          have e1 : (mm.k != 4) = false := by simpa using d1
          by_cases d2 : ¬ mm.t = r.id
          · have e2 : (mm.t != r.id) = true := by simpa using d2
            go_upto_region 28 with fail
            refine wp_region_quiet_below (by kernel_rfl) (by kernel_rfl) ?_
            repeat (go_big_quiet_step (first | (with_reducible exact j1 _ _)))
            refine wpQuiet_nil ?_
            intro _ hw'
            obtain ⟨⟨dq, osq⟩, hw''⟩ := hw'
            subst hw''
            have BN : Hid (Below wz.heap.size wz (grow (redrawn wz dq) osq)) := (show Hid _ from below_regrown wz dq osq)
            generalize grow (redrawn wz dq) osq = w6 at BN ⊢
            have B6 : Hid (Below w.heap.size w w6) := (show Hid _ from B4.out.trans ((B5.out.trans (BN.out.mono B5.out.size)).mono B4.out.size))
            go_wp2
            go_ret
            exact ⟨HF.out (HNo.out (fun hh => d2 hh.2.t)) _ rfl, B6.out⟩
          replace d2 : mm.t = r.id := Decidable.not_not.1 d2
          have e2 : (mm.t != r.id) = false := by simpa using d2
          by_cases d3 : ¬ mm.v = r.v
          · have e3 : (mm.v != r.v) = true := by simpa using d3
            go_upto_region 28 with fail
            refine wp_region_quiet_below (by kernel_rfl) (by kernel_rfl) ?_
            repeat (go_big_quiet_step (first | (with_reducible exact j1 _ _)))
            refine wpQuiet_nil ?_
            intro _ hw'
            obtain ⟨⟨dq, osq⟩, hw''⟩ := hw'
            subst hw''
            have BN : Hid (Below wz.heap.size wz (grow (redrawn wz dq) osq)) := (show Hid _ from below_regrown wz dq osq)
            generalize grow (redrawn wz dq) osq = w6 at BN ⊢
            have B6 : Hid (Below w.heap.size w w6) := (show Hid _ from B4.out.trans ((B5.out.trans (BN.out.mono B5.out.size)).mono B4.out.size))
            go_wp2
            go_ret
            exact ⟨HF.out (HNo.out (fun hh => d3 hh.2.v)) _ rfl, B6.out⟩
          replace d3 : mm.v = r.v := Decidable.not_not.1 d3
          have e3 : (mm.v != r.v) = false := by simpa using d3
          have D1 : Hid (mm.k = 4 ∧ mm.t = r.id ∧ mm.v = r.v) := ⟨d1, d2, d3⟩
          clear d1 d2 d3
          cases hb5 : msB mm r.p with
          | false =>
            rw [hb5] at j1
            have HNM : Hid (¬ MsOk mm r.p) := (show ¬ _ from fun hh => by rw [msB_yes hh] at hb5; cases hb5)
            clear hb5
            go_upto_region 28 with fail
            refine wp_region_quiet_below (by kernel_rfl) (by kernel_rfl) ?_
            repeat (go_big_quiet_step (first | (with_reducible exact j1 _ _)))
            refine wpQuiet_nil ?_
            intro _ hw'
            obtain ⟨⟨dq, osq⟩, hw''⟩ := hw'
            subst hw''
            have BN : Hid (Below wz.heap.size wz (grow (redrawn wz dq) osq)) := (show Hid _ from below_regrown wz dq osq)
            generalize grow (redrawn wz dq) osq = w6 at BN ⊢
            have B6 : Hid (Below w.heap.size w w6) := (show Hid _ from B4.out.trans ((B5.out.trans (BN.out.mono B5.out.size)).mono B4.out.size))
            go_wp2
            go_ret
            exact ⟨HF.out (HNo.out (fun hh => HNM.out hh.2.ok)) _ rfl, B6.out⟩
          | true =>
            rw [hb5] at j1
            have HYM : Hid (MsOk mm r.p) := (show _ from msB_is hb5)
            clear hb5
            by_cases h0 : 0 < k
            · obtain ⟨f0, hc0, hf0⟩ := CPZ.out h0
              have hk0i : (0 : Int) < (k : Int) := by omega
              have hkm : ((k : Int) - 1).toNat = k - 1 := by omega
              have q1 := cell_regrown hc0
              rw [hf0] at HXX HNo
              clear hc0 hf0
              by_cases d4 : mm.f ≤ f0
              · have e4 : decide (mm.f ≤ f0) = true := decide_eq_true d4
                go_upto_region 28 with fail
                refine wp_region_quiet_below (by kernel_rfl) (by kernel_rfl) ?_
                repeat (go_big_quiet_step (first | (with_reducible exact j1 _ _)))
                refine wpQuiet_nil ?_
                intro _ hw'
                obtain ⟨⟨dq, osq⟩, hw''⟩ := hw'
                subst hw''
                have BN : Hid (Below wz.heap.size wz (grow (redrawn wz dq) osq)) := (show Hid _ from below_regrown wz dq osq)
                generalize grow (redrawn wz dq) osq = w6 at BN ⊢
                have B6 : Hid (Below w.heap.size w w6) := (show Hid _ from B4.out.trans ((B5.out.trans (BN.out.mono B5.out.size)).mono B4.out.size))
                go_wp2
                go_ret
                exact ⟨HF.out (HNo.out (fun hh => by have := hh.1; omega)) _ rfl, B6.out⟩
              · have e4 : decide (mm.f ≤ f0) = false := decide_eq_false d4
                have HS2 : Hid _ := HXX.out (by omega) ⟨D1.out.1, D1.out.2.1, D1.out.2.2, HYM.out⟩
                go_upto_region 28 with fail
                refine wp_region_quiet_below (by kernel_rfl) (by kernel_rfl) ?_
                repeat (go_big_quiet_step (first | (with_reducible exact j1 _ _)))
                refine wpQuiet_nil ?_
                intro _ hw'
                obtain ⟨⟨dq, osq⟩, hw''⟩ := hw'
                subst hw''
                have BN : Hid (Below wz.heap.size wz (grow (redrawn wz dq) osq)) := (show Hid _ from below_regrown wz dq osq)
                generalize grow (redrawn wz dq) osq = w6 at BN ⊢
                have B6 : Hid (Below w4.heap.size w4 w6) := (show Hid _ from B5.out.trans (BN.out.mono B5.out.size))
                clear n0 n1 n2 n3 n4 n5 n6 r0 r1 r2 r9 j1 e1 e2 e3
                go_wp2_with fail
                go_roundw
                case rel => exact ⟨k + 1, by omega, by go_num, HS2, B6⟩
                case measure => simp [intOf]; omega
            · have hk0i : ¬ (0 : Int) < (k : Int) := by omega
              have HS2 : Hid _ := HXX.out (by rw [hk0f (by omega)]; have := HYM.out.f; omega) ⟨D1.out.1, D1.out.2.1, D1.out.2.2, HYM.out⟩
              go_upto_region 28 with fail
              refine wp_region_quiet_below (by kernel_rfl) (by kernel_rfl) ?_
              repeat (go_big_quiet_step (first | (with_reducible exact j1 _ _)))
              refine wpQuiet_nil ?_
              intro _ hw'
              obtain ⟨⟨dq, osq⟩, hw''⟩ := hw'
              subst hw''
              have BN : Hid (Below wz.heap.size wz (grow (redrawn wz dq) osq)) := (show Hid _ from below_regrown wz dq osq)
              generalize grow (redrawn wz dq) osq = w6 at BN ⊢
              have B6 : Hid (Below w4.heap.size w4 w6) := (show Hid _ from B5.out.trans (BN.out.mono B5.out.size))
              clear n0 n1 n2 n3 n4 n5 n6 r0 r1 r2 r9 j1 e1 e2 e3
              go_wp2_with fail
              go_roundw
              case rel => exact ⟨k + 1, by omega, by go_num, HS2, B6⟩
              case measure => simp [intOf]; omega
        · obtain rfl : k = r.te.length := by omega
          have ha := hst.out.all
          have HV : Hid (RpOk r) := HR.out.2 ⟨HO0.out, HCH.out, ⟨fun h => by
            rcases h with h | h
            · rw [HN.out] at h; cases h
            · exact absurd HMI.out h, fun _ _ => ha⟩⟩
          clear ha
          go_wp2
          go_ret
          exact ⟨HE.out _ ⟨fun _ => rfl, fun _ => HV.out⟩, hb.out⟩
/-- The specification's ReplicaOk. -/
theorem specRok (r : Rp) (u : Rv) (w : World) (h : RpGot w u r) (hf : Fit r) :
    Calls Tryz.prog 20 #[rpA r u] w fun e w' => e = .returned (.bool (dB (RpOk r))) ∧ Below w.heap.size w w' :=
  specRokH r u w h hf fun W s s1 s2 s3 hk => by
    cases hn : r.n with
    | true => exact rokTailN r u w W s s1 s2 s3 hk hn
    | false => exact rokTailF r u w W s s1 s2 s3 hk hn
end Go.Proofs.YtlngleinegkoeaaGreat.Rl
namespace Go.Proofs.YtlngleinegkoeaaGreat.Rl
open Go.RowKit Go.Sort
set_option linter.unusedVariables false
set_option linter.unusedSimpArgs false

/-- A replica whose rows lie in blocks from lo to hi. -/
def RpF (lo hi : Nat) (u : Rv) (r : Rp) (W : World) : Prop := RpHas W lo u r ∧ ∀ v ∈ u.rows, ∀ k, v.ownBlock = some k → k < hi
theorem Liv.rp {W : World} {lo hi : Nat} {u : Rv} {r : Rp} (h : RpHas W lo u r) (hu : ∀ v ∈ u.rows, ∀ k, v.ownBlock = some k → k < hi) (ht : hi ≤ W.heap.size) : Liv lo hi (RpF lo hi u r) W :=
  ⟨⟨h, hu⟩, ht, fun W' hW _ => ⟨h.off fun v hv k hk => hW k (h.from v hv k hk) (hu v hv k hk), hu⟩⟩
theorem Liv.newRp {W : World} {lo : Nat} {u : Rv} {r : Rp} (h : RpHas W lo u r) : Liv lo W.heap.size (RpF lo W.heap.size u r) W := Liv.rp h h.under (Nat.le_refl _)
theorem toRpS (r : Rp) (u : Rv) (w : World) (h : RpGot w u r) (hf : Fit r) :
    Calls Tryz.prog 56 #[rpA r u] w fun e w' => ∃ pl0 ql0 po0 qo0 pc0 qc0 pt0 qt0 M0, e = .returned (.agg #[.int .i64 r.id, .int .i64 r.p, .int .i64 r.v, .bool r.n, .int .i64 r.la, .slice pl0 r.l.length ql0, .int .i64 r.c, .slice po0 r.ok.length qo0, .slice pc0 r.ch.length qc0, .slice pt0 r.te.length qt0]) ∧ RpHas w' w.heap.size ⟨.slice pl0 r.l.length ql0, .slice po0 r.ok.length qo0, .slice pc0 r.ch.length qc0, .slice pt0 r.te.length qt0, M0⟩ r ∧ RpAp ⟨.slice pl0 r.l.length ql0, .slice po0 r.ok.length qo0, .slice pc0 r.ch.length qc0, .slice pt0 r.te.length qt0, M0⟩ ∧ Below w.heap.size w w' :=
  (toRp r u w h hf).mono fun e w' ⟨u', h1, h2, h3, h4⟩ => by
    obtain ⟨pl0, ql0, po0, qo0, pc0, qc0, pt0, qt0, M0, rfl⟩ := h2.got.form
    exact ⟨pl0, ql0, po0, qo0, pc0, qc0, pt0, qt0, M0, h1, h2, h3, h4⟩
/-- Rows that read as a replica's. -/
def GotM (x : World) (r : Rp) (p1 : Option Addr) (d1 : Nat) (p2 : Option Addr) (d2 : Nat) (p3 : Option Addr) (d3 : Nat) (p4 : Option Addr) (d4 : Nat) : Prop := ∃ M, RpGot x ⟨.slice p1 r.l.length d1, .slice p2 r.ok.length d2, .slice p3 r.ch.length d3, .slice p4 r.te.length d4, M⟩ r
theorem GotM.kept {x y : World} {r : Rp} {p1 : Option Addr} {d1 : Nat} {p2 : Option Addr} {d2 : Nat} {p3 : Option Addr} {d3 : Nat} {p4 : Option Addr} {d4 : Nat} (h : GotM x r p1 d1 p2 d2 p3 d3 p4 d4) (hb : Below x.heap.size x y) : GotM y r p1 d1 p2 d2 p3 d3 p4 d4 := by
  obtain ⟨M, h⟩ := h
  exact ⟨M, h.kept hb⟩
def GRok (r : Rp) (pl4 : Option Addr) (ql4 : Nat) (po4 : Option Addr) (qo4 : Nat) (pc4 : Option Addr) (qc4 : Nat) (pt4 : Option Addr) (qt4 : Nat) (plA : Option Addr) (qlA : Nat) (poA : Option Addr) (qoA : Nat) (pcA : Option Addr) (qcA : Nat) (ptA : Option Addr) (qtA : Nat) (i : Nat) (x : World) (v : Value) : Prop := match i with
  | 0 => v = .agg #[.int .i64 r.id, .int .i64 r.p, .int .i64 r.v, .bool r.n, .int .i64 r.la, .slice pl4 r.l.length ql4, .int .i64 r.c, .slice po4 r.ok.length qo4, .slice pc4 r.ch.length qc4, .slice pt4 r.te.length qt4]
  | 1 => v = .agg #[.int .i64 r.id, .int .i64 r.p, .int .i64 r.v, .bool r.n, .int .i64 r.la, .slice plA r.l.length qlA, .int .i64 r.c, .slice poA r.ok.length qoA, .slice pcA r.ch.length qcA, .slice ptA r.te.length qtA]
  | 2 => ∃ (p1 : Option Addr) (d1 : Nat) (p2 : Option Addr) (d2 : Nat) (p3 : Option Addr) (d3 : Nat) (p4 : Option Addr) (d4 : Nat), v = .agg #[.int .i64 r.id, .int .i64 r.p, .int .i64 r.v, .bool r.n, .int .i64 r.la, .slice p1 r.l.length d1, .int .i64 r.c, .slice p2 r.ok.length d2, .slice p3 r.ch.length d3, .slice p4 r.te.length d4] ∧ GotM x r p1 d1 p2 d2 p3 d3 p4 d4
  | 3 => v = .bool true
  | _ => True
theorem GRok.keep {r : Rp} {pl4 : Option Addr} {ql4 : Nat} {po4 : Option Addr} {qo4 : Nat} {pc4 : Option Addr} {qc4 : Nat} {pt4 : Option Addr} {qt4 : Nat} {plA : Option Addr} {qlA : Nat} {poA : Option Addr} {qoA : Nat} {pcA : Option Addr} {qcA : Nat} {ptA : Option Addr} {qtA : Nat} {x y : World} (hb : Below x.heap.size x y) (j : Nat) (v : Value) (hj : j < 4) (h : GRok r pl4 ql4 po4 qo4 pc4 qc4 pt4 qt4 plA qlA poA qoA pcA qcA ptA qtA j x v) : GRok r pl4 ql4 po4 qo4 pc4 qc4 pt4 qt4 plA qlA poA qoA pcA qcA ptA qtA j y v := by
  rcases (show j = 0 ∨ j = 1 ∨ j = 2 ∨ j = 3 by omega) with rfl | rfl | rfl | rfl
  · exact h
  · exact h
  · obtain ⟨p1, d1, p2, d2, p3, d3, p4, d4, h1, h2⟩ := h; exact ⟨p1, d1, p2, d2, p3, d3, p4, d4, h1, h2.kept hb⟩
  · exact h
end Go.Proofs.YtlngleinegkoeaaGreat.Rl
namespace Go.Proofs.YtlngleinegkoeaaGreat
open Go.RowKit
set_option linter.unusedVariables false

theorem Sls.form0 {α : Type} {E : Enc α} {w : World} {v : Value} {m : List α} (h : Sls E w v m) : ∃ a cap, v = .slice a m.length cap ∧ m.length ≤ cap := by
  obtain ⟨a, cap, e, h1, _⟩ := h
  exact ⟨a, cap, e, h1⟩
theorem Sls.cells {α : Type} {E : Enc α} {w : World} {ad : Addr} {n c : Nat} {m : List α} (h : Sls E w (.slice (some ad) n c) m) : ∀ j u, (cellsE E m)[j]? = some u → w.cell? (ad.add j) = some u := by
  intro j u hu
  obtain ⟨a, cap, e, _, _, h3⟩ := h
  injection e with e1 _ _
  have h0 : 0 < m.length := by
    rcases Nat.eq_zero_or_pos m.length with h0 | h0
    · rw [List.eq_nil_of_length_eq_zero h0] at hu
      simp [cellsE] at hu
    · exact h0
  obtain ⟨g, o, ha, _, hc⟩ := h3 h0
  rw [ha] at e1
  injection e1 with e1
  subst e1
  rw [addr_add]
  exact hc j u hu
theorem run_noneS {α : Type} {P : Program} {ts te ot : TypeId} {w : World} {B : Nat} {v : Value} {l : List α} {c : Nat} (En : Enc α) (i0 : TypeInfo) (hts : P.underlying ts = some (.slice te)) (hi : P.info? te = some i0) (hown : OwnsE En te w B v l) : (Builtin.append_ #[ts, ts] ot #[v, .slice none 0 c]).run P w = .ok v w := by
  rcases hown.2 with ⟨rfl, hz⟩ | ⟨g, cap, cur, rfl, _, _, hnc, _⟩
  · simp [Builtin.append_, run_underlying hts, sizeOf, typeInfo, hi, Builtin.lenOf, Builtin.firstCells]
  · simp [Builtin.append_, run_underlying hts, sizeOf, typeInfo, hi, Builtin.lenOf, Builtin.firstCells, hnc, storeCells]
/-- The elements m, wherever they lie, appended. -/
theorem wpList_rowS {α : Type} {E : Enc α} {P : Program} {ops : Array Oper} {rest : List Oper} {o : Oper} {a : Act} {Q : Exit → Act → World → Prop} (w : World) (hgd : o.guard = Option.none) (s x : Operand) (ts te : TypeId) (z : Value) (bytes : Nat)
    (hts : P.underlying ts = some (.slice te)) (hinfo : (P.info? te).map (fun i => (i.zero, i.size, i.bytes)) = some (some z, E.k, bytes)) (hz : z.cells.size = E.k)
    (ho : o.op = .call { callee := .builtin .append, args := #[s, x], argTypes := #[ts, ts] }) (B : Nat) (v : Value) (l : List α) (hs : a.eval s = v) (hown : OwnsE E te w B v l)
    (vx : Value) (m : List α) (hx : a.eval x = vx) (hsl : Sls E w vx m)
    (h63 : l.length + m.length ≤ maxLen) (hbytes : (l.length + m.length) * bytes ≤ 140737488355328) (hB : B ≤ w.heap.size)
    (h : ∀ v' w', OwnsE E te w' B v' (l ++ m) → w.grownBy w' v.ownBlock → (v' = .slice Option.none 0 0 → v = .slice Option.none 0 0) → wpList P ops Q rest (a.put o.dst v') w') :
    wpList P ops Q (o :: rest) a w := by
  obtain ⟨ax, cx, rfl, _⟩ := hsl.form0
  cases ax with
  | none =>
    have hm : m = [] := by
      obtain ⟨a', c', e, _, _, h3⟩ := hsl
      injection e with e1 _ _
      rcases Nat.eq_zero_or_pos m.length with h0 | h0
      · exact List.eq_nil_of_length_eq_zero h0
      · obtain ⟨g, o', ha, _⟩ := h3 h0
        rw [ha] at e1
        cases e1
    subst hm
    obtain ⟨i0, hi, _⟩ := info_parts hinfo
    refine wpList_plain hgd fun K hK => ?_
    have hrun := run_noneS (c := cx) (ot := o.type) E i0 hts hi hown
    have hx' : a.eval x = .slice none 0 cx := hx
    unfold Oper.wp
    simp [execOp, ho, resolve, invoke, builtin, hs, hx', hrun, Result.andThen]
    refine hK _ _ (h v w (by rw [List.append_nil]; exact hown) (grownE_self _ _) id)
  | some ad =>
    refine wpList_rowE (E := E) w hgd s x ts te z bytes hts hinfo hz ho B v l hs hown ad cx m hx hsl.cells h63 hbytes hB ?_
    intro v' w' h1 h2 h3
    exact h v' w' h1 h2 (fun e => (h3.1 e).1)
end Go.Proofs.YtlngleinegkoeaaGreat
