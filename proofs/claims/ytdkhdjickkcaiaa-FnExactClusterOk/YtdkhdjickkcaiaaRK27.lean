/-
  The specification's ReplicaOk of one that is not Normal; and whole.
  The specification's ClusterOk.
  The program's ClusterOk.
-/
import Derived.Test.YtdkhdjickkcaiaaRK26
import Derived.Test.YtdkhdjickkcaiaaRK19
import Derived.Test.YtdkhdjickkcaiaaRK25
namespace Go.Proofs.Ytdkhdjickkcaiaa.Rl
open Go.RowKit Go.Sort Pg Sk
set_option linter.unusedVariables false
set_option linter.unusedSimpArgs false

theorem mem_next {l : List Int} {x : Int} {k : Nat} (hk : k < l.length) : x ∈ l.take (k + 1) ↔ x ∈ l.take k ∨ l[k] = x := by
  rw [List.take_succ_eq_append_getElem hk, List.mem_append, List.mem_singleton]
  exact or_congr Iff.rfl eq_comm
set_option maxRecDepth 100000 in
set_option maxHeartbeats 16000000 in
theorem rokTailF (r : Rp) (u : Rv) (w W : World) (s : Nat → Value) (s1 : s 1 = .pointer (some ⟨w.heap.size, 0, none⟩)) (s2 : s 2 = .bool false) (s3 : s 3 = .bool (dB (mine r))) (h : Rk r u w W) (hn : r.n = false) :
    Code.wp Try.prog rok4 (bodyPost Try.prog Try.f23 fun e w' => e = .returned (.bool (dB (RpOk r))) ∧ Below w.heap.size w w') (frK s) W := by
  have HF : Hid (¬ RpOk r → ∀ b, b = false → Ending.returned (.bool b) = .returned (.bool (dB (RpOk r)))) := (show _ → ∀ _, _ from fun h1 b h2 => by rw [h2, dB_no h1])
  have HE : Hid (∀ b, (RpOk r ↔ b = true) → Ending.returned (.bool b) = .returned (.bool (dB (RpOk r)))) := (show ∀ _, _ from fun b h1 => by rw [dB_iff h1])
  have HR : Hid (RpOk r ↔ OkP r ∧ ChP r ∧ TeP r) := h.rok
  obtain ⟨oa, oc, hvo⟩ := Sls.slen0 h.got.ok
  obtain ⟨ca, cc, hvc, o1, o2, o3⟩ := h.got.ch.one
  obtain ⟨ta, tc, hvt⟩ := Sls.slen0 h.got.te.1
  rw [h.got.tlen] at hvt
  unfold maxLen at o2
  have hfo := h.fit.ok
  have hft := h.fit.te.1
  have hid := h.id
  have HPP : Hid (pOk r.p) := h.p
  have HS : Hid (∀ m ∈ r.te, ∀ x ∈ m.l, x.size ≤ 1048576) := fun m hm => (h.fit.te.2 m hm).2
  have O3 : Hid (0 < r.ch.length → ∃ g o, ca = some ⟨g, o, none⟩ ∧ g < w.heap.size ∧ ∀ j (hj : j < r.ch.length), w.cell? ⟨g, o + j, none⟩ = some (.int .i64 r.ch[j])) := o3
  have BB : Hid (Below w.heap.size w W) := h.low
  have HB : Hid (RpB W w.heap.size r u) := h.b
  have HG : Hid (RpGot w u r) := h.got
  have VC : Hid (u.ch = .slice ca r.ch.length cc) := hvc
  have VT : Hid (u.te = .slice ta r.te.length tc) := hvt
  have VO : Hid (u.ok = .slice oa r.ok.length oc) := hvo
  obtain ⟨c0, c1, c2, c3, c4, c5, c6, c7, c8, c9⟩ := HB.out.cells
  rw [hn] at c3
  rw [hvc] at c8
  have HN : Hid (r.n = false) := hn
  have HNL : Hid (¬ leads r) := (show ¬ _ from fun hl => by have := hl.1; rw [HN.out] at this; cases this)
  have HOK : Hid (OkP r ↔ r.ok = []) := (show _ ↔ _ from ⟨fun hh => hh.2 HNL.out, fun hh => ⟨fun hl => absurd hl HNL.out, fun _ => hh⟩⟩)
  clear h o3 hvo hvc hvt c2 c4 c5 c6 c7 c9 hn
  have K0 : Hid _ := c0
  have K1 : Hid _ := c1
  have K8 : Hid _ := c8
  conv => arg 2; whnf
  unfold frK
  go_wp2_with fail
  clear c0 c1 c3 c8
  go_loopw [5, 6] (fun b i wr => ∃ k : Nat, k ≤ r.ch.length ∧ i = .int .i64 k ∧ b = .bool (decide (r.id ∈ r.ch.take k)) ∧ Hid (Below W.heap.size W wr)) (fun _ i _ => r.ch.length - (intOf i).toNat)
  case atStart => exact ⟨0, Nat.zero_le _, rfl, by simp, (show Hid _ from Below.refl _ _)⟩
  case round =>
    obtain ⟨k, hk, rfl, rfl, hb⟩ := hrel
    have B3 : Hid (Below w.heap.size w wr) := (show Hid _ from BB.out.trans (hb.out.mono BB.out.size))
    have d0 := (hb.out.cell (p := ⟨w.heap.size, 0, none⟩) (cell_ltR K0.out)).trans K0.out
    have d8 := (hb.out.cell (p := ⟨w.heap.size, 8, none⟩) (cell_ltR K8.out)).trans K8.out
    by_cases hlt : k < r.ch.length
    · obtain ⟨g, o, rfl, hg, hc⟩ := O3.out (by omega)
      have cx := (B3.out.cell (p := ⟨g, o + k, none⟩) hg).trans (hc k hlt)
      have hki : (k : Int) < (r.ch.length : Int) := by omega
      by_cases hm : r.id ∈ r.ch.take k
      · have HM : Hid (decide (r.id ∈ r.ch.take (k + 1)) = true) := decide_eq_true ((mem_next hlt).2 (.inl hm))
        rw [decide_eq_true hm]
        clear hm hc
        generalize r.ch[k] = x at cx

        go_upto_region 21 with fail
        go_quiet (fail)
        have BN : Hid (Below wr.heap.size wr (wr.drewN nq)) := (show Hid _ from ⟨rfl, rfl, rfl, Nat.le_refl _, fun _ _ => rfl⟩)
        generalize wr.drewN nq = W4 at BN ⊢
        have B4 : Hid (Below W.heap.size W W4) := (show Hid _ from hb.out.trans (BN.out.mono hb.out.size))
        clear d0 d8 cx
        go_wp2_with fail
        go_roundw
        case rel => exact ⟨k + 1, by omega, by go_num, by rw [HM.out], B4⟩
        case measure => simp [intOf]; omega
      · have HM : Hid (decide (r.id ∈ r.ch.take (k + 1)) = (r.ch[k] == r.id)) := (show _ = _ by
          by_cases he : r.ch[k] = r.id
          · rw [decide_eq_true ((mem_next hlt).2 (.inr he)), he]; simp
          · rw [decide_eq_false (fun hh => by rcases (mem_next hlt).1 hh with h1 | h1; exact hm h1; exact he h1)]
            simp [he])
        rw [decide_eq_false hm]
        clear hm hc
        generalize r.ch[k] = x at cx HM

        go_upto_region 21 with fail
        go_quiet (fail)
        have BN : Hid (Below wr.heap.size wr (wr.drewN nq)) := (show Hid _ from ⟨rfl, rfl, rfl, Nat.le_refl _, fun _ _ => rfl⟩)
        generalize wr.drewN nq = W4 at BN ⊢
        have B4 : Hid (Below W.heap.size W W4) := (show Hid _ from hb.out.trans (BN.out.mono hb.out.size))
        clear d0 d8 cx
        go_wp2_with fail
        go_roundw
        case rel => exact ⟨k + 1, by omega, by go_num, by rw [HM.out], B4⟩
        case measure => simp [intOf]; omega
    · obtain rfl : k = r.ch.length := by omega
      have htk : r.ch.take r.ch.length = r.ch := List.take_of_length_le (Nat.le_refl _)
      rw [htk]
      obtain ⟨w3, rfl⟩ : ∃ z, z = wr := ⟨wr, rfl⟩
      have HB3 : Hid (RpB w3 w.heap.size r u) := (show Hid _ from HB.out.kept hb.out)
      clear d0 d8 hb K0 K1 K8 HB BB
      obtain ⟨c0, c1, c2, c3, c4, c5, c6, c7, c8, c9⟩ := HB3.out.cells
      rw [VO.out] at c7
      rw [VC.out] at c8
      rw [VT.out] at c9
      clear c0 c2 c3 c4 c5 c6
      by_cases h0 : 0 < r.ok.length
      · have HV : Hid (¬ RpOk r) := (show ¬ _ from fun hh => by
          have := HOK.out.1 (HR.out.1 hh).1
          rw [this] at h0
          simp at h0)
        have hoi : (0 : Int) < (r.ok.length : Int) := by omega
        generalize r.ok.length = no at c7 h0 hoi
        go_wp2
        go_ret
        exact ⟨HF.out HV.out _ rfl, B3.out⟩
      have HO0 : Hid (OkP r) := HOK.out.2 (List.eq_nil_of_length_eq_zero (by omega))
      have hoz : r.ok.length = 0 := by omega
      rw [hoz] at c7
      clear hoz h0
      by_cases hm : ¬ (r.id ∈ r.ch)
      · have HV : Hid (¬ RpOk r) := (show ¬ _ from fun hh => hm ((HR.out.1 hh).2.1.2 HN.out).1)
        rw [decide_eq_false hm]
        clear hm
        go_wp2
        go_ret
        exact ⟨HF.out HV.out _ rfl, B3.out⟩
      replace hm : r.id ∈ r.ch := Decidable.not_not.1 hm
      rw [decide_eq_true hm]
      have HM : Hid (r.id ∈ r.ch) := hm
      clear hm
      have jr := fun W (hW : Below w.heap.size w W) => specRs u.ch r.ch r.p W (HG.out.ch.kept hW) HPP.out
      rw [VC.out] at jr
      go_wp2_with fail
      refine (jr _ B3.out).mono ?_
      rintro e w4 ⟨rfl, hb⟩
      have B4 : Hid (Below w.heap.size w w4) := (show Hid _ from B3.out.trans (hb.mono B3.out.size))
      have HB4 : Hid (RpB w4 w.heap.size r u) := (show Hid _ from HB3.out.kept hb)
      clear hb c1 c7 c8 c9 jr HB3 B3
      cases hr : dB (r.ch.Pairwise (· < ·) ∧ ∀ x ∈ r.ch, 0 ≤ x ∧ x < r.p) with
      | false =>
        have HV : Hid (¬ RpOk r) := (show ¬ _ from fun hh => dB_not hr ((HR.out.1 hh).2.1.2 HN.out).2)
        clear hr
        go_wp2
        go_ret
        exact ⟨HF.out HV.out _ rfl, B4.out⟩
      | true =>
      have HCH : Hid (ChP r) := ⟨fun e => (by rw [HN.out] at e; cases e), fun _ => ⟨HM.out, dB_is hr⟩⟩
      clear hr
      obtain ⟨c0, c1, c2, c3, c4, c5, c6, c7, c8, c9⟩ := HB4.out.cells
      rw [VT.out] at c9
      have K9 : Hid _ := c9
      clear c0 c1 c2 c3 c4 c5 c6 c7 c8
      by_cases hmi : ¬ (mine r)
      · have hdm : dB (mine r) = false := dB_no hmi
        by_cases ht : 0 < r.te.length
        · have HV : Hid (¬ RpOk r) := (show ¬ _ from fun hh => by
            have := (HR.out.1 hh).2.2.1 (.inr hmi)
            rw [this] at ht
            simp at ht)
          have hti : (0 : Int) < (r.te.length : Int) := by omega
          clear hmi K9
          generalize r.te.length = nt at c9 ht hti
          go_wp2
          go_ret
          exact ⟨HF.out HV.out _ rfl, B4.out⟩
        · have HV : Hid (RpOk r) := HR.out.2 ⟨HO0.out, HCH.out, ⟨fun _ => List.eq_nil_of_length_eq_zero (by omega), fun _ hmm => absurd hmm hmi⟩⟩
          have hz : r.te.length = 0 := by omega
          clear hmi
          rw [hz] at c9
          clear ht hft hz
          go_wp2_with fail
          go_loopw [7] (fun i wr => i = .int .i64 0 ∧ Hid (Below w4.heap.size w4 wr)) (fun i _ => 0)
          case atStart => exact ⟨rfl, (show Hid _ from Below.refl _ _)⟩
          case round =>
            obtain ⟨rfl, hb⟩ := hrel
            have d9 := (hb.out.cell (p := ⟨w.heap.size, 9, none⟩) (cell_ltR c9)).trans c9
            have B5 : Hid (Below w.heap.size w wr) := (show Hid _ from B4.out.trans (hb.out.mono B4.out.size))
            go_wp2
            go_ret
            exact ⟨HE.out _ ⟨fun _ => rfl, fun _ => HV.out⟩, B5.out⟩
      replace hmi : mine r := Classical.not_not.1 hmi
      have hdm : dB (mine r) = true := dB_yes hmi
      have HMI : Hid (mine r) := hmi
      clear hmi
      go_wp2_with fail
      clear c9
      go_loopw [7] (fun i wr => ∃ k : Nat, k ≤ r.te.length ∧ i = .int .i64 k ∧ Hid (TeS r k) ∧ Hid (Below w4.heap.size w4 wr)) (fun i _ => r.te.length - (intOf i).toNat)
      case atStart => exact ⟨0, Nat.zero_le _, rfl, (show Hid _ from TeS.zero _), (show Hid _ from Below.refl _ _)⟩
      case round =>
        obtain ⟨k, hk, rfl, hst, hb4⟩ := hrel
        have hb : Hid (Below w.heap.size w wr) := (show Hid _ from B4.out.trans (hb4.out.mono B4.out.size))
        have d9 := (hb4.out.cell (p := ⟨w.heap.size, 9, none⟩) (cell_ltR K9.out)).trans K9.out
        by_cases hlt : k < r.te.length
        · have HG2 := HG.out.kept hb.out
          have HB2 := HB4.out.kept hb4.out
          obtain ⟨x, hxT, hxm, hkT, hxk⟩ := HG2.at hlt
          have hxk := hxk hkT
          have HT2 := HG2.te.1
          rw [VT.out, ← HG2.tlen] at HT2
          obtain ⟨g, q, rfl⟩ := mxAt HT2 (by omega)
          have CK := mxCells HT2 hkT
          rw [hxk] at CK
          have ml := HG2.te.2 x hxT
          have HXX : Hid (bef1 (r.te.map (·.f)) k < r.te[k].f → TeOk r.te[k] r → TeS r (k + 1)) := (show _ → _ → _ from fun h1 h2 => hst.out.next hlt h1 h2)
          have HNo : Hid (¬ (bef1 (r.te.map (·.f)) k < r.te[k].f ∧ TeOk r.te[k] r) → ¬ RpOk r) := (show _ → ¬ _ from fun hb hte => hst.out.bad hlt hb ((HR.out.1 hte).2.2.2 HN.out HMI.out))
          have hsx := HS.out _ (List.getElem_mem hlt)
          have hki : (k : Int) < (r.te.length : Int) := by omega
          have HBF : Hid (∀ (h0 : 0 < k) (hkp : k - 1 < u.T.length), bef1 (r.te.map (·.f)) k = u.T[k - 1].m.f) := (show ∀ _ _, _ from fun h0 hkp => by
            obtain ⟨y, _, hym, hyT, hyk⟩ := HG2.at (k := k - 1) (by omega)
            rw [hyk hkp, hym]
            have := bef1_map (r := r) (k := k - 1) (by omega)
            rw [show k - 1 + 1 = k by omega] at this
            exact this)
          have CP : Hid (∀ (h0 : 0 < k), ∃ f0, wr.cell? ⟨g, q + (k - 1) * 7 + 1, none⟩ = some (.int .i64 f0) ∧ bef1 (r.te.map (·.f)) k = f0) := (show ∀ _, _ from fun h0 => ⟨_, (mxCells HT2 (j := k - 1) (by omega)).2.1, HBF.out h0 (by omega)⟩)
          have hk0f : k = 0 → bef1 (r.te.map (·.f)) k = -1 := fun h0 => by rw [h0]; rfl
          rw [← hxm] at HXX HNo hsx
          obtain ⟨mm, px, cx⟩ := x
          unfold Mx.u at CK
          unfold Mx.u MsGot at ml
          simp only at CK ml HXX HNo hsx
          obtain ⟨k0, k1, k2, k3, k4, k5, k6⟩ := CK
          have HM2 : Hid (Sls txtE wr (.slice px mm.l.length cx) mm.l) := ml
          have HB3 : Hid (RpB wr w.heap.size r u) := HB2
          have HTL : Hid (u.T.length = r.te.length) := HG2.tlen
          rw [HTL.out] at *
          clear HG2 HB2 ml hxT hxm hkT hxk HBF
          go_upto_region 28 with fail
          clear k0 k1 k2 k3 k4 k5 k6
          have XB : Hid (Bx (wr.alloc (.cells #[.int .i64 mm.k, .int .i64 mm.f, .int .i64 mm.t, .int .i64 mm.v, .int .i64 mm.la, .slice px mm.l.length cx, .int .i64 mm.c] 57)) wr.heap.size 57 #[.int .i64 mm.k, .int .i64 mm.f, .int .i64 mm.t, .int .i64 mm.v, .int .i64 mm.la, .slice px mm.l.length cx, .int .i64 mm.c]) := (show Hid _ from Bx.new _ _ _)
          have HB5 : Hid (RpB (wr.alloc (.cells #[.int .i64 mm.k, .int .i64 mm.f, .int .i64 mm.t, .int .i64 mm.v, .int .i64 mm.la, .slice px mm.l.length cx, .int .i64 mm.c] 57)) w.heap.size r u) := (show Hid _ from Bx.alloc HB3.out _)
          have HM4 : Hid (Sls txtE (wr.alloc (.cells #[.int .i64 mm.k, .int .i64 mm.f, .int .i64 mm.t, .int .i64 mm.v, .int .i64 mm.la, .slice px mm.l.length cx, .int .i64 mm.c] 57)) (.slice px mm.l.length cx) mm.l) := (show Hid _ from Sls.kept HM2.out ((Below.refl _ wr).alloc (Nat.le_refl _) _))
          have B5 : Hid (Below w4.heap.size w4 (wr.alloc (.cells #[.int .i64 mm.k, .int .i64 mm.f, .int .i64 mm.t, .int .i64 mm.v, .int .i64 mm.la, .slice px mm.l.length cx, .int .i64 mm.c] 57))) := (show Hid _ from hb4.out.alloc hb4.out.size _)
          have CPZ : Hid (∀ (h0 : 0 < k), ∃ f0, (wr.alloc (.cells #[.int .i64 mm.k, .int .i64 mm.f, .int .i64 mm.t, .int .i64 mm.v, .int .i64 mm.la, .slice px mm.l.length cx, .int .i64 mm.c] 57)).cell? ⟨g, q + (k - 1) * 7 + 1, none⟩ = some (.int .i64 f0) ∧ bef1 (r.te.map (·.f)) k = f0) := (show ∀ _, _ from fun h0 => by
            obtain ⟨f0, h1, h2⟩ := CP.out h0
            exact ⟨f0, (((Below.refl _ wr).alloc (Nat.le_refl _) _).cell (p := ⟨g, q + (k - 1) * 7 + 1, none⟩) (cell_ltR h1)).trans h1, h2⟩)
          have d9z : (wr.alloc (.cells #[.int .i64 mm.k, .int .i64 mm.f, .int .i64 mm.t, .int .i64 mm.v, .int .i64 mm.la, .slice px mm.l.length cx, .int .i64 mm.c] 57)).cell? ⟨w.heap.size, 9, none⟩ = some (.slice (some ⟨g, q, none⟩) r.te.length tc) := (((Below.refl _ wr).alloc (Nat.le_refl _) _).cell (p := ⟨w.heap.size, 9, none⟩) (cell_ltR d9)).trans d9
          generalize (wr.alloc (.cells #[.int .i64 mm.k, .int .i64 mm.f, .int .i64 mm.t, .int .i64 mm.v, .int .i64 mm.la, .slice px mm.l.length cx, .int .i64 mm.c] 57)) = wz at XB HB5 HM4 B5 CPZ d9z ⊢
          have n0 := cell_regrown (XB.out.cell 0)
          have n1 := cell_regrown (XB.out.cell 1)
          have n2 := cell_regrown (XB.out.cell 2)
          have n3 := cell_regrown (XB.out.cell 3)
          have n4 := cell_regrown (XB.out.cell 4)
          have n5 := cell_regrown (XB.out.cell 5)
          have n6 := cell_regrown (XB.out.cell 6)
          have r0 := cell_regrown HB5.out.cells.1
          have r1 := cell_regrown HB5.out.cells.2.1
          have r2 := cell_regrown HB5.out.cells.2.2.1
          have r9 := cell_regrown d9z
          have jm := fun W (hW : Below wz.heap.size wz W) => specMok mm (.slice px mm.l.length cx) r.p W (Sls.kept HM4.out hW) hsx HPP.out
          unfold msA at jm
          have j1 : ∀ d os, Calls Try.prog 54 #[.agg #[.int .i64 mm.k, .int .i64 mm.f, .int .i64 mm.t, .int .i64 mm.v, .int .i64 mm.la, .slice px mm.l.length cx, .int .i64 mm.c], .int .i64 r.p] (grow (redrawn wz d) os) fun e w'' => e = .returned (.bool (msB mm r.p)) ∧ ∃ p : Regrown, w'' = grow (redrawn wz p.d) p.os := fun d os => Calls.regrown_of (jm _ (below_regrown wz d os))
          clear jm hsx d9 CP d9z

          by_cases d1 : ¬ mm.k = 4
          · have e1 : (mm.k != 4) = true := by simpa using d1
            go_upto_region 28 with fail
            refine wp_region_quiet_below (by kernel_rfl) (by kernel_rfl) ?_
            repeat (go_big_quiet_step (first | (with_reducible exact j1 _ _)))
            refine wpQuiet_nil ?_
            intro _ hw'
            obtain ⟨⟨dq, osq⟩, hw''⟩ := hw'
            subst hw''
            have BN : Hid (Below wz.heap.size wz (grow (redrawn wz dq) osq)) := (show Hid _ from below_regrown wz dq osq)
            generalize grow (redrawn wz dq) osq = w6 at BN ⊢
            have B6 : Hid (Below w.heap.size w w6) := (show Hid _ from B4.out.trans ((B5.out.trans (BN.out.mono B5.out.size)).mono B4.out.size))
            go_wp2
            go_ret
            exact ⟨HF.out (HNo.out (fun hh => d1 hh.2.k)) _ rfl, B6.out⟩
          replace d1 : mm.k = 4 := Decidable.not_not.1 d1
          have e1 : (mm.k != 4) = false := by simpa using d1
          by_cases d2 : ¬ mm.t = r.id
          · have e2 : (mm.t != r.id) = true := by simpa using d2
            go_upto_region 28 with fail
            refine wp_region_quiet_below (by kernel_rfl) (by kernel_rfl) ?_
            repeat (go_big_quiet_step (first | (with_reducible exact j1 _ _)))
            refine wpQuiet_nil ?_
            intro _ hw'
            obtain ⟨⟨dq, osq⟩, hw''⟩ := hw'
            subst hw''
            have BN : Hid (Below wz.heap.size wz (grow (redrawn wz dq) osq)) := (show Hid _ from below_regrown wz dq osq)
            generalize grow (redrawn wz dq) osq = w6 at BN ⊢
            have B6 : Hid (Below w.heap.size w w6) := (show Hid _ from B4.out.trans ((B5.out.trans (BN.out.mono B5.out.size)).mono B4.out.size))
            go_wp2
            go_ret
            exact ⟨HF.out (HNo.out (fun hh => d2 hh.2.t)) _ rfl, B6.out⟩
          replace d2 : mm.t = r.id := Decidable.not_not.1 d2
          have e2 : (mm.t != r.id) = false := by simpa using d2
          by_cases d3 : ¬ mm.v = r.v
          · have e3 : (mm.v != r.v) = true := by simpa using d3
            go_upto_region 28 with fail
            refine wp_region_quiet_below (by kernel_rfl) (by kernel_rfl) ?_
            repeat (go_big_quiet_step (first | (with_reducible exact j1 _ _)))
            refine wpQuiet_nil ?_
            intro _ hw'
            obtain ⟨⟨dq, osq⟩, hw''⟩ := hw'
            subst hw''
            have BN : Hid (Below wz.heap.size wz (grow (redrawn wz dq) osq)) := (show Hid _ from below_regrown wz dq osq)
            generalize grow (redrawn wz dq) osq = w6 at BN ⊢
            have B6 : Hid (Below w.heap.size w w6) := (show Hid _ from B4.out.trans ((B5.out.trans (BN.out.mono B5.out.size)).mono B4.out.size))
            go_wp2
            go_ret
            exact ⟨HF.out (HNo.out (fun hh => d3 hh.2.v)) _ rfl, B6.out⟩
          replace d3 : mm.v = r.v := Decidable.not_not.1 d3
          have e3 : (mm.v != r.v) = false := by simpa using d3
          have D1 : Hid (mm.k = 4 ∧ mm.t = r.id ∧ mm.v = r.v) := ⟨d1, d2, d3⟩
          clear d1 d2 d3
          cases hb5 : msB mm r.p with
          | false =>
            rw [hb5] at j1
            have HNM : Hid (¬ MsOk mm r.p) := (show ¬ _ from fun hh => by rw [msB_yes hh] at hb5; cases hb5)
            clear hb5
            go_upto_region 28 with fail
            refine wp_region_quiet_below (by kernel_rfl) (by kernel_rfl) ?_
            repeat (go_big_quiet_step (first | (with_reducible exact j1 _ _)))
            refine wpQuiet_nil ?_
            intro _ hw'
            obtain ⟨⟨dq, osq⟩, hw''⟩ := hw'
            subst hw''
            have BN : Hid (Below wz.heap.size wz (grow (redrawn wz dq) osq)) := (show Hid _ from below_regrown wz dq osq)
            generalize grow (redrawn wz dq) osq = w6 at BN ⊢
            have B6 : Hid (Below w.heap.size w w6) := (show Hid _ from B4.out.trans ((B5.out.trans (BN.out.mono B5.out.size)).mono B4.out.size))
            go_wp2
            go_ret
            exact ⟨HF.out (HNo.out (fun hh => HNM.out hh.2.ok)) _ rfl, B6.out⟩
          | true =>
            rw [hb5] at j1
            have HYM : Hid (MsOk mm r.p) := (show _ from msB_is hb5)
            clear hb5
            by_cases h0 : 0 < k
            · obtain ⟨f0, hc0, hf0⟩ := CPZ.out h0
              have hk0i : (0 : Int) < (k : Int) := by omega
              have hkm : ((k : Int) - 1).toNat = k - 1 := by omega
              have q1 := cell_regrown hc0
              rw [hf0] at HXX HNo
              clear hc0 hf0
              by_cases d4 : mm.f ≤ f0
              · have e4 : decide (mm.f ≤ f0) = true := decide_eq_true d4
                go_upto_region 28 with fail
                refine wp_region_quiet_below (by kernel_rfl) (by kernel_rfl) ?_
                repeat (go_big_quiet_step (first | (with_reducible exact j1 _ _)))
                refine wpQuiet_nil ?_
                intro _ hw'
                obtain ⟨⟨dq, osq⟩, hw''⟩ := hw'
                subst hw''
                have BN : Hid (Below wz.heap.size wz (grow (redrawn wz dq) osq)) := (show Hid _ from below_regrown wz dq osq)
                generalize grow (redrawn wz dq) osq = w6 at BN ⊢
                have B6 : Hid (Below w.heap.size w w6) := (show Hid _ from B4.out.trans ((B5.out.trans (BN.out.mono B5.out.size)).mono B4.out.size))
                go_wp2
                go_ret
                exact ⟨HF.out (HNo.out (fun hh => by have := hh.1; omega)) _ rfl, B6.out⟩
              · have e4 : decide (mm.f ≤ f0) = false := decide_eq_false d4
                have HS2 : Hid _ := HXX.out (by omega) ⟨D1.out.1, D1.out.2.1, D1.out.2.2, HYM.out⟩
                go_upto_region 28 with fail
                refine wp_region_quiet_below (by kernel_rfl) (by kernel_rfl) ?_
                repeat (go_big_quiet_step (first | (with_reducible exact j1 _ _)))
                refine wpQuiet_nil ?_
                intro _ hw'
                obtain ⟨⟨dq, osq⟩, hw''⟩ := hw'
                subst hw''
                have BN : Hid (Below wz.heap.size wz (grow (redrawn wz dq) osq)) := (show Hid _ from below_regrown wz dq osq)
                generalize grow (redrawn wz dq) osq = w6 at BN ⊢
                have B6 : Hid (Below w4.heap.size w4 w6) := (show Hid _ from B5.out.trans (BN.out.mono B5.out.size))
                clear n0 n1 n2 n3 n4 n5 n6 r0 r1 r2 r9 j1 e1 e2 e3
                go_wp2_with fail
                go_roundw
                case rel => exact ⟨k + 1, by omega, by go_num, HS2, B6⟩
                case measure => simp [intOf]; omega
            · have hk0i : ¬ (0 : Int) < (k : Int) := by omega
              have HS2 : Hid _ := HXX.out (by rw [hk0f (by omega)]; have := HYM.out.f; omega) ⟨D1.out.1, D1.out.2.1, D1.out.2.2, HYM.out⟩
              go_upto_region 28 with fail
              refine wp_region_quiet_below (by kernel_rfl) (by kernel_rfl) ?_
              repeat (go_big_quiet_step (first | (with_reducible exact j1 _ _)))
              refine wpQuiet_nil ?_
              intro _ hw'
              obtain ⟨⟨dq, osq⟩, hw''⟩ := hw'
              subst hw''
              have BN : Hid (Below wz.heap.size wz (grow (redrawn wz dq) osq)) := (show Hid _ from below_regrown wz dq osq)
              generalize grow (redrawn wz dq) osq = w6 at BN ⊢
              have B6 : Hid (Below w4.heap.size w4 w6) := (show Hid _ from B5.out.trans (BN.out.mono B5.out.size))
              clear n0 n1 n2 n3 n4 n5 n6 r0 r1 r2 r9 j1 e1 e2 e3
              go_wp2_with fail
              go_roundw
              case rel => exact ⟨k + 1, by omega, by go_num, HS2, B6⟩
              case measure => simp [intOf]; omega
        · obtain rfl : k = r.te.length := by omega
          have ha := hst.out.all
          have HV : Hid (RpOk r) := HR.out.2 ⟨HO0.out, HCH.out, ⟨fun h => by
            rcases h with h | h
            · rw [HN.out] at h; cases h
            · exact absurd HMI.out h, fun _ _ => ha⟩⟩
          clear ha
          go_wp2
          go_ret
          exact ⟨HE.out _ ⟨fun _ => rfl, fun _ => HV.out⟩, hb.out⟩
/-- The specification's ReplicaOk. -/
theorem specRok (r : Rp) (u : Rv) (w : World) (h : RpGot w u r) (hf : Fit r) :
    Calls Try.prog 23 #[rpA r u] w fun e w' => e = .returned (.bool (dB (RpOk r))) ∧ Below w.heap.size w w' :=
  specRokH r u w h hf fun W s s1 s2 s3 hk => by
    cases hn : r.n with
    | true => exact rokTailN r u w W s s1 s2 s3 hk hn
    | false => exact rokTailF r u w W s s1 s2 s3 hk hn
end Go.Proofs.Ytdkhdjickkcaiaa.Rl
namespace Go.Proofs.Ytdkhdjickkcaiaa.Rl
open Go.RowKit Go.Sort
set_option linter.unusedVariables false
set_option linter.unusedSimpArgs false

/-- The j-th replica is the one of that number, right, of as many. -/
def rpAtP (n : Nat) (j : Nat) (r : Rp) : Prop := r.id = (j : Int) ∧ r.p = (n : Int) ∧ RpOk r
def toP (n : Nat) (m : Ms) : Prop := 0 ≤ m.t ∧ m.t < (n : Int)
def clP (rs : List Rp) (ms : List Ms) : Prop := pOk (rs.length : Int) ∧ ms.length ≤ 150 ∧ (∀ j (h : j < rs.length), rpAtP rs.length j rs[j]) ∧ ∀ m ∈ ms, toP rs.length m
def clB (L : List Rx) (M : List Mx) : Prop := clP (L.map (·.r)) (M.map (·.m))
theorem clB_same {L L' : List Rx} {M M' : List Mx} (h1 : SameR L L') (h2 : SameM M M') : clB L' M' = clB L M := by
  unfold clB
  rw [show L'.map (·.r) = L.map (·.r) from h1, show M'.map (·.m) = M.map (·.m) from h2]
theorem clB_iff (L : List Rx) (M : List Mx) : clB L M ↔ pOk (L.length : Int) ∧ M.length ≤ 150 ∧ (∀ j (h : j < L.length), rpAtP L.length j L[j].r) ∧ ∀ x ∈ M, toP L.length x.m := by
  unfold clB clP
  constructor
  · rintro ⟨h1, h2, h3, h4⟩
    refine ⟨by simpa using h1, by simpa using h2, fun j hj => ?_, fun x hx => ?_⟩
    · have := h3 j (by simpa using hj)
      simpa using this
    · have := h4 x.m (List.mem_map_of_mem hx)
      simpa using this
  · rintro ⟨h1, h2, h3, h4⟩
    refine ⟨by simpa using h1, by simpa using h2, fun j hj => ?_, fun x hx => ?_⟩
    · have := h3 j (by simpa using hj)
      simpa using this
    · obtain ⟨y, hy, rfl⟩ := List.mem_map.1 hx
      simpa using h4 y hy
/-- The first k are right. -/
def ClR (L : List Rx) (k : Nat) : Prop := ∀ j (h : j < L.length), j < k → rpAtP L.length j L[j].r
def ClM (L : List Rx) (M : List Mx) (k : Nat) : Prop := ∀ x ∈ M.take k, toP L.length x.m
theorem ClR.zero (L : List Rx) : ClR L 0 := fun j h hj => by omega
theorem ClR.next {L : List Rx} {k : Nat} (h : ClR L k) (hk : k < L.length) (h1 : rpAtP L.length k L[k].r) : ClR L (k + 1) := fun j hj hjk => by
  by_cases e : j = k
  · subst e; exact h1
  · exact h j hj (by omega)
theorem ClM.zero (L : List Rx) (M : List Mx) : ClM L M 0 := fun x hx => by cases hx
theorem ClM.next {L : List Rx} {M : List Mx} {k : Nat} (h : ClM L M k) (hk : k < M.length) (h1 : toP L.length M[k].m) : ClM L M (k + 1) := fun x hx => by
  rw [← List.take_append_getElem hk] at hx
  rcases List.mem_append.1 hx with hx | hx
  · exact h x hx
  · rw [List.mem_singleton.1 hx]; exact h1
set_option maxRecDepth 100000 in
set_option maxHeartbeats 64000000 in
theorem specClu (aa : Option Addr) (ac : Nat) (ba : Option Addr) (bc : Nat) (L : List Rx) (M : List Mx) (w : World) (h : ClGot w (.slice aa L.length ac) (.slice ba M.length bc) L M) (hf : ClFit L M) :
    Calls Try.prog 7 #[.agg #[.slice aa L.length ac, .slice ba M.length bc]] w fun e w' => e = .returned (.bool (dB (clB L M))) ∧ Below w.heap.size w w' := by
  have HL : Hid (ClGot w (.slice aa L.length ac) (.slice ba M.length bc) L M) := h
  have HF : Hid (ClFit L M) := hf
  have jp := fun W => specPrs (L.length : Int) W
  have HI : Hid (clB L M ↔ pOk (L.length : Int) ∧ M.length ≤ 150 ∧ (∀ j (h : j < L.length), rpAtP L.length j L[j].r) ∧ ∀ x ∈ M, toP L.length x.m) := clB_iff L M
  have hll := hf.ll
  have hml := hf.ml
  clear h hf
  by_cases hp : pOk (L.length : Int)
  · rw [decide_eq_true hp] at jp
    by_cases hm : M.length ≤ 150
    · obtain ⟨B, hB⟩ : ∃ B, B = dB (clB L M) := ⟨_, rfl⟩
      have HY : Hid (ClR L L.length → ClM L M M.length → B = true) := (show _ → _ → _ from fun h1 h2 => by
        rw [hB]
        exact dB_yes (HI.out.2 ⟨hp, hm, fun j hj => h1 j hj hj, fun x hx => h2 x (by rw [List.take_length]; exact hx)⟩))
      have HR : Hid (∀ k (h : k < L.length), ¬ rpAtP L.length k L[k].r → B = false) := (show ∀ _ _, _ → _ from fun k hk hn => by
        rw [hB]
        exact dB_no fun hc => hn ((HI.out.1 hc).2.2.1 k hk))
      have HM : Hid (∀ k (h : k < M.length), ¬ toP L.length M[k].m → B = false) := (show ∀ _ _, _ → _ from fun k hk hn => by
        rw [hB]
        exact dB_no fun hc => hn ((HI.out.1 hc).2.2.2 _ (List.getElem_mem hk)))
      rw [← hB]
      have hl1 : 1 ≤ L.length := by rcases hp with h | h | h <;> omega
      have ew : IntKind.i64.wrap ((L.length : Int) - 1) = (L.length : Int) - 1 := by rw [IntKind.wrap_i64]; omega
      have dm : decide ((M.length : Int) > 150) = false := decide_eq_false (by omega)
      have dm2 : ¬ (M.length : Int) > 150 := by omega
      clear HI hB hp
      go_enter Try.func7, Try.ntmps7
      go_wp2_with (go_at_call 22; refine (jp _).mono ?_; rintro e w1 ⟨rfl, rfl⟩)
      go_loopw [4] (fun i wr => ∃ (k : Nat), k ≤ L.length ∧ i = .int .i64 k ∧ Hid (ClR L k) ∧ Hid (Bx wr w.heap.size 31 #[.slice aa L.length ac, .slice ba M.length bc]) ∧ Hid (Below w.heap.size w wr)) (fun i _ => L.length - (intOf i).toNat)
      case atStart => exact ⟨0, Nat.zero_le _, rfl, (show Hid _ from ClR.zero _), (show Hid _ from Bx.new _ _ _), (show Hid _ from (Below.refl _ w).alloc (Nat.le_refl _) _)⟩
      case round =>
        obtain ⟨k, hk, rfl, hr, hx, hb⟩ := hrel
        have x0 := hx.out.cell 0
        by_cases hlt : k < L.length
        · have HA2 := HL.out.l.kept hb.out
          obtain ⟨g, q, rfl⟩ := rxAt HA2.1 (by omega)
          have CK := rxCells HA2.1 hlt
          have rx := HA2.2 L[k] (List.getElem_mem hlt)
          have sx := HF.out.lf L[k] (List.getElem_mem hlt)
          have hsp := fun W (hW : Below wr.heap.size wr W) => specRok L[k].r L[k].u W (rx.kept hW) sx
          have HNX : Hid (rpAtP L.length k L[k].r → ClR L (k + 1)) := (show _ → _ from fun h => hr.out.next hlt h)
          have HBD : Hid (¬ rpAtP L.length k L[k].r → B = false) := (show _ → _ from HR.out k hlt)
          have hki : (k : Int) < (L.length : Int) := by omega
          rw [rpA_rx] at hsp
          unfold rpAtP at HNX HBD
          generalize L[k] = x at CK hsp HNX HBD
          obtain ⟨⟨xi, xp, xv, xn, xla, xl, xc, xok, xch, xte⟩, la, lc, oa, oc, ca, cc, ta, tc, T⟩ := x
          obtain ⟨c0, c1, c2, c3, c4, c5, c6, c7, c8, c9⟩ := CK
          simp only at c0 c1 c2 c3 c4 c5 c6 c7 c8 c9 hsp HNX HBD
          generalize RpOk ⟨xi, xp, xv, xn, xla, xl, xc, xok, xch, xte⟩ = P at hsp HNX HBD
          clear HA2 rx sx hr
          go_upto_region 7 with fail
          by_cases hid : xi = (k : Int)
          · have d1 : (xi != (k : Int)) = false := by simp [hid]
            have HD1 : Hid (xi = (k : Int)) := hid
            clear hid
            by_cases hpp : xp = (L.length : Int)
            · have d2 : (xp != (L.length : Int)) = false := by simp [hpp]
              have HD2 : Hid (xp = (L.length : Int)) := hpp
              clear hpp
              cases hT : dB P with
              | true =>
                rw [hT] at hsp
                have HN2 := HNX.out ⟨HD1.out, HD2.out, dB_is hT⟩
                clear HNX HBD
                go_wp2_with (go_at_call 23; refine (hsp _ (Below.refl _ _)).mono ?_; rintro e w2 ⟨rfl, hb2⟩)
                go_roundw
                case rel => exact ⟨k + 1, by omega, by go_num, HN2, (show Hid _ from Bx.kept hx.out hb2), (show Hid _ from hb.out.trans (hb2.mono hb.out.size))⟩
                case measure => simp [intOf]; omega
              | false =>
                rw [hT] at hsp
                have HN2 := HBD.out fun h => dB_not hT h.2.2
                clear HNX HBD
                go_wp2_with (go_at_call 23; refine (hsp _ (Below.refl _ _)).mono ?_; rintro e w2 ⟨rfl, hb2⟩)
                go_ret
                subst HN2
                exact ⟨rfl, hb.out.trans (hb2.mono hb.out.size)⟩
            · have d2 : (xp != (L.length : Int)) = true := by simp [hpp]
              have HN2 := HBD.out fun h => hpp h.2.1
              clear HNX HBD
              go_wp2
              go_ret
              subst HN2
              exact ⟨rfl, hb.out⟩
          · have d1 : (xi != (k : Int)) = true := by simp [hid]
            have HN2 := HBD.out fun h => hid h.1
            clear HNX HBD
            go_wp2
            go_ret
            subst HN2
            exact ⟨rfl, hb.out⟩
        · obtain ⟨w4, rfl⟩ : ∃ x, x = wr := ⟨wr, rfl⟩
          obtain rfl : k = L.length := by omega
          have HRR : Hid (ClR L L.length) := hr
          have x1 := hx.out.cell 1
          clear hr
          go_wp2_with fail
          clear x0 x1
          go_loopw [5] (fun i wr => ∃ (j : Nat), j ≤ M.length ∧ i = .int .i64 j ∧ Hid (ClM L M j) ∧ Hid (Bx wr w.heap.size 31 #[.slice aa L.length ac, .slice ba M.length bc]) ∧ Hid (Below w.heap.size w wr)) (fun i _ => M.length - (intOf i).toNat)
          case atStart => exact ⟨0, Nat.zero_le _, rfl, (show Hid _ from ClM.zero _ _), hx, hb⟩
          case round =>
            obtain ⟨j, hj, rfl, hr2, hx2, hb2⟩ := hrel
            have x1 := hx2.out.cell 1
            by_cases hlt2 : j < M.length
            · have HA2 := HL.out.m.kept hb2.out
              obtain ⟨g, q, rfl⟩ := mxAt HA2.1 (by omega)
              have CK := mxCells HA2.1 hlt2
              have HNX : Hid (toP L.length M[j].m → ClM L M (j + 1)) := (show _ → _ from fun h => hr2.out.next hlt2 h)
              have HBD : Hid (¬ toP L.length M[j].m → B = false) := (show _ → _ from HM.out j hlt2)
              have hki : (j : Int) < (M.length : Int) := by omega
              have jin := fun W => inRm M[j].m.t 0 ((L.length : Int) - 1) W
              unfold toP at HNX HBD
              generalize M[j] = x at CK jin HNX HBD
              obtain ⟨⟨mk, mf, mt, mv, ml, mll, mc⟩, px, cx⟩ := x
              obtain ⟨c0, c1, c2, c3, c4, c5, c6⟩ := CK
              simp only at c0 c1 c2 c3 c4 c5 c6 jin HNX HBD
              clear HA2 hr2 c0 c1 c3 c4 c5 c6
              cases hT : inM mt 0 ((L.length : Int) - 1) with
              | true =>
                rw [hT] at jin
                have HN2 := HNX.out (by have := inM_yes hT; omega)
                clear HNX HBD
                go_wp2_with (go_at_call 24; refine (jin _).mono ?_; rintro e w2 ⟨rfl, rfl⟩)
                go_roundw
                case rel => exact ⟨j + 1, by omega, by go_num, HN2, hx2, hb2⟩
                case measure => simp [intOf]; omega
              | false =>
                rw [hT] at jin
                have HN2 := HBD.out (by have := inM_no hT; omega)
                clear HNX HBD
                go_wp2_with (go_at_call 24; refine (jin _).mono ?_; rintro e w2 ⟨rfl, rfl⟩)
                go_ret
                subst HN2
                exact ⟨rfl, hb2.out⟩
            · obtain rfl : j = M.length := by omega
              have HMM : Hid (ClM L M M.length) := hr2
              have HN2 := HY.out HRR.out HMM.out
              clear hr2
              go_wp2
              go_ret
              subst HN2
              exact ⟨rfl, hb2.out⟩
    · have hb : dB (clB L M) = false := dB_no fun hc => hm (HI.out.1 hc).2.1
      have dm2 : (M.length : Int) > 150 := by omega
      rw [hb]
      clear HI hp
      go_enter Try.func7, Try.ntmps7
      go_wp2_with (go_at_call 22; refine (jp _).mono ?_; rintro e w1 ⟨rfl, rfl⟩)
      go_ret
      exact ⟨rfl, (Below.refl _ w).alloc (Nat.le_refl _) _⟩
  · rw [decide_eq_false hp] at jp
    have hb : dB (clB L M) = false := dB_no fun hc => hp (HI.out.1 hc).1
    rw [hb]
    go_enter Try.func7, Try.ntmps7
    go_wp2_with (go_at_call 22; refine (jp _).mono ?_; rintro e w1 ⟨rfl, rfl⟩)
    go_ret
    exact ⟨rfl, (Below.refl _ w).alloc (Nat.le_refl _) _⟩
end Go.Proofs.Ytdkhdjickkcaiaa.Rl
namespace Go.Proofs.Ytdkhdjickkcaiaa.Rl
open Go.RowKit Go.Sort
set_option linter.unusedVariables false
set_option linter.unusedSimpArgs false

set_option maxRecDepth 100000 in
set_option maxHeartbeats 64000000 in
theorem implClu (aa : Option Addr) (ac : Nat) (ba : Option Addr) (bc : Nat) (L : List Rx) (M : List Mx) (w : World) (h : ClGot w (.slice aa L.length ac) (.slice ba M.length bc) L M) (hf : ClFit L M) :
    Calls Try.prog 9 #[.agg #[.slice aa L.length ac, .slice ba M.length bc]] w fun e w' => e = .returned (.bool (dB (clB L M))) ∧ Below w.heap.size w w' := by
  have HL : Hid (ClGot w (.slice aa L.length ac) (.slice ba M.length bc) L M) := h
  have HF : Hid (ClFit L M) := hf
  have jp := fun W => implPrs (L.length : Int) W
  have HI : Hid (clB L M ↔ pOk (L.length : Int) ∧ M.length ≤ 150 ∧ (∀ j (h : j < L.length), rpAtP L.length j L[j].r) ∧ ∀ x ∈ M, toP L.length x.m) := clB_iff L M
  have hll := hf.ll
  have hml := hf.ml
  clear h hf
  by_cases hp : pOk (L.length : Int)
  · rw [decide_eq_true hp] at jp
    by_cases hm : M.length ≤ 150
    · obtain ⟨B, hB⟩ : ∃ B, B = dB (clB L M) := ⟨_, rfl⟩
      have HY : Hid (ClR L L.length → ClM L M M.length → B = true) := (show _ → _ → _ from fun h1 h2 => by
        rw [hB]
        exact dB_yes (HI.out.2 ⟨hp, hm, fun j hj => h1 j hj hj, fun x hx => h2 x (by rw [List.take_length]; exact hx)⟩))
      have HR : Hid (∀ k (h : k < L.length), ¬ rpAtP L.length k L[k].r → B = false) := (show ∀ _ _, _ → _ from fun k hk hn => by
        rw [hB]
        exact dB_no fun hc => hn ((HI.out.1 hc).2.2.1 k hk))
      have HM : Hid (∀ k (h : k < M.length), ¬ toP L.length M[k].m → B = false) := (show ∀ _ _, _ → _ from fun k hk hn => by
        rw [hB]
        exact dB_no fun hc => hn ((HI.out.1 hc).2.2.2 _ (List.getElem_mem hk)))
      rw [← hB]
      have hl1 : 1 ≤ L.length := by rcases hp with h | h | h <;> omega
      have dm : decide ((M.length : Int) > 150) = false := decide_eq_false (by omega)
      have dm2 : ¬ (M.length : Int) > 150 := by omega
      clear HI hB hp
      go_enter Try.func9, Try.ntmps9
      go_wp2_with (go_at_call 27; refine (jp _).mono ?_; rintro e w1 ⟨rfl, rfl⟩)
      go_loopw [23] (fun i wr => ∃ (k : Nat), k ≤ L.length ∧ i = .int .i64 k ∧ Hid (ClR L k) ∧ Hid (Bx wr w.heap.size 31 #[.slice aa L.length ac, .slice ba M.length bc]) ∧ Hid (Below w.heap.size w wr)) (fun i _ => L.length - (intOf i).toNat)
      case atStart => exact ⟨0, Nat.zero_le _, rfl, (show Hid _ from ClR.zero _), (show Hid _ from Bx.new _ _ _), (show Hid _ from (Below.refl _ w).alloc (Nat.le_refl _) _)⟩
      case round =>
        obtain ⟨k, hk, rfl, hr, hx, hb⟩ := hrel
        by_cases hlt : k < L.length
        · have HA2 := HL.out.l.kept hb.out
          obtain ⟨g, q, rfl⟩ := rxAt HA2.1 (by omega)
          have CK := rxCells HA2.1 hlt
          have rx := HA2.2 L[k] (List.getElem_mem hlt)
          have sx := HF.out.lf L[k] (List.getElem_mem hlt)
          have hsp := fun W (hW : Below wr.heap.size wr W) => implRok L[k].r L[k].u W (rx.kept hW) sx
          have HNX : Hid (rpAtP L.length k L[k].r → ClR L (k + 1)) := (show _ → _ from fun h => hr.out.next hlt h)
          have HBD : Hid (¬ rpAtP L.length k L[k].r → B = false) := (show _ → _ from HR.out k hlt)
          have hki : (k : Int) < (L.length : Int) := by omega
          rw [rpA_rx] at hsp
          unfold rpAtP at HNX HBD
          generalize L[k] = x at CK hsp HNX HBD
          obtain ⟨⟨xi, xp, xv, xn, xla, xl, xc, xok, xch, xte⟩, la, lc, oa, oc, ca, cc, ta, tc, T⟩ := x
          obtain ⟨c0, c1, c2, c3, c4, c5, c6, c7, c8, c9⟩ := CK
          simp only at c0 c1 c2 c3 c4 c5 c6 c7 c8 c9 hsp HNX HBD
          generalize RpOk ⟨xi, xp, xv, xn, xla, xl, xc, xok, xch, xte⟩ = P at hsp HNX HBD
          clear HA2 rx sx hr
          go_upto_region 7 with fail
          clear c0 c1 c2 c3 c4 c5 c6 c7 c8 c9
          have XB : Hid (Bx (wr.alloc (.cells #[.int .i64 xi, .int .i64 xp, .int .i64 xv, .bool xn, .int .i64 xla, .slice la xl.length lc, .int .i64 xc, .slice oa xok.length oc, .slice ca xch.length cc, .slice ta xte.length tc] 53)) wr.heap.size 53 #[.int .i64 xi, .int .i64 xp, .int .i64 xv, .bool xn, .int .i64 xla, .slice la xl.length lc, .int .i64 xc, .slice oa xok.length oc, .slice ca xch.length cc, .slice ta xte.length tc]) := (show Hid _ from Bx.new _ _ _)
          have BZ : Hid (Below wr.heap.size wr (wr.alloc (.cells #[.int .i64 xi, .int .i64 xp, .int .i64 xv, .bool xn, .int .i64 xla, .slice la xl.length lc, .int .i64 xc, .slice oa xok.length oc, .slice ca xch.length cc, .slice ta xte.length tc] 53))) := (show Hid _ from (Below.refl _ wr).alloc (Nat.le_refl _) _)
          generalize (wr.alloc (.cells #[.int .i64 xi, .int .i64 xp, .int .i64 xv, .bool xn, .int .i64 xla, .slice la xl.length lc, .int .i64 xc, .slice oa xok.length oc, .slice ca xch.length cc, .slice ta xte.length tc] 53)) = wz at XB BZ ⊢
          have hx2 : Hid (Bx wz w.heap.size 31 #[.slice (some ⟨g, q, none⟩) L.length ac, .slice ba M.length bc]) := (show Hid _ from Bx.kept hx.out BZ.out)
          have hb2 : Hid (Below w.heap.size w wz) := (show Hid _ from hb.out.trans (BZ.out.mono hb.out.size))
          have c0 := XB.out.cell 0
          have c1 := XB.out.cell 1
          by_cases hid : xi = (k : Int)
          · have d1 : (xi != (k : Int)) = false := by simp [hid]
            have HD1 : Hid (xi = (k : Int)) := hid
            clear hid
            by_cases hpp : xp = (L.length : Int)
            · have d2 : (xp != (L.length : Int)) = false := by simp [hpp]
              have HD2 : Hid (xp = (L.length : Int)) := hpp
              clear hpp
              have c2 := XB.out.cell 2
              have c3 := XB.out.cell 3
              have c4 := XB.out.cell 4
              have c5 := XB.out.cell 5
              have c6 := XB.out.cell 6
              have c7 := XB.out.cell 7
              have c8 := XB.out.cell 8
              have c9 := XB.out.cell 9
              cases hT : dB P with
              | true =>
                rw [hT] at hsp
                have HN2 := HNX.out ⟨HD1.out, HD2.out, dB_is hT⟩
                clear HNX HBD
                go_wp2_with (go_at_call 28; refine (hsp _ BZ.out).mono ?_; rintro e w2 ⟨rfl, hb3⟩)
                go_roundw
                case rel => exact ⟨k + 1, by omega, by go_num, HN2, (show Hid _ from Bx.kept hx2.out hb3), (show Hid _ from hb2.out.trans (hb3.mono hb2.out.size))⟩
                case measure => simp [intOf]; omega
              | false =>
                rw [hT] at hsp
                have HN2 := HBD.out fun h => dB_not hT h.2.2
                clear HNX HBD
                go_wp2_with (go_at_call 28; refine (hsp _ BZ.out).mono ?_; rintro e w2 ⟨rfl, hb3⟩)
                go_ret
                subst HN2
                exact ⟨rfl, hb2.out.trans (hb3.mono hb2.out.size)⟩
            · have d2 : (xp != (L.length : Int)) = true := by simp [hpp]
              have HN2 := HBD.out fun h => hpp h.2.1
              clear HNX HBD
              go_wp2
              go_ret
              subst HN2
              exact ⟨rfl, hb2.out⟩
          · have d1 : (xi != (k : Int)) = true := by simp [hid]
            have HN2 := HBD.out fun h => hid h.1
            clear HNX HBD
            go_wp2
            go_ret
            subst HN2
            exact ⟨rfl, hb2.out⟩
        · obtain ⟨w4, rfl⟩ : ∃ x, x = wr := ⟨wr, rfl⟩
          obtain rfl : k = L.length := by omega
          have HRR : Hid (ClR L L.length) := hr
          have x1 := hx.out.cell 1
          clear hr
          go_wp2_with fail
          clear x1
          go_loopw [47] (fun i wr => ∃ (j : Nat), j ≤ M.length ∧ i = .int .i64 j ∧ Hid (ClM L M j) ∧ Hid (Below w.heap.size w wr)) (fun i _ => M.length - (intOf i).toNat)
          case atStart => exact ⟨0, Nat.zero_le _, rfl, (show Hid _ from ClM.zero _ _), hb⟩
          case round =>
            obtain ⟨j, hj, rfl, hr2, hb2⟩ := hrel
            by_cases hlt2 : j < M.length
            · have HA2 := HL.out.m.kept hb2.out
              obtain ⟨g, q, rfl⟩ := mxAt HA2.1 (by omega)
              have CK := mxCells HA2.1 hlt2
              have HNX : Hid (toP L.length M[j].m → ClM L M (j + 1)) := (show _ → _ from fun h => hr2.out.next hlt2 h)
              have HBD : Hid (¬ toP L.length M[j].m → B = false) := (show _ → _ from HM.out j hlt2)
              have hki : (j : Int) < (M.length : Int) := by omega
              have jin := fun W => implIp M[j].m.t (L.length : Int) W
              unfold toP at HNX HBD
              unfold Mx.u at CK
              generalize M[j] = x at CK jin HNX HBD
              obtain ⟨⟨mk, mf, mt, mv, ml, mll, mc⟩, px, cx⟩ := x
              obtain ⟨c0, c1, c2, c3, c4, c5, c6⟩ := CK
              simp only at c0 c1 c2 c3 c4 c5 c6 jin HNX HBD
              clear HA2 hr2
              go_upto_region 13 with fail
              clear c0 c1 c2 c3 c4 c5 c6
              have XB : Hid (Bx (wr.alloc (.cells #[.int .i64 mk, .int .i64 mf, .int .i64 mt, .int .i64 mv, .int .i64 ml, .slice px mll.length cx, .int .i64 mc] 57)) wr.heap.size 57 #[.int .i64 mk, .int .i64 mf, .int .i64 mt, .int .i64 mv, .int .i64 ml, .slice px mll.length cx, .int .i64 mc]) := (show Hid _ from Bx.new _ _ _)
              have hb3 : Hid (Below w.heap.size w (wr.alloc (.cells #[.int .i64 mk, .int .i64 mf, .int .i64 mt, .int .i64 mv, .int .i64 ml, .slice px mll.length cx, .int .i64 mc] 57))) := (show Hid _ from hb2.out.alloc hb2.out.size _)
              generalize (wr.alloc (.cells #[.int .i64 mk, .int .i64 mf, .int .i64 mt, .int .i64 mv, .int .i64 ml, .slice px mll.length cx, .int .i64 mc] 57)) = wz at XB hb3 ⊢
              have c2 := XB.out.cell 2
              cases hT : ipB mt (L.length : Int) with
              | true =>
                rw [hT] at jin
                have HN2 := HNX.out (of_decide_eq_true hT)
                clear HNX HBD
                go_wp2_with (go_at_call 29; refine (jin _).mono ?_; rintro e w2 ⟨rfl, rfl⟩)
                go_roundw
                case rel => exact ⟨j + 1, by omega, by go_num, HN2, hb3⟩
                case measure => simp [intOf]; omega
              | false =>
                rw [hT] at jin
                have HN2 := HBD.out (of_decide_eq_false hT)
                clear HNX HBD
                go_wp2_with (go_at_call 29; refine (jin _).mono ?_; rintro e w2 ⟨rfl, rfl⟩)
                go_ret
                subst HN2
                exact ⟨rfl, hb3.out⟩
            · obtain rfl : j = M.length := by omega
              have HMM : Hid (ClM L M M.length) := hr2
              have HN2 := HY.out HRR.out HMM.out
              clear hr2
              go_wp2
              go_ret
              subst HN2
              exact ⟨rfl, hb2.out⟩
    · have hb : dB (clB L M) = false := dB_no fun hc => hm (HI.out.1 hc).2.1
      have dm2 : (M.length : Int) > 150 := by omega
      rw [hb]
      clear HI hp
      go_enter Try.func9, Try.ntmps9
      go_wp2_with (go_at_call 27; refine (jp _).mono ?_; rintro e w1 ⟨rfl, rfl⟩)
      go_ret
      exact ⟨rfl, (Below.refl _ w).alloc (Nat.le_refl _) _⟩
  · rw [decide_eq_false hp] at jp
    have hb : dB (clB L M) = false := dB_no fun hc => hp (HI.out.1 hc).1
    rw [hb]
    go_enter Try.func9, Try.ntmps9
    go_wp2_with (go_at_call 27; refine (jp _).mono ?_; rintro e w1 ⟨rfl, rfl⟩)
    go_ret
    exact ⟨rfl, (Below.refl _ w).alloc (Nat.le_refl _) _⟩
end Go.Proofs.Ytdkhdjickkcaiaa.Rl
