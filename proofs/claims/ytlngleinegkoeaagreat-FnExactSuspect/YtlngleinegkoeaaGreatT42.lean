/-
  The specification's l17Tell.
  The library's Compare and Or; the greatest Commit.
  The closure of putTell.
-/
import Derived.Test.YtlngleinegkoeaaGreatT41
namespace Go.Proofs.YtlngleinegkoeaaGreat.Rl
open Go.RowKit Go.Sort Go.Shelf
set_option linter.unusedVariables false
set_option linter.unusedSimpArgs false

theorem xGrow {w w' : World} {B B' : Nat} {v u : Value} {T : List Mx} {l : List ByteArray} (hv : OwnsM w B v T) (hu : HasX w B' u l) (hg : w.grownBy w' v.ownBlock) : HasX w' B' u l :=
  hu.grown hg (fun k hk e => apTy hv hu k e hk)
set_option maxRecDepth 100000 in
set_option maxHeartbeats 8000000 in
theorem specTell (r : Rp) (u : Rv) (B b : Nat) (m : Ms) (um : Value) (w : World) (h : RpAt w B b u r) (hm : Sls txtE w um m.l) (hml : m.l.length ≤ 1048576) (hT : u.T.length ≤ 1000) :
    Calls Tryz.prog 164 #[.pointer (some ⟨b, 0, none⟩), msA m um] w fun e w' => e = .returned (.tuple #[]) ∧ ∃ u', RpAt w' B b u' { r with te := putM m r.te } ∧ Below B w w' := by
  obtain ⟨pm, cm, rfl⟩ := Sls.slen0 hm
  obtain ⟨ta, tc, hte, htc1, htc2, hta⟩ := h.o.te.form
  have HM : Hid (Sls txtE w (.slice pm m.l.length cm) m.l) := hm
  have HML : Hid (m.l.length ≤ 1048576) := hml
  have H0 : Hid (RpAt w B b u r) := h
  have HTE : Hid (u.te = .slice ta u.T.length tc) := hte
  have HTA : Hid ((ta = none ∧ tc = 0) ∨ ∃ g, ta = some ⟨g, 0, none⟩) := hta
  have HTC : Hid (u.T.length ≤ tc ∧ tc ≤ maxLen ∧ u.T.length ≤ 1000) := ⟨htc1, htc2, hT⟩
  have HR : Hid (u.T.map (·.m) = r.te) := h.o.t
  obtain ⟨T, hTT⟩ : ∃ T, T = u.T := ⟨_, rfl⟩
  rw [← hTT] at HTE HTC HR
  have HTT : Hid (T = u.T) := hTT
  have hC := fun W hW => specMcp m (.slice pm m.l.length cm) W (HM.out.kept hW) hml
  obtain ⟨mk, mf, mt, mv, ma, ml, mc⟩ := m
  unfold msA at *
  simp only at hC HM HML ⊢
  obtain ⟨b0, hb0⟩ : ∃ b0, b0 = w.heap.size := ⟨_, rfl⟩
  have HB0 : Hid (b0 = w.heap.size) := hb0
  obtain ⟨w1, hw1⟩ : ∃ w1, w1 = w.alloc (.cells #[.int .i64 mk, .int .i64 mf, .int .i64 mt, .int .i64 mv, .int .i64 ma, .slice pm ml.length cm, .int .i64 mc] 30) := ⟨_, rfl⟩
  have MB1 : Hid (Bx w1 b0 30 #[.int .i64 mk, .int .i64 mf, .int .i64 mt, .int .i64 mv, .int .i64 ma, .slice pm ml.length cm, .int .i64 mc]) := (show Hid _ from by rw [hw1, hb0]; exact Bx.new _ _ _)
  have B1 : Hid (Below b0 w w1) := (show Hid _ from by rw [hw1, hb0]; exact (Below.refl _ w).alloc (Nat.le_refl _) _)
  have S1 : w1.heap.size = b0 + 1 := by rw [hw1, hb0]; simp
  clear h hm hml hte htc1 htc2 hta hT hTT
  go_enter Tryz.func164, Tryz.ntmps164
  go_upto_region 1 with fail
  rw [← hb0, ← hw1]
  clear hw1 hb0
  have MB2 : Hid (Bx (w1.alloc (.cells #[] 30)) b0 30 #[.int .i64 mk, .int .i64 mf, .int .i64 mt, .int .i64 mv, .int .i64 ma, .slice pm ml.length cm, .int .i64 mc]) := (show Hid _ from MB1.out.alloc _)
  have B2 : Hid (Below b0 w (w1.alloc (.cells #[] 30))) := (show Hid _ from B1.out.alloc (by omega) _)
  have O2 : Hid (OwnsM (w1.alloc (.cells #[] 30)) (b0 + 1) (.slice (some ⟨b0 + 1, 0, none⟩) 0 0) []) := (show Hid _ from by rw [← S1]; exact OwnsE.born w1)
  have Z2 : Hid (b0 + 2 ≤ (w1.alloc (.cells #[] 30)).heap.size) := (show _ ≤ _ by simp; omega)
  go_wp2_with fail
  generalize w1.alloc (.cells #[] 30) = w2 at MB2 B2 O2 Z2 ⊢
  clear MB1 B1 S1
  go_loopw [4, 5] (fun v i wr => ∃ k : Nat, k ≤ T.length ∧ i = .int .i64 k ∧ Hid (∀ j (h : j < T.length), j < k → T[j].m.f < mf) ∧ Hid (OwnsM wr (b0 + 1) v (T.take k)) ∧ Hid (Bx wr b0 30 #[.int .i64 mk, .int .i64 mf, .int .i64 mt, .int .i64 mv, .int .i64 ma, .slice pm ml.length cm, .int .i64 mc]) ∧ Hid (Below b0 w wr) ∧ Hid (b0 + 2 ≤ wr.heap.size)) (fun _ i _ => T.length - (intOf i).toNat)
  case atStart => exact ⟨0, Nat.zero_le _, rfl, (show Hid _ from fun _ _ h => absurd h (by omega)), O2, MB2, B2, Z2⟩
  case round =>
    clear O2 MB2 B2 Z2
    obtain ⟨k, hk, rfl, hL, hO, hX, hB, hZ⟩ := hrel
    obtain ⟨va, vc, hvv, hvc, _⟩ := hO.out.form
    subst hvv
    have hlk : (T.take k).length = k := by rw [List.length_take, Nat.min_eq_left hk]
    rw [hlk] at hO ⊢
    have hk5 : k ≤ 1000 := Nat.le_trans hk HTC.out.2.2
    have hT5 := HTC.out.2.2
    have HR0 : Hid (RpAt wr B b u r) := (show Hid _ from H0.out.kept (by rw [← HB0.out]; exact hB.out))
    have q9 := HR0.out.c.cells.2.2.2.2.2.2.2.2.2
    rw [HTE.out] at q9
    have m1 := hX.out.cell 1
    change wr.cell? ⟨b0, 1, none⟩ = some (.int .i64 mf) at m1
    by_cases hgo : ∃ h : k < T.length, T[k].m.f < mf
    · obtain ⟨hlt, hf⟩ := hgo
      have HA2 : TeGot wr (.slice ta T.length tc) T := by
        have := HR0.out.got.te
        rw [HTE.out, ← HTT.out] at this
        exact this
      obtain ⟨g, q, hta2⟩ := mxAt HA2.1 (by omega)
      rw [hta2] at HA2
      have CK := mxCells HA2.1 hlt
      have hlti : (k : Int) < (T.length : Int) := by omega
      have HNX : Hid (∀ j (h : j < T.length), j < k + 1 → T[j].m.f < mf) := (show ∀ _ _ _, _ from fun j h hj => by
        by_cases e : j = k
        · subst e; exact hf
        · exact hL.out j h (by omega))
      have HTK : Hid (T.take (k + 1) = T.take k ++ [T[k]]) := (show _ = _ from List.take_succ_eq_append_getElem hlt)
      generalize T[k] = x at CK hf HTK
      obtain ⟨xm, xa, xc⟩ := x
      unfold Mx.u at CK
      simp only at CK hf
      obtain ⟨y0, y1, y2, y3, y4, y5, y6⟩ := CK
      clear HA2
      have B3 : ∀ n, Below wr.heap.size wr (wr.drewN n) := fun n => ⟨rfl, rfl, rfl, Nat.le_refl _, fun _ _ => rfl⟩
      go_upto_region 3 with fail
      go_cut [27] from 8 to 27 (fun s wx => s = .bool true ∧ Hid (Below wr.heap.size wr wx))
      case first =>
        go_wp2_with fail
        go_quiet (fail)
        have B4 : Hid (Below wr.heap.size wr (wr.drewN nq)) := B3 nq
        generalize wr.drewN nq = wn at B4 ⊢
        go_wp2_with fail
        go_meet
        exact ⟨by simp [hf], B4⟩
      case rest =>
        clear y0 y1 y2 y3 y4 y5 y6 q9 m1 B3 hf hlti
        obtain ⟨rfl, hbc⟩ := hcut
        obtain ⟨w4, rfl⟩ : ∃ z, z = wc := ⟨wc, rfl⟩
        have hB4 : Hid (Below b0 w w4) := (show Hid _ from hB.out.trans (hbc.out.mono (by have := hZ.out; omega)))
        have hO4 : Hid (OwnsM w4 (b0 + 1) (.slice va k vc) (T.take k)) := (show Hid _ from hO.out.kept hbc.out)
        have hX4 : Hid (Bx w4 b0 30 #[.int .i64 mk, .int .i64 mf, .int .i64 mt, .int .i64 mv, .int .i64 ma, .slice pm ml.length cm, .int .i64 mc]) := (show Hid _ from hX.out.kept hbc.out)
        have hZ4 : Hid (b0 + 2 ≤ w4.heap.size) := (show _ ≤ _ by have := hZ.out; have := hbc.out.size; omega)
        have q94 := (H0.out.kept (by rw [← HB0.out]; exact hB4.out)).c.cells.2.2.2.2.2.2.2.2.2
        rw [HTE.out] at q94
        have HA2 : TeGot w4 (.slice ta T.length tc) T := by
          have := (H0.out.kept (by rw [← HB0.out]; exact hB4.out)).got.te
          rw [HTE.out, ← HTT.out] at this
          exact this
        rw [hta2] at HA2
        have CK := mxCells HA2.1 hlt
        have hxk : T[k] = ⟨xm, xa, xc⟩ := by
          have := HTK.out
          rw [List.take_succ_eq_append_getElem hlt] at this
          exact List.singleton_inj.1 (List.append_cancel_left this)
        rw [hxk] at CK
        unfold Mx.u at CK
        simp only at CK
        obtain ⟨y0, y1, y2, y3, y4, y5, y6⟩ := CK
        have HOa : Hid (OwnsM (w4.alloc (.cells #[.int .i64 xm.k, .int .i64 xm.f, .int .i64 xm.t, .int .i64 xm.v, .int .i64 xm.la, .slice xa xm.l.length xc, .int .i64 xm.c] 30)) (b0 + 1) (.slice va k vc) (T.take k)) := (show Hid _ from hO4.out.alloc _)
        have HFC : Hid (∀ j q, (cellsE mxE [(⟨xm, xa, xc⟩ : Mx)])[j]? = some q → (w4.alloc (.cells #[.int .i64 xm.k, .int .i64 xm.f, .int .i64 xm.t, .int .i64 xm.v, .int .i64 xm.la, .slice xa xm.l.length xc, .int .i64 xm.c] 30)).cell? ((⟨w4.heap.size, 0, none⟩ : Addr).add j) = some q) := (show ∀ _ _ _, _ from fresh_cell w4 _ _ _ rfl)
        clear HA2 hxk hbc hO hX hB hZ HR0 hO4
        have hz4 := hZ4.out
        go_wp2_with (
          at_builtin
          refine wpList_rowE_at (E := mxE) _ rfl (.tmp 30) (.tmp 38) 26 30 _ 72 Tryz.underlying26 Tryz.infoMSV rfl rfl (b0 + 1) (.slice va k vc) (T.take k) rfl HOa.out ⟨w4.heap.size, 0, none⟩ 1 [⟨xm, xa, xc⟩] rfl HFC.out (by rw [hlk]; unfold maxLen; simp only [List.length_singleton]; omega) (by rw [hlk]; simp only [List.length_singleton]; omega) (by simp; omega) ?_
          intro v' w5 ho5 hg5 _ _)
        have hne : ∀ j, (Value.slice va k vc).ownBlock = some j → b0 + 1 ≤ j := HOa.out.from
        have hga := grownE_below (w' := w5) (r := (Value.slice va k vc).ownBlock) (a := w4) (w := w4) (grownE_self _ _)
        have hsz5 : w4.heap.size + 1 ≤ w5.heap.size := by have := hg5.size; simp at this; omega
        have hgs : ∀ j, j < w4.heap.size → (Value.slice va k vc).ownBlock ≠ some j → w5.heap[j]? = w4.heap[j]? := fun j hj hn => (hg5.block j (by simp; omega) (fun e => hn e.symm)).trans (Below.heap_alloc _ _ _ hj)
        have hB5 : Hid (Below b0 w w5) := (show Hid _ from ⟨hg5.os.trans hB4.out.os, hg5.tape.trans hB4.out.tape, hg5.output.trans hB4.out.output, Nat.le_trans hB4.out.size (by omega), fun j hj => (hgs j (by omega) (fun e => by have := hne j e; omega)).trans (hB4.out.block j hj)⟩)
        have hX5 : Hid (Bx w5 b0 30 #[.int .i64 mk, .int .i64 mf, .int .i64 mt, .int .i64 mv, .int .i64 ma, .slice pm ml.length cm, .int .i64 mc]) := (show Hid _ from (hgs b0 (Bx.lt hX4.out) (fun e => by have := hne b0 e; omega)).trans hX4.out)
        have hO5 : Hid (OwnsM w5 (b0 + 1) v' (T.take (k + 1))) := (show Hid _ from by rw [HTK.out]; exact ho5)
        have hZ5 : Hid (b0 + 2 ≤ w5.heap.size) := (show _ ≤ _ by omega)
        clear hga hgs hne hg5 ho5 HOa HFC hX4 hB4 q94 y0 y1 y2 y3 y4 y5 y6 hz4
        go_roundw
        case rel => exact ⟨k + 1, hlt, by go_num, HNX, hO5, hX5, hB5, hZ5⟩
        case measure => simp [intOf]; omega
    · go_upto_region 3 with fail
      go_cut [27] from 8 to 27 (fun s wx => s = .bool false ∧ Hid (Below wr.heap.size wr wx))
      case first =>
        by_cases hlt : k < T.length
        · have hf : ¬ T[k].m.f < mf := fun hh => hgo ⟨hlt, hh⟩
          have HA2 : TeGot wr (.slice ta T.length tc) T := by
            have := HR0.out.got.te
            rw [HTE.out, ← HTT.out] at this
            exact this
          obtain ⟨g, q, hta2⟩ := mxAt HA2.1 (by omega)
          rw [hta2] at HA2
          obtain ⟨y0, y1, y2, y3, y4, y5, y6⟩ := mxCells HA2.1 hlt
          have hlti : (k : Int) < (T.length : Int) := by omega
          clear HA2 hgo y0 y2 y3 y4 y5 y6
          generalize T[k].m.f = f at y1 hf
          go_wp2_with fail
          go_quiet (fail)
          have B3 : Hid (Below wr.heap.size wr (wr.drewN nq)) := (show Hid _ from ⟨rfl, rfl, rfl, Nat.le_refl _, fun _ _ => rfl⟩)
          generalize wr.drewN nq = wn at B3 ⊢
          go_wp2_with fail
          go_meet
          exact ⟨by simp [hf], B3⟩
        · have hlti : ¬ (k : Int) < (T.length : Int) := by omega
          clear hgo
          go_wp2_with fail
          go_quiet (fail)
          have B3 : Hid (Below wr.heap.size wr (wr.drewN nq)) := (show Hid _ from ⟨rfl, rfl, rfl, Nat.le_refl _, fun _ _ => rfl⟩)
          generalize wr.drewN nq = wn at B3 ⊢
          go_wp2_with fail
          go_meet
          exact ⟨rfl, B3⟩
      case rest =>
        clear q9 m1
        obtain ⟨rfl, hbc⟩ := hcut
        obtain ⟨w4, rfl⟩ : ∃ z, z = wc := ⟨wc, rfl⟩
        have hB4 : Hid (Below b0 w w4) := (show Hid _ from hB.out.trans (hbc.out.mono (by have := hZ.out; omega)))
        have hO4 : Hid (OwnsM w4 (b0 + 1) (.slice va k vc) (T.take k)) := (show Hid _ from hO.out.kept hbc.out)
        have hX4 : Hid (Bx w4 b0 30 #[.int .i64 mk, .int .i64 mf, .int .i64 mt, .int .i64 mv, .int .i64 ma, .slice pm ml.length cm, .int .i64 mc]) := (show Hid _ from hX.out.kept hbc.out)
        have hZ4 : Hid (b0 + 2 ≤ w4.heap.size) := (show _ ≤ _ by have := hZ.out; have := hbc.out.size; omega)
        have q94 := (H0.out.kept (by rw [← HB0.out]; exact hB4.out)).c.cells.2.2.2.2.2.2.2.2.2
        rw [HTE.out] at q94
        have HS0 : Hid (Sls mxE w (.slice ta T.length tc) T) := (show Hid _ from by
          have := H0.out.got.te.1
          rw [HTE.out, ← HTT.out] at this
          exact this)
        have HGO : Hid (¬ ∃ h : k < T.length, T[k].m.f < mf) := hgo
        clear hbc hO hX hB hZ HR0
        go_upto_region 6 with fail
        go_cut [6] from 40 to 46 (fun s wx => ∃ pr cr, s = .slice pr (T.length - k) cr ∧ Hid (Sls mxE w (.slice pr (T.length - k) cr) (T.drop k)) ∧ w4 = wx)
        case first =>
          have htc := HTC.out.1
          have htm := HTC.out.2.1
          unfold maxLen at htm
          rcases HTA.out with ⟨rfl, rfl⟩ | ⟨g, rfl⟩
          · obtain rfl : T = [] := List.eq_nil_of_length_eq_zero (by omega)
            obtain rfl : k = 0 := by simpa using hk
            go_wp2_with fail
            go_meet
            exact ⟨none, 0, rfl, (show Hid _ from Sls.nil (Nat.zero_le _)), rfl⟩
          · have hsd : Hid _ := Sls.drop HS0.out hk
            by_cases h : tc = k
            · subst h
              have hTk : Hid (T.length = tc) := (show _ = _ by omega)
              go_wp2_with fail
              go_meet
              rw [show T.length - tc = 0 from by rw [hTk.out]; omega, show T.drop tc = [] from by rw [← hTk.out, List.drop_length]]
              refine ⟨_, _, rfl, ?_, rfl⟩
              show Sls _ _ _ _
              exact Sls.nil (by omega)
            · go_wp2_with fail
              go_meet
              refine ⟨_, _, rfl, ?_, rfl⟩
              have e : (0 : Nat) + k * mxE.k = k * 7 := by show 0 + k * 7 = k * 7; omega
              have hsd := hsd.out
              rw [e] at hsd
              exact hsd
        case rest =>
          obtain ⟨d, hd⟩ : ∃ d, d = T.length - k := ⟨_, rfl⟩
          rw [← hd] at hcut
          obtain ⟨pr, cr, rfl, HS, hww⟩ := hcut
          subst hww
          have HD : Hid (d = T.length - k) := hd
          clear hd
          have HS4 : Sls mxE w4 (.slice pr d cr) (T.drop k) := HS.out.kept (by rw [← HB0.out]; exact hB4.out)
          have m1 := hX4.out.cell 1
          change w4.cell? ⟨b0, 1, none⟩ = some (.int .i64 mf) at m1
          obtain ⟨P, hP⟩ : ∃ P : Prop, P = ∃ h : k < T.length, T[k].m.f = mf := ⟨_, rfl⟩
          have HP : Hid (P = ∃ h : k < T.length, T[k].m.f = mf) := hP
          go_upto_region 7 with fail
          go_cut [58] from 47 to 58 (fun s wx => s = .bool (dB P) ∧ Hid (Below w4.heap.size w4 wx))
          case first =>
            by_cases hlt : k < T.length
            · obtain ⟨g2, q2, hpr⟩ := mxAt HS4 (by rw [List.length_drop]; omega)
              rw [hpr] at HS4
              have CK := mxCells HS4 (j := 0) (by rw [List.length_drop]; omega)
              have e0 : (T.drop k)[0]'(by rw [List.length_drop]; omega) = T[k] := by simp
              rw [e0] at CK
              simp only [Nat.zero_mul, Nat.add_zero] at CK
              have y1 := CK.2.1
              have hlti : (0 : Int) < (d : Int) := by have := HD.out; omega
              have hDP : dB P = decide (T[k].m.f = mf) := by
                by_cases he : T[k].m.f = mf
                · rw [decide_eq_true he]; exact dB_yes (hP ▸ ⟨hlt, he⟩)
                · rw [decide_eq_false he]; exact dB_no (fun hh => he ((hP ▸ hh : ∃ h : k < T.length, T[k].m.f = mf).2))
              have HDP : Hid _ := hDP
              clear CK HS4 hP hgo hDP e0 HP HGO
              subst hpr
              clear HS
              generalize T[k].m.f = f at y1 HDP
              have hd0 : 0 < d := by have := HD.out; omega
              go_wp2_with fail
              go_quiet (fail)
              have B3 : Hid (Below w4.heap.size w4 (w4.drewN nq)) := (show Hid _ from ⟨rfl, rfl, rfl, Nat.le_refl _, fun _ _ => rfl⟩)
              generalize w4.drewN nq = wn at B3 ⊢
              go_wp2_with fail
              go_meet
              refine ⟨?_, B3⟩
              rw [HDP.out]
              by_cases he : f = mf <;> simp [he]
            · have hDP : dB P = false := dB_no (fun hh => hlt ((hP ▸ hh : ∃ h : k < T.length, T[k].m.f = mf).1))
              have HDP : Hid _ := hDP
              have hd0 : d = 0 := by have := HD.out; omega
              clear HS4 hP hgo hDP HS HP HGO HD
              subst hd0
              go_wp2_with fail
              go_quiet (fail)
              have B3 : Hid (Below w4.heap.size w4 (w4.drewN nq)) := (show Hid _ from ⟨rfl, rfl, rfl, Nat.le_refl _, fun _ _ => rfl⟩)
              generalize w4.drewN nq = wn at B3 ⊢
              go_wp2_with fail
              go_meet
              exact ⟨by rw [HDP.out], B3⟩
          case rest =>
            clear HS4 m1 hP hgo
            obtain ⟨rfl, hbc⟩ := hcut
            obtain ⟨w5, rfl⟩ : ∃ z, z = wc := ⟨wc, rfl⟩
            have hB5 : Hid (Below b0 w w5) := (show Hid _ from hB4.out.trans (hbc.out.mono (by have := hZ4.out; omega)))
            have hO5 : Hid (OwnsM w5 (b0 + 1) (.slice va k vc) (T.take k)) := (show Hid _ from hO4.out.kept hbc.out)
            have hX5 : Hid (Bx w5 b0 30 #[.int .i64 mk, .int .i64 mf, .int .i64 mt, .int .i64 mv, .int .i64 ma, .slice pm ml.length cm, .int .i64 mc]) := (show Hid _ from hX4.out.kept hbc.out)
            have hZ5 : Hid (b0 + 2 ≤ w5.heap.size) := (show _ ≤ _ by have := hZ4.out; have := hbc.out.size; omega)
            clear hbc hO4 hX4 hB4 hZ4 q94
            have HF : ∀ i (h : i < r.te.length), ∃ h' : i < T.length, r.te[i] = T[i].m := fun i h => by
              have e : r.te = T.map (·.m) := HR.out.symm
              have h' : i < T.length := by rw [e] at h; simpa using h
              refine ⟨h', ?_⟩
              rw [List.getElem_of_eq e]
              simp
            have HLR : r.te.length = T.length := by rw [← HR.out, List.length_map]
            have HBF : ∀ i (h : i < r.te.length), i < k → r.te[i].f < mf := fun i h hi => by
              obtain ⟨h', e⟩ := HF i h
              rw [e]
              exact hL.out i h' hi
            cases hq : dB P with
            | false =>
              have hPn := dB_not hq
              have HRES : Hid (putM ⟨mk, mf, mt, mv, ma, ml, mc⟩ r.te = r.te.take k ++ ⟨mk, mf, mt, mv, ma, ml, mc⟩ :: r.te.drop (k)) := (show _ = _ from putM_ins _ k (by omega) HBF (fun h => by
                obtain ⟨h', e⟩ := HF k h
                rw [e]
                show mf < _
                have n1 : ¬ T[k].m.f < mf := fun hh => HGO.out ⟨h', hh⟩
                have n2 : ¬ T[k].m.f = mf := fun hh => hPn (by rw [HP.out]; exact ⟨h', hh⟩)
                omega))
              clear HF HLR HBF hPn
              have HSq : Hid (Sls mxE w (.slice pr d cr) (T.drop (k))) := HS
              have HKQ : Hid (k ≤ k ∧ k ≤ T.length) := (show _ ∧ _ from by omega)
              have xl0 := hX5.out.cell 0
              have xl1 := hX5.out.cell 1
              have xl2 := hX5.out.cell 2
              have xl3 := hX5.out.cell 3
              have xl4 := hX5.out.cell 4
              have xl5 := hX5.out.cell 5
              have xl6 := hX5.out.cell 6
              change w5.cell? ⟨b0, 0, none⟩ = some (.int .i64 mk) at xl0
              change w5.cell? ⟨b0, 1, none⟩ = some (.int .i64 mf) at xl1
              change w5.cell? ⟨b0, 2, none⟩ = some (.int .i64 mt) at xl2
              change w5.cell? ⟨b0, 3, none⟩ = some (.int .i64 mv) at xl3
              change w5.cell? ⟨b0, 4, none⟩ = some (.int .i64 ma) at xl4
              change w5.cell? ⟨b0, 5, none⟩ = some (.slice pm ml.length cm) at xl5
              change w5.cell? ⟨b0, 6, none⟩ = some (.int .i64 mc) at xl6
              go_wp2_with fail
              refine (hC _ (by rw [← HB0.out]; exact hB5.out)).mono ?_
              clear xl0 xl1 xl2 xl3 xl4 xl5 xl6
              rintro e w6 ⟨vl, rfl, hol, hb6⟩
              obtain ⟨al, cl, rfl, _⟩ := hol.form
              simp only
              have hz5 := hZ5.out
              have hs6 := hb6.size
              have hB6 : Hid (Below b0 w w6) := (show Hid _ from hB5.out.trans (hb6.mono (by omega)))
              have HL6 : Hid (HasX (w6.alloc (.cells #[.int .i64 mk, .int .i64 mf, .int .i64 mt, .int .i64 mv, .int .i64 ma, .slice al ml.length cl, .int .i64 mc] 30)) b0 (.slice al ml.length cl) ml) := (show Hid _ from ((hol.low (by omega)).alloc _).has)
              have HOa : Hid (OwnsM (w6.alloc (.cells #[.int .i64 mk, .int .i64 mf, .int .i64 mt, .int .i64 mv, .int .i64 ma, .slice al ml.length cl, .int .i64 mc] 30)) (b0 + 1) (.slice va k vc) (T.take k)) := (show Hid _ from (hO5.out.kept hb6).alloc _)
              have HFC : Hid (∀ j q, (cellsE mxE [(⟨⟨mk, mf, mt, mv, ma, ml, mc⟩, al, cl⟩ : Mx)])[j]? = some q → (w6.alloc (.cells #[.int .i64 mk, .int .i64 mf, .int .i64 mt, .int .i64 mv, .int .i64 ma, .slice al ml.length cl, .int .i64 mc] 30)).cell? ((⟨w6.heap.size, 0, none⟩ : Addr).add j) = some q) := (show ∀ _ _ _, _ from fresh_cell w6 _ _ _ rfl)
              have hB6a : Hid (Below b0 w (w6.alloc (.cells #[.int .i64 mk, .int .i64 mf, .int .i64 mt, .int .i64 mv, .int .i64 ma, .slice al ml.length cl, .int .i64 mc] 30))) := (show Hid _ from hB6.out.alloc (by omega) _)
              have hZ6a : Hid (b0 + 2 ≤ (w6.alloc (.cells #[.int .i64 mk, .int .i64 mf, .int .i64 mt, .int .i64 mv, .int .i64 ma, .slice al ml.length cl, .int .i64 mc] 30)).heap.size) := (show _ ≤ _ by simp; omega)
              clear hol hb6 hz5 hs6
              clear hX5 hO5 hB5 hZ5 hB6
              go_wp2_with (first
                | (at_builtin
                   refine wpList_rowE_at (E := mxE) _ rfl (.tmp 62) (.tmp 65) 26 30 _ 72 Tryz.underlying26 Tryz.infoMSV rfl rfl (b0 + 1) (.slice va k vc) (T.take k) rfl HOa.out ⟨w6.heap.size, 0, none⟩ 1 [⟨⟨mk, mf, mt, mv, ma, ml, mc⟩, al, cl⟩] rfl HFC.out (by rw [hlk]; unfold maxLen; simp only [List.length_singleton]; omega) (by rw [hlk]; simp only [List.length_singleton]; omega) (by have := hZ6a.out; omega) ?_
                   intro v7 w7 ho7 hg7 _ _
                   have hB7 : Hid (Below b0 w w7) := (show Hid _ from belowE hB6a.out hg7 (by have := hZ6a.out; omega) (fun k h => by have := HOa.out.from k h; omega))
                   have HL7 : Hid (HasX w7 b0 (.slice al ml.length cl) ml) := (show Hid _ from xGrow HOa.out HL6.out hg7)
                   have HO7 : Hid (OwnsM w7 (b0 + 1) v7 (T.take k ++ [⟨⟨mk, mf, mt, mv, ma, ml, mc⟩, al, cl⟩])) := ho7
                   have HZ7 : Hid (b0 + 2 ≤ w7.heap.size) := (show _ ≤ _ from Nat.le_trans hZ6a.out hg7.size)
                   have hS7 : Hid (Sls mxE w7 (.slice pr d cr) (T.drop (k))) := (show Hid _ from HSq.out.kept (by rw [← HB0.out]; exact hB7.out))
                   clear ho7 hg7)
                | (at_builtin
                   refine wpList_rowS (E := mxE) _ rfl (.tmp 66) (.tmp 67) 26 30 _ 72 Tryz.underlying26 Tryz.infoMSV rfl rfl (b0 + 1) v7 _ rfl HO7.out (.slice pr d cr) (T.drop (k)) rfl hS7.out (by rw [List.length_append, hlk, List.length_drop]; unfold maxLen; simp only [List.length_singleton]; omega) (by rw [List.length_append, hlk, List.length_drop]; simp only [List.length_singleton]; omega) (by have := HZ7.out; omega) ?_
                   intro v8 w8 ho8 hg8 _
                   have hB8 : Hid (Below b0 w w8) := (show Hid _ from belowE hB7.out hg8 (by have := HZ7.out; omega) (fun k h => by have := HO7.out.from k h; omega))
                   have HL8 : Hid (HasX w8 b0 (.slice al ml.length cl) ml) := (show Hid _ from xGrow HO7.out HL7.out hg8)
                   have HO8 : Hid (OwnsM w8 (b0 + 1) v8 (T.take k ++ ⟨⟨mk, mf, mt, mv, ma, ml, mc⟩, al, cl⟩ :: T.drop (k))) := (show Hid _ from by rw [List.append_assoc, List.singleton_append] at ho8; exact ho8)
                   clear ho8 hg8)
                | (refine wpList_rpTeM H0.out (by rw [← HB0.out]; exact hB8.out) rfl rfl (.tmp 70) (.tmp 68) rfl (v := v8) (z := ⟨⟨mk, mf, mt, mv, ma, ml, mc⟩, al, cl⟩) (k := k) (q := k) (by rw [← HTT.out, ← HB0.out]; exact HO8.out.low (by omega)) (by rw [← HB0.out]; exact HL8.out) HKQ.out.1 rfl rfl ?_
                   intro w9 hw9 hb9))
              have hpm : putM ⟨mk, mf, mt, mv, ma, ml, mc⟩ r.te = r.te.take k ++ ⟨mk, mf, mt, mv, ma, ml, mc⟩ :: r.te.drop (k) := HRES.out
              rw [hpm]
              go_end0
              first
                | exact ⟨_, hw9, hb9⟩
                | exact ⟨rfl, _, hw9, hb9⟩
                | exact ⟨⟨_, hw9⟩, hb9⟩
                | exact ⟨rfl, ⟨_, hw9⟩, hb9⟩
            | true =>
              have hPP := dB_is hq
              have hPx : ∃ h : k < T.length, T[k].m.f = mf := by rw [← HP.out]; exact hPP
              have hlt := hPx.1
              have HRES : Hid (putM ⟨mk, mf, mt, mv, ma, ml, mc⟩ r.te = r.te.take k ++ ⟨mk, mf, mt, mv, ma, ml, mc⟩ :: r.te.drop (k + 1)) := (show _ = _ from putM_eq _ k (by omega) HBF (by
                obtain ⟨h', e⟩ := HF k (by omega)
                rw [e]
                exact hPx.2))
              clear HF HLR HBF
              obtain ⟨g2, q2, rfl⟩ := mxAt HS.out (by rw [List.length_drop]; omega)
              have hsd : Hid _ := Sls.drop HS.out (k := 1) (by rw [List.length_drop]; omega)
              have hsz : d ≤ cr ∧ cr ≤ maxLen := by
                obtain ⟨_, c', e, k1, k2, _⟩ := HS.out
                injection e with _ _ e3
                subst e3
                rw [List.length_drop, ← HD.out] at k1
                exact ⟨k1, k2⟩
              have hs1 := hsz.1
              have hs2 := hsz.2
              unfold maxLen at hs2
              clear hPx hsz hPP
              go_upto_region 8 with fail
              go_cut [6] from 59 to 60 (fun s wx => ∃ pr' cr', s = .slice pr' (d - 1) cr' ∧ Hid (Sls mxE w (.slice pr' (d - 1) cr') (T.drop (k + 1))) ∧ w5 = wx)
              case first =>
                have hsd2 : Hid (Sls mxE w (.slice (some ⟨g2, q2 + 1 * mxE.k, none⟩) (d - 1) (cr - 1)) (T.drop (k + 1))) := (show Sls _ _ _ _ from by
                  have e := hsd.out
                  rw [List.drop_drop] at e
                  exact e)
                have hd0 : 0 < d := by have := HD.out; omega
                clear hsd HS
                by_cases h : cr = 1
                · subst h
                  have hd1 : d = 1 := by omega
                  have HD1 : Hid (d = 1) := hd1
                  clear hd1
                  go_wp2_with fail
                  go_meet
                  have e := hsd2.out
                  rw [show d - 1 = 0 from by rw [HD1.out]] at e ⊢
                  refine ⟨_, _, rfl, ?_, rfl⟩
                  show Sls _ _ _ _
                  have e2 : T.drop (k + 1) = [] := by
                    obtain ⟨_, _, h1, _⟩ := e
                    injection h1 with _ h2 _
                    exact List.eq_nil_of_length_eq_zero h2.symm
                  rw [e2]
                  exact Sls.nil (by omega)
                · go_wp2_with fail
                  go_meet
                  exact ⟨_, _, rfl, hsd2, rfl⟩
              case rest =>
                clear hsd hs1 hs2 HS
                obtain ⟨pr', cr', rfl, HSr, hww⟩ := hcut
                subst hww
                have HSq : Hid (Sls mxE w (.slice pr' (d - 1) cr') (T.drop (k + 1))) := HSr
                have HKQ : Hid (k ≤ k + 1 ∧ k + 1 ≤ T.length) := (show _ ∧ _ from by omega)
                have xl0 := hX5.out.cell 0
                have xl1 := hX5.out.cell 1
                have xl2 := hX5.out.cell 2
                have xl3 := hX5.out.cell 3
                have xl4 := hX5.out.cell 4
                have xl5 := hX5.out.cell 5
                have xl6 := hX5.out.cell 6
                change w5.cell? ⟨b0, 0, none⟩ = some (.int .i64 mk) at xl0
                change w5.cell? ⟨b0, 1, none⟩ = some (.int .i64 mf) at xl1
                change w5.cell? ⟨b0, 2, none⟩ = some (.int .i64 mt) at xl2
                change w5.cell? ⟨b0, 3, none⟩ = some (.int .i64 mv) at xl3
                change w5.cell? ⟨b0, 4, none⟩ = some (.int .i64 ma) at xl4
                change w5.cell? ⟨b0, 5, none⟩ = some (.slice pm ml.length cm) at xl5
                change w5.cell? ⟨b0, 6, none⟩ = some (.int .i64 mc) at xl6
                go_wp2_with fail
                refine (hC _ (by rw [← HB0.out]; exact hB5.out)).mono ?_
                clear xl0 xl1 xl2 xl3 xl4 xl5 xl6
                rintro e w6 ⟨vl, rfl, hol, hb6⟩
                obtain ⟨al, cl, rfl, _⟩ := hol.form
                simp only
                have hz5 := hZ5.out
                have hs6 := hb6.size
                have hB6 : Hid (Below b0 w w6) := (show Hid _ from hB5.out.trans (hb6.mono (by omega)))
                have HL6 : Hid (HasX (w6.alloc (.cells #[.int .i64 mk, .int .i64 mf, .int .i64 mt, .int .i64 mv, .int .i64 ma, .slice al ml.length cl, .int .i64 mc] 30)) b0 (.slice al ml.length cl) ml) := (show Hid _ from ((hol.low (by omega)).alloc _).has)
                have HOa : Hid (OwnsM (w6.alloc (.cells #[.int .i64 mk, .int .i64 mf, .int .i64 mt, .int .i64 mv, .int .i64 ma, .slice al ml.length cl, .int .i64 mc] 30)) (b0 + 1) (.slice va k vc) (T.take k)) := (show Hid _ from (hO5.out.kept hb6).alloc _)
                have HFC : Hid (∀ j q, (cellsE mxE [(⟨⟨mk, mf, mt, mv, ma, ml, mc⟩, al, cl⟩ : Mx)])[j]? = some q → (w6.alloc (.cells #[.int .i64 mk, .int .i64 mf, .int .i64 mt, .int .i64 mv, .int .i64 ma, .slice al ml.length cl, .int .i64 mc] 30)).cell? ((⟨w6.heap.size, 0, none⟩ : Addr).add j) = some q) := (show ∀ _ _ _, _ from fresh_cell w6 _ _ _ rfl)
                have hB6a : Hid (Below b0 w (w6.alloc (.cells #[.int .i64 mk, .int .i64 mf, .int .i64 mt, .int .i64 mv, .int .i64 ma, .slice al ml.length cl, .int .i64 mc] 30))) := (show Hid _ from hB6.out.alloc (by omega) _)
                have hZ6a : Hid (b0 + 2 ≤ (w6.alloc (.cells #[.int .i64 mk, .int .i64 mf, .int .i64 mt, .int .i64 mv, .int .i64 ma, .slice al ml.length cl, .int .i64 mc] 30)).heap.size) := (show _ ≤ _ by simp; omega)
                clear hol hb6 hz5 hs6
                clear hX5 hO5 hB5 hZ5 hB6
                go_wp2_with (first
                  | (at_builtin
                     refine wpList_rowE_at (E := mxE) _ rfl (.tmp 62) (.tmp 65) 26 30 _ 72 Tryz.underlying26 Tryz.infoMSV rfl rfl (b0 + 1) (.slice va k vc) (T.take k) rfl HOa.out ⟨w6.heap.size, 0, none⟩ 1 [⟨⟨mk, mf, mt, mv, ma, ml, mc⟩, al, cl⟩] rfl HFC.out (by rw [hlk]; unfold maxLen; simp only [List.length_singleton]; omega) (by rw [hlk]; simp only [List.length_singleton]; omega) (by have := hZ6a.out; omega) ?_
                     intro v7 w7 ho7 hg7 _ _
                     have hB7 : Hid (Below b0 w w7) := (show Hid _ from belowE hB6a.out hg7 (by have := hZ6a.out; omega) (fun k h => by have := HOa.out.from k h; omega))
                     have HL7 : Hid (HasX w7 b0 (.slice al ml.length cl) ml) := (show Hid _ from xGrow HOa.out HL6.out hg7)
                     have HO7 : Hid (OwnsM w7 (b0 + 1) v7 (T.take k ++ [⟨⟨mk, mf, mt, mv, ma, ml, mc⟩, al, cl⟩])) := ho7
                     have HZ7 : Hid (b0 + 2 ≤ w7.heap.size) := (show _ ≤ _ from Nat.le_trans hZ6a.out hg7.size)
                     have hS7 : Hid (Sls mxE w7 (.slice pr' (d - 1) cr') (T.drop (k + 1))) := (show Hid _ from HSq.out.kept (by rw [← HB0.out]; exact hB7.out))
                     clear ho7 hg7)
                  | (at_builtin
                     refine wpList_rowS (E := mxE) _ rfl (.tmp 66) (.tmp 67) 26 30 _ 72 Tryz.underlying26 Tryz.infoMSV rfl rfl (b0 + 1) v7 _ rfl HO7.out (.slice pr' (d - 1) cr') (T.drop (k + 1)) rfl hS7.out (by rw [List.length_append, hlk, List.length_drop]; unfold maxLen; simp only [List.length_singleton]; omega) (by rw [List.length_append, hlk, List.length_drop]; simp only [List.length_singleton]; omega) (by have := HZ7.out; omega) ?_
                     intro v8 w8 ho8 hg8 _
                     have hB8 : Hid (Below b0 w w8) := (show Hid _ from belowE hB7.out hg8 (by have := HZ7.out; omega) (fun k h => by have := HO7.out.from k h; omega))
                     have HL8 : Hid (HasX w8 b0 (.slice al ml.length cl) ml) := (show Hid _ from xGrow HO7.out HL7.out hg8)
                     have HO8 : Hid (OwnsM w8 (b0 + 1) v8 (T.take k ++ ⟨⟨mk, mf, mt, mv, ma, ml, mc⟩, al, cl⟩ :: T.drop (k + 1))) := (show Hid _ from by rw [List.append_assoc, List.singleton_append] at ho8; exact ho8)
                     clear ho8 hg8)
                  | (refine wpList_rpTeM H0.out (by rw [← HB0.out]; exact hB8.out) rfl rfl (.tmp 70) (.tmp 68) rfl (v := v8) (z := ⟨⟨mk, mf, mt, mv, ma, ml, mc⟩, al, cl⟩) (k := k) (q := k + 1) (by rw [← HTT.out, ← HB0.out]; exact HO8.out.low (by omega)) (by rw [← HB0.out]; exact HL8.out) HKQ.out.1 rfl rfl ?_
                     intro w9 hw9 hb9))
                have hpm : putM ⟨mk, mf, mt, mv, ma, ml, mc⟩ r.te = r.te.take k ++ ⟨mk, mf, mt, mv, ma, ml, mc⟩ :: r.te.drop (k + 1) := HRES.out
                rw [hpm]
                go_end0
                first
                  | exact ⟨_, hw9, hb9⟩
                  | exact ⟨rfl, _, hw9, hb9⟩
                  | exact ⟨⟨_, hw9⟩, hb9⟩
                  | exact ⟨rfl, ⟨_, hw9⟩, hb9⟩
end Go.Proofs.YtlngleinegkoeaaGreat.Rl
namespace Go.Proofs.YtlngleinegkoeaaGreat.Rl
open Go.RowKit Go.Sort Go.Shelf
set_option linter.unusedVariables false
set_option linter.unusedSimpArgs false

def cmI (a b : Int) : Int := if a < b then -1 else if b < a then 1 else 0
theorem implNan64 (a : Int) (w : World) : Calls Tryz.prog 256 #[.int .i64 a] w fun e w' => e = .returned (.bool false) ∧ w = w' := by
  go_enter Tryz.func256, Tryz.ntmps256
  go_wp2
  go_ret
  exact ⟨by simp, rfl⟩
theorem implNanI (a : Int) (w : World) : Calls Tryz.prog 234 #[.int .i64 a] w fun e w' => e = .returned (.bool false) ∧ w = w' := by
  go_enter Tryz.func234, Tryz.ntmps234
  go_wp2
  go_ret
  exact ⟨by simp, rfl⟩
set_option maxRecDepth 100000 in
set_option maxHeartbeats 4000000 in
theorem implCm64 (a b : Int) (w : World) : Calls Tryz.prog 239 #[.int .i64 a, .int .i64 b] w fun e w' => e = .returned (.int .i64 (cmI a b)) ∧ w = w' := by
  unfold cmI
  by_cases h : a < b
  · rw [if_pos h]
    go_enter Tryz.func239, Tryz.ntmps239
    go_wp2_with (go_at_call 256; refine (implNan64 _ _).mono ?_; rintro e w1 ⟨rfl, h1⟩; subst h1)
    go_ret
    exact ⟨rfl, rfl⟩
  · rw [if_neg h]
    by_cases h2 : b < a
    · rw [if_pos h2]
      go_enter Tryz.func239, Tryz.ntmps239
      go_wp2_with (go_at_call 256; refine (implNan64 _ _).mono ?_; rintro e w1 ⟨rfl, h1⟩; subst h1)
      go_ret
      exact ⟨rfl, rfl⟩
    · rw [if_neg h2]
      go_enter Tryz.func239, Tryz.ntmps239
      go_wp2_with (go_at_call 256; refine (implNan64 _ _).mono ?_; rintro e w1 ⟨rfl, h1⟩; subst h1)
      go_ret
      exact ⟨rfl, rfl⟩
set_option maxRecDepth 100000 in
set_option maxHeartbeats 4000000 in
theorem implCmI (a b : Int) (w : World) : Calls Tryz.prog 194 #[.int .i64 a, .int .i64 b] w fun e w' => e = .returned (.int .i64 (cmI a b)) ∧ w = w' := by
  unfold cmI
  by_cases h : a < b
  · rw [if_pos h]
    go_enter Tryz.func194, Tryz.ntmps194
    go_wp2_with (go_at_call 234; refine (implNanI _ _).mono ?_; rintro e w1 ⟨rfl, h1⟩; subst h1)
    go_ret
    exact ⟨rfl, rfl⟩
  · rw [if_neg h]
    by_cases h2 : b < a
    · rw [if_pos h2]
      go_enter Tryz.func194, Tryz.ntmps194
      go_wp2_with (go_at_call 234; refine (implNanI _ _).mono ?_; rintro e w1 ⟨rfl, h1⟩; subst h1)
      go_ret
      exact ⟨rfl, rfl⟩
    · rw [if_neg h2]
      go_enter Tryz.func194, Tryz.ntmps194
      go_wp2_with (go_at_call 234; refine (implNanI _ _).mono ?_; rintro e w1 ⟨rfl, h1⟩; subst h1)
      go_ret
      exact ⟨rfl, rfl⟩
set_option maxRecDepth 100000 in
set_option maxHeartbeats 4000000 in
theorem implOrI (g : Nat) (a b : Int) (w : World) (h0 : w.cell? ⟨g, 0, none⟩ = some (.int .i64 a)) (h1 : w.cell? ⟨g, 1, none⟩ = some (.int .i64 b)) :
    Calls Tryz.prog 246 #[.slice (some ⟨g, 0, none⟩) 2 2] w fun e w' => e = .returned (.int .i64 (if a = 0 then b else a)) ∧ w = w' := by
  by_cases ha : a = 0
  · subst ha
    rw [if_pos rfl]
    by_cases hb : b = 0
    · subst hb
      go_enter Tryz.func246, Tryz.ntmps246
      go_wp2_with fail
      go_loopw [8] (fun i wr => ∃ k : Nat, k ≤ 2 ∧ i = .int .i64 k ∧ w = wr) (fun i _ => 2 - (intOf i).toNat)
      case atStart => exact ⟨0, by omega, rfl, rfl⟩
      case round =>
        obtain ⟨k, hk, rfl, hw⟩ := hrel
        subst hw
        rcases (show k = 0 ∨ k = 1 ∨ k = 2 by omega) with rfl | rfl | rfl
        · go_wp2_with fail
          go_roundw
          case rel => exact ⟨1, by omega, by go_num, trivial⟩
          case measure => decide
        · go_wp2_with fail
          go_roundw
          case rel => exact ⟨2, by omega, by go_num, trivial⟩
          case measure => decide
        · go_wp2
          go_ret
          exact ⟨rfl, rfl⟩
    · go_enter Tryz.func246, Tryz.ntmps246
      go_wp2_with fail
      go_loopw [8] (fun i wr => ∃ k : Nat, k ≤ 1 ∧ i = .int .i64 k ∧ w = wr) (fun i _ => 2 - (intOf i).toNat)
      case atStart => exact ⟨0, by omega, rfl, rfl⟩
      case round =>
        obtain ⟨k, hk, rfl, hw⟩ := hrel
        subst hw
        rcases (show k = 0 ∨ k = 1 by omega) with rfl | rfl
        · go_wp2_with fail
          go_roundw
          case rel => exact ⟨1, by omega, by go_num, trivial⟩
          case measure => decide
        · go_wp2
          go_ret
          exact ⟨rfl, rfl⟩
  · rw [if_neg ha]
    go_enter Tryz.func246, Tryz.ntmps246
    go_wp2_with fail
    go_loopw [8] (fun i wr => i = .int .i64 0 ∧ w = wr) (fun i _ => 2 - (intOf i).toNat)
    case atStart => exact ⟨rfl, rfl⟩
    case round =>
      obtain ⟨rfl, hw⟩ := hrel
      subst hw
      go_wp2
      go_ret
      exact ⟨rfl, rfl⟩
end Go.Proofs.YtlngleinegkoeaaGreat.Rl
namespace Go.Proofs.YtlngleinegkoeaaGreat.Rl
open Go.RowKit Go.Sort Go.Shelf
set_option linter.unusedVariables false
set_option linter.unusedSimpArgs false

set_option maxRecDepth 100000 in
set_option maxHeartbeats 4000000 in
theorem implPtC (k f t v la d z : Int) (p : Option Addr) (n c : Nat) (w : World) :
    Calls Tryz.prog 238 #[.agg #[.int .i64 k, .int .i64 f, .int .i64 t, .int .i64 v, .int .i64 la, .slice p n c, .int .i64 d], .int .i64 z] w fun e w' => e = .returned (.int .i64 (cmI f z)) ∧ Below w.heap.size w w' := by
  have B1 : Hid (Below w.heap.size w (w.alloc (.cells #[.int .i64 k, .int .i64 f, .int .i64 t, .int .i64 v, .int .i64 la, .slice p n c, .int .i64 d] 30))) := (show Hid _ from (Below.refl _ w).alloc (Nat.le_refl _) _)
  have X1 : Bx (w.alloc (.cells #[.int .i64 k, .int .i64 f, .int .i64 t, .int .i64 v, .int .i64 la, .slice p n c, .int .i64 d] 30)) w.heap.size 30 #[.int .i64 k, .int .i64 f, .int .i64 t, .int .i64 v, .int .i64 la, .slice p n c, .int .i64 d] := Bx.new _ _ _
  have c1 : (w.alloc (.cells #[.int .i64 k, .int .i64 f, .int .i64 t, .int .i64 v, .int .i64 la, .slice p n c, .int .i64 d] 30)).cell? ⟨w.heap.size, 1, none⟩ = some (.int .i64 f) := X1.cell 1
  clear X1
  go_enter Tryz.func238, Tryz.ntmps238
  go_upto_region 1 with fail
  generalize w.alloc (.cells #[.int .i64 k, .int .i64 f, .int .i64 t, .int .i64 v, .int .i64 la, .slice p n c, .int .i64 d] 30) = w1 at B1 c1 ⊢
  go_wp2_with (go_at_call 239; refine (implCm64 _ _ _).mono ?_; rintro e w2 ⟨rfl, h2⟩; subst h2)
  go_ret
  exact ⟨rfl, B1.out⟩
end Go.Proofs.YtlngleinegkoeaaGreat.Rl
