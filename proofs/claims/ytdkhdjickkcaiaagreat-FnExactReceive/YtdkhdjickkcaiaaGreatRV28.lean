/-
  The specification's telling, beside blocks that stay.
  The specification's told, beside blocks that stay.
-/
import Derived.Test.YtdkhdjickkcaiaaGreatRVS
import Derived.Test.YtdkhdjickkcaiaaGreatRV26
import Derived.Test.YtdkhdjickkcaiaaGreatRV23
import Derived.Test.YtdkhdjickkcaiaaGreatRV24
set_option linter.unusedVariables false
set_option linter.unusedSimpArgs false
set_option maxRecDepth 100000
set_option maxHeartbeats 64000000
namespace Go.Proofs.YtdkhdjickkcaiaaGreat.Rl.Fr
open Go.RowKit Go.Sort Go.Shelf
variable {F : Frm}

theorem xGrow {w w' : World} {B B' : Nat} {v u : Value} {T : List Mx} {l : List ByteArray} (hv : OwnsM w B v T) (hu : HasX w B' u l) (hg : w.grownBy w' v.ownBlock) : HasX w' B' u l :=
 hu.grown hg (fun k hk e => apTy hv hu k e hk)
theorem specTell (r : Rp) (u : Rv) (B b : Nat) (m : Ms) (um : Value) (w : World) (h : RpAt F w B b u r) (hm : Sls txtE w um m.l) (hml : m.l.length ≤ 1048576) (hT : u.T.length ≤ 1000) :
  Calls Tryz.prog 111 #[.pointer (some ⟨b, 0, none⟩), msA m um] w fun e w' => e = .returned (.tuple #[]) ∧ ∃ u', RpAt F w' B b u' { r with te := putM m r.te } ∧ Below B w w' := by
 obtain ⟨pm, cm, rfl⟩ := Sls.slen0 hm
 obtain ⟨ta, tc, hte, htc1, htc2, hta⟩ := h.o.te.form
 have HM : Hid (Sls txtE w (.slice pm m.l.length cm) m.l) := hm
 have HML : Hid (m.l.length ≤ 1048576) := hml
 have H0 : Hid (RpAt F w B b u r) := h
 have HTE : Hid (u.te = .slice ta u.T.length tc) := hte
 have HTA : Hid ((ta = none ∧ tc = 0) ∨ ∃ g, ta = some ⟨g, 0, none⟩) := hta
 have HTC : Hid (u.T.length ≤ tc ∧ tc ≤ maxLen ∧ u.T.length ≤ 1000) := ⟨htc1, htc2, hT⟩
 have HR : Hid (u.T.map (·.m) = r.te) := h.o.t
 obtain ⟨T, hTT⟩ : ∃ T, T = u.T := ⟨_, rfl⟩
 rw [← hTT] at HTE HTC HR
 have HTT : Hid (T = u.T) := hTT
 have hC := fun W hW => specMcp m (.slice pm m.l.length cm) W (HM.out.kept hW) hml
 obtain ⟨mk, mf, mt, mv, ma, ml, mc⟩ := m
 unfold msA at *
 simp only at hC HM HML ⊢
 obtain ⟨b0, hb0⟩ : ∃ b0, b0 = w.heap.size := ⟨_, rfl⟩
 have HB0 : Hid (b0 = w.heap.size) := hb0
 obtain ⟨w1, hw1⟩ : ∃ w1, w1 = w.alloc (.cells #[.int .i64 mk, .int .i64 mf, .int .i64 mt, .int .i64 mv, .int .i64 ma, .slice pm ml.length cm, .int .i64 mc] 30) := ⟨_, rfl⟩
 have MB1 : Hid (Bx w1 b0 30 #[.int .i64 mk, .int .i64 mf, .int .i64 mt, .int .i64 mv, .int .i64 ma, .slice pm ml.length cm, .int .i64 mc]) := hH_ (by rw [hw1, hb0]; exact Bx.new _ _ _)
 have B1 : Hid (Below b0 w w1) := hH_ (by rw [hw1, hb0]; exact (Below.refl _ w).alloc (Nat.le_refl _) _)
 have S1 : w1.heap.size = b0 + 1 := by rw [hw1, hb0]; simp
 clear h hm hml hte htc1 htc2 hta hT hTT
 go_enter Tryz.func111, Tryz.ntmps111
 go_upto_region 1 with fail
 rw [← hb0, ← hw1]
 clear hw1 hb0
 have MB2 : Hid (Bx (w1.alloc (.cells #[] 30)) b0 30 #[.int .i64 mk, .int .i64 mf, .int .i64 mt, .int .i64 mv, .int .i64 ma, .slice pm ml.length cm, .int .i64 mc]) := hH_ (MB1.out.alloc _)
 have B2 : Hid (Below b0 w (w1.alloc (.cells #[] 30))) := hH_ (B1.out.alloc (by omega) _)
 have O2 : Hid (OwnsM (w1.alloc (.cells #[] 30)) (b0 + 1) (.slice (some ⟨b0 + 1, 0, none⟩) 0 0) []) := hH_ (by rw [← S1]; exact OwnsE.born w1)
 have Z2 : Hid (b0 + 2 ≤ (w1.alloc (.cells #[] 30)).heap.size) := (show _ ≤ _ by simp; omega)
 go_wp2_with fail
 generalize w1.alloc (.cells #[] 30) = w2 at MB2 B2 O2 Z2 ⊢
 clear MB1 B1 S1
 go_loopw [4, 5] (fun v i wr => ∃ k : Nat, k ≤ T.length ∧ i = .int .i64 k ∧ Hid (∀ j (h : j < T.length), j < k → T[j].m.f < mf) ∧ Hid (OwnsM wr (b0 + 1) v (T.take k)) ∧ Hid (Bx wr b0 30 #[.int .i64 mk, .int .i64 mf, .int .i64 mt, .int .i64 mv, .int .i64 ma, .slice pm ml.length cm, .int .i64 mc]) ∧ Hid (Below b0 w wr) ∧ Hid (b0 + 2 ≤ wr.heap.size)) (fun _ i _ => T.length - (intOf i).toNat)
 case atStart => exact ⟨0, Nat.zero_le _, rfl, (show Hid _ from fun _ _ h => absurd h (by omega)), O2, MB2, B2, Z2⟩
 case round =>
  clear O2 MB2 B2 Z2
  obtain ⟨k, hk, rfl, hL, hO, hX, hB, hZ⟩ := hrel
  obtain ⟨va, vc, hvv, hvc, _⟩ := hO.out.form
  subst hvv
  have hlk : (T.take k).length = k := by rw [List.length_take, Nat.min_eq_left hk]
  rw [hlk] at hO ⊢
  have hk5 : k ≤ 1000 := Nat.le_trans hk HTC.out.2.2
  have hT5 := HTC.out.2.2
  have HR0 : Hid (RpAt F wr B b u r) := hH_ (H0.out.kept (by rw [← HB0.out]; exact hB.out))
  have q9 := HR0.out.c.cells.2.2.2.2.2.2.2.2.2
  rw [HTE.out] at q9
  have m1 := hX.out.cell 1
  change wr.cell? ⟨b0, 1, none⟩ = some (.int .i64 mf) at m1
  by_cases hgo : ∃ h : k < T.length, T[k].m.f < mf
  ·
   obtain ⟨hlt, hf⟩ := hgo
   have HA2 : TeGot wr (.slice ta T.length tc) T := by
    have := HR0.out.got.te
    rw [HTE.out, ← HTT.out] at this
    exact this
   obtain ⟨g, q, hta2⟩ := mxAt HA2.1 (by omega)
   rw [hta2] at HA2
   have CK := mxCells HA2.1 hlt
   have hlti : (k : Int) < (T.length : Int) := by omega
   have HNX : Hid (∀ j (h : j < T.length), j < k + 1 → T[j].m.f < mf) := (show ∀ _ _ _, _ from fun j h hj => by
    by_cases e : j = k
    ·
     subst e; exact hf
    ·
     exact hL.out j h (by omega))
   have HTK : Hid (T.take (k + 1) = T.take k ++ [T[k]]) := hH_ (List.take_succ_eq_append_getElem hlt)
   generalize T[k] = x at CK hf HTK
   obtain ⟨xm, xa, xc⟩ := x
   unfold Mx.u at CK
   simp only at CK hf
   obtain ⟨y0, y1, y2, y3, y4, y5, y6⟩ := CK
   clear HA2
   have B3 : ∀ n, Below wr.heap.size wr (wr.drewN n) := fun n => ⟨rfl, rfl, rfl, Nat.le_refl _, fun _ _ => rfl⟩
   go_upto_region 3 with fail
   go_cut [27] from 8 to 27 (fun s wx => s = .bool true ∧ Hid (Below wr.heap.size wr wx))
   case first =>
    go_wp2_with fail
    go_quiet (fail)
    have B4 : Hid (Below wr.heap.size wr (wr.drewN nq)) := B3 nq
    generalize wr.drewN nq = wn at B4 ⊢
    go_wp2_with fail
    go_meet
    exact ⟨by simp [hf], B4⟩
   case rest =>
    clear y0 y1 y2 y3 y4 y5 y6 q9 m1 B3 hf hlti
    obtain ⟨rfl, hbc⟩ := hcut
    obtain ⟨w4, rfl⟩ : ∃ z, z = wc := ⟨wc, rfl⟩
    have hB4 : Hid (Below b0 w w4) := hH_ (hB.out.trans (hbc.out.mono (by have:=hZ.out;omega)))
    have hO4 := hH_ (hO.out.kept hbc.out)
    have hX4 := hH_ (hX.out.kept hbc.out)
    have hZ4 : Hid (b0 + 2 ≤ w4.heap.size) := (show _ ≤ _ by have:=hZ.out;have := hbc.out.size; omega)
    have q94 := (H0.out.kept (by rw [← HB0.out]; exact hB4.out)).c.cells.2.2.2.2.2.2.2.2.2
    rw [HTE.out] at q94
    have HA2 : TeGot w4 (.slice ta T.length tc) T := by
     have := (H0.out.kept (by rw [← HB0.out]; exact hB4.out)).got.te
     rw [HTE.out, ← HTT.out] at this
     exact this
    rw [hta2] at HA2
    have CK := mxCells HA2.1 hlt
    have hxk : T[k] = ⟨xm, xa, xc⟩ := by
     have := HTK.out
     rw [List.take_succ_eq_append_getElem hlt] at this
     exact List.singleton_inj.1 (List.append_cancel_left this)
    rw [hxk] at CK
    unfold Mx.u at CK
    simp only at CK
    obtain ⟨y0, y1, y2, y3, y4, y5, y6⟩ := CK
    have HOa : Hid (OwnsM (w4.alloc (.cells #[.int .i64 xm.k, .int .i64 xm.f, .int .i64 xm.t, .int .i64 xm.v, .int .i64 xm.la, .slice xa xm.l.length xc, .int .i64 xm.c] 30)) (b0 + 1) (.slice va k vc) (T.take k)) := hH_ (hO4.out.alloc _)
    have HFC : Hid (∀ j q, (cellsE mxE [(⟨xm, xa, xc⟩ : Mx)])[j]? = some q → (w4.alloc (.cells #[.int .i64 xm.k, .int .i64 xm.f, .int .i64 xm.t, .int .i64 xm.v, .int .i64 xm.la, .slice xa xm.l.length xc, .int .i64 xm.c] 30)).cell? ((⟨w4.heap.size, 0, none⟩ : Addr).add j) = some q) := hH_ (fresh_cell w4 _ _ _ rfl)
    clear HA2 hxk hbc hO hX hB hZ HR0 hO4
    have hz4 := hZ4.out
    go_wp2_with (
     at_builtin
     refine wpList_rowE_at (E := mxE) _ rfl (.tmp 30) (.tmp 38) 26 30 _ 72 Tryz.underlying26 Tryz.infoMSV rfl rfl (b0 + 1) (.slice va k vc) (T.take k) rfl HOa.out ⟨w4.heap.size, 0, none⟩ 1 [⟨xm, xa, xc⟩] rfl HFC.out (by rw [hlk]; unfold maxLen; simp only [List.length_singleton]; omega) (by rw [hlk]; simp only [List.length_singleton]; omega) (by simp; omega) ?_
     intro v' w5 ho5 hg5 _ _)
    have hne : ∀ j, (Value.slice va k vc).ownBlock = some j → b0 + 1 ≤ j := HOa.out.from
    have hga := grownE_below (w' := w5) (r := (Value.slice va k vc).ownBlock) (a := w4) (w := w4) (grownE_self _ _)
    have hsz5 : w4.heap.size + 1 ≤ w5.heap.size := by have := hg5.size; simp at this; omega
    have hgs : ∀ j, j < w4.heap.size → (Value.slice va k vc).ownBlock ≠ some j → w5.heap[j]? = w4.heap[j]? := fun j hj hn => (hg5.block j (by simp; omega) (fun e => hn e.symm)).trans (Below.heap_alloc _ _ _ hj)
    have hB5 : Hid (Below b0 w w5) := hH_ (⟨hg5.os.trans hB4.out.os, hg5.tape.trans hB4.out.tape, hg5.output.trans hB4.out.output, Nat.le_trans hB4.out.size (by omega), fun j hj => (hgs j (by omega) (fun e => by have := hne j e; omega)).trans (hB4.out.block j hj)⟩)
    have hX5 : Hid (Bx w5 b0 30 #[.int .i64 mk, .int .i64 mf, .int .i64 mt, .int .i64 mv, .int .i64 ma, .slice pm ml.length cm, .int .i64 mc]) := hH_ ((hgs b0 (Bx.lt hX4.out) (fun e => by have := hne b0 e; omega)).trans hX4.out)
    have hO5 : Hid (OwnsM w5 (b0 + 1) v' (T.take (k + 1))) := hH_ (by rw [HTK.out]; exact ho5)
    have hZ5 : Hid (b0 + 2 ≤ w5.heap.size) := (show _ ≤ _ by omega)
    clear hga hgs hne hg5 ho5 HOa HFC hX4 hB4 q94 y0 y1 y2 y3 y4 y5 y6 hz4
    go_roundw
    case rel => exact ⟨k + 1, hlt, by go_num, HNX, hO5, hX5, hB5, hZ5⟩
    case measure => simp [intOf]; omega
  ·
   go_upto_region 3 with fail
   go_cut [27] from 8 to 27 (fun s wx => s = .bool false ∧ Hid (Below wr.heap.size wr wx))
   case first =>
    by_cases hlt : k < T.length
    ·
     have hf : ¬ T[k].m.f < mf := fun hh => hgo ⟨hlt, hh⟩
     have HA2 : TeGot wr (.slice ta T.length tc) T := by
      have := HR0.out.got.te
      rw [HTE.out, ← HTT.out] at this
      exact this
     obtain ⟨g, q, hta2⟩ := mxAt HA2.1 (by omega)
     rw [hta2] at HA2
     obtain ⟨y0, y1, y2, y3, y4, y5, y6⟩ := mxCells HA2.1 hlt
     have hlti : (k : Int) < (T.length : Int) := by omega
     clear HA2 hgo y0 y2 y3 y4 y5 y6
     generalize T[k].m.f = f at y1 hf
     go_wp2_with fail
     go_quiet (fail)
     have B3 := hH_ (dwNB wr nq)
     generalize wr.drewN nq = wn at B3 ⊢
     go_wp2_with fail
     go_meet
     exact ⟨by simp [hf], B3⟩
    ·
     have hlti : ¬ (k : Int) < (T.length : Int) := by omega
     clear hgo
     go_wp2_with fail
     go_quiet (fail)
     have B3 := hH_ (dwNB wr nq)
     generalize wr.drewN nq = wn at B3 ⊢
     go_wp2_with fail
     go_meet
     exact ⟨rfl, B3⟩
   case rest =>
    clear q9 m1
    obtain ⟨rfl, hbc⟩ := hcut
    obtain ⟨w4, rfl⟩ : ∃ z, z = wc := ⟨wc, rfl⟩
    have hB4 : Hid (Below b0 w w4) := hH_ (hB.out.trans (hbc.out.mono (by have:=hZ.out;omega)))
    have hO4 := hH_ (hO.out.kept hbc.out)
    have hX4 := hH_ (hX.out.kept hbc.out)
    have hZ4 : Hid (b0 + 2 ≤ w4.heap.size) := (show _ ≤ _ by have:=hZ.out;have := hbc.out.size; omega)
    have q94 := (H0.out.kept (by rw [← HB0.out]; exact hB4.out)).c.cells.2.2.2.2.2.2.2.2.2
    rw [HTE.out] at q94
    have HS0 : Hid (Sls mxE w (.slice ta T.length tc) T) := (show Hid _ from by
     have := H0.out.got.te.1
     rw [HTE.out, ← HTT.out] at this
     exact this)
    have HGO : Hid (¬ ∃ h : k < T.length, T[k].m.f < mf) := hgo
    clear hbc hO hX hB hZ HR0
    go_upto_region 6 with fail
    go_cut [6] from 40 to 46 (fun s wx => ∃ pr cr, s = .slice pr (T.length - k) cr ∧ Hid (Sls mxE w (.slice pr (T.length - k) cr) (T.drop k)) ∧ w4 = wx)
    case first =>
     have htc := HTC.out.1
     have htm := HTC.out.2.1
     unfold maxLen at htm
     rcases HTA.out with ⟨rfl, rfl⟩ | ⟨g, rfl⟩
     ·
      obtain rfl : T = [] := List.eq_nil_of_length_eq_zero (by omega)
      obtain rfl : k = 0 := by simpa using hk
      go_wp2_with fail
      go_meet
      exact ⟨none, 0, rfl, (show Hid _ from Sls.nil (Nat.zero_le _)), rfl⟩
     ·
      have hsd : Hid _ := Sls.drop HS0.out hk
      by_cases h : tc = k
      ·
       subst h
       have hTk : Hid (T.length = tc) := (show _ = _ by omega)
       go_wp2_with fail
       go_meet
       rw [show T.length - tc = 0 from by rw [hTk.out]; omega, show T.drop tc = [] from by rw [← hTk.out, List.drop_length]]
       refine ⟨_, _, rfl, ?_, rfl⟩
       show Sls _ _ _ _
       exact Sls.nil (by omega)
      ·
       go_wp2_with fail
       go_meet
       refine ⟨_, _, rfl, ?_, rfl⟩
       have e : (0 : Nat) + k * mxE.k = k * 7 := by show 0 + k * 7 = k * 7; omega
       have hsd := hsd.out
       rw [e] at hsd
       exact hsd
    case rest =>
     obtain ⟨d, hd⟩ : ∃ d, d = T.length - k := ⟨_, rfl⟩
     rw [← hd] at hcut
     obtain ⟨pr, cr, rfl, HS, hww⟩ := hcut
     subst hww
     have HD : Hid (d = T.length - k) := hd
     clear hd
     have HS4 : Sls mxE w4 (.slice pr d cr) (T.drop k) := HS.out.kept (by rw [← HB0.out]; exact hB4.out)
     have m1 := hX4.out.cell 1
     change w4.cell? ⟨b0, 1, none⟩ = some (.int .i64 mf) at m1
     obtain ⟨P, hP⟩ : ∃ P : Prop, P = ∃ h : k < T.length, T[k].m.f = mf := ⟨_, rfl⟩
     have HP : Hid (P = ∃ h : k < T.length, T[k].m.f = mf) := hP
     go_upto_region 7 with fail
     go_cut [58] from 47 to 58 (fun s wx => s = .bool (dB P) ∧ Hid (Below w4.heap.size w4 wx))
     case first =>
      by_cases hlt : k < T.length
      ·
       obtain ⟨g2, q2, hpr⟩ := mxAt HS4 (by rw [List.length_drop]; omega)
       rw [hpr] at HS4
       have CK := mxCells HS4 (j := 0) (by rw [List.length_drop]; omega)
       have e0 : (T.drop k)[0]'(by rw [List.length_drop]; omega) = T[k] := by simp
       rw [e0] at CK
       simp only [Nat.zero_mul, Nat.add_zero] at CK
       have y1 := CK.2.1
       have hlti : (0 : Int) < (d : Int) := by have:=HD.out;omega
       have hDP : dB P = decide (T[k].m.f = mf) := by
        by_cases he : T[k].m.f = mf
        ·
         rw [decide_eq_true he]; exact dB_yes (hP ▸ ⟨hlt, he⟩)
        ·
         rw [decide_eq_false he]; exact dB_no (fun hh => he ((hP ▸ hh : ∃ h : k < T.length, T[k].m.f = mf).2))
       have HDP : Hid _ := hDP
       clear CK HS4 hP hgo hDP e0 HP HGO
       subst hpr
       clear HS
       generalize T[k].m.f = f at y1 HDP
       have hd0 : 0 < d := by have:=HD.out;omega
       go_wp2_with fail
       go_quiet (fail)
       have B3 := hH_ (dwNB w4 nq)
       generalize w4.drewN nq = wn at B3 ⊢
       go_wp2_with fail
       go_meet
       refine ⟨?_, B3⟩
       rw [HDP.out]
       by_cases he : f = mf <;> simp [he]
      ·
       have hDP : dB P = false := dB_no (fun hh => hlt ((hP ▸ hh : ∃ h : k < T.length, T[k].m.f = mf).1))
       have HDP : Hid _ := hDP
       have hd0 : d = 0 := by have:=HD.out;omega
       clear HS4 hP hgo hDP HS HP HGO HD
       subst hd0
       go_wp2_with fail
       go_quiet (fail)
       have B3 := hH_ (dwNB w4 nq)
       generalize w4.drewN nq = wn at B3 ⊢
       go_wp2_with fail
       go_meet
       exact ⟨by rw [HDP.out], B3⟩
     case rest =>
      clear HS4 m1 hP hgo
      obtain ⟨rfl, hbc⟩ := hcut
      obtain ⟨w5, rfl⟩ : ∃ z, z = wc := ⟨wc, rfl⟩
      have hB5 : Hid (Below b0 w w5) := hH_ (hB4.out.trans (hbc.out.mono (by have:=hZ4.out;omega)))
      have hO5 := hH_ (hO4.out.kept hbc.out)
      have hX5 := hH_ (hX4.out.kept hbc.out)
      have hZ5 : Hid (b0 + 2 ≤ w5.heap.size) := (show _ ≤ _ by have:=hZ4.out;have := hbc.out.size; omega)
      clear hbc hO4 hX4 hB4 hZ4 q94
      have HF : ∀ i (h : i < r.te.length), ∃ h' : i < T.length, r.te[i] = T[i].m := fun i h => by
       have e : r.te = T.map (·.m) := HR.out.symm
       have h' : i < T.length := by rw [e] at h; simpa using h
       refine ⟨h', ?_⟩
       rw [List.getElem_of_eq e]
       simp
      have HLR : r.te.length = T.length := by rw [← HR.out, List.length_map]
      have HBF : ∀ i (h : i < r.te.length), i < k → r.te[i].f < mf := fun i h hi => by
       obtain ⟨h', e⟩ := HF i h
       rw [e]
       exact hL.out i h' hi
      cases hq : dB P with
      | false =>
       have hPn := dB_not hq
       have HRES : Hid (putM ⟨mk, mf, mt, mv, ma, ml, mc⟩ r.te = r.te.take k ++ ⟨mk, mf, mt, mv, ma, ml, mc⟩ :: r.te.drop (k)) := (show _ = _ from putM_ins _ k (by omega) HBF (fun h => by
        obtain ⟨h', e⟩ := HF k h
        rw [e]
        show mf < _
        have n1 : ¬ T[k].m.f < mf := fun hh => HGO.out ⟨h', hh⟩
        have n2 : ¬ T[k].m.f = mf := fun hh => hPn (by rw [HP.out]; exact ⟨h', hh⟩)
        omega))
       clear HF HLR HBF hPn
       have HSq : Hid (Sls mxE w (.slice pr d cr) (T.drop (k))) := HS
       have HKQ : Hid (k ≤ k ∧ k ≤ T.length) := hH_ (by omega)
       have xl0 := hX5.out.cell 0
       have xl1 := hX5.out.cell 1
       have xl2 := hX5.out.cell 2
       have xl3 := hX5.out.cell 3
       have xl4 := hX5.out.cell 4
       have xl5 := hX5.out.cell 5
       have xl6 := hX5.out.cell 6
       change w5.cell? ⟨b0, 0, none⟩ = some (.int .i64 mk) at xl0
       change w5.cell? ⟨b0, 1, none⟩ = some (.int .i64 mf) at xl1
       change w5.cell? ⟨b0, 2, none⟩ = some (.int .i64 mt) at xl2
       change w5.cell? ⟨b0, 3, none⟩ = some (.int .i64 mv) at xl3
       change w5.cell? ⟨b0, 4, none⟩ = some (.int .i64 ma) at xl4
       change w5.cell? ⟨b0, 5, none⟩ = some (.slice pm ml.length cm) at xl5
       change w5.cell? ⟨b0, 6, none⟩ = some (.int .i64 mc) at xl6
       go_wp2_with fail
       refine (hC _ (by rw [← HB0.out]; exact hB5.out)).mono ?_
       clear xl0 xl1 xl2 xl3 xl4 xl5 xl6
       rintro e w6 ⟨vl, rfl, hol, hb6⟩
       obtain ⟨al, cl, rfl, _⟩ := hol.form
       simp only
       have hz5 := hZ5.out
       have hs6 := hb6.size
       have hB6 := hH_ (hB5.out.trans (hb6.mono (by omega)))
       have HL6 : Hid (HasX (w6.alloc (.cells #[.int .i64 mk, .int .i64 mf, .int .i64 mt, .int .i64 mv, .int .i64 ma, .slice al ml.length cl, .int .i64 mc] 30)) b0 (.slice al ml.length cl) ml) := hH_ (((hol.low (by omega)).alloc _).has)
       have HOa : Hid (OwnsM (w6.alloc (.cells #[.int .i64 mk, .int .i64 mf, .int .i64 mt, .int .i64 mv, .int .i64 ma, .slice al ml.length cl, .int .i64 mc] 30)) (b0 + 1) (.slice va k vc) (T.take k)) := hH_ ((hO5.out.kept hb6).alloc _)
       have HFC : Hid (∀ j q, (cellsE mxE [(⟨⟨mk, mf, mt, mv, ma, ml, mc⟩, al, cl⟩ : Mx)])[j]? = some q → (w6.alloc (.cells #[.int .i64 mk, .int .i64 mf, .int .i64 mt, .int .i64 mv, .int .i64 ma, .slice al ml.length cl, .int .i64 mc] 30)).cell? ((⟨w6.heap.size, 0, none⟩ : Addr).add j) = some q) := hH_ (fresh_cell w6 _ _ _ rfl)
       have hB6a : Hid (Below b0 w (w6.alloc (.cells #[.int .i64 mk, .int .i64 mf, .int .i64 mt, .int .i64 mv, .int .i64 ma, .slice al ml.length cl, .int .i64 mc] 30))) := hH_ (hB6.out.alloc (by omega) _)
       have hZ6a : Hid (b0 + 2 ≤ (w6.alloc (.cells #[.int .i64 mk, .int .i64 mf, .int .i64 mt, .int .i64 mv, .int .i64 ma, .slice al ml.length cl, .int .i64 mc] 30)).heap.size) := (show _ ≤ _ by simp; omega)
       clear hol hb6 hz5 hs6
       clear hX5 hO5 hB5 hZ5 hB6
       go_wp2_with (first
        | (at_builtin
           refine wpList_rowE_at (E := mxE) _ rfl (.tmp 62) (.tmp 65) 26 30 _ 72 Tryz.underlying26 Tryz.infoMSV rfl rfl (b0 + 1) (.slice va k vc) (T.take k) rfl HOa.out ⟨w6.heap.size, 0, none⟩ 1 [⟨⟨mk, mf, mt, mv, ma, ml, mc⟩, al, cl⟩] rfl HFC.out (by rw [hlk]; unfold maxLen; simp only [List.length_singleton]; omega) (by rw [hlk]; simp only [List.length_singleton]; omega) (by have:=hZ6a.out;omega) ?_
           intro v7 w7 ho7 hg7 _ _
           have hB7 : Hid (Below b0 w w7) := hH_ (belowE hB6a.out hg7 (by have:=hZ6a.out;omega) (fun k h => by have := HOa.out.from k h; omega))
           have HL7 : Hid (HasX w7 b0 (.slice al ml.length cl) ml) := hH_ (xGrow HOa.out HL6.out hg7)
           have HO7 : Hid (OwnsM w7 (b0 + 1) v7 (T.take k ++ [⟨⟨mk, mf, mt, mv, ma, ml, mc⟩, al, cl⟩])) := ho7
           have HZ7 : Hid (b0 + 2 ≤ w7.heap.size) := hH_ (Nat.le_trans hZ6a.out hg7.size)
           have hS7 : Hid (Sls mxE w7 (.slice pr d cr) (T.drop (k))) := hH_ (HSq.out.kept (by rw [← HB0.out]; exact hB7.out))
           clear ho7 hg7)
        | (at_builtin
           refine wpList_rowS (E := mxE) _ rfl (.tmp 66) (.tmp 67) 26 30 _ 72 Tryz.underlying26 Tryz.infoMSV rfl rfl (b0 + 1) v7 _ rfl HO7.out (.slice pr d cr) (T.drop (k)) rfl hS7.out (by rw [List.length_append, hlk, List.length_drop]; unfold maxLen; simp only [List.length_singleton]; omega) (by rw [List.length_append, hlk, List.length_drop]; simp only [List.length_singleton]; omega) (by have:=HZ7.out;omega) ?_
           intro v8 w8 ho8 hg8 _
           have hB8 : Hid (Below b0 w w8) := hH_ (belowE hB7.out hg8 (by have:=HZ7.out;omega) (fun k h => by have := HO7.out.from k h; omega))
           have HL8 : Hid (HasX w8 b0 (.slice al ml.length cl) ml) := hH_ (xGrow HO7.out HL7.out hg8)
           have HO8 : Hid (OwnsM w8 (b0 + 1) v8 (T.take k ++ ⟨⟨mk, mf, mt, mv, ma, ml, mc⟩, al, cl⟩ :: T.drop (k))) := hH_ (by rw [List.append_assoc, List.singleton_append] at ho8; exact ho8)
           clear ho8 hg8)
        | (refine wpList_rpTeM H0.out (by rw [← HB0.out]; exact hB8.out) rfl rfl (.tmp 70) (.tmp 68) rfl (v := v8) (z := ⟨⟨mk, mf, mt, mv, ma, ml, mc⟩, al, cl⟩) (k := k) (q := k) (by rw [← HTT.out, ← HB0.out]; exact HO8.out.low (by omega)) (by rw [← HB0.out]; exact HL8.out) HKQ.out.1 rfl rfl ?_
           intro w9 hw9 hb9))
       have hpm : putM ⟨mk, mf, mt, mv, ma, ml, mc⟩ r.te = r.te.take k ++ ⟨mk, mf, mt, mv, ma, ml, mc⟩ :: r.te.drop (k) := HRES.out
       rw [hpm]
       go_end0
       first
        | exact ⟨_, hw9, hb9⟩
        | exact ⟨rfl, _, hw9, hb9⟩
        | exact ⟨⟨_, hw9⟩, hb9⟩
        | exact ⟨rfl, ⟨_, hw9⟩, hb9⟩
      | true =>
       have hPP := dB_is hq
       have hPx : ∃ h : k < T.length, T[k].m.f = mf := by rw [← HP.out]; exact hPP
       have hlt := hPx.1
       have HRES : Hid (putM ⟨mk, mf, mt, mv, ma, ml, mc⟩ r.te = r.te.take k ++ ⟨mk, mf, mt, mv, ma, ml, mc⟩ :: r.te.drop (k + 1)) := (show _ = _ from putM_eq _ k (by omega) HBF (by
        obtain ⟨h', e⟩ := HF k (by omega)
        rw [e]
        exact hPx.2))
       clear HF HLR HBF
       obtain ⟨g2, q2, rfl⟩ := mxAt HS.out (by rw [List.length_drop]; omega)
       have hsd : Hid _ := Sls.drop HS.out (k := 1) (by rw [List.length_drop]; omega)
       have hsz : d ≤ cr ∧ cr ≤ maxLen := by
        obtain ⟨_, c', e, k1, k2, _⟩ := HS.out
        injection e with _ _ e3
        subst e3
        rw [List.length_drop, ← HD.out] at k1
        exact ⟨k1, k2⟩
       have hs1 := hsz.1
       have hs2 := hsz.2
       unfold maxLen at hs2
       clear hPx hsz hPP
       go_upto_region 8 with fail
       go_cut [6] from 59 to 60 (fun s wx => ∃ pr' cr', s = .slice pr' (d - 1) cr' ∧ Hid (Sls mxE w (.slice pr' (d - 1) cr') (T.drop (k + 1))) ∧ w5 = wx)
       case first =>
        have hsd2 : Hid (Sls mxE w (.slice (some ⟨g2, q2 + 1 * mxE.k, none⟩) (d - 1) (cr - 1)) (T.drop (k + 1))) := (show Sls _ _ _ _ from by
         have e := hsd.out
         rw [List.drop_drop] at e
         exact e)
        have hd0 : 0 < d := by have:=HD.out;omega
        clear hsd HS
        by_cases h : cr = 1
        ·
         subst h
         have hd1 : d = 1 := by omega
         have HD1 : Hid (d = 1) := hd1
         clear hd1
         go_wp2_with fail
         go_meet
         have e := hsd2.out
         rw [show d - 1 = 0 from by rw [HD1.out]] at e ⊢
         refine ⟨_, _, rfl, ?_, rfl⟩
         show Sls _ _ _ _
         have e2 : T.drop (k + 1) = [] := by
          obtain ⟨_, _, h1, _⟩ := e
          injection h1 with _ h2 _
          exact List.eq_nil_of_length_eq_zero h2.symm
         rw [e2]
         exact Sls.nil (by omega)
        ·
         go_wp2_with fail
         go_meet
         exact ⟨_, _, rfl, hsd2, rfl⟩
       case rest =>
        clear hsd hs1 hs2 HS
        obtain ⟨pr', cr', rfl, HSr, hww⟩ := hcut
        subst hww
        have HSq : Hid (Sls mxE w (.slice pr' (d - 1) cr') (T.drop (k + 1))) := HSr
        have HKQ : Hid (k ≤ k + 1 ∧ k + 1 ≤ T.length) := hH_ (by omega)
        have xl0 := hX5.out.cell 0
        have xl1 := hX5.out.cell 1
        have xl2 := hX5.out.cell 2
        have xl3 := hX5.out.cell 3
        have xl4 := hX5.out.cell 4
        have xl5 := hX5.out.cell 5
        have xl6 := hX5.out.cell 6
        change w5.cell? ⟨b0, 0, none⟩ = some (.int .i64 mk) at xl0
        change w5.cell? ⟨b0, 1, none⟩ = some (.int .i64 mf) at xl1
        change w5.cell? ⟨b0, 2, none⟩ = some (.int .i64 mt) at xl2
        change w5.cell? ⟨b0, 3, none⟩ = some (.int .i64 mv) at xl3
        change w5.cell? ⟨b0, 4, none⟩ = some (.int .i64 ma) at xl4
        change w5.cell? ⟨b0, 5, none⟩ = some (.slice pm ml.length cm) at xl5
        change w5.cell? ⟨b0, 6, none⟩ = some (.int .i64 mc) at xl6
        go_wp2_with fail
        refine (hC _ (by rw [← HB0.out]; exact hB5.out)).mono ?_
        clear xl0 xl1 xl2 xl3 xl4 xl5 xl6
        rintro e w6 ⟨vl, rfl, hol, hb6⟩
        obtain ⟨al, cl, rfl, _⟩ := hol.form
        simp only
        have hz5 := hZ5.out
        have hs6 := hb6.size
        have hB6 := hH_ (hB5.out.trans (hb6.mono (by omega)))
        have HL6 : Hid (HasX (w6.alloc (.cells #[.int .i64 mk, .int .i64 mf, .int .i64 mt, .int .i64 mv, .int .i64 ma, .slice al ml.length cl, .int .i64 mc] 30)) b0 (.slice al ml.length cl) ml) := hH_ (((hol.low (by omega)).alloc _).has)
        have HOa : Hid (OwnsM (w6.alloc (.cells #[.int .i64 mk, .int .i64 mf, .int .i64 mt, .int .i64 mv, .int .i64 ma, .slice al ml.length cl, .int .i64 mc] 30)) (b0 + 1) (.slice va k vc) (T.take k)) := hH_ ((hO5.out.kept hb6).alloc _)
        have HFC : Hid (∀ j q, (cellsE mxE [(⟨⟨mk, mf, mt, mv, ma, ml, mc⟩, al, cl⟩ : Mx)])[j]? = some q → (w6.alloc (.cells #[.int .i64 mk, .int .i64 mf, .int .i64 mt, .int .i64 mv, .int .i64 ma, .slice al ml.length cl, .int .i64 mc] 30)).cell? ((⟨w6.heap.size, 0, none⟩ : Addr).add j) = some q) := hH_ (fresh_cell w6 _ _ _ rfl)
        have hB6a : Hid (Below b0 w (w6.alloc (.cells #[.int .i64 mk, .int .i64 mf, .int .i64 mt, .int .i64 mv, .int .i64 ma, .slice al ml.length cl, .int .i64 mc] 30))) := hH_ (hB6.out.alloc (by omega) _)
        have hZ6a : Hid (b0 + 2 ≤ (w6.alloc (.cells #[.int .i64 mk, .int .i64 mf, .int .i64 mt, .int .i64 mv, .int .i64 ma, .slice al ml.length cl, .int .i64 mc] 30)).heap.size) := (show _ ≤ _ by simp; omega)
        clear hol hb6 hz5 hs6
        clear hX5 hO5 hB5 hZ5 hB6
        go_wp2_with (first
         | (at_builtin
            refine wpList_rowE_at (E := mxE) _ rfl (.tmp 62) (.tmp 65) 26 30 _ 72 Tryz.underlying26 Tryz.infoMSV rfl rfl (b0 + 1) (.slice va k vc) (T.take k) rfl HOa.out ⟨w6.heap.size, 0, none⟩ 1 [⟨⟨mk, mf, mt, mv, ma, ml, mc⟩, al, cl⟩] rfl HFC.out (by rw [hlk]; unfold maxLen; simp only [List.length_singleton]; omega) (by rw [hlk]; simp only [List.length_singleton]; omega) (by have:=hZ6a.out;omega) ?_
            intro v7 w7 ho7 hg7 _ _
            have hB7 : Hid (Below b0 w w7) := hH_ (belowE hB6a.out hg7 (by have:=hZ6a.out;omega) (fun k h => by have := HOa.out.from k h; omega))
            have HL7 : Hid (HasX w7 b0 (.slice al ml.length cl) ml) := hH_ (xGrow HOa.out HL6.out hg7)
            have HO7 : Hid (OwnsM w7 (b0 + 1) v7 (T.take k ++ [⟨⟨mk, mf, mt, mv, ma, ml, mc⟩, al, cl⟩])) := ho7
            have HZ7 : Hid (b0 + 2 ≤ w7.heap.size) := hH_ (Nat.le_trans hZ6a.out hg7.size)
            have hS7 : Hid (Sls mxE w7 (.slice pr' (d - 1) cr') (T.drop (k + 1))) := hH_ (HSq.out.kept (by rw [← HB0.out]; exact hB7.out))
            clear ho7 hg7)
         | (at_builtin
            refine wpList_rowS (E := mxE) _ rfl (.tmp 66) (.tmp 67) 26 30 _ 72 Tryz.underlying26 Tryz.infoMSV rfl rfl (b0 + 1) v7 _ rfl HO7.out (.slice pr' (d - 1) cr') (T.drop (k + 1)) rfl hS7.out (by rw [List.length_append, hlk, List.length_drop]; unfold maxLen; simp only [List.length_singleton]; omega) (by rw [List.length_append, hlk, List.length_drop]; simp only [List.length_singleton]; omega) (by have:=HZ7.out;omega) ?_
            intro v8 w8 ho8 hg8 _
            have hB8 : Hid (Below b0 w w8) := hH_ (belowE hB7.out hg8 (by have:=HZ7.out;omega) (fun k h => by have := HO7.out.from k h; omega))
            have HL8 : Hid (HasX w8 b0 (.slice al ml.length cl) ml) := hH_ (xGrow HO7.out HL7.out hg8)
            have HO8 : Hid (OwnsM w8 (b0 + 1) v8 (T.take k ++ ⟨⟨mk, mf, mt, mv, ma, ml, mc⟩, al, cl⟩ :: T.drop (k + 1))) := hH_ (by rw [List.append_assoc, List.singleton_append] at ho8; exact ho8)
            clear ho8 hg8)
         | (refine wpList_rpTeM H0.out (by rw [← HB0.out]; exact hB8.out) rfl rfl (.tmp 70) (.tmp 68) rfl (v := v8) (z := ⟨⟨mk, mf, mt, mv, ma, ml, mc⟩, al, cl⟩) (k := k) (q := k + 1) (by rw [← HTT.out, ← HB0.out]; exact HO8.out.low (by omega)) (by rw [← HB0.out]; exact HL8.out) HKQ.out.1 rfl rfl ?_
            intro w9 hw9 hb9))
        have hpm : putM ⟨mk, mf, mt, mv, ma, ml, mc⟩ r.te = r.te.take k ++ ⟨mk, mf, mt, mv, ma, ml, mc⟩ :: r.te.drop (k + 1) := HRES.out
        rw [hpm]
        go_end0
        first
         | exact ⟨_, hw9, hb9⟩
         | exact ⟨rfl, _, hw9, hb9⟩
         | exact ⟨⟨_, hw9⟩, hb9⟩
         | exact ⟨rfl, ⟨_, hw9⟩, hb9⟩
open Go.RowKit Go.Sort Go.Shelf
variable {F : Frm}

theorem Tryz.rszMs : (Tryz.prog.info? 30).map (·.size) = some 7 := by kernel_rfl
theorem wpList_stM {ops : Array Oper} {rest : List Oper} {o : Oper} {a : Act} {w : World} {Q : Exit → Act → World → Prop} (hgd : o.guard = none) (hd : o.dst = none) (x y : Operand) (ho : o.op = .store 30 x y) (b : Nat) (vs : Array Value) (hx : a.eval x = .pointer (some ⟨b, 0, none⟩)) (hy : a.eval y = .agg vs) {old : Array Value} (hB : Bx w b 30 old) (hs : old.size = 7) (hv : vs.size = 7)
  (h1 : vs.all (·.oneCell') = true) (h : ∀ W, Bx W b 30 vs → ChS (fun k => k = b) w W → wpList Tryz.prog ops Q rest a W) : wpList Tryz.prog ops Q (o :: rest) a w :=
 wpList_store_row hgd _ x y ho b vs hx hy _ old hB (by rw [Tryz.rszMs, hv]) (by rw [hs, hv]) h1 (by
  rw [hd]
  exact h _ (setRow_heap w b _ _ _ _ hB) ⟨rfl, rfl, rfl, by simp [World.setRow], fun k _ hk => setRow_other w b k _ hk⟩)
theorem wpList_ldM {ops : Array Oper} {rest : List Oper} {o : Oper} {a : Act} {w : World} {Q : Exit → Act → World → Prop} (hgd : o.guard = none) (x : Operand) (ho : o.op = .load 30 x) (b : Nat) (hx : a.eval x = .pointer (some ⟨b, 0, none⟩)) {vs : Array Value} (hB : Bx w b 30 vs) (hs : vs.size = 7)
  (h : wpList Tryz.prog ops Q rest (a.put o.dst (.agg vs)) w) : wpList Tryz.prog ops Q (o :: rest) a w :=
 wpList_load_row hgd _ x ho b hx _ vs (0, 0) _ hB Tryz.underlying30 rfl (by rw [Tryz.rszMs, hs]) h
theorem specMx (a b : Int) (w : World) : Calls Tryz.prog 97 #[.int .i64 a, .int .i64 b] w fun e w' => e = .returned (.int .i64 (max a b)) ∧ w = w' := by
 by_cases h : b < a
 ·
  rw [show max a b = a by omega]
  go_enter Tryz.func97, Tryz.ntmps97
  go_wp2
  go_ret
  exact ⟨rfl, rfl⟩
 ·
  rw [show max a b = b by omega]
  go_enter Tryz.func97, Tryz.ntmps97
  go_wp2
  go_ret
  exact ⟨rfl, rfl⟩
theorem specMn (a b : Int) (w : World) : Calls Tryz.prog 108 #[.int .i64 a, .int .i64 b] w fun e w' => e = .returned (.int .i64 (min a b)) ∧ w = w' := by
 by_cases h : a < b
 ·
  rw [show min a b = a by omega]
  go_enter Tryz.func108, Tryz.ntmps108
  go_wp2
  go_ret
  exact ⟨rfl, rfl⟩
 ·
  rw [show min a b = b by omega]
  go_enter Tryz.func108, Tryz.ntmps108
  go_wp2
  go_ret
  exact ⟨rfl, rfl⟩
theorem cmtM_take (te : List Ms) (k : Nat) (h : k < te.length) : cmtM (te.take (k + 1)) = max (cmtM (te.take k)) te[k].c := by
 unfold cmtM
 rw [List.take_succ_eq_append_getElem h, List.foldl_append]
 rfl
theorem bes_take (te : List Ms) (x : Ms) (k : Nat) (h : k < te.length) : (te.take (k + 1)).foldl betM x = betM ((te.take k).foldl betM x) te[k] := by
 rw [List.take_succ_eq_append_getElem h, List.foldl_append]
 rfl
def mxV (y : Mx) : Array Value := #[.int .i64 y.m.k, .int .i64 y.m.f, .int .i64 y.m.t, .int .i64 y.m.v, .int .i64 y.m.la, .slice y.pl y.m.l.length y.cl, .int .i64 y.m.c]
theorem Sls.take {α : Type} {E : Enc α} {w : World} {a : Option Addr} {n c : Nat} {l : List α} (h : Sls E w (.slice a n c) l) {k : Nat} (hk : k ≤ l.length) : Sls E w (.slice a k c) (l.take k) := by
 obtain ⟨a', cap, hv, h1, h2, h3⟩ := h
 injection hv with e1 e2 e3
 subst e1; subst e3
 refine ⟨_, _, by rw [List.length_take, Nat.min_eq_left hk], by rw [List.length_take]; omega, h2, fun h0 => ?_⟩
 rw [List.length_take] at h0
 obtain ⟨g, o, e, hg, hc⟩ := h3 (by omega)
 refine ⟨g, o, e, hg, fun j u hu => hc j u ?_⟩
 rw [← List.take_append_drop k l, cellsE_append, List.getElem?_append_left (List.getElem?_eq_some_iff.1 hu).1]
 exact hu
def frTa (s t : Nat → Value) : Act := { tmps := #[s 0, s 1, s 2, s 3, s 4, s 5, t 6, t 7, t 8, t 9, t 10, t 11, t 12, t 13, t 14, t 15, t 16, t 17, t 18, t 19, t 20, t 21, t 22, t 23, t 24, t 25, t 26, t 27, t 28, t 29, t 30, t 31, t 32, t 33, t 34, t 35, t 36, t 37, s 38, s 39, s 40, s 41, s 42, s 43, s 44, s 45, s 46, s 47, s 48, s 49, s 50, s 51, s 52, s 53, s 54, s 55, s 56, s 57, s 58, s 59, s 60, s 61, s 62, s 63, s 64, s 65, s 66, s 67, s 68, s 69, s 70, s 71, s 72, s 73, s 74, s 75, s 76, s 77, s 78, s 79, s 80, s 81, s 82, s 83, s 84, s 85, s 86, s 87, s 88, s 89, s 90, s 91, s 92, s 93, s 94, s 95, s 96, s 97, s 98, s 99, s 100, s 101, s 102, s 103, s 104, s 105, s 106, s 107, s 108, s 109, s 110, s 111, s 112, s 113, s 114, s 115, s 116, s 117, s 118, s 119, s 120, s 121, s 122, s 123, s 124, s 125, s 126, s 127, s 128, s 129, s 130, s 131, s 132, s 133, s 134, s 135, s 136, s 137, s 138, s 139, s 140, s 141, s 142, s 143, s 144, s 145, s 146, s 147, s 148, s 149, s 150, s 151, s 152, s 153, s 154, s 155, s 156, s 157, s 158, s 159, s 160, s 161, s 162, s 163, s 164, s 165, s 166, s 167, s 168, s 169, s 170, s 171, s 172, s 173, s 174, s 175, s 176, s 177, s 178, s 179, s 180, s 181], defers := [] }
def LTa : List Nat := [6, 7, 8, 9, 10, 11, 12, 13, 14, 15, 16, 17, 18, 19, 20, 21, 22, 23, 24, 25, 26, 27, 28, 29, 30, 31, 32, 33, 34, 35, 36, 37]
def dTa (i : Nat) : Nat := LTa.getD i (i + 5000)
theorem dTa_ne {i j : Nat} (hi : i < 32) (hj : j < 32) (h : j ≠ i) : dTa j ≠ dTa i := slotsNe (L := LTa) (by decide) rfl hi hj h
def GTa (r : Rp) (q : Int) (b lo : Nat) (la : Option Addr) (lc : Nat) (oa : Option Addr) (oc : Nat) (ca : Option Addr) (cc : Nat) (ta : Option Addr) (tc : Nat) (i : Nat) (x : World) (v : Value) : Prop := match i with
 | 0 => v = .pointer (some ⟨b, 0, none⟩)
 | 1 => v = .pointer (some ⟨b, 0, none⟩)
 | 2 => v = .pointer (some ⟨b, 3, none⟩)
 | 3 => v = .bool true
 | 4 => v = .bool true
 | 5 => v = undef
 | 6 => v = undef
 | 7 => v = undef
 | 8 => v = undef
 | 9 => v = undef
 | 10 => v = undef
 | 11 => v = undef
 | 12 => v = undef
 | 13 => v = undef
 | 14 => v = undef
 | 15 => v = undef
 | 16 => v = .bool true
 | 17 => v = .bool true
 | 18 => v = undef
 | 19 => v = undef
 | 20 => v = undef
 | 21 => v = undef
 | 22 => v = undef
 | 23 => v = undef
 | 24 => v = undef
 | 25 => v = undef
 | 26 => v = undef
 | 27 => v = undef
 | 28 => v = undef
 | 29 => v = undef
 | 30 => v = undef
 | 31 => v = undef
 | _ => True
def frTb (s t : Nat → Value) : Act := { tmps := #[s 0, s 1, s 2, s 3, s 4, s 5, t 6, t 7, t 8, t 9, t 10, t 11, t 12, t 13, t 14, t 15, t 16, t 17, t 18, t 19, t 20, t 21, t 22, t 23, t 24, t 25, t 26, t 27, t 28, t 29, t 30, t 31, t 32, t 33, t 34, t 35, t 36, t 37, s 38, s 39, s 40, s 41, s 42, s 43, s 44, s 45, s 46, s 47, s 48, s 49, s 50, s 51, s 52, s 53, s 54, s 55, s 56, s 57, s 58, s 59, s 60, s 61, s 62, s 63, s 64, s 65, s 66, s 67, s 68, s 69, s 70, s 71, s 72, s 73, s 74, s 75, s 76, s 77, s 78, s 79, s 80, s 81, s 82, s 83, s 84, s 85, s 86, s 87, s 88, s 89, s 90, s 91, s 92, s 93, s 94, s 95, s 96, s 97, s 98, s 99, s 100, s 101, s 102, s 103, s 104, s 105, s 106, s 107, s 108, s 109, s 110, s 111, s 112, s 113, s 114, s 115, s 116, s 117, s 118, s 119, s 120, s 121, s 122, s 123, s 124, s 125, s 126, s 127, s 128, s 129, s 130, s 131, s 132, s 133, s 134, s 135, s 136, s 137, s 138, s 139, s 140, s 141, s 142, s 143, s 144, s 145, s 146, s 147, s 148, s 149, s 150, s 151, s 152, s 153, s 154, s 155, s 156, s 157, s 158, s 159, s 160, s 161, s 162, s 163, s 164, s 165, s 166, s 167, s 168, s 169, s 170, s 171, s 172, s 173, s 174, s 175, s 176, s 177, s 178, s 179, s 180, s 181], defers := [] }
def LTb : List Nat := [6, 7, 8, 9, 10, 11, 12, 13, 14, 15, 16, 17, 18, 19, 20, 21, 22, 23, 24, 25, 26, 27, 28, 29, 30, 31, 32, 33, 34, 35, 36, 37]
def dTb (i : Nat) : Nat := LTb.getD i (i + 5000)
theorem dTb_ne {i j : Nat} (hi : i < 32) (hj : j < 32) (h : j ≠ i) : dTb j ≠ dTb i := slotsNe (L := LTb) (by decide) rfl hi hj h
def GTb (r : Rp) (q : Int) (b lo : Nat) (la : Option Addr) (lc : Nat) (oa : Option Addr) (oc : Nat) (ca : Option Addr) (cc : Nat) (ta : Option Addr) (tc : Nat) (i : Nat) (x : World) (v : Value) : Prop := match i with
 | 0 => v = .pointer (some ⟨b, 0, none⟩)
 | 1 => v = .pointer (some ⟨b, 0, none⟩)
 | 2 => v = .pointer (some ⟨b, 3, none⟩)
 | 3 => v = .bool false
 | 4 => v = .bool false
 | 5 => v = .pointer (some ⟨b, 0, none⟩)
 | 6 => v = .pointer (some ⟨b, 0, none⟩)
 | 7 => v = .pointer (some ⟨b, 8, none⟩)
 | 8 => v = .slice ca r.ch.length cc
 | 9 => v = .int .i64 (r.ch.length : Int)
 | 10 => v = .pointer (some ⟨b, 0, none⟩)
 | 11 => v = .pointer (some ⟨b, 0, none⟩)
 | 12 => v = .pointer (some ⟨b, 1, none⟩)
 | 13 => v = .int .i64 r.p
 | 14 => v = .bool false
 | 15 => v = .bool true
 | 16 => v = .bool true
 | 17 => v = .bool true
 | 18 => v = undef
 | 19 => v = undef
 | 20 => v = undef
 | 21 => v = undef
 | 22 => v = undef
 | 23 => v = undef
 | 24 => v = undef
 | 25 => v = undef
 | 26 => v = undef
 | 27 => v = undef
 | 28 => v = undef
 | 29 => v = undef
 | 30 => v = undef
 | 31 => v = undef
 | _ => True
theorem GTb.keep {r : Rp} {q : Int} {b lo : Nat} {la : Option Addr} {lc : Nat} {oa : Option Addr} {oc : Nat} {ca : Option Addr} {cc : Nat} {ta : Option Addr} {tc : Nat} {x y : World} (hb : Below x.heap.size x y) (j : Nat) (v : Value) (hj : j < 32) (h : GTb r q b lo la lc oa oc ca cc ta tc j x v) : GTb r q b lo la lc oa oc ca cc ta tc j y v := h
def frTc (s t : Nat → Value) : Act := { tmps := #[s 0, s 1, s 2, s 3, s 4, s 5, t 6, t 7, t 8, t 9, t 10, t 11, t 12, t 13, t 14, t 15, t 16, t 17, t 18, t 19, t 20, t 21, t 22, t 23, t 24, t 25, t 26, t 27, t 28, t 29, t 30, t 31, t 32, t 33, t 34, t 35, t 36, t 37, s 38, s 39, s 40, s 41, s 42, s 43, s 44, s 45, s 46, s 47, s 48, s 49, s 50, s 51, s 52, s 53, s 54, s 55, s 56, s 57, s 58, s 59, s 60, s 61, s 62, s 63, s 64, s 65, s 66, s 67, s 68, s 69, s 70, s 71, s 72, s 73, s 74, s 75, s 76, s 77, s 78, s 79, s 80, s 81, s 82, s 83, s 84, s 85, s 86, s 87, s 88, s 89, s 90, s 91, s 92, s 93, s 94, s 95, s 96, s 97, s 98, s 99, s 100, s 101, s 102, s 103, s 104, s 105, s 106, s 107, s 108, s 109, s 110, s 111, s 112, s 113, s 114, s 115, s 116, s 117, s 118, s 119, s 120, s 121, s 122, s 123, s 124, s 125, s 126, s 127, s 128, s 129, s 130, s 131, s 132, s 133, s 134, s 135, s 136, s 137, s 138, s 139, s 140, s 141, s 142, s 143, s 144, s 145, s 146, s 147, s 148, s 149, s 150, s 151, s 152, s 153, s 154, s 155, s 156, s 157, s 158, s 159, s 160, s 161, s 162, s 163, s 164, s 165, s 166, s 167, s 168, s 169, s 170, s 171, s 172, s 173, s 174, s 175, s 176, s 177, s 178, s 179, s 180, s 181], defers := [] }
def LTc : List Nat := [6, 7, 8, 9, 10, 11, 12, 13, 14, 15, 16, 17, 18, 19, 20, 21, 22, 23, 24, 25, 26, 27, 28, 29, 30, 31, 32, 33, 34, 35, 36, 37]
def dTc (i : Nat) : Nat := LTc.getD i (i + 5000)
theorem dTc_ne {i j : Nat} (hi : i < 32) (hj : j < 32) (h : j ≠ i) : dTc j ≠ dTc i := slotsNe (L := LTc) (by decide) rfl hi hj h
def GTc (r : Rp) (q : Int) (b lo : Nat) (la : Option Addr) (lc : Nat) (oa : Option Addr) (oc : Nat) (ca : Option Addr) (cc : Nat) (ta : Option Addr) (tc : Nat) (i : Nat) (x : World) (v : Value) : Prop := match i with
 | 0 => v = .pointer (some ⟨b, 0, none⟩)
 | 1 => v = .pointer (some ⟨b, 0, none⟩)
 | 2 => v = .pointer (some ⟨b, 3, none⟩)
 | 3 => v = .bool false
 | 4 => v = .bool false
 | 5 => v = .pointer (some ⟨b, 0, none⟩)
 | 6 => v = .pointer (some ⟨b, 0, none⟩)
 | 7 => v = .pointer (some ⟨b, 8, none⟩)
 | 8 => v = .slice ca r.ch.length cc
 | 9 => v = .int .i64 (r.ch.length : Int)
 | 10 => v = .pointer (some ⟨b, 0, none⟩)
 | 11 => v = .pointer (some ⟨b, 0, none⟩)
 | 12 => v = .pointer (some ⟨b, 1, none⟩)
 | 13 => v = .int .i64 r.p
 | 14 => v = .bool true
 | 15 => v = .bool false
 | 16 => v = .bool false
 | 17 => v = .bool false
 | 18 => v = .pointer (some ⟨b, 0, none⟩)
 | 19 => v = .pointer (some ⟨b, 0, none⟩)
 | 20 => v = .pointer (some ⟨b, 2, none⟩)
 | 21 => v = .int .i64 r.v
 | 22 => v = .pointer (some ⟨b, 0, none⟩)
 | 23 => v = .pointer (some ⟨b, 0, none⟩)
 | 24 => v = .pointer (some ⟨b, 1, none⟩)
 | 25 => v = .int .i64 r.p
 | 26 => v = .int .i64 q
 | 27 => v = .pointer (some ⟨b, 0, none⟩)
 | 28 => v = .pointer (some ⟨b, 0, none⟩)
 | 29 => v = .pointer (some ⟨b, 0, none⟩)
 | 30 => v = .int .i64 r.id
 | 31 => v = .bool (q != r.id)
 | _ => True
theorem GTc.keep {r : Rp} {q : Int} {b lo : Nat} {la : Option Addr} {lc : Nat} {oa : Option Addr} {oc : Nat} {ca : Option Addr} {cc : Nat} {ta : Option Addr} {tc : Nat} {x y : World} (hb : Below x.heap.size x y) (j : Nat) (v : Value) (hj : j < 32) (h : GTc r q b lo la lc oa oc ca cc ta tc j x v) : GTc r q b lo la lc oa oc ca cc ta tc j y v := h
def frT1 (s t : Nat → Value) : Act := { tmps := #[s 0, s 1, s 2, s 3, s 4, s 5, s 6, s 7, s 8, s 9, s 10, s 11, s 12, s 13, s 14, s 15, s 16, s 17, s 18, s 19, s 20, s 21, s 22, s 23, s 24, s 25, s 26, s 27, s 28, s 29, s 30, s 31, s 32, s 33, s 34, s 35, s 36, s 37, s 38, t 39, t 40, t 41, t 42, t 43, t 44, t 45, t 46, t 47, t 48, t 49, t 50, t 51, t 52, t 53, t 54, t 55, t 56, t 57, t 58, t 59, t 60, t 61, t 62, t 63, t 64, s 65, s 66, s 67, s 68, s 69, s 70, s 71, s 72, s 73, s 74, s 75, s 76, s 77, s 78, s 79, s 80, s 81, s 82, s 83, s 84, s 85, s 86, s 87, s 88, s 89, s 90, s 91, s 92, s 93, s 94, s 95, s 96, s 97, s 98, s 99, s 100, s 101, s 102, s 103, s 104, s 105, s 106, s 107, s 108, s 109, s 110, s 111, s 112, s 113, s 114, s 115, s 116, s 117, s 118, s 119, s 120, s 121, s 122, s 123, s 124, s 125, s 126, s 127, s 128, s 129, s 130, s 131, s 132, s 133, s 134, s 135, s 136, s 137, s 138, s 139, s 140, s 141, s 142, s 143, s 144, s 145, s 146, s 147, s 148, s 149, s 150, s 151, s 152, s 153, s 154, s 155, s 156, s 157, s 158, s 159, s 160, s 161, s 162, s 163, s 164, s 165, s 166, s 167, s 168, s 169, s 170, s 171, s 172, s 173, s 174, s 175, s 176, s 177, s 178, s 179, s 180, s 181], defers := [] }
def LT1 : List Nat := [39, 40, 41, 42, 43, 44, 45, 46, 47, 48, 49, 50, 51, 52, 53, 54, 55, 56, 57, 58, 59, 60, 61, 62, 63, 64]
def dT1 (i : Nat) : Nat := LT1.getD i (i + 5000)
theorem dT1_ne {i j : Nat} (hi : i < 26) (hj : j < 26) (h : j ≠ i) : dT1 j ≠ dT1 i := slotsNe (L := LT1) (by decide) rfl hi hj h
def GT1 (r : Rp) (b lo : Nat) (la : Option Addr) (lc : Nat) (oa : Option Addr) (oc : Nat) (ca : Option Addr) (cc : Nat) (ta : Option Addr) (tc : Nat) (i : Nat) (x : World) (v : Value) : Prop := match i with
 | 0 => v = .pointer (some ⟨b, 0, none⟩)
 | 1 => v = .pointer (some ⟨b, 0, none⟩)
 | 2 => v = .pointer (some ⟨b, 0, none⟩)
 | 3 => v = .pointer (some ⟨b, 0, none⟩)
 | 4 => v = .int .i64 r.id
 | 5 => v = .pointer (some ⟨b, 0, none⟩)
 | 6 => v = .pointer (some ⟨b, 0, none⟩)
 | 7 => v = .pointer (some ⟨b, 0, none⟩)
 | 8 => v = .int .i64 r.id
 | 9 => v = .pointer (some ⟨b, 0, none⟩)
 | 10 => v = .pointer (some ⟨b, 0, none⟩)
 | 11 => v = .pointer (some ⟨b, 2, none⟩)
 | 12 => v = .int .i64 r.v
 | 13 => v = .pointer (some ⟨b, 0, none⟩)
 | 14 => v = .pointer (some ⟨b, 0, none⟩)
 | 15 => v = .pointer (some ⟨b, 4, none⟩)
 | 16 => v = .int .i64 r.la
 | 17 => v = .pointer (some ⟨b, 0, none⟩)
 | 18 => v = .pointer (some ⟨b, 0, none⟩)
 | 19 => v = .pointer (some ⟨b, 5, none⟩)
 | 20 => v = .slice la r.l.length lc
 | 21 => v = .pointer (some ⟨b, 0, none⟩)
 | 22 => v = .pointer (some ⟨b, 0, none⟩)
 | 23 => v = .pointer (some ⟨b, 6, none⟩)
 | 24 => v = .int .i64 r.c
 | 25 => v = .agg #[.int .i64 4, .int .i64 r.id, .int .i64 r.id, .int .i64 r.v, .int .i64 r.la, .slice la r.l.length lc, .int .i64 r.c]
 | _ => True
def frT2 (s t : Nat → Value) : Act := { tmps := #[s 0, s 1, s 2, s 3, s 4, s 5, s 6, s 7, s 8, s 9, s 10, s 11, s 12, s 13, s 14, s 15, s 16, s 17, s 18, s 19, s 20, s 21, s 22, s 23, s 24, s 25, s 26, s 27, s 28, s 29, s 30, s 31, s 32, s 33, s 34, s 35, s 36, s 37, s 38, s 39, s 40, s 41, s 42, s 43, s 44, s 45, s 46, s 47, s 48, s 49, s 50, s 51, s 52, s 53, s 54, s 55, s 56, s 57, s 58, s 59, s 60, s 61, s 62, s 63, s 64, s 65, t 66, t 67, t 68, t 69, t 70, t 71, t 72, t 73, t 74, t 75, s 76, s 77, s 78, s 79, s 80, s 81, s 82, s 83, s 84, s 85, s 86, s 87, s 88, s 89, s 90, s 91, s 92, s 93, s 94, s 95, s 96, s 97, s 98, s 99, s 100, s 101, s 102, s 103, s 104, s 105, s 106, s 107, s 108, s 109, s 110, s 111, s 112, s 113, s 114, s 115, s 116, s 117, s 118, s 119, s 120, s 121, s 122, s 123, s 124, s 125, s 126, s 127, s 128, s 129, s 130, s 131, s 132, s 133, s 134, s 135, s 136, s 137, s 138, s 139, s 140, s 141, s 142, s 143, s 144, s 145, s 146, s 147, s 148, s 149, s 150, s 151, s 152, s 153, s 154, s 155, s 156, s 157, s 158, s 159, s 160, s 161, s 162, s 163, s 164, s 165, s 166, s 167, s 168, s 169, s 170, s 171, s 172, s 173, s 174, s 175, s 176, s 177, s 178, s 179, s 180, s 181], defers := [] }
def LT2 : List Nat := [66, 67, 68, 69, 70, 71, 72, 73, 74, 75]
def dT2 (i : Nat) : Nat := LT2.getD i (i + 5000)
theorem dT2_ne {i j : Nat} (hi : i < 10) (hj : j < 10) (h : j ≠ i) : dT2 j ≠ dT2 i := slotsNe (L := LT2) (by decide) rfl hi hj h
def GT2 (r : Rp) (KK b lo : Nat) (ta4 : Option Addr) (tc4 : Nat) (i : Nat) (x : World) (v : Value) : Prop := match i with
 | 0 => v = .pointer (some ⟨b, 0, none⟩)
 | 1 => v = .pointer (some ⟨b, 0, none⟩)
 | 2 => v = .pointer (some ⟨b, 9, none⟩)
 | 3 => v = .slice ta4 KK tc4
 | 4 => v = .int .i64 (KK : Int)
 | 5 => v = .pointer (some ⟨b, 0, none⟩)
 | 6 => v = .pointer (some ⟨b, 0, none⟩)
 | 7 => v = .pointer (some ⟨b, 1, none⟩)
 | 8 => v = .int .i64 r.p
 | 9 => v = .bool (dB (maj KK r.p))
 | _ => True
theorem GT2.keep {r : Rp} {KK b lo : Nat} {ta4 : Option Addr} {tc4 : Nat} {x y : World} (hb : Below x.heap.size x y) (j : Nat) (v : Value) (hj : j < 10) (h : GT2 r KK b lo ta4 tc4 j x v) : GT2 r KK b lo ta4 tc4 j y v := h
def frT12 (s t : Nat → Value) : Act := { tmps := #[s 0, s 1, s 2, s 3, s 4, s 5, s 6, s 7, s 8, s 9, s 10, s 11, s 12, s 13, s 14, s 15, s 16, s 17, s 18, s 19, s 20, s 21, s 22, s 23, s 24, s 25, s 26, s 27, s 28, s 29, s 30, s 31, s 32, s 33, s 34, s 35, s 36, s 37, s 38, s 39, s 40, s 41, s 42, s 43, s 44, s 45, s 46, s 47, s 48, s 49, s 50, s 51, s 52, s 53, s 54, s 55, s 56, s 57, s 58, s 59, s 60, s 61, s 62, s 63, s 64, s 65, s 66, s 67, s 68, s 69, s 70, s 71, s 72, s 73, s 74, s 75, s 76, s 77, s 78, s 79, s 80, s 81, s 82, s 83, s 84, s 85, s 86, s 87, s 88, s 89, s 90, s 91, s 92, s 93, s 94, s 95, s 96, s 97, s 98, s 99, s 100, s 101, s 102, s 103, s 104, s 105, s 106, s 107, s 108, s 109, s 110, s 111, s 112, s 113, s 114, s 115, s 116, s 117, s 118, s 119, s 120, s 121, s 122, s 123, s 124, t 125, t 126, t 127, t 128, t 129, t 130, t 131, t 132, t 133, t 134, t 135, t 136, s 137, s 138, s 139, s 140, s 141, s 142, s 143, s 144, s 145, s 146, s 147, s 148, s 149, s 150, s 151, s 152, s 153, s 154, s 155, s 156, s 157, s 158, s 159, s 160, s 161, s 162, s 163, s 164, s 165, s 166, s 167, s 168, s 169, s 170, s 171, s 172, s 173, s 174, s 175, s 176, s 177, s 178, s 179, s 180, s 181], defers := [] }
def LT12 : List Nat := [125, 126, 127, 128, 129, 130, 131, 132, 133, 134, 135, 136]
def dT12 (i : Nat) : Nat := LT12.getD i (i + 5000)
theorem dT12_ne {i j : Nat} (hi : i < 12) (hj : j < 12) (h : j ≠ i) : dT12 j ≠ dT12 i := slotsNe (L := LT12) (by decide) rfl hi hj h
def GT12 (r : Rp) (Y : Mx) (cN b g lo : Nat) (la4 : Option Addr) (lc4 : Nat) (i : Nat) (x : World) (v : Value) : Prop := match i with
 | 0 => v = .pointer (some ⟨g, 5, none⟩)
 | 1 => v = .slice Y.pl Y.m.l.length Y.cl
 | 2 => v = .pointer (some ⟨b, 0, none⟩)
 | 3 => v = .pointer (some ⟨b, 0, none⟩)
 | 4 => v = .pointer (some ⟨b, 5, none⟩)
 | 5 => v = .slice la4 r.l.length lc4
 | 6 => v = .pointer (some ⟨b, 0, none⟩)
 | 7 => v = .pointer (some ⟨b, 0, none⟩)
 | 8 => v = .pointer (some ⟨b, 6, none⟩)
 | 9 => v = .int .i64 (cN : Int)
 | 10 => v = .slice la4 cN lc4
 | 11 => v = .bool (dB (r.l.take cN <+: Y.m.l))
 | _ => True
theorem GT12.keep {r : Rp} {Y : Mx} {cN b g lo : Nat} {la4 : Option Addr} {lc4 : Nat} {x y : World} (hb : Below x.heap.size x y) (j : Nat) (v : Value) (hj : j < 12) (h : GT12 r Y cN b g lo la4 lc4 j x v) : GT12 r Y cN b g lo la4 lc4 j y v := h
theorem specTld (r : Rp) (u : Rv) (B b : Nat) (w : World) (h : RpAt F w B b u r) (hr : RpOk r) :
  Calls Tryz.prog 75 #[.pointer (some ⟨b, 0, none⟩)] w fun e w' => e = .returned (.tuple #[]) ∧ ∃ u', RpAt F w' B b u' (told r) ∧ Below B w w' := by
 obtain ⟨la, lc, oa, oc, ca, cc, ta, tc, T, rfl⟩ := h.got.form
 have H0 : Hid (RpAt F w B b ⟨.slice la r.l.length lc, .slice oa r.ok.length oc, .slice ca r.ch.length cc, .slice ta r.te.length tc, T⟩ r) := h
 have HR : Hid (RpOk r) := hr
 have jm := fun (y : World) => specMaj r.ch.length r.p y (by have := hr.ch5; omega)
 have S0 := dwB w
 have CB := fun x (hS : Below w.heap.size w x) => RpB.cells (show RpB x b r ⟨.slice la r.l.length lc, .slice oa r.ok.length oc, .slice ca r.ch.length cc, .slice ta r.te.length tc, T⟩ from (H0.out.kept hS).c)
 simp only at CB
 clear h hr
 cases hn : r.n with
 | true =>
  have HE : Hid (told r = r) := (show _ = _ by unfold told; exact if_pos (.inl hn))
  rw [hn] at CB
  obtain ⟨q, hq⟩ : ∃ q : Int, q = 0 := ⟨_, rfl⟩
  go_enter Tryz.func75, Tryz.ntmps75
  go_upto_region 0 with fail
  clear hn hq jm
  obtain ⟨lo, hlo⟩ : ∃ lo, lo = w.heap.size := ⟨_, rfl⟩
  generalize hA : Act.mk _ _ = A
  obtain ⟨s, hs, s0_⟩ : ∃ s : Nat → Value, A = frTa s s ∧ s 0 = .pointer (some ⟨b, 0, none⟩) := by
   refine ⟨fun i => A.tmps.getD i undef, ?_, ?_⟩ <;> rw [← hA] <;> rfl
  rw [hs]
  clear hs hA
  refine region_heads 32 mixed (by decide) (by kernel_rfl) (by kernel_rfl) (by kernel_rfl) (by kernel_rfl) (frTa s) dTa (fun x => Below w.heap.size w x) (GTa r q b lo la lc oa oc ca cc ta tc) (fun i j hi hj h => dTa_ne hi hj h) ?put s rfl S0 ?step ?done
  case put =>
   intro i o hi ho t v
   iterate 32 rcases ltS hi with hi | rfl
   cases hi
   all_goals
    obtain rfl := Option.some.inj ho
    rfl
  case step =>
   intro i o hi ho t x hS hdep K hK
   iterate 32 rcases ltS hi with hi | rfl
   cases hi
   all_goals obtain rfl := Option.some.inj ho
   iterate 5
    ·
     have y0 := (CB x hS).2.2.2.1
     have h2 := hK _ x hS kI_ rfl
     try simp [Region.binds, GTa, dTa, LTa] at hdep
     unfold frTa at h2 ⊢
     clear hK
     go_simp
     first | simpa [Act.put, hdep, y0, s0_] using h2 | simpa [Act.put, y0, s0_] using h2
   iterate 11
    ·
     refine skipG 4 false rfl _ rfl 10 rfl true (congrArg some (hdep ⟨4, .guard⟩ (by simp) rfl)) (by decide) ?_
     exact hK undef x hS kI_ rfl
   iterate 2
    ·
     have h2 := hK _ x hS kI_ rfl
     try simp [Region.binds, GTa, dTa, LTa] at hdep
     unfold frTa at h2 ⊢
     clear hK
     go_simp
     first | simpa [Act.put, hdep, s0_] using h2 | simpa [Act.put, s0_] using h2
   iterate 14
    ·
     refine skipG 17 false rfl _ rfl 23 rfl true (congrArg some (hdep ⟨17, .guard⟩ (by simp) rfl)) (by decide) ?_
     exact hK undef x hS kI_ rfl
  case done =>
   intro t w2 hS hG
   have e17 : t 23 = .bool true := hG 17 (by decide)
   clear hG
   try clear jm
   try clear CB
   show wpList Tryz.prog _ _ [_] _ w2
   unfold frTa
   simp only [e17, s0_]
   clear e17 s0_
   have HS : Hid (Below w.heap.size w w2) := hS
   clear hS
   go_wp2_with fail
   refine bodyPost_ret (results_none rfl _ _ _) rfl ?_
   have hret : told r = r := HE.out
   rw [hret]
   exact ⟨rfl, _, H0.out.kept HS.out, HS.out.mono H0.out.le⟩
 | false =>
  rw [hn] at CB
  cases hmj : dB (maj r.ch.length r.p) with
  | false =>
   have HE : Hid (told r = r) := (show _ = _ by unfold told; exact if_pos (.inr (.inl (dB_not hmj))))
   rw [hmj] at jm
   obtain ⟨q, hq⟩ : ∃ q : Int, q = 0 := ⟨_, rfl⟩
   go_enter Tryz.func75, Tryz.ntmps75
   go_upto_region 0 with fail
   clear hn hq hmj
   obtain ⟨lo, hlo⟩ : ∃ lo, lo = w.heap.size := ⟨_, rfl⟩
   generalize hA : Act.mk _ _ = A
   obtain ⟨s, hs, s0_⟩ : ∃ s : Nat → Value, A = frTb s s ∧ s 0 = .pointer (some ⟨b, 0, none⟩) := by
    refine ⟨fun i => A.tmps.getD i undef, ?_, ?_⟩ <;> rw [← hA] <;> rfl
   rw [hs]
   clear hs hA
   refine region_heads 32 mixed (by decide) (by kernel_rfl) (by kernel_rfl) (by kernel_rfl) (by kernel_rfl) (frTb s) dTb (fun x => Below w.heap.size w x) (GTb r q b lo la lc oa oc ca cc ta tc) (fun i j hi hj h => dTb_ne hi hj h) ?put s rfl S0 ?step ?done
   case put =>
    intro i o hi ho t v
    iterate 32 rcases ltS hi with hi | rfl
    cases hi
    all_goals
     obtain rfl := Option.some.inj ho
     rfl
   case step =>
    intro i o hi ho t x hS hdep K hK
    iterate 32 rcases ltS hi with hi | rfl
    cases hi
    all_goals obtain rfl := Option.some.inj ho
    iterate 14
     ·
      have y0 := (CB x hS).2.2.2.1
      have y1 := (CB x hS).2.2.2.2.2.2.2.2.1
      have y2 := (CB x hS).2.1
      have h2 := hK _ x hS kI_ rfl
      try simp [Region.binds, GTb, dTb, LTb] at hdep
      unfold frTb at h2 ⊢
      clear hK
      go_simp
      first | simpa [Act.put, hdep, y0, y1, y2, s0_] using h2 | simpa [Act.put, y0, y1, y2, s0_] using h2
    ·
     have e9 : t 15 = .int .i64 (r.ch.length : Int) := hdep ⟨9, .data⟩ (by simp) rfl
     have e13 : t 19 = .int .i64 r.p := hdep ⟨13, .data⟩ (by simp) rfl
     have e4 : t 10 = .bool false := hdep ⟨4, .guard⟩ (by simp) rfl
     refine callG2 (wantG 4 false rfl _ rfl 10 rfl (congrArg some e4)) 109 (.tmp 15) (.tmp 19) _ rfl (.int .i64 (r.ch.length : Int)) (.int .i64 r.p) e9 e13 (Go.Proofs.enters_of Tryz.func109 (by kernel_rfl) rfl _) (fun v y => (v = .bool false) ∧ Below x.heap.size x y) ((jm x).mono ?_) ?_
     ·
      rintro e0 y0 ⟨h0, rfl⟩
      exact ⟨_, h0, rfl, Below.refl _ _⟩
     ·
      rintro v y ⟨h0, hb2⟩
      exact hK v y (hS.trans (hb2.mono hS.size)) (fun j u hj hne h => GTb.keep hb2 j u hj h) h0
    iterate 3
     ·
      have h2 := hK _ x hS kI_ rfl
      try simp [Region.binds, GTb, dTb, LTb] at hdep
      unfold frTb at h2 ⊢
      clear hK
      go_simp
      first | simpa [Act.put, hdep, s0_] using h2 | simpa [Act.put, s0_] using h2
    iterate 14
     ·
      refine skipG 17 false rfl _ rfl 23 rfl true (congrArg some (hdep ⟨17, .guard⟩ (by simp) rfl)) (by decide) ?_
      exact hK undef x hS kI_ rfl
   case done =>
    intro t w2 hS hG
    have e17 : t 23 = .bool true := hG 17 (by decide)
    clear hG
    try clear jm
    try clear CB
    show wpList Tryz.prog _ _ [_] _ w2
    unfold frTb
    simp only [e17, s0_]
    clear e17 s0_
    have HS : Hid (Below w.heap.size w w2) := hS
    clear hS
    go_wp2_with fail
    refine bodyPost_ret (results_none rfl _ _ _) rfl ?_
    have hret : told r = r := HE.out
    rw [hret]
    exact ⟨rfl, _, H0.out.kept HS.out, HS.out.mono H0.out.le⟩
  | true =>
   rw [hmj] at jm
   have em : Int.tmod r.v r.p = r.v % r.p := modE HR.out.v.1
   have hpz : ¬ r.p = 0 := by rcases HR.out.p with h | h | h <;> rw [h] <;> decide
   have ew : wrap64 (r.v % r.p) = r.v % r.p := by unfold wrap64; rcases HR.out.p with h | h | h <;> rw [h] <;> omega
   obtain ⟨q, hq⟩ : ∃ q : Int, q = r.v % r.p := ⟨_, rfl⟩
   have HQ : Hid (q = r.v % r.p) := hq
   rw [← hq] at em ew
   go_enter Tryz.func75, Tryz.ntmps75
   go_upto_region 0 with fail
   have HN : Hid (r.n = false ∧ maj r.ch.length r.p) := hH_ (⟨hn, dB_is hmj⟩)
   clear hn hq hmj
   obtain ⟨lo, hlo⟩ : ∃ lo, lo = w.heap.size := ⟨_, rfl⟩
   generalize hA : Act.mk _ _ = A
   obtain ⟨s, hs, s0_⟩ : ∃ s : Nat → Value, A = frTc s s ∧ s 0 = .pointer (some ⟨b, 0, none⟩) := by
    refine ⟨fun i => A.tmps.getD i undef, ?_, ?_⟩ <;> rw [← hA] <;> rfl
   rw [hs]
   clear hs hA
   refine region_heads 32 mixed (by decide) (by kernel_rfl) (by kernel_rfl) (by kernel_rfl) (by kernel_rfl) (frTc s) dTc (fun x => Below w.heap.size w x) (GTc r q b lo la lc oa oc ca cc ta tc) (fun i j hi hj h => dTc_ne hi hj h) ?put s rfl S0 ?step ?done
   case put =>
    intro i o hi ho t v
    iterate 32 rcases ltS hi with hi | rfl
    cases hi
    all_goals
     obtain rfl := Option.some.inj ho
     rfl
   case step =>
    intro i o hi ho t x hS hdep K hK
    iterate 32 rcases ltS hi with hi | rfl
    cases hi
    all_goals obtain rfl := Option.some.inj ho
    iterate 14
     ·
      have y0 := (CB x hS).2.2.2.1
      have y1 := (CB x hS).2.2.2.2.2.2.2.2.1
      have y2 := (CB x hS).2.1
      have h2 := hK _ x hS kI_ rfl
      try simp [Region.binds, GTc, dTc, LTc] at hdep
      unfold frTc at h2 ⊢
      clear hK
      go_simp
      first | simpa [Act.put, hdep, y0, y1, y2, s0_] using h2 | simpa [Act.put, y0, y1, y2, s0_] using h2
    ·
     have e9 : t 15 = .int .i64 (r.ch.length : Int) := hdep ⟨9, .data⟩ (by simp) rfl
     have e13 : t 19 = .int .i64 r.p := hdep ⟨13, .data⟩ (by simp) rfl
     have e4 : t 10 = .bool false := hdep ⟨4, .guard⟩ (by simp) rfl
     refine callG2 (wantG 4 false rfl _ rfl 10 rfl (congrArg some e4)) 109 (.tmp 15) (.tmp 19) _ rfl (.int .i64 (r.ch.length : Int)) (.int .i64 r.p) e9 e13 (Go.Proofs.enters_of Tryz.func109 (by kernel_rfl) rfl _) (fun v y => (v = .bool true) ∧ Below x.heap.size x y) ((jm x).mono ?_) ?_
     ·
      rintro e0 y0 ⟨h0, rfl⟩
      exact ⟨_, h0, rfl, Below.refl _ _⟩
     ·
      rintro v y ⟨h0, hb2⟩
      exact hK v y (hS.trans (hb2.mono hS.size)) (fun j u hj hne h => GTc.keep hb2 j u hj h) h0
    iterate 17
     ·
      have y0 := (CB x hS).2.2.1
      have y1 := (CB x hS).2.1
      have y2 := (CB x hS).1
      have h2 := hK _ x hS kI_ rfl
      try simp [Region.binds, GTc, dTc, LTc] at hdep
      unfold frTc at h2 ⊢
      clear hK
      go_simp
      first | simpa [Act.put, hdep, y0, y1, y2, s0_, hpz, em, ew] using h2 | simpa [Act.put, y0, y1, y2, s0_, hpz, em, ew] using h2
   case done =>
    intro t w2 hS hG
    have e17 : t 23 = .bool false := hG 17 (by decide)
    have e31 : t 37 = .bool (q != r.id) := hG 31 (by decide)
    clear hG
    try clear jm em hpz ew hlo S0
    try clear CB
    show wpList Tryz.prog _ _ [_] _ w2
    unfold frTc
    simp only [e17, e31, s0_]
    clear e17 e31 s0_
    have HS : Hid (Below w.heap.size w w2) := hS
    clear hS
    by_cases hqi : q = r.id
    ·
     have HM : Hid (mine r) := (show mine r from by unfold mine; rw [← HQ.out]; exact hqi)
     rw [show (q != r.id) = false from by simp [hqi]]
     clear hqi
     have H2 := hH_ (H0.out.kept HS.out)
     have WB := hH_ (HS.out.mono H0.out.le)
     have WL : Hid (B ≤ w2.heap.size) := H2.out.le
     have CB := fun x (hS : Below w2.heap.size w2 x) => RpB.cells (show RpB x b r ⟨.slice la r.l.length lc, .slice oa r.ok.length oc, .slice ca r.ch.length cc, .slice ta r.te.length tc, T⟩ from (H2.out.kept hS).c)
     simp only [HN.out.1] at CB
     have jt := fun x (hS : Below w2.heap.size w2 x) => specTell r ⟨.slice la r.l.length lc, .slice oa r.ok.length oc, .slice ca r.ch.length cc, .slice ta r.te.length tc, T⟩ B b (tellM r r.id) (.slice la r.l.length lc) x (H2.out.kept hS) (H2.out.kept hS).got.l (by have := (logB_sm HR.out.l).1; show r.l.length ≤ _; omega) (by have := HR.out.te5.1; have := congrArg List.length H2.out.o.t; rw [List.length_map] at this; show T.length ≤ _; simp only at this; omega)
     unfold tellM msA at jt
     simp only at jt
     go_upto_region 1 with fail
     clear HS H0
     have S0 := dwB w2
     obtain ⟨lo, hlo⟩ : ∃ lo, lo = w2.heap.size := ⟨_, rfl⟩
     generalize hA : Act.mk _ _ = A
     obtain ⟨s, hs, s0_⟩ : ∃ s : Nat → Value, A = frT1 s s ∧ s 0 = .pointer (some ⟨b, 0, none⟩) := by
      refine ⟨fun i => A.tmps.getD i undef, ?_, ?_⟩ <;> rw [← hA] <;> rfl
     rw [hs]
     clear hs hA
     refine region_heads 26 mixed (by decide) (by kernel_rfl) (by kernel_rfl) (by kernel_rfl) (by kernel_rfl) (frT1 s) dT1 (fun x => Below w2.heap.size w2 x) (GT1 r b lo la lc oa oc ca cc ta tc) (fun i j hi hj h => dT1_ne hi hj h) ?put s rfl S0 ?step ?done
     case put =>
      intro i o hi ho t v
      iterate 26 rcases ltS hi with hi | rfl
      cases hi
      all_goals
       obtain rfl := Option.some.inj ho
       rfl
     case step =>
      intro i o hi ho t x hS hdep K hK
      iterate 26 rcases ltS hi with hi | rfl
      cases hi
      all_goals obtain rfl := Option.some.inj ho
      iterate 26
       ·
        have y0 := (CB x hS).1
        have y1 := (CB x hS).2.2.1
        have y2 := (CB x hS).2.2.2.2.1
        have y3 := (CB x hS).2.2.2.2.2.1
        have y4 := (CB x hS).2.2.2.2.2.2.1
        have h2 := hK _ x hS kI_ rfl
        try simp [Region.binds, GT1, dT1, LT1] at hdep
        unfold frT1 at h2 ⊢
        clear hK
        go_simp
        first | simpa [Act.put, hdep, y0, y1, y2, y3, y4, s0_] using h2 | simpa [Act.put, y0, y1, y2, y3, y4, s0_] using h2
     case done =>
      intro t w3 hS hG
      have e0 : t 39 = .pointer (some ⟨b, 0, none⟩) := hG 0 (by decide)
      have e25 : t 64 = .agg #[.int .i64 4, .int .i64 r.id, .int .i64 r.id, .int .i64 r.v, .int .i64 r.la, .slice la r.l.length lc, .int .i64 r.c] := hG 25 (by decide)
      clear hG CB
      show wpList Tryz.prog _ _ [_] _ w3
      unfold frT1
      simp only [e0, e25, s0_]
      clear e0 e25 s0_
      have HS0 := hH_ (WB.out.trans (hS.mono WL.out))
      clear hlo S0
      go_upto_region 2 with (go_at_call 111; refine (jt w3 hS).mono ?_; rintro e w4 ⟨rfl, u4, h4, b4⟩)
      clear jt hS
      have hk9 : Kp r { r with te := putM (tellM r r.id) r.te } := te_kp HR.out HN.out.1 HM.out (tell_ok HR.out)
      have h4 : RpAt F w4 B b u4 { r with te := putM (tellM r r.id) r.te } := h4
      obtain ⟨te, hte⟩ : ∃ te, te = putM (tellM r r.id) r.te := ⟨_, rfl⟩
      rw [← hte] at h4 hk9
      have HTE : Hid (te = putM (tellM r r.id) r.te) := hte
      have HR1 : Hid (RpOk { r with te := te }) := hk9.ok
      have HTE0 : Hid (0 < te.length) := (show _ < _ from by
       have := putM_has (tellM r r.id) r.te
       rw [← hte] at this
       exact List.length_pos_of_mem this)
      have hx5 : te.length ≤ 5 := hk9.ok.te5.1
      clear hte hk9
      obtain ⟨la4, lc4, oa4, oc4, ca4, cc4, ta4, tc4, T4, rfl⟩ := h4.got.form
      simp only at h4
      have H4 : Hid (RpAt F w4 B b ⟨.slice la4 r.l.length lc4, .slice oa4 r.ok.length oc4, .slice ca4 r.ch.length cc4, .slice ta4 te.length tc4, T4⟩ { r with te := te }) := h4
      have B4 := hH_ (HS0.out.trans b4)
      clear h4 b4 HS0 H2 WB WL
      have jm := fun (y : World) => specMaj te.length r.p y (by omega)
      have S0 := dwB w4
      have CB := fun x (hS : Below w4.heap.size w4 x) => RpB.cells (show RpB x b { r with te := te } ⟨.slice la4 r.l.length lc4, .slice oa4 r.ok.length oc4, .slice ca4 r.ch.length cc4, .slice ta4 te.length tc4, T4⟩ from (H4.out.kept hS).c)
      simp only [HN.out.1] at CB
      obtain ⟨KK, hK9⟩ : ∃ KK, KK = te.length := ⟨_, rfl⟩
      rw [← hK9] at CB jm
      have HK : Hid (KK = te.length) := hK9
      clear hK9 hx5
      obtain ⟨lo, hlo⟩ : ∃ lo, lo = w4.heap.size := ⟨_, rfl⟩
      generalize hA : Act.mk _ _ = A
      obtain ⟨s, hs, s0_⟩ : ∃ s : Nat → Value, A = frT2 s s ∧ s 0 = .pointer (some ⟨b, 0, none⟩) := by
       refine ⟨fun i => A.tmps.getD i undef, ?_, ?_⟩ <;> rw [← hA] <;> rfl
      rw [hs]
      clear hs hA
      refine region_heads 10 mixed (by decide) (by kernel_rfl) (by kernel_rfl) (by kernel_rfl) (by kernel_rfl) (frT2 s) dT2 (fun x => Below w4.heap.size w4 x) (GT2 r KK b lo ta4 tc4) (fun i j hi hj h => dT2_ne hi hj h) ?put s rfl S0 ?step ?done
      case put =>
       intro i o hi ho t v
       iterate 10 rcases ltS hi with hi | rfl
       cases hi
       all_goals
        obtain rfl := Option.some.inj ho
        rfl
      case step =>
       intro i o hi ho t x hS hdep K hK
       iterate 10 rcases ltS hi with hi | rfl
       cases hi
       all_goals obtain rfl := Option.some.inj ho
       iterate 9
        ·
         have y0 := (CB x hS).2.2.2.2.2.2.2.2.2
         have y1 := (CB x hS).2.1
         have h2 := hK _ x hS kI_ rfl
         try simp [Region.binds, GT2, dT2, LT2] at hdep
         unfold frT2 at h2 ⊢
         clear hK
         go_simp
         first | simpa [Act.put, hdep, y0, y1, s0_] using h2 | simpa [Act.put, y0, y1, s0_] using h2
       ·
        have e4 : t 70 = .int .i64 (KK : Int) := hdep ⟨4, .data⟩ (by simp) rfl
        have e8 : t 74 = .int .i64 r.p := hdep ⟨8, .data⟩ (by simp) rfl
        refine callG2 (by rfl) 109 (.tmp 70) (.tmp 74) _ rfl (.int .i64 (KK : Int)) (.int .i64 r.p) e4 e8 (Go.Proofs.enters_of Tryz.func109 (by kernel_rfl) rfl _) (fun v y => (v = .bool (dB (maj KK r.p))) ∧ Below x.heap.size x y) ((jm x).mono ?_) ?_
        ·
         rintro e0 y0 ⟨h0, rfl⟩
         exact ⟨_, h0, rfl, Below.refl _ _⟩
        ·
         rintro v y ⟨h0, hb2⟩
         exact hK v y (hS.trans (hb2.mono hS.size)) (fun j u hj hne h => GT2.keep hb2 j u hj h) h0
      case done =>
       intro t w5 hS hG
       have e9 : t 75 = .bool (dB (maj KK r.p)) := hG 9 (by decide)
       clear hG CB jm hlo S0
       show wpList Tryz.prog _ _ [_] _ w5
       unfold frT2
       simp only [e9, s0_]
       clear e9 s0_
       have H5 := hH_ (H4.out.kept hS)
       have B5 := hH_ (B4.out.trans (hS.mono H4.out.le))
       clear hS H4 B4
       cases hmj : dB (maj KK r.p) with
       | false =>
        have HE : Hid (told r = { r with te := te }) := (show _ = _ by
         unfold told
         rw [if_neg (by
          rintro (h | h | h)
          ·
           rw [HN.out.1] at h; cases h
          ·
           exact h HN.out.2
          ·
           exact h HM.out)]
         simp only
         rw [← HTE.out, if_pos (by rw [← HK.out]; exact dB_not hmj)])
        go_wp2_with fail
        refine bodyPost_ret (results_none rfl _ _ _) rfl ?_
        have hret : told r = { r with te := te } := HE.out
        rw [hret]
        first | exact ⟨rfl, _, H5.out, B5.out⟩ | exact ⟨rfl, ⟨_, H5.out⟩, B5.out⟩
       | true =>
        have HMJ : Hid (maj te.length r.p) := (show maj _ _ from by rw [← HK.out]; exact dB_is hmj)
        clear hmj
        have HTL : Hid (T4.length = te.length) := (show _ = _ from by
         have := congrArg List.length H5.out.o.t
         rw [List.length_map] at this
         exact this)
        have HA := H5.out.got.te
        simp only at HA
        obtain ⟨g0, q0, hta⟩ := mxAt HA.1 (by rw [HTL.out]; exact HTE0.out)
        subst hta
        have h0T : 0 < T4.length := by rw [HTL.out]; exact HTE0.out
        have CK := mxCells HA.1 h0T
        have HMX0 : Hid (T4[0] ∈ T4) := hH_ (List.getElem_mem h0T)
        have HTEM : Hid (te = T4.map (·.m)) := hH_ (H5.out.o.t.symm)
        have HX0 : Hid (te = T4[0].m :: te.drop 1) := (show _ = _ from by
         have e := HTEM.out
         conv => rhs; rw [e]
         conv => lhs; rw [e]
         cases T4 with
         | nil => simp at h0T
         | cons a l => simp)
        generalize T4[0] = x0 at CK HMX0 HX0
        unfold Mx.u at CK
        simp only [Nat.zero_mul, Nat.add_zero] at CK
        obtain ⟨y0, y1, y2, y3, y4, y5, y6⟩ := CK
        clear HA h0T
        have q9 := (RpB.cells H5.out.c).2.2.2.2.2.2.2.2.2
        simp only at q9
        have hk0 : (0 : Int) < (te.length : Int) := by have:=HTE0.out;omega
        go_upto_region 4 with (refine wpList_stM rfl rfl (.tmp 2) (.tmp 82) rfl w5.heap.size (mxV x0) rfl rfl (Bx.new _ _ _) rfl rfl (by simp [mxV, Value.oneCell']) ?_; intro w6 hz6 hc6)
        clear y0 y1 y2 y3 y4 y5 y6 q9 hk0
        obtain ⟨g, hg⟩ : ∃ g, g = w5.heap.size := ⟨_, rfl⟩
        have HG : Hid (g = w5.heap.size) := hg
        have BX6 : Hid (Bx w6 g 30 (mxV x0)) := hH_ (by rw [hg]; exact hz6)
        have BL6 : Hid (Below g w5 w6) := hH_ (by rw [hg]; exact hc6.below ((Below.refl _ w5).alloc (Nat.le_refl _) _) (by simp) (fun k hk => by omega))
        rw [← hg]
        clear hz6 hc6 hg
        go_wp2_with fail
        go_loopw [3, 4] (fun c i wr => ∃ (k : Nat) (y : Mx), k ≤ T4.length ∧ i = .int .i64 k ∧ c = .int .i64 (cmtM (te.take k)) ∧ Hid (y ∈ T4 ∧ y.m = (te.take k).foldl betM x0.m) ∧ Hid (Bx wr g 30 (mxV y)) ∧ Hid (Below g w5 wr)) (fun _ i _ => T4.length - (intOf i).toNat)
        case atStart => exact ⟨0, x0, Nat.zero_le _, rfl, by simp [cmtM], (show _ ∧ _ from ⟨HMX0.out, by simp⟩), BX6, BL6⟩
        case round =>
         clear BX6 BL6
         obtain ⟨k, y, hk, rfl, rfl, hY, hX, hB⟩ := hrel
         have HRr : Hid (RpAt F wr B b _ _) := hH_ (H5.out.kept (by rw [← HG.out]; exact hB.out))
         have q9 := (RpB.cells HRr.out.c).2.2.2.2.2.2.2.2.2
         simp only at q9
         have hTl := HTL.out
         have hT5 : te.length ≤ 5 := HR1.out.te5.1
         by_cases hlt : k < T4.length
         ·
          have HA := HRr.out.got.te
          simp only at HA
          have CK := mxCells HA.1 hlt
          have HMX : Hid (T4[k] ∈ T4) := hH_ (List.getElem_mem hlt)
          have HXK : Hid (∃ h : k < te.length, te[k] = T4[k].m) := (show ∃ _, _ from ⟨by omega, by rw [List.getElem_of_eq HTEM.out]; simp⟩)
          generalize T4[k] = x at CK HMX HXK
          unfold Mx.u at CK
          obtain ⟨y0, y1, y2, y3, y4, y5, y6⟩ := CK
          clear HA
          have hlti : (k : Int) < (te.length : Int) := by omega
          go_upto_region 9 with (refine wpList_stM rfl rfl (.tmp 5) (.tmp 98) rfl wr.heap.size (mxV x) rfl rfl (Bx.new _ _ _) rfl rfl (by simp [mxV, Value.oneCell']) ?_; intro w7 hz7 hc7)
          clear y0 y1 y2 y3 y4 y5 y6 q9 hlti
          have hgl := Bx.lt hX.out
          have hba : Below wr.heap.size wr w7 := hc7.below ((Below.refl _ wr).alloc (Nat.le_refl _) _) (by simp) (fun k hk => by omega)
          obtain ⟨g2, hg2⟩ : ∃ g2, g2 = wr.heap.size := ⟨_, rfl⟩
          rw [← hg2] at hz7 ⊢
          have X7 : Hid (Bx w7 g 30 (mxV y)) := hH_ (Bx.kept hX.out hba)
          have Z7 : Hid (Bx w7 g2 30 (mxV x)) := hz7
          have B7 := hH_ (hB.out.trans (hba.mono (by omega)))
          have G7 : Hid (g ≠ g2) := (show _ ≠ _ from by omega)
          clear hz7 hc7 hba hg2 hgl hX hB HRr
          obtain ⟨xla, hxla⟩ : ∃ z, z = x.m.la := ⟨_, rfl⟩
          obtain ⟨yla, hyla⟩ : ∃ z, z = y.m.la := ⟨_, rfl⟩
          have HLA : Hid (xla = x.m.la ∧ yla = y.m.la) := hH_ (⟨hxla, hyla⟩)
          have a4 : w7.cell? ⟨g2, 4, none⟩ = some (.int .i64 xla) := hxla ▸ Z7.out.cell 4
          have a5 : w7.cell? ⟨g2, 5, none⟩ = some (.slice x.pl x.m.l.length x.cl) := Z7.out.cell 5
          have a6 : w7.cell? ⟨g2, 6, none⟩ = some (.int .i64 x.m.c) := Z7.out.cell 6
          have c4 : w7.cell? ⟨g, 4, none⟩ = some (.int .i64 yla) := hyla ▸ X7.out.cell 4
          clear hxla hyla
          have c5 : w7.cell? ⟨g, 5, none⟩ = some (.slice y.pl y.m.l.length y.cl) := X7.out.cell 5
          go_upto_region 10 with (go_at_call 97; refine (specMx _ _ _).mono ?_; rintro e w8 ⟨rfl, hw8⟩; subst hw8)
          have hmx : max (cmtM (te.take k)) x.m.c = cmtM (te.take (k + 1)) := by
           obtain ⟨h1, h2⟩ := HXK.out
           rw [cmtM_take te k h1, h2]
          rw [hmx]
          clear hmx
          go_cut [123] from 103 to 123 (fun s wx => s = .bool (dB (y.m.la < x.m.la ∨ (x.m.la = y.m.la ∧ y.m.l.length < x.m.l.length))) ∧ w7 = wx)
          case first =>
           by_cases h1 : yla < xla
           ·
            have hd : Hid (dB (y.m.la < x.m.la ∨ (x.m.la = y.m.la ∧ y.m.l.length < x.m.l.length)) = true) := hH_ (dB_yes (.inl (by obtain ⟨e1, e2⟩ := HLA.out; omega)))
            go_wp2_with fail
            go_meet
            exact ⟨by rw [hd.out], rfl⟩
           ·
            by_cases h2 : xla = yla
            ·
             by_cases h3 : (y.m.l.length : Int) < (x.m.l.length : Int)
             ·
              have hd : Hid (dB (y.m.la < x.m.la ∨ (x.m.la = y.m.la ∧ y.m.l.length < x.m.l.length)) = true) := hH_ (dB_yes (.inr (by obtain ⟨e1, e2⟩ := HLA.out; omega)))
              go_wp2_with fail
              go_meet
              exact ⟨by rw [hd.out], rfl⟩
             ·
              have hd : Hid (dB (y.m.la < x.m.la ∨ (x.m.la = y.m.la ∧ y.m.l.length < x.m.l.length)) = false) := hH_ (dB_no (by obtain ⟨e1, e2⟩ := HLA.out; omega))
              go_wp2_with fail
              go_meet
              exact ⟨by rw [hd.out], rfl⟩
            ·
             have hd : Hid (dB (y.m.la < x.m.la ∨ (x.m.la = y.m.la ∧ y.m.l.length < x.m.l.length)) = false) := hH_ (dB_no (by obtain ⟨e1, e2⟩ := HLA.out; omega))
             go_wp2_with fail
             go_meet
             exact ⟨by rw [hd.out], rfl⟩
          case rest =>
           obtain ⟨rfl, hww⟩ := hcut
           subst hww
           clear a4 a5 a6 c4 c5
           cases hq : dB (y.m.la < x.m.la ∨ (x.m.la = y.m.la ∧ y.m.l.length < x.m.l.length)) with
           | false =>
            have hno := dB_not hq
            have HY2 : Hid (y ∈ T4 ∧ y.m = (te.take (k + 1)).foldl betM x0.m) := (show _ ∧ _ from ⟨hY.out.1, by
             obtain ⟨h1, h2⟩ := HXK.out
             rw [bes_take te _ k h1, h2, ← hY.out.2]
             unfold betM
             rw [if_neg hno]⟩)
            clear hno hq
            go_wp2_with fail
            go_roundw
            case rel => exact ⟨k + 1, y, hlt, by go_num, rfl, HY2, X7, B7⟩
            case measure => simp [intOf]; omega
           | true =>
            have hyes := dB_is hq
            have HY2 : Hid (x ∈ T4 ∧ x.m = (te.take (k + 1)).foldl betM x0.m) := (show _ ∧ _ from ⟨HMX.out, by
             obtain ⟨h1, h2⟩ := HXK.out
             rw [bes_take te _ k h1, h2, ← hY.out.2]
             unfold betM
             rw [if_pos hyes]⟩)
            clear hyes hq
            go_wp2_with (first | (refine wpList_ldM rfl (.tmp 5) rfl g2 rfl Z7.out rfl ?_) | (refine wpList_stM rfl rfl (.tmp 2) (.tmp 124) rfl g (mxV x) rfl rfl X7.out rfl rfl (by simp [mxV, Value.oneCell']) ?_; intro w9 hz9 hc9; have X9 : Hid (Bx w9 g 30 (mxV x)) := hz9; have B9 : Hid (Below g w5 w9) := (show Hid _ from hc9.below B7.out (by have:=HG.out;have := B7.out.size; omega) (fun k hk => by omega)); clear hz9 hc9))
            go_roundw
            case rel => exact ⟨k + 1, x, hlt, by go_num, rfl, HY2, X9, B9⟩
            case measure => simp [intOf]; omega
         ·
          have hlti : ¬ (k : Int) < (te.length : Int) := by omega
          have hkk : k = te.length := by omega
          subst hkk
          go_upto_region 12 with fail
          clear q9 hlti hlt hTl
          have HYM : Hid (y ∈ T4 ∧ y.m ∈ te ∧ y.m = besM te) := (show _ ∧ _ ∧ _ from ⟨hY.out.1, by rw [HTEM.out]; exact List.mem_map_of_mem hY.out.1, by
           have e := hY.out.2
           rw [List.take_length] at e
           rw [e]
           obtain ⟨d, hd⟩ : ∃ d, te = x0.m :: d := ⟨_, HX0.out⟩
           rw [hd]
           rfl⟩)
          clear hY HMX0 HX0 hT5
          rw [List.take_length]
          obtain ⟨Y, hYY⟩ : ∃ Y, Y = y := ⟨_, rfl⟩
          subst hYY
          have BW : Hid (Below B w wr) := hH_ (B5.out.trans (hB.out.mono (by rw [HG.out]; exact H5.out.le)))
          have HRr : Hid (RpAt F wr B b ⟨.slice la4 r.l.length lc4, .slice oa4 r.ok.length oc4, .slice ca4 r.ch.length cc4, .slice (some ⟨g0, q0, none⟩) te.length tc4, T4⟩ { r with te := te }) := HRr
          clear H5 B5 hB
          have S0 := dwB wr
          obtain ⟨cN, hcN⟩ : ∃ n : Nat, (n : Int) = r.c := ⟨r.c.toNat, by have := HR.out.c; omega⟩
          have HCN : Hid (r.c.toNat = cN ∧ cN ≤ r.l.length ∧ (cN : Int) = r.c) := hH_ (by have := HR.out.c; omega)
          have CB := fun x (hS : Below wr.heap.size wr x) => RpB.cells (show RpB x b { r with te := te } ⟨.slice la4 r.l.length lc4, .slice oa4 r.ok.length oc4, .slice ca4 r.ch.length cc4, .slice (some ⟨g0, q0, none⟩) te.length tc4, T4⟩ from (HRr.out.kept hS).c)
          simp only [← hcN] at CB
          have CY := fun x (hS : Below wr.heap.size wr x) => (show x.cell? ⟨g, 5, none⟩ = some (.slice Y.pl Y.m.l.length Y.cl) from (Bx.kept hX.out hS).cell 5)
          have HLY : Hid (Y.m.l.length ≤ 60) := (HR1.out.te5.2 _ HYM.out.2.1).1
          have jb := fun x (hS : Below wr.heap.size wr x) => specBeg (.slice Y.pl Y.m.l.length Y.cl) (.slice la4 cN lc4) Y.m.l (r.l.take cN) x ((HRr.out.kept hS).got.te.2 Y HYM.out.1) (Sls.take (HRr.out.kept hS).got.l HCN.out.2.1) (by have:=HLY.out;omega) (by have := (logB_sm HR.out.l).1; rw [List.length_take]; omega)
          have hcl : r.l.length ≤ lc4 ∧ lc4 ≤ 9223372036854775807 := by
           obtain ⟨_, c', e, k1, k2, _⟩ := HRr.out.got.l
           injection e with _ _ e3
           subst e3
           exact ⟨k1, k2⟩
          have hcl1 := hcl.1
          have hcl2 := hcl.2
          have hcn2 := HCN.out.2.1
          have hcn3 : cN ≤ lc4 := by omega
          clear hcN hcl
          obtain ⟨lo, hlo⟩ : ∃ lo, lo = wr.heap.size := ⟨_, rfl⟩
          generalize hA : Act.mk _ _ = A
          obtain ⟨s, hs, s0_, s2_, s3_⟩ : ∃ s : Nat → Value, A = frT12 s s ∧ s 0 = .pointer (some ⟨b, 0, none⟩) ∧ s 2 = .pointer (some ⟨g, 0, none⟩) ∧ s 3 = .int .i64 (cmtM te) := by
           refine ⟨fun i => A.tmps.getD i undef, ?_, ?_, ?_, ?_⟩ <;> rw [← hA] <;> rfl
          rw [hs]
          clear hs hA
          refine region_heads 12 mixed (by decide) (by kernel_rfl) (by kernel_rfl) (by kernel_rfl) (by kernel_rfl) (frT12 s) dT12 (fun x => Below wr.heap.size wr x) (GT12 r Y cN b g lo la4 lc4) (fun i j hi hj h => dT12_ne hi hj h) ?put s rfl S0 ?step ?done
          case put =>
           intro i o hi ho t v
           iterate 12 rcases ltS hi with hi | rfl
           cases hi
           all_goals
            obtain rfl := Option.some.inj ho
            rfl
          case step =>
           intro i o hi ho t x hS hdep K hK
           iterate 12 rcases ltS hi with hi | rfl
           cases hi
           all_goals obtain rfl := Option.some.inj ho
           iterate 11
            ·
             have y0 := (CY x hS)
             have y1 := (CB x hS).2.2.2.2.2.1
             have y2 := (CB x hS).2.2.2.2.2.2.1
             have h2 := hK _ x hS kI_ rfl
             try simp [Region.binds, GT12, dT12, LT12] at hdep
             unfold frT12 at h2 ⊢
             clear hK
             go_simp
             first | simpa [Act.put, hdep, y0, y1, y2, s0_, s2_, s3_, hcn3] using h2 | simpa [Act.put, y0, y1, y2, s0_, s2_, s3_, hcn3] using h2
           ·
            have e1 : t 126 = .slice Y.pl Y.m.l.length Y.cl := hdep ⟨1, .data⟩ (by simp) rfl
            have e10 : t 135 = .slice la4 cN lc4 := hdep ⟨10, .data⟩ (by simp) rfl
            refine callG2 (by rfl) 107 (.tmp 126) (.tmp 135) _ rfl (.slice Y.pl Y.m.l.length Y.cl) (.slice la4 cN lc4) e1 e10 (Go.Proofs.enters_of Tryz.func107 (by kernel_rfl) rfl _) (fun v y => (v = .bool (dB (r.l.take cN <+: Y.m.l))) ∧ Below x.heap.size x y) ((jb x hS).mono ?_) ?_
            ·
             rintro e0 y0 ⟨h0, h1⟩
             exact ⟨_, h0, rfl, h1⟩
            ·
             rintro v y ⟨h0, hb2⟩
             exact hK v y (hS.trans (hb2.mono hS.size)) (fun j u hj hne h => GT12.keep hb2 j u hj h) h0
          case done =>
           intro t w7 hS hG
           have e11 : t 136 = .bool (dB (r.l.take cN <+: Y.m.l)) := hG 11 (by decide)
           clear hG CB CY jb hlo S0 hcl1 hcl2 hcn2 hcn3
           show wpList Tryz.prog _ _ [_] _ w7
           unfold frT12
           simp only [e11, s0_, s2_, s3_]
           clear e11 s0_ s2_ s3_
           have H7 := hH_ (HRr.out.kept hS)
           have X7 : Hid (Bx w7 g 30 (mxV Y)) := hH_ (Bx.kept hX.out hS)
           have B7 := hH_ (BW.out.trans (hS.mono HRr.out.le))
           clear hS HRr hX BW
           cases hbg : dB (r.l.take cN <+: Y.m.l) with
           | false =>
            have HE : Hid (told r = { r with te := te }) := (show _ = _ by
             have hno := dB_not hbg
             unfold told
             rw [if_neg (by
              rintro (h | h | h)
              ·
               rw [HN.out.1] at h; cases h
              ·
               exact h HN.out.2
              ·
               exact h HM.out)]
             simp only
             rw [← HTE.out, if_neg (fun h => h HMJ.out), if_pos (by rw [← HYM.out.2.2, HCN.out.1]; exact hno)])
            go_wp2_with fail
            refine bodyPost_ret (results_none rfl _ _ _) rfl ?_
            have hret : told r = { r with te := te } := HE.out
            rw [hret]
            first | exact ⟨rfl, _, H7.out, B7.out⟩ | exact ⟨rfl, ⟨_, H7.out⟩, B7.out⟩
           | true =>
            have HBG : Hid (r.l.take cN <+: Y.m.l) := dB_is hbg
            clear hbg
            have HYT := HYM.out.1
            have HLY2 : Y.m.l.length ≤ 1048576 := by have:=HLY.out;omega
            have HSY : Sls txtE w7 (.slice Y.pl Y.m.l.length Y.cl) Y.m.l := H7.out.got.te.2 Y HYM.out.1
            have c5 : w7.cell? ⟨g, 5, none⟩ = some (.slice Y.pl Y.m.l.length Y.cl) := X7.out.cell 5
            go_upto_region 14 with (first | (go_at_call 98; refine (specTxs _ Y.m.l _ HSY HLY2).mono ?_; rintro e w8 ⟨v8, rfl, hv8, hb8⟩; obtain ⟨p8, q8, rfl, _⟩ := hv8.form) | (refine wpList_rpL H7.out hb8 rfl rfl (.tmp 143) (.tmp 141) rfl hv8.has rfl rfl ?_; intro w9 h9 b9))
            have H9 : Hid (RpAt F w9 B b ⟨.slice p8 Y.m.l.length q8, .slice oa4 r.ok.length oc4, .slice ca4 r.ch.length cc4, .slice (some ⟨g0, q0, none⟩) te.length tc4, T4⟩ { r with l := Y.m.l, te := te }) := hH_ (h9)
            have B9 := hH_ (B7.out.trans b9)
            clear h9 b9 hv8 hb8 H7 B7 X7 HSY c5 HYT
            have q5 := (RpB.cells H9.out.c).2.2.2.2.2.1
            simp only at q5
            go_upto_region 15 with (first | (go_at_call 108; refine (specMn _ _ _).mono ?_; rintro e w10 ⟨rfl, hw10⟩; subst hw10) | (refine wpList_rpC H9.out (Below.refl _ _) rfl rfl (.tmp 153) (.tmp 151) rfl (min (cmtM te) (Y.m.l.length : Int)) rfl rfl ?_; intro w11 h11 b11))
            have H11 : Hid (RpAt F w11 B b ⟨.slice p8 Y.m.l.length q8, .slice oa4 r.ok.length oc4, .slice ca4 r.ch.length cc4, .slice (some ⟨g0, q0, none⟩) te.length tc4, T4⟩ { r with l := Y.m.l, c := min (cmtM te) (Y.m.l.length : Int), te := te }) := hH_ (h11)
            have B11 := hH_ (B9.out.trans b11)
            clear h11 b11 H9 B9 q5
            go_upto_region 16 with (refine wpList_rpN H11.out (Below.refl _ _) rfl rfl _ _ rfl true rfl rfl ?_; intro w12 h12 b12)
            have H12 : Hid (RpAt F w12 B b ⟨.slice p8 Y.m.l.length q8, .slice oa4 r.ok.length oc4, .slice ca4 r.ch.length cc4, .slice (some ⟨g0, q0, none⟩) te.length tc4, T4⟩ { r with n := true, l := Y.m.l, c := min (cmtM te) (Y.m.l.length : Int), te := te }) := hH_ (h12)
            have B12 := hH_ (B11.out.trans b12)
            clear h12 b12 H11 B11
            have q2 := (RpB.cells H12.out.c).2.2.1
            simp only at q2
            go_upto_region 17 with (refine wpList_rpLa H12.out (Below.refl _ _) rfl rfl _ _ rfl r.v rfl rfl ?_; intro w13 h13 b13)
            have H13 : Hid (RpAt F w13 B b ⟨.slice p8 Y.m.l.length q8, .slice oa4 r.ok.length oc4, .slice ca4 r.ch.length cc4, .slice (some ⟨g0, q0, none⟩) te.length tc4, T4⟩ { r with n := true, la := r.v, l := Y.m.l, c := min (cmtM te) (Y.m.l.length : Int), te := te }) := hH_ (h13)
            have B13 := hH_ (B12.out.trans b13)
            clear h13 b13 H12 B12 q2
            go_upto_region 18 with (refine wpList_rpCh H13.out ((Below.refl _ w13).alloc (Nat.le_refl _) _) rfl rfl _ _ rfl (OwnsE.born w13) rfl rfl ?_; intro w14 h14 b14)
            have H14 : Hid (RpAt F w14 B b ⟨.slice p8 Y.m.l.length q8, .slice oa4 r.ok.length oc4, .slice (some ⟨w13.heap.size, 0, none⟩) 0 0, .slice (some ⟨g0, q0, none⟩) te.length tc4, T4⟩ { r with n := true, la := r.v, l := Y.m.l, c := min (cmtM te) (Y.m.l.length : Int), ch := [], te := te }) := hH_ (h14)
            have B14 := hH_ (B13.out.trans b14)
            clear h14 b14 H13 B13
            go_upto_region 19 with (refine wpList_rpTe0 H14.out ((Below.refl _ w14).alloc (Nat.le_refl _) _) rfl rfl _ _ rfl (OwnsE.born w14) rfl rfl ?_; intro w15 h15 b15)
            have H15 : Hid (RpAt F w15 B b ⟨.slice p8 Y.m.l.length q8, .slice oa4 r.ok.length oc4, .slice (some ⟨w13.heap.size, 0, none⟩) 0 0, .slice (some ⟨w14.heap.size, 0, none⟩) 0 0, []⟩ { r with n := true, la := r.v, l := Y.m.l, c := min (cmtM te) (Y.m.l.length : Int), ch := [], te := [] }) := hH_ (h15)
            have B15 := hH_ (B14.out.trans b15)
            clear h15 b15 H14 B14
            have q1 := (RpB.cells H15.out.c).2.1
            simp only at q1
            obtain ⟨n, hn⟩ : ∃ n : Nat, (n : Int) = r.p := ⟨r.p.toNat, by rcases HR.out.p with h | h | h <;> omega⟩
            have hn5 : n ≤ 5 := by rcases HR.out.p with h | h | h <;> omega
            have HNN : Hid (r.p.toNat = n ∧ (n : Int) = r.p) := hH_ (⟨by omega, hn⟩)
            obtain ⟨i0, hi, hz0, hz1, hz2⟩ := info_parts Tryz.infoN2
            obtain ⟨w16, hrun, hown, hgr⟩ := run_make_full (P := Tryz.prog) w15 w15.heap.size 25 2 i0 (.int .i64 0) 1 Tryz.underlying25 hi hz0 hz1 .i64 .i64 n (by rw [hz2]; omega) (by unfold maxLen; omega) (Nat.le_refl _)
            rw [madeN] at hown
            have O16 : Hid (OwnsN w16 w15.heap.size (.slice (some ⟨w15.heap.size, 0, none⟩) n n) (List.replicate n 0)) := (show w16.ownsRow _ _ 1 _ _ _ from by rw [List.length_replicate]; exact hown)
            have B16 : Hid (Below w15.heap.size w15 w16) := hH_ ((Below.refl _ w15).grown hgr (Nat.le_refl _) (fun j hj => by cases hj))
            rw [hn] at hrun
            clear hown hgr hi hz0 hz1 hz2 hn
            go_upto_region 20 with (refine wpList_rpOk H15.out B16.out rfl rfl (.tmp 179) (.tmp 177) rfl O16.out.has rfl rfl ?_; intro w17 h17 b17)
            have H17 : Hid (RpAt F w17 B b ⟨.slice p8 Y.m.l.length q8, .slice (some ⟨w15.heap.size, 0, none⟩) n n, .slice (some ⟨w13.heap.size, 0, none⟩) 0 0, .slice (some ⟨w14.heap.size, 0, none⟩) 0 0, []⟩ { r with n := true, la := r.v, l := Y.m.l, c := min (cmtM te) (Y.m.l.length : Int), ok := List.replicate n 0, ch := [], te := [] }) := hH_ (h17)
            have B17 := hH_ (B15.out.trans b17)
            clear h17 b17 H15 B15 B16 O16 hrun q1
            have hcm : 0 ≤ cmtM te := (cmt_ge te 0).1
            have jc := specCnt _ _ b B w17 H17.out.c H17.out.o.ok H17.out.lslice (H17.out.o.ne H17.out.c _ (rows_ok _)) HR.out.p (by simp only [List.length_replicate]; exact HNN.out.2) HR.out.id ⟨by show (0 : Int) ≤ min _ _; omega, Int.min_le_right _ _⟩ HLY2
            go_wp2_with (go_at_call 72; refine jc.mono ?_; rintro e w18 ⟨rfl, k1, k2, k3⟩)
            obtain ⟨h18, b18⟩ := H17.out.counted k1 k2 k3
            have hret : told r = cntd { r with n := true, la := r.v, l := Y.m.l, c := min (cmtM te) (Y.m.l.length : Int), ok := List.replicate n 0, ch := [], te := [] } := by
             unfold told
             rw [if_neg (by
              rintro (h | h | h)
              ·
               rw [HN.out.1] at h; cases h
              ·
               exact h HN.out.2
              ·
               exact h HM.out)]
             simp only
             rw [← HTE.out, if_neg (fun h => h HMJ.out), if_neg (by rw [← HYM.out.2.2, HCN.out.1]; exact fun h => h HBG.out), ← HYM.out.2.2, HNN.out.1]
            go_end0
            rw [hret]
            first | exact ⟨rfl, _, h18, B17.out.trans b18⟩ | exact ⟨rfl, ⟨_, h18⟩, B17.out.trans b18⟩
    ·
     have hm : ¬ mine r := fun h => hqi (by rw [HQ.out]; exact h)
     have HE : Hid (told r = r) := (show _ = _ by unfold told; exact if_pos (.inr (.inr hm)))
     rw [show (q != r.id) = true from by simp [hqi]]
     clear hm hqi
     go_wp2_with fail
     refine bodyPost_ret (results_none rfl _ _ _) rfl ?_
     have hret : told r = r := HE.out
     rw [hret]
     exact ⟨rfl, _, H0.out.kept HS.out, HS.out.mono H0.out.le⟩
end Go.Proofs.YtdkhdjickkcaiaaGreat.Rl.Fr
