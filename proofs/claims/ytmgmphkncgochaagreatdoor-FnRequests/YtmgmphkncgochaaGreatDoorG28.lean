/-
  The program's reader by its contracts: the fields, the body; what is left without the two names.
  The program's ReadRequest by its contract: what was given up with is told.
  The program's ReadRequest by its contract, behind a right first line.
-/
import Derived.Test.YtmgmphkncgochaaGreatDoorG25
import Derived.Test.YtmgmphkncgochaaGreatDoorG27
import Derived.Defers
import Derived.Recover
import Derived.Deep.RegionWith
namespace Go.Proofs.YtmgmphkncgochaaGreatDoor
open Go.RowKit Go.Sort Go.Maps Go.ChangeMaps Go.WideMaps
set_option linter.unusedVariables false

/-! ### Fields -/
set_option maxHeartbeats 1000000 in
theorem implFields_no (b : Nat) (t : ByteArray) (k : Nat) (m : Int) (w : World) (h : Rdr w b t k) (hk : k ≤ t.size) (ht : t.size ≤ 1048576) (hm : w.cell? ⟨1, 0, none⟩ = some (.int .i64 m)) (hl : rdA (t.data.toList.drop k) = none) :
    Calls Tryz.prog 49 #[.pointer (some ⟨b, 0, none⟩)] w fun e w' => e = .panicked (panL 2) ∧ w.grownBy w' (some b) := by
  have hr := implRest b t k w h hk ht
  have hz := rest_size t hk
  have hd := drop_text t k
  have hi := fun W hW => implRead (t.extract k t.size) m W hW (by omega)
  rw [hd, hl] at hi
  unfold GivesR rdI rdL at hi
  simp only [Option.isSome_none] at hi
  generalize t.extract k t.size = s at hr hi
  clear h hl hd hz
  unfold panL
  go_enter Tryz.func49, Tryz.ntmps49
  go_wp2_with fail
  refine hr.mono ?_
  rintro e w1 ⟨rfl, hb1⟩
  have m1 := (hb1.cell (p := ⟨1, 0, none⟩) (cell_lt hm)).trans hm
  go_wp2_with fail
  refine (hi w1 m1).mono ?_
  rintro e w2 ⟨u, rfl, hF, hb2⟩
  have hg2 := grown_below (grown_below (grown_self w (some b)) hb1) hb2
  obtain ⟨A2, cap2, rfl, _⟩ := hF.form
  clear hF hb1 hb2 m1
  go_wp2
  exact ⟨rfl, rfl, hg2⟩
theorem rdA_few {x : List UInt8} {l : List Fl} {r : List UInt8} (h : rdA x = some (l, r)) : r.length ≤ x.length := by
  obtain ⟨p, hp⟩ := rdN_tail _ _ _ h
  rw [hp, List.length_append]
  omega
set_option maxHeartbeats 1000000 in
theorem implFields_yes (b : Nat) (t : ByteArray) (k : Nat) (m : Int) (l : List Fl) (r : List UInt8) (w : World) (h : Rdr w b t k) (hk : k ≤ t.size) (ht : t.size ≤ 1048576) (hm : w.cell? ⟨1, 0, none⟩ = some (.int .i64 m)) (hl : rdA (t.data.toList.drop k) = some (l, r)) :
    Calls Tryz.prog 49 #[.pointer (some ⟨b, 0, none⟩)] w fun e w' => ∃ u, e = .returned u ∧ HasF w' w.heap.size u l ∧ Rdr w' b t (t.size - r.length) ∧ w.grownBy w' (some b) := by
  have hr := implRest b t k w h hk ht
  have hz := rest_size t hk
  have hd := drop_text t k
  have hfew := rdA_few hl
  rw [rest_len] at hfew
  have hi := fun W hW => implRead (t.extract k t.size) m W hW (by omega)
  rw [hd, hl] at hi
  unfold GivesR rdI rdL at hi
  simp only [Option.isSome_some] at hi
  obtain ⟨n, hn⟩ : ∃ n : Nat, n = t.size - k - r.length := ⟨_, rfl⟩
  have en : (((t.extract k t.size).size : Int) - (r.length : Int)) = (n : Int) := by omega
  rw [en] at hi
  have hsk : Hid (∀ W, Rdr W b t k → Calls Tryz.prog 96 #[.pointer (some ⟨b, 0, none⟩), .int .i64 (n : Int)] W fun e w' => e = .returned (.tuple #[]) ∧ Rdr w' b t (t.size - r.length) ∧ W.grownBy w' (some b)) := fun W hW => by
    have := implSkip b t k n W hW (by omega) (by omega)
    rw [show k + n = t.size - r.length by omega] at this
    exact this
  have RD : Hid (Rdr w b t k) := h
  have hbw : b < w.heap.size := h.hi
  generalize t.extract k t.size = s at hr hi
  clear h hl hd hz en hn hfew
  go_enter Tryz.func49, Tryz.ntmps49
  go_wp2_with fail
  refine hr.mono ?_
  rintro e w1 ⟨rfl, hb1⟩
  have m1 := (hb1.cell (p := ⟨1, 0, none⟩) (cell_lt hm)).trans hm
  have R1 : Hid (Rdr w1 b t k) := RD.out.kept hb1
  have s1 : Hid (w.heap.size ≤ w1.heap.size) := hb1.size
  go_wp2_with fail
  refine (hi w1 m1).mono ?_
  rintro e w2 ⟨u, rfl, hF, hb2⟩
  have HG : Hid (w.grownBy w2 (some b)) := grown_below (grown_below (grown_self w (some b)) hb1) hb2
  have R2 : Hid (Rdr w2 b t k) := R1.out.kept hb2
  have F2' : HasF w2 w.heap.size u l := hF.low s1.out
  obtain ⟨A2, cap2, rfl, _⟩ := hF.form
  have F2 : Hid (HasF w2 w.heap.size (.slice A2 l.length cap2) l) := F2'
  have NE : Hid (∀ j, (Value.slice A2 l.length cap2).ownBlock = some j → some j ≠ some b) := fun j hj e => by
    have h1 := F2.out.from j hj
    injection e with e
    omega
  clear hF hb1 hb2 m1 F2' R1 RD hi
  go_wp2_with (go_at_call 96; refine (hsk.out _ R2.out).mono ?_; rintro e w3 ⟨rfl, hr3, hg3⟩; have R3 : Hid (Rdr w3 b t (t.size - r.length)) := hr3; have G3 : Hid (w2.grownBy w3 (some b)) := hg3; clear hr3 hg3)
  go_ret
  exact ⟨_, rfl, F2.out.grown G3.out NE.out, R3.out, HG.out.trans G3.out⟩

/-! ### The body -/
set_option maxHeartbeats 1000000 in
theorem implCounted_no (b : Nat) (t : ByteArray) (k n : Nat) (w : World) (h : Rdr w b t k) (hk : k ≤ t.size) (ht : t.size ≤ 1048576) (hn : ¬ n ≤ t.size - k) :
    Calls Tryz.prog 97 #[.pointer (some ⟨b, 0, none⟩), .int .i64 n] w fun e w' => e = .panicked (panL 4) ∧ w.grownBy w' (some b) := by
  have hq := implTake_no b t k n w h hk ht hn
  clear h
  unfold panL
  go_enter Tryz.func97, Tryz.ntmps97
  go_wp2_with fail
  refine hq.mono ?_
  rintro e w1 ⟨rfl, hb1⟩
  have hg1 := grown_below (grown_self w (some b)) hb1
  go_wp2
  exact ⟨rfl, rfl, hg1⟩
set_option maxHeartbeats 1000000 in
theorem implCounted_yes (b : Nat) (t : ByteArray) (k n : Nat) (w : World) (h : Rdr w b t k) (hk : k ≤ t.size) (ht : t.size ≤ 1048576) (hn : n ≤ t.size - k) :
    Calls Tryz.prog 97 #[.pointer (some ⟨b, 0, none⟩), .int .i64 n] w fun e w' => e = .returned (.string (txtL ((t.data.toList.drop k).take n))) ∧ Rdr w' b t (k + n) ∧ w.grownBy w' (some b) := by
  have hq := implTake_yes b t k n w h hk ht hn
  have hz : (txtL ((t.data.toList.drop k).take n)).size ≤ 1048576 := by
    show ((t.data.toList.drop k).take n).toArray.size ≤ _
    simp
    omega
  generalize txtL ((t.data.toList.drop k).take n) = X at hq hz ⊢
  clear h
  go_enter Tryz.func97, Tryz.ntmps97
  go_wp2_with fail
  refine hq.mono ?_
  rintro e w1 ⟨rfl, hr1, hg1⟩
  have R1 : Hid (Rdr w1 b t (k + n)) := hr1
  clear hr1
  go_wp2_with (go_at_call 93; refine (clone X _ hz).mono ?_; rintro e w2 ⟨rfl, hb2⟩)
  go_ret
  exact ⟨rfl, R1.out.kept hb2, grown_below hg1 hb2⟩
set_option maxHeartbeats 1000000 in
theorem implChunks_no (b : Nat) (t : ByteArray) (k : Nat) (w : World) (h : Rdr w b t k) (hk : k ≤ t.size) (ht : t.size ≤ 1048576) (h8 : ¬ (unF (t.data.toList.drop k)).st = 8) :
    Calls Tryz.prog 98 #[.pointer (some ⟨b, 0, none⟩)] w fun e w' => e = .panicked (panL 4) ∧ w.grownBy w' (some b) := by
  have hr := implRest b t k w h hk ht
  have hz := rest_size t hk
  have hd := drop_text t k
  have hi := fun W => implUn (t.extract k t.size) W (by omega)
  rw [hd, unV_no h8] at hi
  generalize t.extract k t.size = s at hr hi
  clear h hd hz h8
  unfold panL
  go_enter Tryz.func98, Tryz.ntmps98
  go_wp2_with fail
  refine hr.mono ?_
  rintro e w1 ⟨rfl, hb1⟩
  go_wp2_with fail
  refine (hi w1).mono ?_
  rintro e w2 ⟨rfl, hb2⟩
  have hg2 := grown_below (grown_below (grown_self w (some b)) hb1) hb2
  clear hb1 hb2
  go_wp2
  exact ⟨rfl, rfl, hg2⟩
set_option maxHeartbeats 1000000 in
theorem implChunks_yes (b : Nat) (t : ByteArray) (k : Nat) (w : World) (h : Rdr w b t k) (hk : k ≤ t.size) (ht : t.size ≤ 1048576) (h8 : (unF (t.data.toList.drop k)).st = 8) :
    Calls Tryz.prog 98 #[.pointer (some ⟨b, 0, none⟩)] w fun e w' => e = .returned (.string (unF (t.data.toList.drop k)).bd) ∧ Rdr w' b t (k + unN (t.data.toList.drop k)) ∧ w.grownBy w' (some b) := by
  have hr := implRest b t k w h hk ht
  have hz := rest_size t hk
  have hd := drop_text t k
  have hi := fun W => implUn (t.extract k t.size) W (by omega)
  have hcu : unN (t.data.toList.drop k) ≤ (t.data.toList.drop k).length := cnt_le _ _
  rw [rest_len] at hcu
  rw [hd, unV_yes h8] at hi
  generalize unN (t.data.toList.drop k) = n at hi hcu ⊢
  generalize (unF (t.data.toList.drop k)).bd = X at hi ⊢
  have hsk : Hid (∀ W, Rdr W b t k → Calls Tryz.prog 96 #[.pointer (some ⟨b, 0, none⟩), .int .i64 (n : Int)] W fun e w' => e = .returned (.tuple #[]) ∧ Rdr w' b t (k + n) ∧ W.grownBy w' (some b)) := fun W hW => implSkip b t k n W hW (by omega) (by omega)
  have RD : Hid (Rdr w b t k) := h
  generalize t.extract k t.size = s at hr hi
  clear h hd hz h8 hcu
  go_enter Tryz.func98, Tryz.ntmps98
  go_wp2_with fail
  refine hr.mono ?_
  rintro e w1 ⟨rfl, hb1⟩
  have R1 : Hid (Rdr w1 b t k) := RD.out.kept hb1
  go_wp2_with fail
  refine (hi w1).mono ?_
  rintro e w2 ⟨rfl, hb2⟩
  have HG : Hid (w.grownBy w2 (some b)) := grown_below (grown_below (grown_self w (some b)) hb1) hb2
  have R2 : Hid (Rdr w2 b t k) := R1.out.kept hb2
  clear hb1 hb2 R1 RD hi
  go_wp2_with (go_at_call 96; refine (hsk.out _ R2.out).mono ?_; rintro e w3 ⟨rfl, hr3, hg3⟩; have R3 : Hid (Rdr w3 b t (k + n)) := hr3; have G3 : Hid (w2.grownBy w3 (some b)) := hg3; clear hr3 hg3)
  go_ret
  exact ⟨rfl, R3.out, HG.out.trans G3.out⟩
/-- What is read behind fields l, with q left. -/
def bdR (l : List Fl) (q : List UInt8) : Rst :=
  if (frm l).1 = 3 then noR 3
  else if (frm l).1 = 0 then ⟨0, woB l, ⟨#[]⟩, q⟩
  else if (frm l).1 = 1 then if (frm l).2 ≤ (q.length : Int) then ⟨0, woB l, ⟨(q.take (frm l).2.toNat).toArray⟩, q.drop (frm l).2.toNat⟩ else noR 4
  else if (unF q).st = 8 then ⟨0, woB l, (unF q).bd, q.drop (unN q)⟩ else noR 4
theorem rst_bd {x q : List UInt8} {l : List Fl} (h : rdA x = some (l, q)) : rstA x false = bdR l q := by
  unfold rstA bdR
  rw [h]
  simp
set_option maxHeartbeats 1000000 in
theorem implBody (b : Nat) (t : ByteArray) (k : Nat) (u : Value) (l : List Fl) (w : World) (h : Rdr w b t k) (hk : k ≤ t.size) (ht : t.size ≤ 1048576) (hf : Fits w u l) :
    Calls Tryz.prog 50 #[.pointer (some ⟨b, 0, none⟩), u] w fun e w' => (((bdR l (t.data.toList.drop k)).k = 0 ∧ e = .returned (.string (bdR l (t.data.toList.drop k)).b) ∧ Rdr w' b t (t.size - (bdR l (t.data.toList.drop k)).r.length)) ∨ (¬ (bdR l (t.data.toList.drop k)).k = 0 ∧ e = .panicked (panL (bdR l (t.data.toList.drop k)).k))) ∧ w.grownBy w' (some b) := by
  have hq := implFrm u l w hf
  have hlq := rest_len t k
  obtain ⟨a, cap, rfl, hcap⟩ := hf.1
  clear hf hcap
  have hkk : t.size - (t.size - k) = k := by omega
  have RD : Hid (Rdr w b t k) := h
  clear h
  unfold frmE at hq
  rcases frm_cases l with hfr | ⟨n, hfr, hn⟩ | hfr | hfr
  · have HB : Hid (bdR l (t.data.toList.drop k) = ⟨0, woB l, ⟨#[]⟩, t.data.toList.drop k⟩) := by
      show bdR l _ = _
      unfold bdR
      rw [hfr]
      rfl
    rw [hfr] at hq
    simp only at hq
    go_enter Tryz.func50, Tryz.ntmps50
    go_wp2_with fail
    refine hq.mono ?_
    rintro e w1 ⟨rfl, hb1⟩
    have R1 : Hid (Rdr w1 b t k) := RD.out.kept hb1
    have hg1 := grown_below (grown_self w (some b)) hb1
    clear hb1 RD hq
    go_wp2
    go_ret
    rw [HB.out]
    exact ⟨.inl ⟨rfl, rfl, by show Rdr w1 b t (t.size - (t.data.toList.drop k).length); rw [hlq, hkk]; exact R1.out⟩, hg1⟩
  · rw [hfr] at hq
    simp only at hq
    by_cases hnq : n ≤ t.size - k
    · have HB : Hid (bdR l (t.data.toList.drop k) = ⟨0, woB l, txtL ((t.data.toList.drop k).take n), (t.data.toList.drop k).drop n⟩) := by
        show bdR l _ = _
        unfold bdR
        rw [hfr]
        simp only
        rw [if_neg (by decide), if_neg (by decide), if_pos trivial, if_pos (by rw [hlq]; omega)]
        rfl
      have hc : Hid (∀ W, Rdr W b t k → Calls Tryz.prog 97 #[.pointer (some ⟨b, 0, none⟩), .int .i64 (n : Int)] W fun e w' => e = .returned (.string (txtL ((t.data.toList.drop k).take n))) ∧ Rdr w' b t (k + n) ∧ W.grownBy w' (some b)) := fun W hW => implCounted_yes b t k n W hW hk ht hnq
      have hz2 : ((t.data.toList.drop k).drop n).length = t.size - k - n := by rw [List.length_drop, hlq]
      generalize txtL ((t.data.toList.drop k).take n) = X at hc HB
      go_enter Tryz.func50, Tryz.ntmps50
      go_wp2_with fail
      refine hq.mono ?_
      rintro e w1 ⟨rfl, hb1⟩
      have R1 : Hid (Rdr w1 b t k) := RD.out.kept hb1
      have hg1 := grown_below (grown_self w (some b)) hb1
      clear hb1 RD hq
      go_wp2_with (go_at_call 97; refine (hc.out _ R1.out).mono ?_; rintro e w2 ⟨rfl, hr2, hg2⟩; have R2 : Hid (Rdr w2 b t (k + n)) := hr2; have G2 : Hid (w1.grownBy w2 (some b)) := hg2; clear hr2 hg2)
      go_ret
      rw [HB.out]
      exact ⟨.inl ⟨rfl, rfl, by show Rdr w2 b t (t.size - ((t.data.toList.drop k).drop n).length); rw [hz2, show t.size - (t.size - k - n) = k + n by omega]; exact R2.out⟩, hg1.trans G2.out⟩
    · have HB : Hid (bdR l (t.data.toList.drop k) = noR 4) := by
        show bdR l _ = _
        unfold bdR
        rw [hfr]
        simp only
        rw [if_neg (by decide), if_neg (by decide), if_pos trivial, if_neg (by rw [hlq]; omega)]
      have hc : Hid (∀ W, Rdr W b t k → Calls Tryz.prog 97 #[.pointer (some ⟨b, 0, none⟩), .int .i64 (n : Int)] W fun e w' => e = .panicked (panL 4) ∧ W.grownBy w' (some b)) := fun W hW => implCounted_no b t k n W hW hk ht hnq
      go_enter Tryz.func50, Tryz.ntmps50
      go_wp2_with fail
      refine hq.mono ?_
      rintro e w1 ⟨rfl, hb1⟩
      have R1 : Hid (Rdr w1 b t k) := RD.out.kept hb1
      have hg1 := grown_below (grown_self w (some b)) hb1
      clear hb1 RD hq
      go_wp2_with fail
      refine (hc.out _ R1.out).mono ?_
      rintro e w2 ⟨rfl, hg2⟩
      refine ⟨rfl, ?_, hg1.trans hg2⟩
      rw [HB.out]
      exact .inr ⟨by show ¬ (4 : Int) = 0; decide, rfl⟩
  · rw [hfr] at hq
    simp only at hq
    by_cases h8 : (unF (t.data.toList.drop k)).st = 8
    · have HB : Hid (bdR l (t.data.toList.drop k) = ⟨0, woB l, (unF (t.data.toList.drop k)).bd, (t.data.toList.drop k).drop (unN (t.data.toList.drop k))⟩) := by
        show bdR l _ = _
        unfold bdR
        rw [hfr]
        simp only
        rw [if_neg (by decide), if_neg (by decide), if_neg (by decide), if_pos h8]
      have hc : Hid (∀ W, Rdr W b t k → Calls Tryz.prog 98 #[.pointer (some ⟨b, 0, none⟩)] W fun e w' => e = .returned (.string (unF (t.data.toList.drop k)).bd) ∧ Rdr w' b t (k + unN (t.data.toList.drop k)) ∧ W.grownBy w' (some b)) := fun W hW => implChunks_yes b t k W hW hk ht h8
      have hcu : unN (t.data.toList.drop k) ≤ (t.data.toList.drop k).length := cnt_le _ _
      have hz2 : ((t.data.toList.drop k).drop (unN (t.data.toList.drop k))).length = t.size - k - unN (t.data.toList.drop k) := by rw [List.length_drop, hlq]
      rw [hlq] at hcu
      clear h8
      generalize unN (t.data.toList.drop k) = n at hc HB hcu hz2
      generalize (unF (t.data.toList.drop k)).bd = X at hc HB
      go_enter Tryz.func50, Tryz.ntmps50
      go_wp2_with fail
      refine hq.mono ?_
      rintro e w1 ⟨rfl, hb1⟩
      have R1 : Hid (Rdr w1 b t k) := RD.out.kept hb1
      have hg1 := grown_below (grown_self w (some b)) hb1
      clear hb1 RD hq
      go_wp2_with (go_at_call 98; refine (hc.out _ R1.out).mono ?_; rintro e w2 ⟨rfl, hr2, hg2⟩; have R2 : Hid (Rdr w2 b t (k + n)) := hr2; have G2 : Hid (w1.grownBy w2 (some b)) := hg2; clear hr2 hg2)
      go_ret
      rw [HB.out]
      exact ⟨.inl ⟨rfl, rfl, by show Rdr w2 b t (t.size - ((t.data.toList.drop k).drop n).length); rw [hz2, show t.size - (t.size - k - n) = k + n by omega]; exact R2.out⟩, hg1.trans G2.out⟩
    · have HB : Hid (bdR l (t.data.toList.drop k) = noR 4) := by
        show bdR l _ = _
        unfold bdR
        rw [hfr]
        simp only
        rw [if_neg (by decide), if_neg (by decide), if_neg (by decide), if_neg h8]
      have hc : Hid (∀ W, Rdr W b t k → Calls Tryz.prog 98 #[.pointer (some ⟨b, 0, none⟩)] W fun e w' => e = .panicked (panL 4) ∧ W.grownBy w' (some b)) := fun W hW => implChunks_no b t k W hW hk ht h8
      clear h8
      go_enter Tryz.func50, Tryz.ntmps50
      go_wp2_with fail
      refine hq.mono ?_
      rintro e w1 ⟨rfl, hb1⟩
      have R1 : Hid (Rdr w1 b t k) := RD.out.kept hb1
      have hg1 := grown_below (grown_self w (some b)) hb1
      clear hb1 RD hq
      go_wp2_with fail
      refine (hc.out _ R1.out).mono ?_
      rintro e w2 ⟨rfl, hg2⟩
      refine ⟨rfl, ?_, hg1.trans hg2⟩
      rw [HB.out]
      exact .inr ⟨by show ¬ (4 : Int) = 0; decide, rfl⟩
  · have HB : Hid (bdR l (t.data.toList.drop k) = noR 3) := by
      show bdR l _ = _
      unfold bdR
      rw [hfr]
      rfl
    rw [hfr] at hq
    simp only at hq
    go_enter Tryz.func50, Tryz.ntmps50
    go_wp2_with fail
    refine hq.mono ?_
    rintro e w1 ⟨rfl, hb1⟩
    have hg1 := grown_below (grown_self w (some b)) hb1
    clear hb1 RD hq
    go_wp2
    refine ⟨rfl, ?_, hg1⟩
    rw [HB.out]
    exact .inr ⟨by show ¬ (3 : Int) = 0; decide, rfl⟩

/-! ### What is left without the two names -/
theorem rest_two (l : List Fl) : l.filter (restB ([] ++ [clS, teS].map lowS)) = woB l := by
  unfold woB wo
  rw [List.filter_filter]
  congr 1
  funext f
  have e1 : decide (lowS clS = lowS f.1) = decide (lowS f.1 = lowS clS) := decide_eq_decide.2 eq_comm
  have e2 : decide (lowS teS = lowS f.1) = decide (lowS f.1 = lowS teS) := decide_eq_decide.2 eq_comm
  unfold restB keepB
  show (!(decide (lowS clS = lowS f.1) || (decide (lowS teS = lowS f.1) || false))) = _
  rw [e1, e2]
  cases decide (lowS f.1 = lowS clS) <;> cases decide (lowS f.1 = lowS teS) <;> rfl
set_option maxHeartbeats 1000000 in
theorem implUnfr (v : Value) (l : List Fl) (w : World) (h : Fls w v l) (hok : fldsOk l = true) :
    Calls Tryz.prog 51 #[v] w fun e w' => (∃ g n, e = .returned (.slice (some ⟨g, 0, none⟩) n n) ∧ HasF w' w.heap.size (.slice (some ⟨g, 0, none⟩) n n) (woB l)) ∧ Below w.heap.size w w' := by
  have hh := h
  obtain ⟨a, cap, rfl, _⟩ := hh
  have hmm := @run_makeMap Tryz.prog
  have hb0 := (Below.refl _ w).alloc (Nat.le_refl _) (.map #[] 0)
  have hbs := hb0.alloc hb0.size (.cells #[.string clS, .string teS] 9)
  have hst : Strs ((w.alloc (.map #[] 0)).alloc (.cells #[.string clS, .string teS] 9)) (.slice (some ⟨w.heap.size + 1, 0, none⟩) 2 2) [clS, teS] := by
    have e : (w.alloc (.map #[] 0)).heap.size = w.heap.size + 1 := by simp
    rw [← e]
    exact strs_lit (w.alloc (.map #[] 0)) [clS, teS] (by simp)
  have hs0 := (SetIs.made w).kept ((Below.refl _ (w.alloc (.map #[] 0))).alloc (Nat.le_refl _) (.cells #[.string clS, .string teS] 9))
  have ha := implAdd w.heap.size [] _ [clS, teS] _ hs0 hst (fun k hk => by simp [Value.ownBlock] at hk; omega) (by intro n hn; simp at hn; rcases hn with rfl | rfl <;> decide) (by simp)
  have HF : Hid (Fls w (.slice a l.length cap) l) := h
  clear h hst hs0 hb0
  unfold clS teS at ha hbs
  go_enter Tryz.func51, Tryz.ntmps51
  go_wp2_with fail
  generalize (w.alloc (.map #[] 0)).alloc (.cells #[.string ⟨#[99, 111, 110, 116, 101, 110, 116, 45, 108, 101, 110, 103, 116, 104]⟩, .string ⟨#[116, 114, 97, 110, 115, 102, 101, 114, 45, 101, 110, 99, 111, 100, 105, 110, 103]⟩] 9) = ws at ha hbs ⊢
  refine ha.mono ?_
  rintro e w3 ⟨rfl, hs3, hg3⟩
  have hb03 : Below w.heap.size w w3 := hbs.grown hg3 hbs.size (fun j hj => by cases hj; exact Nat.le_refl _)
  have hc := implAllBut _ l w.heap.size _ _ (HF.out.kept hb03) hok hs3
  have HW : Hid (l.filter (restB ([] ++ [clS, teS].map lowS)) = woB l) := rest_two l
  clear hs3 hg3 ha hbs HF
  go_wp2_with (go_at_call 100; refine hc.mono ?_; rintro e w4 ⟨⟨g, rfl, ho4⟩, hb4⟩; have O4 : Hid (HasF _ _ _ _) := ho4; clear ho4)
  go_ret
  exact ⟨⟨g, _, rfl, by rw [← HW.out]; exact O4.out.low hb03.size⟩, past6 hb03 hb4⟩
end Go.Proofs.YtmgmphkncgochaaGreatDoor
namespace Go.Proofs.YtmgmphkncgochaaGreatDoor
open Go.RowKit Go.Sort
set_option linter.unusedVariables false

theorem assert_nil (w : World) : (Instr.typeAssert .nilIface 20 96 true).run Tryz.prog w = .ok (.tuple #[.int .i64 0, .bool false]) w := by kernel_rfl
theorem assert_is (v : Value) (w : World) : (Instr.typeAssert (.iface 96 v) 20 96 true).run Tryz.prog w = .ok (.tuple #[v, .bool true]) w := by kernel_rfl
theorem code_nil (w : World) : Calls Tryz.prog 46 #[.nilIface] w fun e w' => e = .returned (.int .i64 0) ∧ w' = w := by
  have ha := assert_nil
  go_enter Tryz.func46, Tryz.ntmps46
  go_wp2
  go_ret
  exact ⟨rfl, rfl⟩
theorem code_is (k : Int) (w : World) : Calls Tryz.prog 46 #[.iface 96 (.int .i64 k)] w fun e w' => e = .returned (.int .i64 k) ∧ w' = w := by
  have ha := assert_is
  go_enter Tryz.func46, Tryz.ntmps46
  go_wp2
  go_ret
  exact ⟨rfl, rfl⟩
theorem catchQ_pan (p : Addr) (x k : Int) (older : List PanicEntry) (w : World) (hc : w.cell? p = some (.int .i64 x)) (hz : w.frozen? p = false) :
    CallsD Tryz.prog 45 #[.pointer (some p)] (.panicking ({ v := .iface 96 (.int .i64 k), recovered := false } :: older)) w fun e u' w' =>
      e = .returned (.tuple #[]) ∧ u' = .panicking ({ v := .iface 96 (.int .i64 k), recovered := true } :: older) ∧ w' = w.setCell p (.int .i64 k) := by
  refine callsD_of_wpS Tryz.func45 rfl fun c₀ cs hu => ?_
  apply wpS_region
  simp [wpOpsS, go_sem, recoverD, hu, Tryz.ntmps45]
  refine (code_is k w).mono ?_
  rintro e w' ⟨rfl, rfl⟩
  simp [go_sem, hc, hz, bodyPostS, results, Tryz.results45]
theorem catchQ_idle (p : Addr) (x : Int) (w : World) (hc : w.cell? p = some (.int .i64 x)) (hz : w.frozen? p = false) :
    CallsD Tryz.prog 45 #[.pointer (some p)] .returning w fun e u' w' =>
      e = .returned (.tuple #[]) ∧ u' = .returning ∧ w' = w.setCell p (.int .i64 0) := by
  refine callsD_of_wpS Tryz.func45 rfl fun c₀ cs hu => ?_
  apply wpS_region
  simp [wpOpsS, go_sem, recoverD, hu, Tryz.ntmps45]
  refine (code_nil w).mono ?_
  rintro e w' ⟨rfl, rfl⟩
  cases c₀
  simp_all [go_sem, bodyPostS, results, Tryz.results45]

theorem RqB.past {w w' : World} {b : Nat} {r : Rq} {v : Value} {x : Option Nat} (h : RqB w b r v) (hg : w.grownBy w' x) (hne : some b ≠ x) : RqB w' b r v := by
  have e : w'.heap[b]? = w.heap[b]? := hg.block b h.hi hne
  have k : ∀ k, w'.cell? ⟨b, k, none⟩ = w.cell? ⟨b, k, none⟩ := fun k => World.cell?_of_block (a := ⟨b, k, none⟩) e
  exact ⟨(k 0).trans h.c0, (k 1).trans h.c1, (k 2).trans h.c2, (k 3).trans h.c3, fun j => (World.frozen?_of_block (a := ⟨b, j, none⟩) e).trans (h.fz j), Nat.lt_of_lt_of_le h.hi hg.size⟩
/-- What a call of ReadRequest that began at w has made by w1: the zero Request, the code, a reader. -/
structure FrQ (w w1 : World) : Prop where
  q : RqB w1 w.heap.size noQ (.slice none 0 0)
  c : w1.cell? ⟨w.heap.size + 1, 0, none⟩ = some (.int .i64 0)
  f : w1.frozen? ⟨w.heap.size + 1, 0, none⟩ = false
  b : Below w.heap.size w w1
  hi : w.heap.size + 2 < w1.heap.size
theorem FrQ.new (w : World) (t : ByteArray) : FrQ w (((w.alloc (.cells #[.string ⟨#[]⟩, .string ⟨#[]⟩, .slice none 0 0, .string ⟨#[]⟩] 26)).alloc (.cells #[.int .i64 0] 2)).alloc (.cells #[.string t, .int .i64 0] 63)) where
  q := ((RqB.new w noQ (.slice none 0 0) 26).alloc _).alloc _
  c := by
    have e : (w.alloc (.cells #[.string ⟨#[]⟩, .string ⟨#[]⟩, .slice none 0 0, .string ⟨#[]⟩] 26)).heap.size = w.heap.size + 1 := by simp
    have al := (Below.refl _ ((w.alloc (.cells #[.string ⟨#[]⟩, .string ⟨#[]⟩, .slice none 0 0, .string ⟨#[]⟩] 26)).alloc (.cells #[.int .i64 0] 2))).alloc (Nat.le_refl _) (.cells #[.string t, .int .i64 0] 63)
    rw [← e]
    exact (al.cell (p := ⟨(w.alloc (.cells #[.string ⟨#[]⟩, .string ⟨#[]⟩, .slice none 0 0, .string ⟨#[]⟩] 26)).heap.size, 0, none⟩) (by simp)).trans (World.cell?_alloc_mark _ _ _ _ _)
  f := by
    have e : (w.alloc (.cells #[.string ⟨#[]⟩, .string ⟨#[]⟩, .slice none 0 0, .string ⟨#[]⟩] 26)).heap.size = w.heap.size + 1 := by simp
    have al := (Below.refl _ ((w.alloc (.cells #[.string ⟨#[]⟩, .string ⟨#[]⟩, .slice none 0 0, .string ⟨#[]⟩] 26)).alloc (.cells #[.int .i64 0] 2))).alloc (Nat.le_refl _) (.cells #[.string t, .int .i64 0] 63)
    rw [← e, World.frozen?_of_block (a := ⟨(w.alloc (.cells #[.string ⟨#[]⟩, .string ⟨#[]⟩, .slice none 0 0, .string ⟨#[]⟩] 26)).heap.size, 0, none⟩) (al.block _ (by simp)), World.frozen?_alloc_mark]
    simp
  b := by
    have a1 := (Below.refl _ w).alloc (Nat.le_refl _) (.cells #[.string ⟨#[]⟩, .string ⟨#[]⟩, .slice none 0 0, .string ⟨#[]⟩] 26)
    have a2 := a1.alloc a1.size (.cells #[.int .i64 0] 2)
    exact a2.alloc a2.size _
  hi := by simp
theorem FrQ.next {w w1 w2 : World} (h : FrQ w w1) (hg : w1.grownBy w2 (some (w.heap.size + 2))) : FrQ w w2 where
  q := h.q.past hg (by simp)
  c := grown_cell hg h.c (by have := h.hi; omega) (by intro k hk; cases hk; omega)
  f := by
    rw [World.frozen?_of_block (a := ⟨w.heap.size + 1, 0, none⟩) (hg.block _ (by show w.heap.size + 1 < _; have := h.hi; omega) (by simp))]
    exact h.f
  b := h.b.grown hg h.b.size (by intro k hk; cases hk; omega)
  hi := Nat.lt_of_lt_of_le h.hi hg.size

theorem leaveQ {w w2 : World} {k : Int} {P : Int × Rq × Int} {tmps : Array Value} (F : FrQ w w2) (hP : P = (k, noQ, 0)) (h2 : tmps.getD 2 undef = .pointer (some ⟨w.heap.size, 0, none⟩)) (h3 : tmps.getD 3 undef = .int .i64 0) (h4 : tmps.getD 4 undef = .pointer (some ⟨w.heap.size + 1, 0, none⟩)) :
    bodyPostD Tryz.prog Tryz.f13 (fun e w' => GivesQ w w' e P) (.panic (panL k)) { tmps := tmps, defers := [{ target := .fn (.func 45) #[.pointer (some ⟨w.heap.size + 1, 0, none⟩)], args := #[] }] } w2 := by
  refine leaves_cons (f := 45) (args := #[.pointer (some ⟨w.heap.size + 1, 0, none⟩)]) (by simp) (by simp [go_sem]) ?_
  refine (catchQ_pan ⟨w.heap.size + 1, 0, none⟩ 0 k [] w2 F.c F.f).mono ?_
  rintro e u' w'' ⟨rfl, rfl, rfl⟩
  have hg : w2.grownBy (w2.setCell ⟨w.heap.size + 1, 0, none⟩ (.int .i64 k)) (some (w.heap.size + 1)) := grown_put (grown_self w2 _) _ _
  have hq := F.q.past hg (by simp)
  have hc : (w2.setCell ⟨w.heap.size + 1, 0, none⟩ (.int .i64 k)).cell? ⟨w.heap.size + 1, 0, none⟩ = some (.int .i64 k) := World.cell?_setCell_same _ _ _ F.c
  have hb : Below w.heap.size w (w2.setCell ⟨w.heap.size + 1, 0, none⟩ (.int .i64 k)) := F.b.setCell (by show w.heap.size ≤ w.heap.size + 1; omega) _
  generalize w2.setCell ⟨w.heap.size + 1, 0, none⟩ (.int .i64 k) = w3 at hq hc hb ⊢
  have c0 := hq.c0
  have c1 := hq.c1
  have c2 := hq.c2
  have c3 := hq.c3
  refine ⟨.tuple #[.agg #[.string ⟨#[]⟩, .string ⟨#[]⟩, .slice none 0 0, .string ⟨#[]⟩], .int .i64 0, .int .i64 k], ?_, givesQ_no hP hb⟩
  unfold noQ at c0 c1 c2 c3
  simp only at c0 c1 c2 c3
  simp only [Array.getD_eq_getD_getElem?] at h2 h3 h4
  simp [results, Tryz.results13, go_sem, h2, h3, h4, hc, c0, c1, c2, c3]

set_option maxHeartbeats 2000000 in
theorem implRdRq_line (t : ByteArray) (m : Int) (w : World) (hm : w.cell? ⟨1, 0, none⟩ = some (.int .i64 m)) (ht : t.size ≤ 1048576) (hbad : ∀ x r m g v, lnC t.data.toList = some (x, r) → wrdL x = [m, g, v] → ¬ goodQ m g v) :
    Calls Tryz.prog 13 #[.string t] w fun e w' => GivesQ w w' e (rdRq t.data.toList) := by
  have hmf : ∀ (fn : Fn) (first cap : Array Value) (w : World), (Instr.makeFunc fn first cap).run Tryz.prog w = .ok (.func fn first cap) w := fun _ _ _ _ => rfl
  have F0 : Hid (FrQ w _) := FrQ.new w t
  have R0 := Rdr.new ((w.alloc (.cells #[.string ⟨#[]⟩, .string ⟨#[]⟩, .slice none 0 0, .string ⟨#[]⟩] 26)).alloc (.cells #[.int .i64 0] 2)) t
  have e0 : ((w.alloc (.cells #[.string ⟨#[]⟩, .string ⟨#[]⟩, .slice none 0 0, .string ⟨#[]⟩] 26)).alloc (.cells #[.int .i64 0] 2)).heap.size = w.heap.size + 2 := by simp
  rw [e0] at R0
  have m0 := (F0.out.b.cell (p := ⟨1, 0, none⟩) (cell_lt hm)).trans hm
  have hl := implRqLine_no _ t m _ R0 ht m0 hbad
  have HP : Hid (rdRq t.data.toList = (1, noQ, 0)) := badQ hbad
  clear R0 e0 m0
  go_enter_defers Tryz.func13, Tryz.ntmps13
  go_wp2_with (go_at_call 47; refine (implNewR t _).mono ?_; rintro e w1 ⟨rfl, rfl⟩)
  generalize ((w.alloc (.cells #[.string ⟨#[]⟩, .string ⟨#[]⟩, .slice none 0 0, .string ⟨#[]⟩] 26)).alloc (.cells #[.int .i64 0] 2)).alloc (.cells #[.string t, .int .i64 0] 63) = wb at F0 hl ⊢
  refine hl.mono ?_
  rintro e w2 ⟨rfl, hg2⟩
  have F2 : Hid (FrQ w w2) := F0.out.next hg2
  clear F0 hl hg2
  exact leaveQ F2.out HP.out rfl rfl rfl
end Go.Proofs.YtmgmphkncgochaaGreatDoor
namespace Go.Proofs.YtmgmphkncgochaaGreatDoor
open Go.RowKit Go.Sort
set_option linter.unusedVariables false

theorem lnC_drop {t x r : List UInt8} (h : lnC t = some (x, r)) : t.drop (x.length + 2) = r := by
  rw [lnC_length h]
  have e : (x ++ [13, 10]).length = x.length + 2 := by simp
  rw [← e, List.drop_left]
theorem bdR_l {l : List Fl} {q : List UInt8} (h : (bdR l q).k = 0) : (bdR l q).l = woB l := by
  unfold bdR at h ⊢
  split
  · rename_i h3; rw [if_pos h3] at h; cases h
  · rename_i h3
    rw [if_neg h3] at h
    split
    · rfl
    · rename_i h0
      rw [if_neg h0] at h
      split
      · rename_i h1
        rw [if_pos h1] at h
        split
        · rfl
        · rename_i h2; rw [if_neg h2] at h; cases h
      · rename_i h1
        rw [if_neg h1] at h
        split
        · rfl
        · rename_i h2; rw [if_neg h2] at h; cases h
theorem bdR_few {l : List Fl} {q : List UInt8} : (bdR l q).r.length ≤ q.length := by
  unfold bdR
  split
  · exact Nat.zero_le _
  · split
    · exact Nat.le_refl _
    · split
      · split
        · rw [List.length_drop]; omega
        · exact Nat.zero_le _
      · split
        · rw [List.length_drop]; omega
        · exact Nat.zero_le _
theorem rdA_at {t r q : List UInt8} {l : List Fl} {k : Nat} (h : t.drop k = r) (hk : k ≤ t.length) (hr : rdA r = some (l, q)) : t.drop (t.length - q.length) = q := by
  have h1 := rdA_drop hr
  have h2 := rdA_few hr
  have hl : r.length = t.length - k := by rw [← h, List.length_drop]
  rw [← h, List.drop_drop, show k + ((t.drop k).length - q.length) = t.length - q.length by rw [List.length_drop]; omega] at h1
  exact h1

theorem wp_calm {P : Program} {c : Code} {K : Act → World → Prop} {Q : Exit → Act → World → Prop} {a : Act} {w : World} (h : c.wp P (Exit.then K fun _ _ _ => False) a w) : c.wp P (Exit.then K Q) a w :=
  Code.wp_mono (fun e a w q => by cases e <;> first | exact q | exact q.elim) h
theorem drew_below6 (w : World) : Below w.heap.size w w.drew := ⟨rfl, rfl, rfl, Nat.le_refl _, fun _ _ => rfl⟩
theorem RqB.put {w : World} {b : Nat} {r0 r : Rq} {v0 v : Value} (h : RqB w b r0 v0) : RqB ((((w.setCell ⟨b, 0, none⟩ (.string r.m)).setCell ⟨b, 1, none⟩ (.string r.t)).setCell ⟨b, 2, none⟩ v).setCell ⟨b, 3, none⟩ (.string r.b)) b r v where
  c0 := by rw [World.cell?_setCell_other _ _ _ _ (by simp), World.cell?_setCell_other _ _ _ _ (by simp), World.cell?_setCell_other _ _ _ _ (by simp)]; exact World.cell?_setCell_same _ _ _ h.c0
  c1 := by rw [World.cell?_setCell_other _ _ _ _ (by simp), World.cell?_setCell_other _ _ _ _ (by simp)]; exact World.cell?_setCell_same _ _ _ (by rw [World.cell?_setCell_other _ _ _ _ (by simp)]; exact h.c1)
  c2 := by rw [World.cell?_setCell_other _ _ _ _ (by simp)]; exact World.cell?_setCell_same _ _ _ (by rw [World.cell?_setCell_other _ _ _ _ (by simp), World.cell?_setCell_other _ _ _ _ (by simp)]; exact h.c2)
  c3 := World.cell?_setCell_same _ _ _ (by rw [World.cell?_setCell_other _ _ _ _ (by simp), World.cell?_setCell_other _ _ _ _ (by simp), World.cell?_setCell_other _ _ _ _ (by simp)]; exact h.c3)
  fz := fun k => by rw [World.frozen?_setCell, World.frozen?_setCell, World.frozen?_setCell, World.frozen?_setCell]; exact h.fz k
  hi := by rw [World.size_setCell, World.size_setCell, World.size_setCell, World.size_setCell]; exact h.hi
/-- The world behind the last region of ReadRequest. -/
def lastQ (n : Nat) (r : Rq) (u : Value) (w : World) : World := ((((w.setCell ⟨n, 0, none⟩ (.string r.m)).setCell ⟨n, 1, none⟩ (.string r.t)).setCell ⟨n, 2, none⟩ u).setCell ⟨n, 3, none⟩ (.string r.b)).setCell ⟨n + 1, 0, none⟩ (.int .i64 0)
theorem doneQ {w w5 : World} {r : Rq} {u : Value} {N : Int} {P : Int × Rq × Int} {tmps : Array Value} (F : FrQ w w5) (hF : HasF w5 (w.heap.size + 2) u r.l) (hP : P = (0, r, N)) (h2 : tmps.getD 2 undef = .pointer (some ⟨w.heap.size, 0, none⟩)) (h3 : tmps.getD 3 undef = .int .i64 N) (h4 : tmps.getD 4 undef = .pointer (some ⟨w.heap.size + 1, 0, none⟩)) :
    bodyPostD Tryz.prog Tryz.f13 (fun e w' => GivesQ w w' e P) .ret { tmps := tmps, defers := [{ target := .fn (.func 45) #[.pointer (some ⟨w.heap.size + 1, 0, none⟩)], args := #[] }] } (lastQ w.heap.size r u w5) := by
  have q4 := RqB.put (r := r) (v := u) F.q
  have B4 : Below w.heap.size w ((((w5.setCell ⟨w.heap.size, 0, none⟩ (.string r.m)).setCell ⟨w.heap.size, 1, none⟩ (.string r.t)).setCell ⟨w.heap.size, 2, none⟩ u).setCell ⟨w.heap.size, 3, none⟩ (.string r.b)) := (((F.b.setCell (Nat.le_refl _) _).setCell (Nat.le_refl _) _).setCell (Nat.le_refl _) _).setCell (Nat.le_refl _) _
  have C4 : ((((w5.setCell ⟨w.heap.size, 0, none⟩ (.string r.m)).setCell ⟨w.heap.size, 1, none⟩ (.string r.t)).setCell ⟨w.heap.size, 2, none⟩ u).setCell ⟨w.heap.size, 3, none⟩ (.string r.b)).cell? ⟨w.heap.size + 1, 0, none⟩ = some (.int .i64 0) := by
    rw [World.cell?_setCell_other _ _ _ _ (by simp), World.cell?_setCell_other _ _ _ _ (by simp), World.cell?_setCell_other _ _ _ _ (by simp), World.cell?_setCell_other _ _ _ _ (by simp)]
    exact F.c
  have Z4 : ((((w5.setCell ⟨w.heap.size, 0, none⟩ (.string r.m)).setCell ⟨w.heap.size, 1, none⟩ (.string r.t)).setCell ⟨w.heap.size, 2, none⟩ u).setCell ⟨w.heap.size, 3, none⟩ (.string r.b)).frozen? ⟨w.heap.size + 1, 0, none⟩ = false := by
    rw [World.frozen?_setCell, World.frozen?_setCell, World.frozen?_setCell, World.frozen?_setCell]
    exact F.f
  have H4 : HasF ((((w5.setCell ⟨w.heap.size, 0, none⟩ (.string r.m)).setCell ⟨w.heap.size, 1, none⟩ (.string r.t)).setCell ⟨w.heap.size, 2, none⟩ u).setCell ⟨w.heap.size, 3, none⟩ (.string r.b)) (w.heap.size + 2) u r.l := (((hF.far (by omega) _).far (by omega) _).far (by omega) _).far (by omega) _
  unfold lastQ
  generalize (((w5.setCell ⟨w.heap.size, 0, none⟩ (.string r.m)).setCell ⟨w.heap.size, 1, none⟩ (.string r.t)).setCell ⟨w.heap.size, 2, none⟩ u).setCell ⟨w.heap.size, 3, none⟩ (.string r.b) = w6 at q4 B4 C4 Z4 H4 ⊢
  have c6 : (w6.setCell ⟨w.heap.size + 1, 0, none⟩ (.int .i64 0)).cell? ⟨w.heap.size + 1, 0, none⟩ = some (.int .i64 0) := World.cell?_setCell_same _ _ _ C4
  have z6 : (w6.setCell ⟨w.heap.size + 1, 0, none⟩ (.int .i64 0)).frozen? ⟨w.heap.size + 1, 0, none⟩ = false := by rw [World.frozen?_setCell]; exact Z4
  have q6 := q4.past (grown_put (grown_self w6 (some (w.heap.size + 1))) 0 (.int .i64 0)) (by simp)
  have b6 := B4.setCell (p := ⟨w.heap.size + 1, 0, none⟩) (by show w.heap.size ≤ w.heap.size + 1; omega) (.int .i64 0)
  have h6 := H4.far (b := w.heap.size + 1) (k := 0) (by omega) (.int .i64 0)
  clear q4 B4 C4 Z4 H4
  generalize w6.setCell ⟨w.heap.size + 1, 0, none⟩ (.int .i64 0) = w7 at c6 z6 q6 b6 h6 ⊢
  refine leaves_cons (f := 45) (args := #[.pointer (some ⟨w.heap.size + 1, 0, none⟩)]) (by simp) (by simp [go_sem]) ?_
  refine (catchQ_idle ⟨w.heap.size + 1, 0, none⟩ 0 w7 c6 z6).mono ?_
  rintro e u' w'' ⟨rfl, rfl, rfl⟩
  have hq := q6.past (grown_put (grown_self w7 (some (w.heap.size + 1))) 0 (.int .i64 0)) (by simp)
  have hc : (w7.setCell ⟨w.heap.size + 1, 0, none⟩ (.int .i64 0)).cell? ⟨w.heap.size + 1, 0, none⟩ = some (.int .i64 0) := World.cell?_setCell_same _ _ _ c6
  have hb := b6.setCell (p := ⟨w.heap.size + 1, 0, none⟩) (by show w.heap.size ≤ w.heap.size + 1; omega) (.int .i64 0)
  have hh := h6.far (b := w.heap.size + 1) (k := 0) (by omega) (.int .i64 0)
  clear c6 z6 q6 b6 h6
  generalize w7.setCell ⟨w.heap.size + 1, 0, none⟩ (.int .i64 0) = w8 at hq hc hb hh ⊢
  have c0 := hq.c0
  have c1 := hq.c1
  have c2 := hq.c2
  have c3 := hq.c3
  subst hP
  refine ⟨.tuple #[.agg #[.string r.m, .string r.t, u, .string r.b], .int .i64 N, .int .i64 0], ?_, ⟨u, rfl, hh.low (by omega), hb⟩⟩
  simp only [Array.getD_eq_getD_getElem?] at h2 h3 h4
  simp [results, Tryz.results13, go_sem, h2, h3, h4, hc, c0, c1, c2, c3]

set_option maxHeartbeats 4000000 in
theorem implRdRq_go (t : ByteArray) (m : Int) (x r a1 a2 a3 : List UInt8) (w : World) (hm : w.cell? ⟨1, 0, none⟩ = some (.int .i64 m)) (ht : t.size ≤ 1048576) (hc : lnC t.data.toList = some (x, r)) (hw : wrdL x = [a1, a2, a3]) (hg : goodQ a1 a2 a3) :
    Calls Tryz.prog 13 #[.string t] w fun e w' => GivesQ w w' e (rdRq t.data.toList) := by
  have hmf : ∀ (fn : Fn) (first cap : Array Value) (w : World), (Instr.makeFunc fn first cap).run Tryz.prog w = .ok (.func fn first cap) w := fun _ _ _ _ => rfl
  have hlS := goodQ_line hc hw hg
  have htl : t.data.toList.length = t.size := by simp
  have hxk := (word_few hc hw (by omega)).1
  rw [htl] at hxk
  have hdr := lnC_drop hc
  have HRR : Hid (∀ k, ¬ k = 0 → (rstA r false).k = k → rdRq t.data.toList = (k, noQ, 0)) := fun k hk h => by
    have := rq_rest hlS hw hg (by rw [h]; exact hk)
    rw [h] at this
    exact this
  have HRY : Hid ((rstA r false).k = 0 → rdRq t.data.toList = (0, ⟨txtL a1, txtL a2, (rstA r false).l, (rstA r false).b⟩, (t.size : Int) - ((rstA r false).r.length : Int))) := fun h => by
    have := rq_yes hlS hw hg h
    rw [htl] at this
    exact this
  have F0 : Hid (FrQ w _) := FrQ.new w t
  have R0 := Rdr.new ((w.alloc (.cells #[.string ⟨#[]⟩, .string ⟨#[]⟩, .slice none 0 0, .string ⟨#[]⟩] 26)).alloc (.cells #[.int .i64 0] 2)) t
  have e0 : ((w.alloc (.cells #[.string ⟨#[]⟩, .string ⟨#[]⟩, .slice none 0 0, .string ⟨#[]⟩] 26)).alloc (.cells #[.int .i64 0] 2)).heap.size = w.heap.size + 2 := by simp
  rw [e0] at R0
  have m0 := (F0.out.b.cell (p := ⟨1, 0, none⟩) (cell_lt hm)).trans hm
  have hl := implRqLine_yes _ t m x r a1 a2 a3 _ R0 ht m0 hc hw hg
  have hmm : Hid (∀ W, FrQ w W → W.cell? ⟨1, 0, none⟩ = some (.int .i64 m)) := fun W hW => (hW.b.cell (p := ⟨1, 0, none⟩) (cell_lt hm)).trans hm
  clear R0 e0 m0 hm hlS hc hw hg
  generalize rdRq t.data.toList = P at HRR HRY ⊢
  generalize txtL a1 = A1 at hl HRY
  generalize txtL a2 = A2 at hl HRY
  cases hrd : rdA r with
  | none =>
    have HP : Hid (P = (2, noQ, 0)) := HRR.out 2 (by decide) (by rw [rst_of_none hrd]; rfl)
    have hfl : Hid (∀ W, FrQ w W → Rdr W (w.heap.size + 1 + 1) t (x.length + 2) → Calls Tryz.prog 49 #[.pointer (some ⟨w.heap.size + 1 + 1, 0, none⟩)] W fun e w' => e = .panicked (panL 2) ∧ W.grownBy w' (some (w.heap.size + 2))) := fun W hW hR => implFields_no _ t _ m W hR (by omega) ht (hmm.out W hW) (by rw [hdr]; exact hrd)
    clear HRR HRY hrd hmm
    go_enter_defers Tryz.func13, Tryz.ntmps13
    go_wp2_with (go_at_call 47; refine (implNewR t _).mono ?_; rintro e w1 ⟨rfl, rfl⟩)
    generalize ((w.alloc (.cells #[.string ⟨#[]⟩, .string ⟨#[]⟩, .slice none 0 0, .string ⟨#[]⟩] 26)).alloc (.cells #[.int .i64 0] 2)).alloc (.cells #[.string t, .int .i64 0] 63) = wb at F0 hl ⊢
    refine hl.mono ?_
    rintro e w2 ⟨rfl, hr2, hg2⟩
    have F2 : Hid (FrQ w w2) := F0.out.next hg2
    have R2 : Hid (Rdr w2 (w.heap.size + 2) t (x.length + 2)) := hr2
    clear F0 hl hg2 hr2
    go_wp2_with fail
    refine (hfl.out _ F2.out R2.out).mono ?_
    rintro e w3 ⟨rfl, hg3⟩
    exact leaveQ (F2.out.next hg3) HP.out rfl rfl rfl
  | some p =>
    obtain ⟨l, q⟩ := p
    have hok := rdA_ok hrd
    have hqf := rdA_few hrd
    have hrl : r.length = t.size - (x.length + 2) := by rw [← hdr, List.length_drop, htl]
    have hdq := rdA_at hdr (by omega) hrd
    rw [htl] at hdq
    have hbf := @bdR_few l q
    have hbl := @bdR_l l q
    rw [rst_bd hrd] at HRR HRY
    have hfl : Hid (∀ W, FrQ w W → Rdr W (w.heap.size + 1 + 1) t (x.length + 2) → Calls Tryz.prog 49 #[.pointer (some ⟨w.heap.size + 1 + 1, 0, none⟩)] W fun e w' => ∃ u, e = .returned u ∧ HasF w' W.heap.size u l ∧ Rdr w' (w.heap.size + 2) t (t.size - q.length) ∧ W.grownBy w' (some (w.heap.size + 2))) := fun W hW hR => implFields_yes _ t _ m l q W hR (by omega) ht (hmm.out W hW) (by rw [hdr]; exact hrd)
    have hbd : Hid (∀ W u B, HasF W B u l → Rdr W (w.heap.size + 1 + 1) t (t.size - q.length) → Calls Tryz.prog 50 #[.pointer (some ⟨w.heap.size + 1 + 1, 0, none⟩), u] W fun e w' => (((bdR l q).k = 0 ∧ e = .returned (.string (bdR l q).b) ∧ Rdr w' (w.heap.size + 2) t (t.size - (bdR l q).r.length)) ∨ (¬ (bdR l q).k = 0 ∧ e = .panicked (panL (bdR l q).k))) ∧ W.grownBy w' (some (w.heap.size + 2))) := fun W u B hF hR => by
      have := implBody _ t _ u l W hR (by omega) ht (hF.fits hok)
      rw [hdq] at this
      exact this
    generalize bdR l q = RS at HRR HRY hbf hbl hbd
    obtain ⟨rk, rl, rb, rr⟩ := RS
    simp only at HRR HRY hbf hbl hbd
    have hrt : r.length ≤ t.size := by omega
    clear hrd hmm hdr hdq hrl
    go_enter_defers Tryz.func13, Tryz.ntmps13
    go_wp2_with (go_at_call 47; refine (implNewR t _).mono ?_; rintro e w1 ⟨rfl, rfl⟩)
    generalize ((w.alloc (.cells #[.string ⟨#[]⟩, .string ⟨#[]⟩, .slice none 0 0, .string ⟨#[]⟩] 26)).alloc (.cells #[.int .i64 0] 2)).alloc (.cells #[.string t, .int .i64 0] 63) = wb at F0 hl ⊢
    refine hl.mono ?_
    rintro e w2 ⟨rfl, hr2, hg2⟩
    have F2 : Hid (FrQ w w2) := F0.out.next hg2
    have R2 : Hid (Rdr w2 (w.heap.size + 2) t (x.length + 2)) := hr2
    clear F0 hl hg2 hr2
    go_wp2_with fail
    refine (hfl.out _ F2.out R2.out).mono ?_
    rintro e w3 ⟨u, rfl, hF3, hr3, hg3⟩
    have F3 : Hid (FrQ w w3) := F2.out.next hg3
    have R3 : Hid (Rdr w3 (w.heap.size + 2) t (t.size - q.length)) := hr3
    have h32 : Hid (w.heap.size + 2 < w2.heap.size) := F2.out.hi
    have hF3' := hF3
    obtain ⟨A3, cap3, rfl, hc3, hm3, _⟩ := hF3.form
    have H3 : Hid (HasF w3 w2.heap.size (.slice A3 l.length cap3) l) := hF3'
    clear hF3 hF3' hfl hg3 hr3 F2 R2
    go_wp2_with fail
    refine (hbd.out _ _ _ H3.out R3.out).mono ?_
    rintro e w4 ⟨hor, hg4⟩
    have F4 : Hid (FrQ w w4) := F3.out.next hg4
    have H4 : Hid (HasF w4 w2.heap.size (.slice A3 l.length cap3) l) := H3.out.grown hg4 (fun j hj e => by have h1 := H3.out.from j hj; injection e with e; have := h32.out; omega)
    clear F3 H3 R3 hbd hg4
    rcases hor with ⟨hk0, rfl, hr4⟩ | ⟨hk0, rfl⟩
    · have R4 : Hid (Rdr w4 (w.heap.size + 2) t (t.size - rr.length)) := hr4
      have HP : Hid (P = (0, ⟨A1, A2, woB l, rb⟩, (t.size : Int) - (rr.length : Int))) := by have := HRY.out hk0; rw [hbl hk0] at this; exact this
      clear HRR HRY hr4 hbl hk0
      have hun0 := implUnfr _ l w4.drew (H4.out.drew.fls) hok
      have hun : Calls Tryz.prog 51 #[.slice A3 l.length cap3] w4.drew fun e w' => ∃ g n, e = .returned (.slice (some ⟨g, 0, none⟩) n n) ∧ HasF w' (w.heap.size + 2) (.slice (some ⟨g, 0, none⟩) n n) (woB l) ∧ FrQ w w' ∧ w'.cell? ⟨w.heap.size + 1 + 1, 1, none⟩ = some (.int .i64 ((t.size - rr.length : Nat) : Int)) := hun0.mono fun e w' ⟨⟨g, n, h1, h2⟩, h3⟩ => by
        have d0 : w4.grownBy w' (some (w.heap.size + 2)) := grown_below (grown_below (grown_self w4 _) (drew_below6 w4)) h3
        exact ⟨g, n, h1, h2.low (by show w.heap.size + 2 ≤ w4.heap.size; have := F4.out.hi; omega), F4.out.next d0, (h3.cell (p := ⟨w.heap.size + 1 + 1, 1, none⟩) (by show _ < w4.heap.size; exact F4.out.hi)).trans R4.out.c1⟩
      have r4 : w4.cell? ⟨w.heap.size + 1 + 1, 1, none⟩ = some (.int .i64 ((t.size - rr.length : Nat) : Int)) := R4.out.c1
      have HN : Hid (((t.size - rr.length : Nat) : Int) = (t.size : Int) - (rr.length : Int)) := by show _ = _; omega
      generalize ((t.size - rr.length : Nat) : Int) = N at hun r4 HN
      clear hun0 F4 H4 R4 hmf hqf hbf hc3 hm3 h32
      go_wp2
      refine wp_calm ?_
      go_region_with (go_at_call 51; refine hun.mono ?_; rintro e w5 ⟨g, n5, rfl, h5, f5, r5⟩; have H5 : Hid (HasF w5 (w.heap.size + 2) (.slice (some ⟨g, 0, none⟩) n5 n5) (woB l)) := h5; have F5 : Hid (FrQ w w5) := f5; have c0 := f5.q.c0; have c1 := f5.q.c1; have c2 := f5.q.c2; have c3 := f5.q.c3; have fz := f5.q.fz; have cc := f5.c; have cf := f5.f; clear h5 f5)
      all_goals
        clear c0 c1 c2 c3 fz cc cf r5
        go_wp2
        exact doneQ (r := ⟨A1, A2, woB l, rb⟩) F5.out H5.out (by rw [HP.out, ← HN.out]) rfl rfl rfl
    · exact leaveQ F4.out (HRR.out rk hk0 rfl) rfl rfl rfl
theorem implRdRq (t : ByteArray) (m : Int) (w : World) (hm : w.cell? ⟨1, 0, none⟩ = some (.int .i64 m)) (ht : t.size ≤ 1048576) :
    Calls Tryz.prog 13 #[.string t] w fun e w' => GivesQ w w' e (rdRq t.data.toList) := by
  by_cases h : ∃ x r a1 a2 a3, lnC t.data.toList = some (x, r) ∧ wrdL x = [a1, a2, a3] ∧ goodQ a1 a2 a3
  · obtain ⟨x, r, a1, a2, a3, hc, hw, hg⟩ := h
    exact implRdRq_go t m x r a1 a2 a3 w hm ht hc hw hg
  · exact implRdRq_line t m w hm ht (fun x r m g v hc hw hg => h ⟨x, r, m, g, v, hc, hw, hg⟩)
end Go.Proofs.YtmgmphkncgochaaGreatDoor
