/-
  The program's reader by its contracts: the fields, the body; what is left without the two names.
-/
import Derived.Test.YteibacmohplblaaGreatDoorG24
import Derived.Test.YteibacmohplblaaGreatDoorG26
namespace Go.Proofs.YteibacmohplblaaGreatDoor
open Go.RowKit Go.Sort Go.Maps Go.ChangeMaps Go.WideMaps
set_option linter.unusedVariables false

/-! ### Fields -/
set_option maxHeartbeats 1000000 in
theorem implFields_no (b : Nat) (t : ByteArray) (k : Nat) (m : Int) (w : World) (h : Rdr w b t k) (hk : k ≤ t.size) (ht : t.size ≤ 1048576) (hm : w.cell? ⟨1, 0, none⟩ = some (.int .i64 m)) (hl : rdA (t.data.toList.drop k) = none) :
    Calls Tryz.prog 49 #[.pointer (some ⟨b, 0, none⟩)] w fun e w' => e = .panicked (panL 2) ∧ w.grownBy w' (some b) := by
  have hr := implRest b t k w h hk ht
  have hz := rest_size t hk
  have hd := drop_text t k
  have hi := fun W hW => implRead (t.extract k t.size) m W hW (by omega)
  rw [hd, hl] at hi
  unfold GivesR rdI rdL at hi
  simp only [Option.isSome_none] at hi
  generalize t.extract k t.size = s at hr hi
  clear h hl hd hz
  unfold panL
  go_enter Tryz.func49, Tryz.ntmps49
  go_wp2_with fail
  refine hr.mono ?_
  rintro e w1 ⟨rfl, hb1⟩
  have m1 := (hb1.cell (p := ⟨1, 0, none⟩) (cell_lt hm)).trans hm
  go_wp2_with fail
  refine (hi w1 m1).mono ?_
  rintro e w2 ⟨u, rfl, hF, hb2⟩
  have hg2 := grown_below (grown_below (grown_self w (some b)) hb1) hb2
  obtain ⟨A2, cap2, rfl, _⟩ := hF.form
  clear hF hb1 hb2 m1
  go_wp2
  exact ⟨rfl, rfl, hg2⟩
theorem rdA_few {x : List UInt8} {l : List Fl} {r : List UInt8} (h : rdA x = some (l, r)) : r.length ≤ x.length := by
  obtain ⟨p, hp⟩ := rdN_tail _ _ _ h
  rw [hp, List.length_append]
  omega
set_option maxHeartbeats 1000000 in
theorem implFields_yes (b : Nat) (t : ByteArray) (k : Nat) (m : Int) (l : List Fl) (r : List UInt8) (w : World) (h : Rdr w b t k) (hk : k ≤ t.size) (ht : t.size ≤ 1048576) (hm : w.cell? ⟨1, 0, none⟩ = some (.int .i64 m)) (hl : rdA (t.data.toList.drop k) = some (l, r)) :
    Calls Tryz.prog 49 #[.pointer (some ⟨b, 0, none⟩)] w fun e w' => ∃ u, e = .returned u ∧ HasF w' w.heap.size u l ∧ Rdr w' b t (t.size - r.length) ∧ w.grownBy w' (some b) := by
  have hr := implRest b t k w h hk ht
  have hz := rest_size t hk
  have hd := drop_text t k
  have hfew := rdA_few hl
  rw [rest_len] at hfew
  have hi := fun W hW => implRead (t.extract k t.size) m W hW (by omega)
  rw [hd, hl] at hi
  unfold GivesR rdI rdL at hi
  simp only [Option.isSome_some] at hi
  obtain ⟨n, hn⟩ : ∃ n : Nat, n = t.size - k - r.length := ⟨_, rfl⟩
  have en : (((t.extract k t.size).size : Int) - (r.length : Int)) = (n : Int) := by omega
  rw [en] at hi
  have hsk : Hid (∀ W, Rdr W b t k → Calls Tryz.prog 97 #[.pointer (some ⟨b, 0, none⟩), .int .i64 (n : Int)] W fun e w' => e = .returned (.tuple #[]) ∧ Rdr w' b t (t.size - r.length) ∧ W.grownBy w' (some b)) := fun W hW => by
    have := implSkip b t k n W hW (by omega) (by omega)
    rw [show k + n = t.size - r.length by omega] at this
    exact this
  have RD : Hid (Rdr w b t k) := h
  have hbw : b < w.heap.size := h.hi
  generalize t.extract k t.size = s at hr hi
  clear h hl hd hz en hn hfew
  go_enter Tryz.func49, Tryz.ntmps49
  go_wp2_with fail
  refine hr.mono ?_
  rintro e w1 ⟨rfl, hb1⟩
  have m1 := (hb1.cell (p := ⟨1, 0, none⟩) (cell_lt hm)).trans hm
  have R1 : Hid (Rdr w1 b t k) := RD.out.kept hb1
  have s1 : Hid (w.heap.size ≤ w1.heap.size) := hb1.size
  go_wp2_with fail
  refine (hi w1 m1).mono ?_
  rintro e w2 ⟨u, rfl, hF, hb2⟩
  have HG : Hid (w.grownBy w2 (some b)) := grown_below (grown_below (grown_self w (some b)) hb1) hb2
  have R2 : Hid (Rdr w2 b t k) := R1.out.kept hb2
  have F2' : HasF w2 w.heap.size u l := hF.low s1.out
  obtain ⟨A2, cap2, rfl, _⟩ := hF.form
  have F2 : Hid (HasF w2 w.heap.size (.slice A2 l.length cap2) l) := F2'
  have NE : Hid (∀ j, (Value.slice A2 l.length cap2).ownBlock = some j → some j ≠ some b) := fun j hj e => by
    have h1 := F2.out.from j hj
    injection e with e
    omega
  clear hF hb1 hb2 m1 F2' R1 RD hi
  go_wp2_with (go_at_call 97; refine (hsk.out _ R2.out).mono ?_; rintro e w3 ⟨rfl, hr3, hg3⟩; have R3 : Hid (Rdr w3 b t (t.size - r.length)) := hr3; have G3 : Hid (w2.grownBy w3 (some b)) := hg3; clear hr3 hg3)
  go_ret
  exact ⟨_, rfl, F2.out.grown G3.out NE.out, R3.out, HG.out.trans G3.out⟩

/-! ### The body -/
set_option maxHeartbeats 1000000 in
theorem implCounted_no (b : Nat) (t : ByteArray) (k n : Nat) (w : World) (h : Rdr w b t k) (hk : k ≤ t.size) (ht : t.size ≤ 1048576) (hn : ¬ n ≤ t.size - k) :
    Calls Tryz.prog 98 #[.pointer (some ⟨b, 0, none⟩), .int .i64 n] w fun e w' => e = .panicked (panL 4) ∧ w.grownBy w' (some b) := by
  have hq := implTake_no b t k n w h hk ht hn
  clear h
  unfold panL
  go_enter Tryz.func98, Tryz.ntmps98
  go_wp2_with fail
  refine hq.mono ?_
  rintro e w1 ⟨rfl, hb1⟩
  have hg1 := grown_below (grown_self w (some b)) hb1
  go_wp2
  exact ⟨rfl, rfl, hg1⟩
set_option maxHeartbeats 1000000 in
theorem implCounted_yes (b : Nat) (t : ByteArray) (k n : Nat) (w : World) (h : Rdr w b t k) (hk : k ≤ t.size) (ht : t.size ≤ 1048576) (hn : n ≤ t.size - k) :
    Calls Tryz.prog 98 #[.pointer (some ⟨b, 0, none⟩), .int .i64 n] w fun e w' => e = .returned (.string (txtL ((t.data.toList.drop k).take n))) ∧ Rdr w' b t (k + n) ∧ w.grownBy w' (some b) := by
  have hq := implTake_yes b t k n w h hk ht hn
  have hz : (txtL ((t.data.toList.drop k).take n)).size ≤ 1048576 := by
    show ((t.data.toList.drop k).take n).toArray.size ≤ _
    simp
    omega
  generalize txtL ((t.data.toList.drop k).take n) = X at hq hz ⊢
  clear h
  go_enter Tryz.func98, Tryz.ntmps98
  go_wp2_with fail
  refine hq.mono ?_
  rintro e w1 ⟨rfl, hr1, hg1⟩
  have R1 : Hid (Rdr w1 b t (k + n)) := hr1
  clear hr1
  go_wp2_with (go_at_call 94; refine (clone X _ hz).mono ?_; rintro e w2 ⟨rfl, hb2⟩)
  go_ret
  exact ⟨rfl, R1.out.kept hb2, grown_below hg1 hb2⟩
set_option maxHeartbeats 1000000 in
theorem implChunks_no (b : Nat) (t : ByteArray) (k : Nat) (w : World) (h : Rdr w b t k) (hk : k ≤ t.size) (ht : t.size ≤ 1048576) (h8 : ¬ (unF (t.data.toList.drop k)).st = 8) :
    Calls Tryz.prog 99 #[.pointer (some ⟨b, 0, none⟩)] w fun e w' => e = .panicked (panL 4) ∧ w.grownBy w' (some b) := by
  have hr := implRest b t k w h hk ht
  have hz := rest_size t hk
  have hd := drop_text t k
  have hi := fun W => implUn (t.extract k t.size) W (by omega)
  rw [hd, unV_no h8] at hi
  generalize t.extract k t.size = s at hr hi
  clear h hd hz h8
  unfold panL
  go_enter Tryz.func99, Tryz.ntmps99
  go_wp2_with fail
  refine hr.mono ?_
  rintro e w1 ⟨rfl, hb1⟩
  go_wp2_with fail
  refine (hi w1).mono ?_
  rintro e w2 ⟨rfl, hb2⟩
  have hg2 := grown_below (grown_below (grown_self w (some b)) hb1) hb2
  clear hb1 hb2
  go_wp2
  exact ⟨rfl, rfl, hg2⟩
set_option maxHeartbeats 1000000 in
theorem implChunks_yes (b : Nat) (t : ByteArray) (k : Nat) (w : World) (h : Rdr w b t k) (hk : k ≤ t.size) (ht : t.size ≤ 1048576) (h8 : (unF (t.data.toList.drop k)).st = 8) :
    Calls Tryz.prog 99 #[.pointer (some ⟨b, 0, none⟩)] w fun e w' => e = .returned (.string (unF (t.data.toList.drop k)).bd) ∧ Rdr w' b t (k + unN (t.data.toList.drop k)) ∧ w.grownBy w' (some b) := by
  have hr := implRest b t k w h hk ht
  have hz := rest_size t hk
  have hd := drop_text t k
  have hi := fun W => implUn (t.extract k t.size) W (by omega)
  have hcu : unN (t.data.toList.drop k) ≤ (t.data.toList.drop k).length := cnt_le _ _
  rw [rest_len] at hcu
  rw [hd, unV_yes h8] at hi
  generalize unN (t.data.toList.drop k) = n at hi hcu ⊢
  generalize (unF (t.data.toList.drop k)).bd = X at hi ⊢
  have hsk : Hid (∀ W, Rdr W b t k → Calls Tryz.prog 97 #[.pointer (some ⟨b, 0, none⟩), .int .i64 (n : Int)] W fun e w' => e = .returned (.tuple #[]) ∧ Rdr w' b t (k + n) ∧ W.grownBy w' (some b)) := fun W hW => implSkip b t k n W hW (by omega) (by omega)
  have RD : Hid (Rdr w b t k) := h
  generalize t.extract k t.size = s at hr hi
  clear h hd hz h8 hcu
  go_enter Tryz.func99, Tryz.ntmps99
  go_wp2_with fail
  refine hr.mono ?_
  rintro e w1 ⟨rfl, hb1⟩
  have R1 : Hid (Rdr w1 b t k) := RD.out.kept hb1
  go_wp2_with fail
  refine (hi w1).mono ?_
  rintro e w2 ⟨rfl, hb2⟩
  have HG : Hid (w.grownBy w2 (some b)) := grown_below (grown_below (grown_self w (some b)) hb1) hb2
  have R2 : Hid (Rdr w2 b t k) := R1.out.kept hb2
  clear hb1 hb2 R1 RD hi
  go_wp2_with (go_at_call 97; refine (hsk.out _ R2.out).mono ?_; rintro e w3 ⟨rfl, hr3, hg3⟩; have R3 : Hid (Rdr w3 b t (k + n)) := hr3; have G3 : Hid (w2.grownBy w3 (some b)) := hg3; clear hr3 hg3)
  go_ret
  exact ⟨rfl, R3.out, HG.out.trans G3.out⟩
/-- What is read behind fields l, with q left. -/
def bdR (l : List Fl) (q : List UInt8) : Rst :=
  if (frm l).1 = 3 then noR 3
  else if (frm l).1 = 0 then ⟨0, woB l, ⟨#[]⟩, q⟩
  else if (frm l).1 = 1 then if (frm l).2 ≤ (q.length : Int) then ⟨0, woB l, ⟨(q.take (frm l).2.toNat).toArray⟩, q.drop (frm l).2.toNat⟩ else noR 4
  else if (unF q).st = 8 then ⟨0, woB l, (unF q).bd, q.drop (unN q)⟩ else noR 4
theorem rst_bd {x q : List UInt8} {l : List Fl} (h : rdA x = some (l, q)) : rstA x false = bdR l q := by
  unfold rstA bdR
  rw [h]
  simp
/-- What is told of a framing: its two numbers, or it is given up with 3. -/
theorem implRight_no (u : Value) (l : List Fl) (w : World) (hf : Fits w u l) (h3 : frm l = (3, 0)) :
    Calls Tryz.prog 50 #[u] w fun e w' => e = .panicked (panL 3) ∧ Below w.heap.size w w' := by
  have hq := implFrm u l w hf
  obtain ⟨a, cap, rfl, hcap⟩ := hf.1
  clear hf hcap
  unfold frmE at hq
  rw [h3] at hq
  simp only at hq
  clear h3
  unfold panL
  go_enter Tryz.func50, Tryz.ntmps50
  go_wp2_with fail
  refine hq.mono ?_
  rintro e w1 ⟨rfl, hb1⟩
  clear hq
  go_wp2
  exact ⟨rfl, rfl, hb1⟩
theorem implRight_yes (u : Value) (l : List Fl) (k n : Int) (w : World) (hf : Fits w u l) (h : frm l = (k, n)) (h3 : ¬ k = 3) :
    Calls Tryz.prog 50 #[u] w fun e w' => e = .returned (.tuple #[.int .i64 k, .int .i64 n]) ∧ Below w.heap.size w w' := by
  have hq := implFrm u l w hf
  obtain ⟨a, cap, rfl, hcap⟩ := hf.1
  clear hf hcap
  unfold frmE at hq
  rw [h] at hq
  simp only at hq
  clear h
  go_enter Tryz.func50, Tryz.ntmps50
  go_wp2_with fail
  refine hq.mono ?_
  rintro e w1 ⟨rfl, hb1⟩
  clear hq
  go_wp2
  go_ret2
  exact ⟨rfl, hb1⟩
set_option maxHeartbeats 1000000 in
theorem implBody (b : Nat) (t : ByteArray) (k : Nat) (fk fn : Int) (l : List Fl) (w : World) (h : Rdr w b t k) (hk : k ≤ t.size) (ht : t.size ≤ 1048576) (hfr0 : frm l = (fk, fn)) (h3 : ¬ fk = 3) :
    Calls Tryz.prog 51 #[.pointer (some ⟨b, 0, none⟩), .int .i64 fk, .int .i64 fn] w fun e w' => (((bdR l (t.data.toList.drop k)).k = 0 ∧ e = .returned (.string (bdR l (t.data.toList.drop k)).b) ∧ Rdr w' b t (t.size - (bdR l (t.data.toList.drop k)).r.length)) ∨ (¬ (bdR l (t.data.toList.drop k)).k = 0 ∧ e = .panicked (panL (bdR l (t.data.toList.drop k)).k))) ∧ w.grownBy w' (some b) := by
  have hlq := rest_len t k
  have hkk : t.size - (t.size - k) = k := by omega
  have RD : Hid (Rdr w b t k) := h
  clear h
  rcases frm_cases l with hfr | ⟨n, hfr, hn⟩ | hfr | hfr
  · have HB : Hid (bdR l (t.data.toList.drop k) = ⟨0, woB l, ⟨#[]⟩, t.data.toList.drop k⟩) := by
      show bdR l _ = _
      unfold bdR
      rw [hfr]
      rfl
    have e0 : ((0 : Int), (0 : Int)) = (fk, fn) := hfr.symm.trans hfr0
    injection e0 with e1 e2
    subst e1 e2
    clear h3 hfr0 hfr
    go_enter Tryz.func51, Tryz.ntmps51
    go_wp2
    go_ret
    rw [HB.out]
    exact ⟨.inl ⟨rfl, rfl, by show Rdr w b t (t.size - (t.data.toList.drop k).length); rw [hlq, hkk]; exact RD.out⟩, grown_self w (some b)⟩
  · have e0 : ((1 : Int), (n : Int)) = (fk, fn) := hfr.symm.trans hfr0
    injection e0 with e1 e2
    subst e1 e2
    by_cases hnq : n ≤ t.size - k
    · have HB : Hid (bdR l (t.data.toList.drop k) = ⟨0, woB l, txtL ((t.data.toList.drop k).take n), (t.data.toList.drop k).drop n⟩) := by
        show bdR l _ = _
        unfold bdR
        rw [hfr]
        simp only
        rw [if_neg (by decide), if_neg (by decide), if_pos trivial, if_pos (by rw [hlq]; omega)]
        rfl
      have hc : Calls Tryz.prog 98 #[.pointer (some ⟨b, 0, none⟩), .int .i64 (n : Int)] w fun e w' => e = .returned (.string (txtL ((t.data.toList.drop k).take n))) ∧ Rdr w' b t (k + n) ∧ w.grownBy w' (some b) := implCounted_yes b t k n w RD.out hk ht hnq
      have hz2 : ((t.data.toList.drop k).drop n).length = t.size - k - n := by rw [List.length_drop, hlq]
      generalize txtL ((t.data.toList.drop k).take n) = X at hc HB
      clear h3 hfr0 hfr RD
      go_enter Tryz.func51, Tryz.ntmps51
      go_wp2_with (go_at_call 98; refine hc.mono ?_; rintro e w2 ⟨rfl, hr2, hg2⟩; have R2 : Hid (Rdr w2 b t (k + n)) := hr2; have G2 : Hid (w.grownBy w2 (some b)) := hg2; clear hr2 hg2)
      go_ret
      rw [HB.out]
      exact ⟨.inl ⟨rfl, rfl, by show Rdr w2 b t (t.size - ((t.data.toList.drop k).drop n).length); rw [hz2, show t.size - (t.size - k - n) = k + n by omega]; exact R2.out⟩, G2.out⟩
    · have HB : Hid (bdR l (t.data.toList.drop k) = noR 4) := by
        show bdR l _ = _
        unfold bdR
        rw [hfr]
        simp only
        rw [if_neg (by decide), if_neg (by decide), if_pos trivial, if_neg (by rw [hlq]; omega)]
      have hc : Calls Tryz.prog 98 #[.pointer (some ⟨b, 0, none⟩), .int .i64 (n : Int)] w fun e w' => e = .panicked (panL 4) ∧ w.grownBy w' (some b) := implCounted_no b t k n w RD.out hk ht hnq
      clear h3 hfr0 hfr RD
      go_enter Tryz.func51, Tryz.ntmps51
      go_wp2_with fail
      refine hc.mono ?_
      rintro e w2 ⟨rfl, hg2⟩
      refine ⟨rfl, ?_, hg2⟩
      rw [HB.out]
      exact .inr ⟨by show ¬ (4 : Int) = 0; decide, rfl⟩
  · have e0 : ((2 : Int), (0 : Int)) = (fk, fn) := hfr.symm.trans hfr0
    injection e0 with e1 e2
    subst e1 e2
    by_cases h8 : (unF (t.data.toList.drop k)).st = 8
    · have HB : Hid (bdR l (t.data.toList.drop k) = ⟨0, woB l, (unF (t.data.toList.drop k)).bd, (t.data.toList.drop k).drop (unN (t.data.toList.drop k))⟩) := by
        show bdR l _ = _
        unfold bdR
        rw [hfr]
        simp only
        rw [if_neg (by decide), if_neg (by decide), if_neg (by decide), if_pos h8]
      have hc : Calls Tryz.prog 99 #[.pointer (some ⟨b, 0, none⟩)] w fun e w' => e = .returned (.string (unF (t.data.toList.drop k)).bd) ∧ Rdr w' b t (k + unN (t.data.toList.drop k)) ∧ w.grownBy w' (some b) := implChunks_yes b t k w RD.out hk ht h8
      have hcu : unN (t.data.toList.drop k) ≤ (t.data.toList.drop k).length := cnt_le _ _
      have hz2 : ((t.data.toList.drop k).drop (unN (t.data.toList.drop k))).length = t.size - k - unN (t.data.toList.drop k) := by rw [List.length_drop, hlq]
      rw [hlq] at hcu
      clear h8 h3 hfr0 hfr RD
      generalize unN (t.data.toList.drop k) = n at hc HB hcu hz2
      generalize (unF (t.data.toList.drop k)).bd = X at hc HB
      go_enter Tryz.func51, Tryz.ntmps51
      go_wp2_with (go_at_call 99; refine hc.mono ?_; rintro e w2 ⟨rfl, hr2, hg2⟩; have R2 : Hid (Rdr w2 b t (k + n)) := hr2; have G2 : Hid (w.grownBy w2 (some b)) := hg2; clear hr2 hg2)
      go_ret
      rw [HB.out]
      exact ⟨.inl ⟨rfl, rfl, by show Rdr w2 b t (t.size - ((t.data.toList.drop k).drop n).length); rw [hz2, show t.size - (t.size - k - n) = k + n by omega]; exact R2.out⟩, G2.out⟩
    · have HB : Hid (bdR l (t.data.toList.drop k) = noR 4) := by
        show bdR l _ = _
        unfold bdR
        rw [hfr]
        simp only
        rw [if_neg (by decide), if_neg (by decide), if_neg (by decide), if_neg h8]
      have hc : Calls Tryz.prog 99 #[.pointer (some ⟨b, 0, none⟩)] w fun e w' => e = .panicked (panL 4) ∧ w.grownBy w' (some b) := implChunks_no b t k w RD.out hk ht h8
      clear h8 h3 hfr0 hfr RD
      go_enter Tryz.func51, Tryz.ntmps51
      go_wp2_with fail
      refine hc.mono ?_
      rintro e w2 ⟨rfl, hg2⟩
      refine ⟨rfl, ?_, hg2⟩
      rw [HB.out]
      exact .inr ⟨by show ¬ (4 : Int) = 0; decide, rfl⟩
  · have e0 : ((3 : Int), (0 : Int)) = (fk, fn) := hfr.symm.trans hfr0
    injection e0 with e1 e2
    exact absurd e1.symm h3

/-! ### What is left without the two names -/
theorem rest_two (l : List Fl) : l.filter (restB ([] ++ [clS, teS].map lowS)) = woB l := by
  unfold woB wo
  rw [List.filter_filter]
  congr 1
  funext f
  have e1 : decide (lowS clS = lowS f.1) = decide (lowS f.1 = lowS clS) := decide_eq_decide.2 eq_comm
  have e2 : decide (lowS teS = lowS f.1) = decide (lowS f.1 = lowS teS) := decide_eq_decide.2 eq_comm
  unfold restB keepB
  show (!(decide (lowS clS = lowS f.1) || (decide (lowS teS = lowS f.1) || false))) = _
  rw [e1, e2]
  cases decide (lowS f.1 = lowS clS) <;> cases decide (lowS f.1 = lowS teS) <;> rfl
set_option maxHeartbeats 1000000 in
theorem implUnfr (v : Value) (l : List Fl) (w : World) (h : Fls w v l) (hok : fldsOk l = true) :
    Calls Tryz.prog 52 #[v] w fun e w' => (∃ g n, e = .returned (.slice (some ⟨g, 0, none⟩) n n) ∧ HasF w' w.heap.size (.slice (some ⟨g, 0, none⟩) n n) (woB l)) ∧ Below w.heap.size w w' := by
  have hh := h
  obtain ⟨a, cap, rfl, _⟩ := hh
  have hmm := @run_makeMap Tryz.prog
  have hb0 := (Below.refl _ w).alloc (Nat.le_refl _) (.map #[] 0)
  have hbs := hb0.alloc hb0.size (.cells #[.string clS, .string teS] 9)
  have hst : Strs ((w.alloc (.map #[] 0)).alloc (.cells #[.string clS, .string teS] 9)) (.slice (some ⟨w.heap.size + 1, 0, none⟩) 2 2) [clS, teS] := by
    have e : (w.alloc (.map #[] 0)).heap.size = w.heap.size + 1 := by simp
    rw [← e]
    exact strs_lit (w.alloc (.map #[] 0)) [clS, teS] (by simp)
  have hs0 := (SetIs.made w).kept ((Below.refl _ (w.alloc (.map #[] 0))).alloc (Nat.le_refl _) (.cells #[.string clS, .string teS] 9))
  have ha := implAdd w.heap.size [] _ [clS, teS] _ hs0 hst (fun k hk => by simp [Value.ownBlock] at hk; omega) (by intro n hn; simp at hn; rcases hn with rfl | rfl <;> decide) (by simp)
  have HF : Hid (Fls w (.slice a l.length cap) l) := h
  clear h hst hs0 hb0
  unfold clS teS at ha hbs
  go_enter Tryz.func52, Tryz.ntmps52
  go_wp2_with fail
  generalize (w.alloc (.map #[] 0)).alloc (.cells #[.string ⟨#[99, 111, 110, 116, 101, 110, 116, 45, 108, 101, 110, 103, 116, 104]⟩, .string ⟨#[116, 114, 97, 110, 115, 102, 101, 114, 45, 101, 110, 99, 111, 100, 105, 110, 103]⟩] 9) = ws at ha hbs ⊢
  refine ha.mono ?_
  rintro e w3 ⟨rfl, hs3, hg3⟩
  have hb03 : Below w.heap.size w w3 := hbs.grown hg3 hbs.size (fun j hj => by cases hj; exact Nat.le_refl _)
  have hc := implAllBut _ l w.heap.size _ _ (HF.out.kept hb03) hok hs3
  have HW : Hid (l.filter (restB ([] ++ [clS, teS].map lowS)) = woB l) := rest_two l
  clear hs3 hg3 ha hbs HF
  go_wp2_with (go_at_call 101; refine hc.mono ?_; rintro e w4 ⟨⟨g, rfl, ho4⟩, hb4⟩; have O4 : Hid (HasF _ _ _ _) := ho4; clear ho4)
  go_ret
  exact ⟨⟨g, _, rfl, by rw [← HW.out]; exact O4.out.low hb03.size⟩, past6 hb03 hb4⟩
end Go.Proofs.YteibacmohplblaaGreatDoor
