/-
  The program's methodOk, targetOk, statusOk, isBodiless, Framing, isUnframed, RequestOk and ResponseOk by their contracts.
  The program's policy by its contracts: keys, moments, what is a right object.
  The contract of the program's Matches.
  Rows of objects; the specification's Chosen by its contract.
-/
import Derived.Test.YtnachhmhjodbhaaGreatDoorG25
import Derived.Test.YtnachhmhjodbhaaGreatDoorG24
import Derived.Test.YtnachhmhjodbhaaGreatDoorProg
import Derived.Test.YtnachhmhjodbhaaGreatDoorG28
import Derived.Test.YtnachhmhjodbhaaGreatDoorG20
import Derived.Test.YtnachhmhjodbhaaGreatDoorG27
namespace Go.Proofs.YtnachhmhjodbhaaGreatDoor
open Go.RowKit
theorem implSta (x : Int) (w : World) :
    Calls Tryz.prog 84 #[.int .i64 x] w fun e w' => e = .returned (.bool (decide (200 ≤ x ∧ x ≤ 599))) ∧ w = w' := by
  obtain ⟨b, hb⟩ : ∃ b, decide (200 ≤ x ∧ x ≤ 599) = b := ⟨_, rfl⟩
  rw [hb]
  by_cases h1 : 200 ≤ x
  · have H0 : Hid (decide (x ≤ 599) = b) := by show decide (x ≤ 599) = b; rw [← hb]; simp [h1]
    have d1 : decide (200 ≤ x) = true := by simpa using h1
    clear hb
    go_enter Tryz.func84, Tryz.ntmps84
    go_wp2
    go_ret
    exact ⟨ret_bool H0.out, rfl⟩
  · have H0 : Hid (false = b) := by show false = b; rw [← hb]; simp [h1]
    have d1 : decide (200 ≤ x) = false := by simpa using h1
    clear hb
    go_enter Tryz.func84, Tryz.ntmps84
    go_wp2
    go_ret
    exact ⟨ret_bool H0.out, rfl⟩
theorem implBare (s : Int) (w : World) :
    Calls Tryz.prog 83 #[.int .i64 s] w fun e w' => e = .returned (.bool (bareB s)) ∧ w = w' := by
  by_cases h1 : s = 204
  · subst h1
    have H0 : Hid (true = bareB 204) := rfl
    go_enter Tryz.func83, Tryz.ntmps83
    go_wp2
    go_ret
    exact ⟨ret_bool H0.out, rfl⟩
  · have d1 : (s == 204) = false := by simp [h1]
    by_cases h2 : s = 304
    · subst h2
      have H0 : Hid (true = bareB 304) := rfl
      go_enter Tryz.func83, Tryz.ntmps83
      go_wp2
      go_ret
      exact ⟨ret_bool H0.out, rfl⟩
    · have d2 : (s == 304) = false := by simp [h2]
      have H0 : Hid (false = bareB s) := by show false = bareB s; unfold bareB; simp [h1, h2]
      go_enter Tryz.func83, Tryz.ntmps83
      go_wp2
      go_ret
      exact ⟨ret_bool H0.out, rfl⟩

/-! ### Where it ends -/
theorem fold_void (n : ByteArray) : ∀ (l : List Fl) (p : ByteArray × Bool), (l.foldl (gStep n) p).2 = false → l.foldl (gStep n) p = p
  | [], _, _ => rfl
  | f :: l, p, h => by
    rw [List.foldl_cons] at h ⊢
    have e := fold_void n l _ h
    rw [e] at h ⊢
    unfold gStep at h ⊢
    split
    · rename_i hh; rw [if_pos hh] at h; cases h
    · rfl
theorem getF_void {l : List Fl} {n : ByteArray} (h : (getF l n).2 = false) : (getF l n).1 = ⟨#[]⟩ := by
  have := fold_void n l _ h
  unfold getF
  rw [this]
theorem low_void : lowS ⟨#[]⟩ = ⟨#[]⟩ := rfl
theorem void_ch : ¬ lowS ⟨#[]⟩ = chS := by rw [low_void]; intro e; have := congrArg ByteArray.size e; revert this; decide
theorem num_void : numOk 10 15 ⟨#[]⟩ = false := by decide +kernel
set_option maxHeartbeats 1000000 in
theorem implFrm (v : Value) (l : List Fl) (w : World) (h : Fits w v l) :
    Calls Tryz.prog 102 #[v] w fun e w' => e = .returned (frmE (frm l)) ∧ Below w.heap.size w w' := by
  have hz := h.2.1
  obtain ⟨a, cap, rfl, hcap⟩ := h.1
  have HF : Hid (Fits w (.slice a l.length cap) l) := h
  clear h hcap
  cases hok : fldsOk l with
  | false =>
    have H0 : Hid ((3, 0) = frm l) := frm_bad hok
    go_enter Tryz.func102, Tryz.ntmps102
    go_wp2_with (go_at_call 30; refine (implOk _ l _ HF.out.1 hz).mono ?_; rw [hok]; rintro e w1 ⟨rfl, hb1⟩)
    go_ret2
    exact ⟨ret_frm H0.out, hb1⟩
  | true =>
    have F0 := @frm_neither l hok
    have F1 := @frm_both l hok
    have F2 := @frm_len l hok
    have F3 := @frm_nolen l hok
    have F4 := @frm_ch l hok
    have F5 := @frm_noch l hok
    have zx := getF_fits clS hok
    have zy := getF_fits teS hok
    have vx : (getF l clS).2 = false → (getF l clS).1 = ⟨#[]⟩ := getF_void
    have vy : (getF l teS).2 = false → (getF l teS).1 = ⟨#[]⟩ := getF_void
    have hg1 : Hid (∀ w, Fits w (.slice a l.length cap) l → Calls Tryz.prog 33 #[.slice a l.length cap, .string clS] w fun e w' => e = .returned (.tuple #[.string (getF l clS).1, .bool (getF l clS).2]) ∧ Below w.heap.size w w') := fun w h => by have := implGet _ l clS w h.1 h.2.1 (by decide); unfold getE at this; rw [← getA_yes clS hok] at this; exact this
    have hg2 : Hid (∀ w, Fits w (.slice a l.length cap) l → Calls Tryz.prog 33 #[.slice a l.length cap, .string teS] w fun e w' => e = .returned (.tuple #[.string (getF l teS).1, .bool (getF l teS).2]) ∧ Below w.heap.size w w') := fun w h => by have := implGet _ l teS w h.1 h.2.1 (by decide); unfold getE at this; rw [← getA_yes teS hok] at this; exact this
    generalize frm l = fr at F0 F1 F2 F3 F4 F5 ⊢
    generalize getF l clS = gx at F0 F1 F2 F3 F4 F5 zx vx hg1
    generalize getF l teS = gy at F0 F1 F2 F3 F4 F5 zy vy hg2
    obtain ⟨x, p⟩ := gx
    obtain ⟨y, q⟩ := gy
    simp only at F0 F1 F2 F3 F4 F5 zx zy vx vy hg1 hg2
    have G0 : Hid _ := F0
    have G1 : Hid _ := F1
    have G2 : Hid _ := F2
    have G3 : Hid _ := F3
    have G4 : Hid _ := F4
    have G5 : Hid _ := F5
    have VX : Hid (p = false → x = ⟨#[]⟩) := vx
    have VY : Hid (q = false → y = ⟨#[]⟩) := vy
    clear F0 F1 F2 F3 F4 F5 vx vy
    unfold clS at hg1
    unfold teS at hg2
    go_enter Tryz.func102, Tryz.ntmps102
    go_wp2_with fail
    refine (implOk _ l _ HF.out.1 hz).mono ?_
    rw [hok]
    rintro e w1 ⟨rfl, hb1⟩
    have HF1 : Hid (Fits w1 (.slice a l.length cap) l) := HF.out.kept hb1
    clear HF
    go_wp2_with fail
    refine (hg1.out _ HF1.out).mono ?_
    rintro e w2 ⟨rfl, hb2'⟩
    have hb2 := past6 hb1 hb2'
    have HF2 : Hid (Fits w2 (.slice a l.length cap) l) := HF1.out.kept hb2'
    clear hb1 hb2' hg1 HF1
    go_wp2_with fail
    refine (hg2.out _ HF2.out).mono ?_
    rintro e w3 ⟨rfl, hb3'⟩
    have hb3 := past6 hb2 hb3'
    clear hb2 hb3' hg2 HF2
    go_wp2_with fail
    refine (implDig x _ (le_max (by omega))).mono ?_
    unfold numE
    rintro e w4 ⟨rfl, hb4'⟩
    have hb4 : Below w.heap.size w w4 := past6 hb3 hb4'
    clear hb3 hb4'
    cases p with
    | false =>
      cases q with
      | false =>
        have H0 : Hid ((0, 0) = fr) := G0.out rfl rfl
        clear G0 G1 G2 G3 G4 G5
        go_wp2
        go_ret2
        exact ⟨ret_frm H0.out, hb4⟩
      | true =>
        have hn0 : numOk 10 15 x = false := by rw [VX.out rfl]; exact num_void
        rw [hn0]
        generalize numV 10 15 x = n0
        clear hn0
        by_cases hc : lowS y = chS
        · have H0 : Hid ((2, 0) = fr) := G4.out rfl rfl hc
          have hq := same_ch (same_yes hc)
          clear G0 G1 G2 G3 G4 G5 hc
          go_wp2_with (go_at_call 52; refine (implLow y _ (le_max (by omega))).mono ?_; rintro e w5 ⟨rfl, hb5⟩)
          go_ret2
          exact ⟨ret_frm H0.out, past6 hb4 hb5⟩
        · have H0 : Hid ((3, 0) = fr) := G5.out rfl rfl hc
          have hq := same_ch (same_no hc)
          clear G0 G1 G2 G3 G4 G5 hc
          go_wp2_with (go_at_call 52; refine (implLow y _ (le_max (by omega))).mono ?_; rintro e w5 ⟨rfl, hb5⟩)
          go_ret2
          exact ⟨ret_frm H0.out, past6 hb4 hb5⟩
    | true =>
      cases q with
      | true =>
        have H0 : Hid ((3, 0) = fr) := G1.out rfl rfl
        clear G0 G1 G2 G3 G4 G5
        go_wp2
        go_ret2
        exact ⟨ret_frm H0.out, hb4⟩
      | false =>
        have g2 := G2.out rfl rfl
        have g3 := G3.out rfl rfl
        have hy : Hid (y = ⟨#[]⟩) := VY.out rfl
        have hq : ((lowS y).toList == [99, 104, 117, 110, 107, 101, 100]) = false := by rw [hy.out]; exact same_ch (same_no void_ch)
        generalize numV 10 15 x = n at g2 g3 ⊢
        generalize numOk 10 15 x = o at g2 g3 ⊢
        clear G0 G1 G2 G3 G4 G5
        cases o with
        | false =>
          have H0 : Hid ((3, 0) = fr) := g3 (by simp)
          clear g2 g3
          go_wp2_with (go_at_call 52; refine (implLow y _ (le_max (by omega))).mono ?_; rintro e w5 ⟨rfl, hb5⟩)
          go_ret2
          exact ⟨ret_frm H0.out, past6 hb4 hb5⟩
        | true =>
          by_cases hn : n ≤ 4000
          · have H0 : Hid ((1, n) = fr) := g2 ⟨rfl, hn⟩
            have d1 : decide (n ≤ 4000) = true := by simpa using hn
            clear g2 g3
            go_wp2
            go_ret2
            exact ⟨ret_frm H0.out, hb4⟩
          · have H0 : Hid ((3, 0) = fr) := g3 (by simp [hn])
            have d1 : decide (n ≤ 4000) = false := by simpa using hn
            clear g2 g3
            go_wp2_with (go_at_call 52; refine (implLow y _ (le_max (by omega))).mono ?_; rintro e w5 ⟨rfl, hb5⟩)
            go_ret2
            exact ⟨ret_frm H0.out, past6 hb4 hb5⟩
theorem own_frm (l : List Fl) : ((frm l).1 == 0) = ownB l := by
  unfold ownB frm
  cases fldsOk l with
  | false => rfl
  | true =>
    rw [if_pos rfl]
    cases (getF l clS).2 with
    | true =>
      rw [if_pos rfl]
      split
      · rfl
      · split <;> rfl
    | false =>
      rw [if_neg (by decide)]
      cases (getF l teS).2 with
      | true => rw [if_pos rfl]; split <;> rfl
      | false => rw [if_neg (by decide)]; rfl
theorem implUnf (v : Value) (l : List Fl) (w : World) (h : Fits w v l) :
    Calls Tryz.prog 85 #[v] w fun e w' => e = .returned (.bool (ownB l)) ∧ Below w.heap.size w w' := by
  have hf := implFrm v l w h
  have H0 : Hid (((frm l).1 == 0) = ownB l) := own_frm l
  obtain ⟨a, cap, rfl, hcap⟩ := h.1
  clear hcap h
  unfold frmE at hf
  generalize frm l = fr at hf H0
  obtain ⟨k, n⟩ := fr
  simp only at hf H0
  go_enter Tryz.func85, Tryz.ntmps85
  go_wp2_with (go_at_call 102; refine hf.mono ?_; rintro e w1 ⟨rfl, hb1⟩)
  go_ret
  exact ⟨ret_bool H0.out, hb1⟩
theorem rsOk_bad {r : Rs} (h4 : bareB r.s = true) (h5 : ¬ r.b.size = 0) : false = rsOk r := by unfold rsOk; rw [h4, decide_eq_false h5]; simp
theorem rsOk_is2 {r : Rs} (h : decide (200 ≤ r.s ∧ r.s ≤ 599) = true) (h2 : ownB r.l = true) (h4 : bareB r.s = false ∨ r.b.size = 0) : decide ((r.b.size : Int) ≤ 4000) = rsOk r := by
  unfold rsOk
  rw [h, h2]
  have e : (!bareB r.s || decide (r.b.size = 0)) = true := by rcases h4 with h4 | h4 <;> simp [h4]
  rw [e]
  by_cases hb : r.b.size ≤ 4000
  · rw [decide_eq_true hb, decide_eq_true (by omega)]; rfl
  · rw [decide_eq_false hb, decide_eq_false (by omega)]; rfl
set_option maxHeartbeats 1000000 in
theorem implRsOk_tail (r : Rs) (v : Value) (w : World) (h : RsIn w v r) (h4 : bareB r.s = false ∨ r.b.size = 0) :
    Calls Tryz.prog 67 #[rsV r v] w fun e w' => e = .returned (.bool (rsOk r)) ∧ Below w.heap.size w w' := by
  obtain ⟨hf, z3⟩ := h
  have hfs := hf.1
  obtain ⟨a, cap, rfl, hcap⟩ := hfs
  clear hcap
  unfold rsV
  have F0 : Hid (Fits (w.alloc (.cells #[.int .i64 r.s, .slice a r.l.length cap, .string r.b] 30)) (.slice a r.l.length cap) r.l) := hf.alloc _
  have Q0 : Hid (RsB (w.alloc (.cells #[.int .i64 r.s, .slice a r.l.length cap, .string r.b] 30)) w.heap.size r (.slice a r.l.length cap)) := RsB.new w r _ _
  have B0 : Hid (Below w.heap.size w (w.alloc (.cells #[.int .i64 r.s, .slice a r.l.length cap, .string r.b] 30))) := (Below.refl _ w).alloc (Nat.le_refl _) _
  clear hf
  have hq1 : r.b.size ≤ 9223372036854775807 := by omega
  have H4 : Hid (bareB r.s = false ∨ r.b.size = 0) := h4
  have hbe : bareB r.s = true → r.b.toList.isEmpty = true := fun hb => by rw [void_emp]; rcases h4 with h4 | h4; · rw [h4] at hb; cases hb
                                                                          · exact decide_eq_true h4
  clear h4
  go_enter Tryz.func67, Tryz.ntmps67
  go_wp2_with fail
  refine (implBare _ _).mono ?_
  rintro e w1 ⟨rfl, rfl⟩
  cases hba : bareB r.s with
  | true =>
    have hb1 := hbe hba
    have hb2 : r.b.toList = [] := by simpa using hb1
    clear hbe
    go_wp2_with fail
    refine (implSta _ _).mono ?_
    rintro e w1 ⟨rfl, rfl⟩
    clear hb1 hb2
    cases h1 : decide (200 ≤ r.s ∧ r.s ≤ 599) with
    | false =>
      have H0 : Hid (false = rsOk r) := rsOk_no1 h1
      go_wp2
      go_ret
      exact ⟨ret_bool H0.out, B0.out⟩
    | true =>
      go_wp2_with fail
      refine (implUnf _ r.l _ F0.out).mono ?_
      rintro e w2 ⟨rfl, hb2⟩
      have Q2 : Hid (RsB w2 w.heap.size r (.slice a r.l.length cap)) := Q0.out.next hb2
      have B2 : Hid (Below w.heap.size w w2) := past6 B0.out hb2
      clear Q0 B0 F0 hb2
      have a2 := Q2.out.c2
      cases h2 : ownB r.l with
      | false =>
        have H0 : Hid (false = rsOk r) := rsOk_no2 h1 h2
        go_wp2
        go_ret
        exact ⟨ret_bool H0.out, B2.out⟩
      | true =>
        have H0 : Hid (decide ((r.b.size : Int) ≤ 4000) = rsOk r) := rsOk_is2 h1 h2 H4.out
        go_wp2
        go_ret
        exact ⟨ret_bool H0.out, B2.out⟩
  | false =>
    clear hbe
    go_wp2_with fail
    refine (implSta _ _).mono ?_
    rintro e w1 ⟨rfl, rfl⟩
    cases h1 : decide (200 ≤ r.s ∧ r.s ≤ 599) with
    | false =>
      have H0 : Hid (false = rsOk r) := rsOk_no1 h1
      go_wp2
      go_ret
      exact ⟨ret_bool H0.out, B0.out⟩
    | true =>
      go_wp2_with fail
      refine (implUnf _ r.l _ F0.out).mono ?_
      rintro e w2 ⟨rfl, hb2⟩
      have Q2 : Hid (RsB w2 w.heap.size r (.slice a r.l.length cap)) := Q0.out.next hb2
      have B2 : Hid (Below w.heap.size w w2) := past6 B0.out hb2
      clear Q0 B0 F0 hb2
      have a2 := Q2.out.c2
      cases h2 : ownB r.l with
      | false =>
        have H0 : Hid (false = rsOk r) := rsOk_no2 h1 h2
        go_wp2
        go_ret
        exact ⟨ret_bool H0.out, B2.out⟩
      | true =>
        have H0 : Hid (decide ((r.b.size : Int) ≤ 4000) = rsOk r) := rsOk_is2 h1 h2 H4.out
        go_wp2
        go_ret
        exact ⟨ret_bool H0.out, B2.out⟩
set_option maxHeartbeats 1000000 in
theorem implRsOk (r : Rs) (v : Value) (w : World) (h : RsIn w v r) :
    Calls Tryz.prog 67 #[rsV r v] w fun e w' => e = .returned (.bool (rsOk r)) ∧ Below w.heap.size w w' := by
  by_cases h4 : bareB r.s = false ∨ r.b.size = 0
  · exact implRsOk_tail r v w h h4
  · have hba : bareB r.s = true := by cases e : bareB r.s with
      | false => exact absurd (.inl e) h4
      | true => rfl
    have hbz : ¬ r.b.size = 0 := fun e => h4 (.inr e)
    have hbe : r.b.toList.isEmpty = false := by rw [void_emp]; exact decide_eq_false hbz
    have hbl : ¬ r.b.toList = [] := by simpa using hbe
    have H0 : Hid (false = rsOk r) := rsOk_bad hba hbz
    obtain ⟨hf, z3⟩ := h
    have hfs := hf.1
    obtain ⟨a, cap, rfl, hcap⟩ := hfs
    clear hcap hf h4 hbz
    unfold rsV
    have Q0 : Hid (RsB (w.alloc (.cells #[.int .i64 r.s, .slice a r.l.length cap, .string r.b] 30)) w.heap.size r (.slice a r.l.length cap)) := RsB.new w r _ _
    have B0 : Hid (Below w.heap.size w (w.alloc (.cells #[.int .i64 r.s, .slice a r.l.length cap, .string r.b] 30))) := (Below.refl _ w).alloc (Nat.le_refl _) _
    go_enter Tryz.func67, Tryz.ntmps67
    go_wp2_with fail
    refine (implBare _ _).mono ?_
    rw [hba]
    rintro e w1 ⟨rfl, rfl⟩
    go_wp2
    go_ret
    exact ⟨ret_bool H0.out, B0.out⟩
end Go.Proofs.YtnachhmhjodbhaaGreatDoor
namespace Go.Proofs.YtnachhmhjodbhaaGreatDoor
open Go.RowKit Go.Sort
set_option linter.unusedVariables false

set_option maxHeartbeats 1000000 in
theorem implSol (s : ByteArray) (w : World) (hs : s.size ≤ 1048576) :
    Calls Tryz.prog 66 #[.string s, .int .i64 500] w fun e w' => e = .returned (.bool (keyO s)) ∧ w = w' := by
  have HK : Hid (keyO s = (allB keyN s.data.toList && decide (s.size ≤ 500))) := rfl
  generalize keyO s = K at HK ⊢
  by_cases h5 : (500 : Int) < (s.size : Int)
  · have HF : Hid (false = K) := by show _ = _; rw [HK.out, decide_eq_false (by omega), Bool.and_false]
    go_enter Tryz.func66, Tryz.ntmps66
    go_wp2
    go_ret
    exact ⟨ret_bool HF.out, rfl⟩
  · go_enter Tryz.func66, Tryz.ntmps66
    go_wp2
    go_loop [12] (fun i => ∃ k : Nat, k ≤ s.size ∧ i = .int .i64 k ∧ Hid (allB keyN (s.data.toList.take k) = true)) (fun i => s.size - (intOf i).toNat)
    case atStart => exact ⟨0, Nat.zero_le _, rfl, allB_nil _ _⟩
    case round =>
      obtain ⟨k, hk, rfl, ha⟩ := hrel
      by_cases hlt : k < s.size
      · by_cases hl : (s[k].toNat : Int) < 33
        · have HF : Hid (false = K) := by show _ = _; rw [HK.out, ← allB_not (p := keyN) hlt (keyN_no (by omega))]; rfl
          go_wp2
          go_ret
          exact ⟨ret_bool HF.out, rfl⟩
        · by_cases hg : 126 < (s[k].toNat : Int)
          · have HF : Hid (false = K) := by show _ = _; rw [HK.out, ← allB_not (p := keyN) hlt (keyN_no (by omega))]; rfl
            go_wp2
            go_ret
            exact ⟨ret_bool HF.out, rfl⟩
          · have HV : Hid (allB keyN (s.data.toList.take (k + 1)) = true) := allB_step hlt ha.out (keyN_yes (by omega))
            go_wp2
            go_round
            case rel => exact ⟨k + 1, by omega, by go_num, HV⟩
            case measure => simp [intOf]; omega
      · have HE : Hid (true = K) := by
          show _ = _
          have e : s.data.toList.take k = s.data.toList := List.take_of_length_le (by simp; omega)
          have h2 := ha.out
          rw [e] at h2
          rw [HK.out, h2, Bool.true_and, decide_eq_true (by omega)]
        go_wp2
        go_ret
        exact ⟨ret_bool HE.out, rfl⟩
theorem implMomB (n : Int) (w : World) : Calls Tryz.prog 68 #[.int .i64 n] w fun e w' => e = .returned (.bool (momB n)) ∧ w = w' := by
  have HB : Hid (momB n = (decide (0 ≤ n) && decide (n ≤ 253402300799))) := rfl
  generalize momB n = b at HB ⊢
  by_cases h0 : 0 ≤ n
  · have HR : Hid (decide (n ≤ 253402300799) = b) := by show _ = _; rw [HB.out, decide_eq_true h0, Bool.true_and]
    go_enter Tryz.func68, Tryz.ntmps68
    go_wp2
    go_ret
    exact ⟨ret_bool HR.out, rfl⟩
  · have HR : Hid (false = b) := by show _ = _; rw [HB.out, decide_eq_false h0, Bool.false_and]
    go_enter Tryz.func68, Tryz.ntmps68
    go_wp2
    go_ret
    exact ⟨ret_bool HR.out, rfl⟩
set_option maxHeartbeats 4000000 in
theorem implObOk (o : Ob) (v u : Value) (w : World) (h : ObIn w v u o) :
    Calls Tryz.prog 38 #[obV o v u] w fun e w' => e = .returned (.bool (obB o)) ∧ Below w.heap.size w w' := by
  have HB : Hid (obB o = (keyO o.k && (fldsOk o.l && (rsOk o.r && (momB o.asked && (momB o.got && (decide (o.asked ≤ o.got) && (decide (0 ≤ o.ep) && decide (o.ep ≤ 100000))))))))) := rfl
  have j1 := fun W => implSol o.k W h.2.2
  have j2 := fun W (hW : Fits W v o.l) => implOk v o.l W hW.1 hW.2.1
  have j3 := fun W hW => implRsOk o.r u W hW
  have j4 := fun W => implMomB o.asked W
  have j5 := fun W => implMomB o.got W
  skip
  generalize obB o = R at HB ⊢
  generalize keyO o.k = b1 at HB j1
  generalize fldsOk o.l = b2 at HB j2
  generalize rsOk o.r = b3 at HB j3
  generalize momB o.asked = b4 at HB j4
  generalize momB o.got = b5 at HB j5
  obtain ⟨va, vc, rfl⟩ := h.1.form
  obtain ⟨ua, uc, rfl⟩ := h.2.1.1.form
  have Q0 : Hid (ObB (w.alloc (.cells #[.string o.k, .slice va o.l.length vc, .int .i64 o.r.s, .slice ua o.r.l.length uc, .string o.r.b, .int .i64 o.asked, .int .i64 o.got, .int .i64 o.ep] 32)) w.heap.size o (.slice va o.l.length vc) (.slice ua o.r.l.length uc)) := ObB.new w o _ _ _
  have B0 : Hid (Below w.heap.size w (w.alloc (.cells #[.string o.k, .slice va o.l.length vc, .int .i64 o.r.s, .slice ua o.r.l.length uc, .string o.r.b, .int .i64 o.asked, .int .i64 o.got, .int .i64 o.ep] 32))) := (Below.refl _ w).alloc (Nat.le_refl _) _
  have I0 : Hid (ObIn (w.alloc (.cells #[.string o.k, .slice va o.l.length vc, .int .i64 o.r.s, .slice ua o.r.l.length uc, .string o.r.b, .int .i64 o.asked, .int .i64 o.got, .int .i64 o.ep] 32)) (.slice va o.l.length vc) (.slice ua o.r.l.length uc) o) := h.kept B0.out
  clear h
  unfold obV
  unfold rsV at j3
  go_enter Tryz.func38, Tryz.ntmps38
  go_wp2_with fail
  refine (j1 _).mono ?_
  rintro e w1 ⟨rfl, rfl⟩
  clear j1
  cases b1 with
  | false =>
    have HR : Hid (false = R) := HB.out.symm
    go_wp2
    go_ret
    exact ⟨ret_bool HR.out, B0.out⟩
  | true =>
    go_wp2_with fail
    refine (j2 _ I0.out.1).mono ?_
    rintro e w2 ⟨rfl, hb2⟩
    have Q2 : Hid (ObB w2 w.heap.size o (.slice va o.l.length vc) (.slice ua o.r.l.length uc)) := Q0.out.next hb2
    have B2 : Hid (Below w.heap.size w w2) := past6 B0.out hb2
    have I2 : Hid (ObIn w2 (.slice va o.l.length vc) (.slice ua o.r.l.length uc) o) := I0.out.kept hb2
    clear hb2 Q0 B0 I0 j2
    cases b2 with
    | false =>
      have HR : Hid (false = R) := HB.out.symm
      go_wp2
      go_ret
      exact ⟨ret_bool HR.out, B2.out⟩
    | true =>
      have d2 := Q2.out.c2
      have d3 := Q2.out.c3
      have d4 := Q2.out.c4
      go_wp2_with fail
      refine (j3 _ I2.out.2.1).mono ?_
      rintro e w3 ⟨rfl, hb3⟩
      have Q3 : Hid (ObB w3 w.heap.size o (.slice va o.l.length vc) (.slice ua o.r.l.length uc)) := Q2.out.next hb3
      have B3 : Hid (Below w.heap.size w w3) := past6 B2.out hb3
      clear hb3 Q2 B2 I2 j3 d2 d3 d4
      have d5 := Q3.out.c5
      have d6 := Q3.out.c6
      have d7 := Q3.out.c7
      cases b3 with
      | false =>
        have HR : Hid (false = R) := HB.out.symm
        go_wp2
        go_ret
        exact ⟨ret_bool HR.out, B3.out⟩
      | true =>
        go_wp2_with fail
        refine (j4 _).mono ?_
        rintro e w4 ⟨rfl, rfl⟩
        clear j4
        cases b4 with
        | false =>
          have HR : Hid (false = R) := HB.out.symm
          go_wp2
          go_ret
          exact ⟨ret_bool HR.out, B3.out⟩
        | true =>
          go_wp2_with fail
          refine (j5 _).mono ?_
          rintro e w5 ⟨rfl, rfl⟩
          clear j5
          cases b5 with
          | false =>
            have HR : Hid (false = R) := HB.out.symm
            go_wp2
            go_ret
            exact ⟨ret_bool HR.out, B3.out⟩
          | true =>
            by_cases hag : o.asked ≤ o.got
            · have da : decide (o.asked ≤ o.got) = true := decide_eq_true hag
              by_cases h0 : 0 ≤ o.ep
              · have d0 : decide (0 ≤ o.ep) = true := decide_eq_true h0
                have HR : Hid (decide (o.ep ≤ 100000) = R) := by show _ = _; rw [HB.out, da, d0]; simp
                go_wp2
                go_ret
                exact ⟨ret_bool HR.out, B3.out⟩
              · have d0 : decide (0 ≤ o.ep) = false := decide_eq_false h0
                have HR : Hid (false = R) := by show _ = _; rw [HB.out, da, d0]; simp
                go_wp2
                go_ret
                exact ⟨ret_bool HR.out, B3.out⟩
            · have da : decide (o.asked ≤ o.got) = false := decide_eq_false hag
              have HR : Hid (false = R) := by show _ = _; rw [HB.out, da]; simp
              go_wp2
              go_ret
              exact ⟨ret_bool HR.out, B3.out⟩
end Go.Proofs.YtnachhmhjodbhaaGreatDoor
namespace Go.Proofs.YtnachhmhjodbhaaGreatDoor
open Go.RowKit Go.Sort
set_option linter.unusedVariables false
set_option linter.unusedSimpArgs false

theorem matV_no {o : Ob} {key : ByteArray} {l : List Fl} (h : obB o = false) : false = matV o key l := by unfold matV; rw [h]; rfl
theorem matV_key {o : Ob} {key : ByteArray} {l : List Fl} (h : o.k ≠ key) : false = matV o key l := by unfold matV; rw [decide_eq_false h]; simp
theorem obB_fields {o : Ob} (h : obB o = true) : fldsOk o.l = true ∧ fldsOk o.r.l = true := by
  unfold obB at h
  rw [Bool.and_eq_true, Bool.and_eq_true, Bool.and_eq_true] at h
  refine ⟨h.2.1, ?_⟩
  have h2 := h.2.2.1
  unfold rsOk at h2
  simp only [Bool.and_eq_true] at h2
  have h3 := h2.2.1
  unfold ownB at h3
  simp only [Bool.and_eq_true] at h3
  exact h3.1
/-- The specification's answer, by what the program asks. -/
theorem matV_is {o : Ob} {key : ByteArray} {l : List Fl} (ho : obB o = true) (hk : o.k = key) (h1 : getZ o.l ≤ 400) (h2 : getZ l ≤ 400) :
    matV o key l = ((selI (getF o.r.l nVA).1 o.l).2 && ((selI (getF o.r.l nVA).1 l).2 && decide ((selI (getF o.r.l nVA).1 o.l).1 = (selI (getF o.r.l nVA).1 l).1))) := by
  obtain ⟨hf, _⟩ := obB_fields ho
  rw [selI_is h1, selI_is h2]
  unfold matV ofV
  rw [ho, decide_eq_true hk, Bool.true_and, Bool.true_and]
  unfold selA
  rw [if_pos hf]
  cases hl : fldsOk l with
  | true => simp
  | false => simp
set_option maxHeartbeats 4000000 in
theorem implMat (o : Ob) (v u : Value) (key : ByteArray) (x : Value) (l : List Fl) (w : World) (h : ObIn w v u o) (hl : Fits w x l) (hk : key.size ≤ 1048576) (h1 : getZ o.l ≤ 400) (h2 : getZ l ≤ 400) :
    Calls Tryz.prog 13 #[obV o v u, .string key, x] w fun e w' => e = .returned (.bool (matV o key l)) ∧ Below w.heap.size w w' := by
  have j1 := fun W hW => implObOk o v u W hW
  have hgz := getF_max nVA h.2.1.1.2.1 h.2.1.1.2.2.1
  obtain ⟨va, vc, rfl⟩ := h.1.form
  obtain ⟨ua, uc, rfl⟩ := h.2.1.1.form
  obtain ⟨xa, xc, rfl⟩ := hl.form
  have Q0 : Hid (ObB (w.alloc (.cells #[.string o.k, .slice va o.l.length vc, .int .i64 o.r.s, .slice ua o.r.l.length uc, .string o.r.b, .int .i64 o.asked, .int .i64 o.got, .int .i64 o.ep] 32)) w.heap.size o (.slice va o.l.length vc) (.slice ua o.r.l.length uc)) := ObB.new w o _ _ _
  have B0 : Hid (Below w.heap.size w (w.alloc (.cells #[.string o.k, .slice va o.l.length vc, .int .i64 o.r.s, .slice ua o.r.l.length uc, .string o.r.b, .int .i64 o.asked, .int .i64 o.got, .int .i64 o.ep] 32))) := (Below.refl _ w).alloc (Nat.le_refl _) _
  have HI : Hid (∀ W, Below w.heap.size w W → ObIn W (.slice va o.l.length vc) (.slice ua o.r.l.length uc) o) := fun W hb => h.kept hb
  have HF : Hid (∀ W, Below w.heap.size w W → Fits W (.slice xa l.length xc) l) := fun W hb => hl.kept hb
  have hsz := h.2.1.1.2.1
  clear h hl
  cases hob : obB o with
  | false =>
    have HR : Hid (false = matV o key l) := matV_no hob
    rw [hob] at j1
    clear h1 h2
    unfold obV at j1 ⊢
    go_enter Tryz.func13, Tryz.ntmps13
    go_wp2_with fail
    refine (j1 _ (HI.out _ B0.out)).mono ?_
    rintro e w1 ⟨rfl, hb1⟩
    have B1 : Hid (Below w.heap.size w w1) := past6 B0.out hb1
    clear hb1 Q0 B0 j1
    go_wp2
    go_ret
    exact ⟨ret_bool HR.out, B1.out⟩
  | true =>
    rw [hob] at j1
    have hrf := (obB_fields hob).2
    by_cases hkk : o.k = key
    · have HM := matV_is hob hkk h1 h2
      have HX : Hid (matV o key l = ((selI (getF o.r.l nVA).1 o.l).2 && ((selI (getF o.r.l nVA).1 l).2 && decide ((selI (getF o.r.l nVA).1 o.l).1 = (selI (getF o.r.l nVA).1 l).1)))) := HM
      have hg := fun W (hW : Fits W (.slice ua o.r.l.length uc) o.r.l) => implGet (.slice ua o.r.l.length uc) o.r.l nVA W hW.1 hsz (by decide)
      rw [← getA_yes nVA hrf] at hg
      unfold getE at hg
      have hs1 := fun W (hW : Fits W (.slice va o.l.length vc) o.l) => implSel (getF o.r.l nVA).1 (.slice va o.l.length vc) o.l W hW (by unfold maxLen; omega)
      have hs2 := fun W (hW : Fits W (.slice xa l.length xc) l) => implSel (getF o.r.l nVA).1 (.slice xa l.length xc) l W hW (by unfold maxLen; omega)
      unfold selE at hs1 hs2
      clear HM hob h1 h2 hgz hrf
      generalize matV o key l = R at HX ⊢
      generalize selI (getF o.r.l nVA).1 o.l = p1 at HX hs1
      generalize selI (getF o.r.l nVA).1 l = p2 at HX hs2
      generalize getF o.r.l nVA = g at hg hs1 hs2
      obtain ⟨gt, gf⟩ := g
      obtain ⟨t1, c1⟩ := p1
      obtain ⟨t2, c2⟩ := p2
      simp only at hg hs1 hs2 HX
      have e1 := same10 hkk
      clear hkk
      unfold nVA at hg
      unfold obV at j1 ⊢
      go_enter Tryz.func13, Tryz.ntmps13
      go_wp2_with fail
      refine (j1 _ (HI.out _ B0.out)).mono ?_
      rintro e w1 ⟨rfl, hb1⟩
      have Q1 : Hid (ObB w1 w.heap.size o (.slice va o.l.length vc) (.slice ua o.r.l.length uc)) := Q0.out.next hb1
      have B1 : Hid (Below w.heap.size w w1) := past6 B0.out hb1
      clear hb1 Q0 B0 j1
      obtain ⟨q0, q1, q2, q3, q4, q5, q6, q7, qf, qh⟩ := Q1.out
      go_wp2_with fail
      refine (hg _ (HI.out _ B1.out).2.1.1).mono ?_
      rintro e w2 ⟨rfl, hb2⟩
      have Q2 : Hid (ObB w2 w.heap.size o (.slice va o.l.length vc) (.slice ua o.r.l.length uc)) := Q1.out.next hb2
      have B2 : Hid (Below w.heap.size w w2) := past6 B1.out hb2
      clear hb2 Q1 B1 hg q0 q1 q2 q3 q4 q5 q6 q7 qf qh
      obtain ⟨q0, q1, q2, q3, q4, q5, q6, q7, qf, qh⟩ := Q2.out
      go_wp2_with fail
      refine (hs1 _ (HI.out _ B2.out).1).mono ?_
      rintro e w3 ⟨rfl, hb3⟩
      have B3 : Hid (Below w.heap.size w w3) := past6 B2.out hb3
      clear hb3 Q2 B2 hs1 q0 q1 q2 q3 q4 q5 q6 q7 qf qh
      go_wp2_with fail
      refine (hs2 _ (HF.out _ B3.out)).mono ?_
      rintro e w4 ⟨rfl, hb4⟩
      have B4 : Hid (Below w.heap.size w w4) := past6 B3.out hb4
      clear hb4 B3 hs2 e1
      cases c1 with
      | false =>
        have HR : Hid (false = R) := HX.out.symm
        go_wp2
        go_ret
        exact ⟨ret_bool HR.out, B4.out⟩
      | true =>
        cases c2 with
        | false =>
          have HR : Hid (false = R) := HX.out.symm
          go_wp2
          go_ret
          exact ⟨ret_bool HR.out, B4.out⟩
        | true =>
          have HR : Hid ((t1.toList == t2.toList) = R) := by
            show _ = _
            rw [HX.out, str_eq]
            rfl
          go_wp2
          go_ret
          exact ⟨ret_bool HR.out, B4.out⟩
    · have HR : Hid (false = matV o key l) := matV_key hkk
      have e1 : (o.k.toList == key.toList) = false := by rw [str_eq]; exact decide_eq_false hkk
      clear h1 h2 hkk hob
      unfold obV at j1 ⊢
      go_enter Tryz.func13, Tryz.ntmps13
      go_wp2_with fail
      refine (j1 _ (HI.out _ B0.out)).mono ?_
      rintro e w1 ⟨rfl, hb1⟩
      have Q1 : Hid (ObB w1 w.heap.size o (.slice va o.l.length vc) (.slice ua o.r.l.length uc)) := Q0.out.next hb1
      have B1 : Hid (Below w.heap.size w w1) := past6 B0.out hb1
      clear hb1 Q0 B0 j1
      obtain ⟨q0, q1, q2, q3, q4, q5, q6, q7, qf, qh⟩ := Q1.out
      go_wp2
      go_ret
      exact ⟨ret_bool HR.out, B1.out⟩
end Go.Proofs.YtnachhmhjodbhaaGreatDoor
namespace Go.Proofs.YtnachhmhjodbhaaGreatDoor
open Go.RowKit Go.Sort
set_option linter.unusedVariables false
set_option linter.unusedSimpArgs false

/-- An object and where its fields lie. -/
structure Ox where
  o : Ob
  pa : Option Addr
  pc : Nat
  ua : Option Addr
  uc : Nat
def Ox.v (x : Ox) : Value := .slice x.pa x.o.l.length x.pc
def Ox.u (x : Ox) : Value := .slice x.ua x.o.r.l.length x.uc
def oxC (x : Ox) : List Value := [.string x.o.k, x.v, .int .i64 x.o.r.s, x.u, .string x.o.r.b, .int .i64 x.o.asked, .int .i64 x.o.got, .int .i64 x.o.ep]
def oxE : Enc Ox where
  k := 8
  pos := by decide
  c := oxC
  len := fun _ => rfl
  one := fun x u hu => by
    simp only [oxC, Ox.v, Ox.u, List.mem_cons, List.not_mem_nil, or_false] at hu
    rcases hu with rfl | rfl | rfl | rfl | rfl | rfl | rfl | rfl <;> rfl
/-- The cells of the j-th object of a row. -/
theorem oxCells {w : World} {g q n cap : Nat} {L : List Ox} (h : Sls oxE w (.slice (some ⟨g, q, none⟩) n cap) L) {j : Nat} (hj : j < L.length) :
    (w.cell? ⟨g, q + j * 8, none⟩ = some (.string L[j].o.k) ∧ w.cell? ⟨g, q + j * 8 + 1, none⟩ = some L[j].v ∧ w.cell? ⟨g, q + j * 8 + 2, none⟩ = some (.int .i64 L[j].o.r.s) ∧ w.cell? ⟨g, q + j * 8 + 3, none⟩ = some L[j].u ∧ w.cell? ⟨g, q + j * 8 + 4, none⟩ = some (.string L[j].o.r.b) ∧ w.cell? ⟨g, q + j * 8 + 5, none⟩ = some (.int .i64 L[j].o.asked) ∧ w.cell? ⟨g, q + j * 8 + 6, none⟩ = some (.int .i64 L[j].o.got) ∧ w.cell? ⟨g, q + j * 8 + 7, none⟩ = some (.int .i64 L[j].o.ep)) := by
  obtain ⟨a, cap', hv, h1, h2, h3⟩ := h
  obtain ⟨g', q', ha, hg, hc⟩ := h3 (by omega)
  cases hv
  cases ha
  have k : ∀ i (hi : i < 8) u, (oxC L[j])[i]? = some u → w.cell? ⟨g, q + j * 8 + i, none⟩ = some u := fun i hi u hu => by
    have := hc (j * 8 + i) u ((cellsE_at oxE L j hj i hi).trans hu)
    rw [← Nat.add_assoc] at this
    exact this
  exact ⟨k 0 (by decide) _ rfl, k 1 (by decide) _ rfl, k 2 (by decide) _ rfl, k 3 (by decide) _ rfl, k 4 (by decide) _ rfl, k 5 (by decide) _ rfl, k 6 (by decide) _ rfl, k 7 (by decide) _ rfl⟩
/-- The number of the latest that matches, of the first k. -/
def choT (L : List Ob) (key : ByteArray) (asks : List Fl) : Nat → Int
  | 0 => -1
  | k + 1 => match L[k]? with
    | none => choT L key asks k
    | some o => if matV o key asks = true ∧ (choT L key asks k < 0 ∨ ((L[(choT L key asks k).toNat]?).map (·.got)).getD 0 < o.got) then k else choT L key asks k
def choV (L : List Ob) (key : ByteArray) (asks : List Fl) : Int := choT L key asks L.length
theorem choT_in (L : List Ob) (key : ByteArray) (asks : List Fl) : ∀ k, choT L key asks k = -1 ∨ ∃ b : Nat, choT L key asks k = b ∧ b < k ∧ b < L.length
  | 0 => .inl rfl
  | k + 1 => by
    have ih := choT_in L key asks k
    have up : choT L key asks k = -1 ∨ ∃ b : Nat, choT L key asks k = b ∧ b < k + 1 ∧ b < L.length := by
      rcases ih with h | ⟨b, h1, h2, h3⟩
      · exact .inl h
      · exact .inr ⟨b, h1, by omega, h3⟩
    unfold choT
    split
    · exact up
    · rename_i o ho
      split
      · exact .inr ⟨k, rfl, by omega, (List.getElem?_eq_some_iff.1 ho).1⟩
      · exact up
theorem choT_next {L : List Ob} {key : ByteArray} {asks : List Fl} {k : Nat} (h : k < L.length) : choT L key asks (k + 1) = if matV L[k] key asks = true ∧ (choT L key asks k < 0 ∨ ((L[(choT L key asks k).toNat]?).map (·.got)).getD 0 < L[k].got) then (k : Int) else choT L key asks k := by
  rw [choT, List.getElem?_eq_getElem h]
set_option maxRecDepth 100000 in
set_option maxHeartbeats 8000000 in
theorem specCho (v : Value) (L : List Ox) (key : ByteArray) (x : Value) (l : List Fl) (w : World) (h : Sls oxE w v L) (hin : ∀ y ∈ L, ObIn w y.v y.u y.o) (hl : Fits w x l) (hk : key.size ≤ 1048576) (hn : L.length ≤ 1048576) :
    Calls Tryz.prog 15 #[v, .string key, x] w fun e w' => e = .returned (.int .i64 (choV (L.map (·.o)) key l)) ∧ Below w.heap.size w w' := by
  have hv := h
  obtain ⟨a, cap, rfl, _⟩ := hv
  obtain ⟨xa, xc, rfl⟩ := hl.form
  have HL : Hid (Sls oxE w (.slice a L.length cap) L) := h
  have HIN : Hid (∀ y ∈ L, ObIn w y.v y.u y.o) := hin
  have HF : Hid (Fits w (.slice xa l.length xc) l) := hl
  have HV : Hid (choV (L.map (·.o)) key l = choT (L.map (·.o)) key l L.length) := by show _ = _; unfold choV; rw [List.length_map]
  have CI := choT_in (L.map (·.o)) key l
  have HNX : Hid (∀ k (hk : k < L.length), choT (L.map (·.o)) key l (k + 1) = if matV L[k].o key l = true ∧ (choT (L.map (·.o)) key l k < 0 ∨ (((L.map (·.o))[(choT (L.map (·.o)) key l k).toNat]?).map (·.got)).getD 0 < L[k].o.got) then (k : Int) else choT (L.map (·.o)) key l k) := fun k hk => by
    have := choT_next (L := L.map (·.o)) (key := key) (asks := l) (k := k) (by rw [List.length_map]; exact hk)
    rw [this]
    simp
  have HGT : Hid (∀ b (hb : b < L.length), (((L.map (·.o))[((b : Nat) : Int).toNat]?).map (·.got)).getD 0 = L[b].o.got) := fun b hb => by
    simp [hb]
  have CI2 : Hid (∀ k, choT (L.map (·.o)) key l k = -1 ∨ ∃ b : Nat, choT (L.map (·.o)) key l k = b ∧ b < k ∧ b < L.length) := fun k => by
    rcases CI k with h | ⟨b, h1, h2, h3⟩
    · exact .inl h
    · exact .inr ⟨b, h1, h2, by rw [List.length_map] at h3; exact h3⟩
  generalize choV (L.map (·.o)) key l = R at HV ⊢
  have H0 : Hid (choT (L.map (·.o)) key l 0 = -1) := rfl
  generalize choT (L.map (·.o)) key l = T at HV HNX CI2 H0
  clear h hin hl CI
  go_enter Tryz.func15, Tryz.ntmps15
  go_wp2_with fail
  go_loopw [7, 8] (fun b i wr => ∃ (k : Nat), k ≤ L.length ∧ i = .int .i64 k ∧ b = .int .i64 (T k) ∧ Hid (Below w.heap.size w wr)) (fun _ i _ => L.length - (intOf i).toNat)
  case atStart => exact ⟨0, Nat.zero_le _, rfl, by rw [H0.out], Below.refl _ _⟩
  case round =>
    obtain ⟨k, hkl, rfl, rfl, hb⟩ := hrel
    by_cases hlt : k < L.length
    · have HL2 := HL.out.kept hb.out
      obtain ⟨g, q, rfl⟩ : ∃ g q, a = some ⟨g, q, none⟩ := by
        obtain ⟨a', cap', hv, _, _, h3⟩ := HL2
        obtain ⟨g, q, ha, _⟩ := h3 (by omega)
        cases hv
        exact ⟨g, q, ha⟩
      have CK := oxCells HL2 hlt
      have HCB : Hid (∀ b (hb : b < L.length), wr.cell? ⟨g, q + b * 8 + 6, none⟩ = some (.int .i64 L[b].o.got)) := fun b hb => (oxCells HL2 hb).2.2.2.2.2.2.1
      have HN1 := HNX.out k hlt
      have hob := HIN.out L[k] (List.getElem_mem hlt)
      have hsm := fun W (hW : Below w.heap.size w W) => specMat L[k].o L[k].v L[k].u key (.slice xa l.length xc) l W (hob.kept hW) (HF.out.kept hW) hk
      have HK1 : Hid (T (k + 1) = if matV L[k].o key l = true ∧ (T k < 0 ∨ (((L.map (·.o))[(T k).toNat]?).map (·.got)).getD 0 < L[k].o.got) then (k : Int) else T k) := HN1
      generalize matV L[k].o key l = m at hsm HK1
      unfold obV at hsm
      unfold Ox.v Ox.u at CK hsm
      generalize L[k] = y at CK hsm HK1
      clear HL2 HN1 hob
      obtain ⟨c0, c1, c2, c3, c4, c5, c6, c7⟩ := CK
      have G4 : Hid (∀ d os, Below wr.heap.size wr (grow (redrawn wr d) os)) := fun d os => below_regrown wr d os
      have cM : ∀ d os, Calls Tryz.prog 14 #[.agg #[.string y.o.k, .slice y.pa y.o.l.length y.pc, .int .i64 y.o.r.s, .slice y.ua y.o.r.l.length y.uc, .string y.o.r.b, .int .i64 y.o.asked, .int .i64 y.o.got, .int .i64 y.o.ep], .string key, .slice xa l.length xc] (grow (redrawn wr d) os) fun e w'' => e = .returned (.bool m) ∧ ∃ p : Regrown, w'' = grow (redrawn wr p.d) p.os := fun d os => Calls.regrown_of (hsm _ (past6 hb.out (G4.out d os)))
      have k0 := cell_regrown c0
      have k1 := cell_regrown c1
      have k2 := cell_regrown c2
      have k3 := cell_regrown c3
      have k4 := cell_regrown c4
      have k5 := cell_regrown c5
      have k6 := cell_regrown c6
      have k7 := cell_regrown c7
      clear c0 c1 c2 c3 c4 c5 c6 c7 hsm
      go_upto_region 5 with fail
      go_cut [38] (fun r wx => r = .bool (decide (T (k + 1) = (k : Int))) ∧ Below wr.heap.size wr wx)
      case first =>
        cases m with
        | false =>
          have HD : Hid (decide (T (k + 1) = (k : Int)) = false) := by
            show _ = _
            rw [HK1.out]
            rcases CI2.out k with h | ⟨b, h1, h2, h3⟩
            · rw [h]; first | (simp; done) | (simp; omega)
            · rw [h1]; first | (simp; done) | (simp; omega)
          refine wp_region_quiet_below (by kernel_rfl) (by kernel_rfl) ?_
          repeat (go_big_quiet_step (first | (with_reducible exact cM _ _)))
          refine wpQuiet_nil ?_
          intro _ hw'
          obtain ⟨⟨dq, osq⟩, hw''⟩ := hw'
          subst hw''
          go_wp2_with fail
          go_meet
          exact ⟨congrArg Value.bool HD.out.symm, below_regrown wr dq osq⟩
        | true =>
          rcases CI2.out k with hT | ⟨b, hT, hbk, hbl⟩
          · have HD : Hid (decide (T (k + 1) = (k : Int)) = true) := by
              show _ = _
              rw [HK1.out, hT]
              simp
            have hTn : T k < 0 := by omega
            clear hT HK1
            refine wp_region_quiet_below (by kernel_rfl) (by kernel_rfl) ?_
            repeat (go_big_quiet_step (first | (with_reducible exact cM _ _)))
            refine wpQuiet_nil ?_
            intro _ hw'
            obtain ⟨⟨dq, osq⟩, hw''⟩ := hw'
            subst hw''
            go_wp2_with fail
            go_meet
            exact ⟨congrArg Value.bool HD.out.symm, below_regrown wr dq osq⟩
          · have hgb := HGT.out b hbl
            have HD : Hid (decide (T (k + 1) = (k : Int)) = decide (L[b].o.got < y.o.got)) := by
              show _ = _
              rw [HK1.out, hT, hgb]
              by_cases hlt2 : L[b].o.got < y.o.got
              · rw [if_pos ⟨rfl, .inr hlt2⟩, decide_eq_true rfl, decide_eq_true hlt2]
              · rw [if_neg (fun hh => hh.2.elim (fun h => by omega) hlt2), decide_eq_false (by omega), decide_eq_false hlt2]
            have eb : (T k).toNat = b := by omega
            have kb : ∀ d os, (grow (redrawn wr d) os).cell? ⟨g, q + (T k).toNat * 8 + 6, none⟩ = some (.int .i64 L[b].o.got) := by
              rw [eb]
              exact cell_regrown (HCB.out b hbl)
            generalize L[b].o.got = gotb at kb HD
            have hb0 : ¬ T k < 0 := by omega
            have hb1 : T k < (L.length : Int) := by omega
            have hb2 : (T k).toNat < L.length := by omega
            clear hgb HK1 hT eb
            refine wp_region_quiet_below (by kernel_rfl) (by kernel_rfl) ?_
            repeat (go_big_quiet_step (first | (with_reducible exact cM _ _)))
            refine wpQuiet_nil ?_
            intro _ hw'
            obtain ⟨⟨dq, osq⟩, hw''⟩ := hw'
            subst hw''
            go_wp2_with fail
            go_meet
            exact ⟨congrArg Value.bool HD.out.symm, below_regrown wr dq osq⟩
      case rest =>
        obtain ⟨rfl, hb6⟩ := hcut
        obtain ⟨w6, rfl⟩ : ∃ z, z = wc := ⟨wc, rfl⟩
        have B6 : Hid (Below w.heap.size w w6) := past6 hb.out hb6
        have HK2 : Hid (T (k + 1) = (k : Int) ∨ T (k + 1) = T k) := by
          show _ ∨ _
          rw [HK1.out]
          split
          · exact .inl rfl
          · exact .inr rfl
        clear k0 k1 k2 k3 k4 k5 k6 k7 cM G4 hb6 hb HCB HK1
        by_cases hD : T (k + 1) = (k : Int)
        · have e1 : decide (T (k + 1) = (k : Int)) = true := decide_eq_true hD
          rw [e1]
          have HD : Hid (T (k + 1) = (k : Int)) := hD
          clear hD e1
          go_wp2_with fail
          go_roundw
          case rel => exact ⟨k + 1, by omega, by go_num, by rw [HD.out], B6⟩
          case measure => simp [intOf]; omega
        · have e1 : decide (T (k + 1) = (k : Int)) = false := decide_eq_false hD
          rw [e1]
          have HD : Hid (T (k + 1) = T k) := by
            rcases HK2.out with h | h
            · exact absurd h hD
            · exact h
          clear hD e1
          go_wp2_with fail
          go_roundw
          case rel => exact ⟨k + 1, by omega, by go_num, by rw [HD.out], B6⟩
          case measure => simp [intOf]; omega
    · have HE : Hid (T k = R) := by
        have : k = L.length := by omega
        show _ = _
        rw [HV.out, this]
      go_wp2
      go_ret
      exact ⟨congrArg (fun z => Ending.returned (.int .i64 z)) HE.out, hb.out⟩
end Go.Proofs.YtnachhmhjodbhaaGreatDoor
