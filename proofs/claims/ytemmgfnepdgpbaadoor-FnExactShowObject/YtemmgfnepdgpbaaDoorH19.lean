/-
  The program's methodOk, targetOk, statusOk, isBodiless, Framing, isUnframed, RequestOk and ResponseOk by their contracts.
  The program's policy by its contracts: keys, moments, what is a right object.
  The contracts of ShowFields, the specification's and the program's.
-/
import Derived.Test.YtemmgfnepdgpbaaDoorH15
import Derived.Test.YtemmgfnepdgpbaaDoorH18
import Derived.Test.YtemmgfnepdgpbaaDoorProg
import Derived.Test.YtemmgfnepdgpbaaDoorH13
import Derived.Deep.RegionLaw
namespace Go.Proofs.YtemmgfnepdgpbaaDoor
open Go.RowKit
theorem implSta (x : Int) (w : World) :
    Calls Tryd.prog 46 #[.int .i64 x] w fun e w' => e = .returned (.bool (decide (200 ≤ x ∧ x ≤ 599))) ∧ w = w' := by
  obtain ⟨b, hb⟩ : ∃ b, decide (200 ≤ x ∧ x ≤ 599) = b := ⟨_, rfl⟩
  rw [hb]
  by_cases h1 : 200 ≤ x
  · have H0 : Hid (decide (x ≤ 599) = b) := by show decide (x ≤ 599) = b; rw [← hb]; simp [h1]
    have d1 : decide (200 ≤ x) = true := by simpa using h1
    clear hb
    go_enter Tryd.func46, Tryd.ntmps46
    go_wp2
    go_ret
    exact ⟨ret_bool H0.out, rfl⟩
  · have H0 : Hid (false = b) := by show false = b; rw [← hb]; simp [h1]
    have d1 : decide (200 ≤ x) = false := by simpa using h1
    clear hb
    go_enter Tryd.func46, Tryd.ntmps46
    go_wp2
    go_ret
    exact ⟨ret_bool H0.out, rfl⟩
theorem implBare (s : Int) (w : World) :
    Calls Tryd.prog 45 #[.int .i64 s] w fun e w' => e = .returned (.bool (bareB s)) ∧ w = w' := by
  by_cases h1 : s = 204
  · subst h1
    have H0 : Hid (true = bareB 204) := rfl
    go_enter Tryd.func45, Tryd.ntmps45
    go_wp2
    go_ret
    exact ⟨ret_bool H0.out, rfl⟩
  · have d1 : (s == 204) = false := by simp [h1]
    by_cases h2 : s = 304
    · subst h2
      have H0 : Hid (true = bareB 304) := rfl
      go_enter Tryd.func45, Tryd.ntmps45
      go_wp2
      go_ret
      exact ⟨ret_bool H0.out, rfl⟩
    · have d2 : (s == 304) = false := by simp [h2]
      have H0 : Hid (false = bareB s) := by show false = bareB s; unfold bareB; simp [h1, h2]
      go_enter Tryd.func45, Tryd.ntmps45
      go_wp2
      go_ret
      exact ⟨ret_bool H0.out, rfl⟩

/-! ### Where it ends -/
theorem fold_void (n : ByteArray) : ∀ (l : List Fl) (p : ByteArray × Bool), (l.foldl (gStep n) p).2 = false → l.foldl (gStep n) p = p
  | [], _, _ => rfl
  | f :: l, p, h => by
    rw [List.foldl_cons] at h ⊢
    have e := fold_void n l _ h
    rw [e] at h ⊢
    unfold gStep at h ⊢
    split
    · rename_i hh; rw [if_pos hh] at h; cases h
    · rfl
theorem getF_void {l : List Fl} {n : ByteArray} (h : (getF l n).2 = false) : (getF l n).1 = ⟨#[]⟩ := by
  have := fold_void n l _ h
  unfold getF
  rw [this]
theorem low_void : lowS ⟨#[]⟩ = ⟨#[]⟩ := rfl
theorem void_ch : ¬ lowS ⟨#[]⟩ = chS := by rw [low_void]; intro e; have := congrArg ByteArray.size e; revert this; decide
theorem num_void : numOk 10 15 ⟨#[]⟩ = false := by decide +kernel
set_option maxHeartbeats 1000000 in
theorem implFrm (v : Value) (l : List Fl) (w : World) (h : Fits w v l) :
    Calls Tryd.prog 59 #[v] w fun e w' => e = .returned (frmE (frm l)) ∧ Below w.heap.size w w' := by
  have hz := h.2.1
  obtain ⟨a, cap, rfl, hcap⟩ := h.1
  have HF : Hid (Fits w (.slice a l.length cap) l) := h
  clear h hcap
  cases hok : fldsOk l with
  | false =>
    have H0 : Hid ((3, 0) = frm l) := frm_bad hok
    go_enter Tryd.func59, Tryd.ntmps59
    go_wp2_with (go_at_call 35; refine (implOk _ l _ HF.out.1 hz).mono ?_; rw [hok]; rintro e w1 ⟨rfl, hb1⟩)
    go_ret2
    exact ⟨ret_frm H0.out, hb1⟩
  | true =>
    have F0 := @frm_neither l hok
    have F1 := @frm_both l hok
    have F2 := @frm_len l hok
    have F3 := @frm_nolen l hok
    have F4 := @frm_ch l hok
    have F5 := @frm_noch l hok
    have zx := getF_fits clS hok
    have zy := getF_fits teS hok
    have vx : (getF l clS).2 = false → (getF l clS).1 = ⟨#[]⟩ := getF_void
    have vy : (getF l teS).2 = false → (getF l teS).1 = ⟨#[]⟩ := getF_void
    have hg1 : Hid (∀ w, Fits w (.slice a l.length cap) l → Calls Tryd.prog 72 #[.slice a l.length cap, .string clS] w fun e w' => e = .returned (.tuple #[.string (getF l clS).1, .bool (getF l clS).2]) ∧ Below w.heap.size w w') := fun w h => by have := implGet _ l clS w h.1 h.2.1 (by decide); unfold getE at this; rw [← getA_yes clS hok] at this; exact this
    have hg2 : Hid (∀ w, Fits w (.slice a l.length cap) l → Calls Tryd.prog 72 #[.slice a l.length cap, .string teS] w fun e w' => e = .returned (.tuple #[.string (getF l teS).1, .bool (getF l teS).2]) ∧ Below w.heap.size w w') := fun w h => by have := implGet _ l teS w h.1 h.2.1 (by decide); unfold getE at this; rw [← getA_yes teS hok] at this; exact this
    generalize frm l = fr at F0 F1 F2 F3 F4 F5 ⊢
    generalize getF l clS = gx at F0 F1 F2 F3 F4 F5 zx vx hg1
    generalize getF l teS = gy at F0 F1 F2 F3 F4 F5 zy vy hg2
    obtain ⟨x, p⟩ := gx
    obtain ⟨y, q⟩ := gy
    simp only at F0 F1 F2 F3 F4 F5 zx zy vx vy hg1 hg2
    have G0 : Hid _ := F0
    have G1 : Hid _ := F1
    have G2 : Hid _ := F2
    have G3 : Hid _ := F3
    have G4 : Hid _ := F4
    have G5 : Hid _ := F5
    have VX : Hid (p = false → x = ⟨#[]⟩) := vx
    have VY : Hid (q = false → y = ⟨#[]⟩) := vy
    clear F0 F1 F2 F3 F4 F5 vx vy
    unfold clS at hg1
    unfold teS at hg2
    go_enter Tryd.func59, Tryd.ntmps59
    go_wp2_with fail
    refine (implOk _ l _ HF.out.1 hz).mono ?_
    rw [hok]
    rintro e w1 ⟨rfl, hb1⟩
    have HF1 : Hid (Fits w1 (.slice a l.length cap) l) := HF.out.kept hb1
    clear HF
    go_wp2_with fail
    refine (hg1.out _ HF1.out).mono ?_
    rintro e w2 ⟨rfl, hb2'⟩
    have hb2 := past6 hb1 hb2'
    have HF2 : Hid (Fits w2 (.slice a l.length cap) l) := HF1.out.kept hb2'
    clear hb1 hb2' hg1 HF1
    go_wp2_with fail
    refine (hg2.out _ HF2.out).mono ?_
    rintro e w3 ⟨rfl, hb3'⟩
    have hb3 := past6 hb2 hb3'
    clear hb2 hb3' hg2 HF2
    go_wp2_with fail
    refine (implDig x _ (le_max (by omega))).mono ?_
    unfold numE
    rintro e w4 ⟨rfl, hb4'⟩
    have hb4 : Below w.heap.size w w4 := past6 hb3 hb4'
    clear hb3 hb4'
    cases p with
    | false =>
      cases q with
      | false =>
        have H0 : Hid ((0, 0) = fr) := G0.out rfl rfl
        clear G0 G1 G2 G3 G4 G5
        go_wp2
        go_ret2
        exact ⟨ret_frm H0.out, hb4⟩
      | true =>
        have hn0 : numOk 10 15 x = false := by rw [VX.out rfl]; exact num_void
        rw [hn0]
        generalize numV 10 15 x = n0
        clear hn0
        by_cases hc : lowS y = chS
        · have H0 : Hid ((2, 0) = fr) := G4.out rfl rfl hc
          have hq := same_ch (same_yes hc)
          clear G0 G1 G2 G3 G4 G5 hc
          go_wp2_with (go_at_call 74; refine (implLow y _ (le_max (by omega))).mono ?_; rintro e w5 ⟨rfl, hb5⟩)
          go_ret2
          exact ⟨ret_frm H0.out, past6 hb4 hb5⟩
        · have H0 : Hid ((3, 0) = fr) := G5.out rfl rfl hc
          have hq := same_ch (same_no hc)
          clear G0 G1 G2 G3 G4 G5 hc
          go_wp2_with (go_at_call 74; refine (implLow y _ (le_max (by omega))).mono ?_; rintro e w5 ⟨rfl, hb5⟩)
          go_ret2
          exact ⟨ret_frm H0.out, past6 hb4 hb5⟩
    | true =>
      cases q with
      | true =>
        have H0 : Hid ((3, 0) = fr) := G1.out rfl rfl
        clear G0 G1 G2 G3 G4 G5
        go_wp2
        go_ret2
        exact ⟨ret_frm H0.out, hb4⟩
      | false =>
        have g2 := G2.out rfl rfl
        have g3 := G3.out rfl rfl
        have hy : Hid (y = ⟨#[]⟩) := VY.out rfl
        have hq : ((lowS y).toList == [99, 104, 117, 110, 107, 101, 100]) = false := by rw [hy.out]; exact same_ch (same_no void_ch)
        generalize numV 10 15 x = n at g2 g3 ⊢
        generalize numOk 10 15 x = o at g2 g3 ⊢
        clear G0 G1 G2 G3 G4 G5
        cases o with
        | false =>
          have H0 : Hid ((3, 0) = fr) := g3 (by simp)
          clear g2 g3
          go_wp2_with (go_at_call 74; refine (implLow y _ (le_max (by omega))).mono ?_; rintro e w5 ⟨rfl, hb5⟩)
          go_ret2
          exact ⟨ret_frm H0.out, past6 hb4 hb5⟩
        | true =>
          by_cases hn : n ≤ 4000
          · have H0 : Hid ((1, n) = fr) := g2 ⟨rfl, hn⟩
            have d1 : decide (n ≤ 4000) = true := by simpa using hn
            clear g2 g3
            go_wp2
            go_ret2
            exact ⟨ret_frm H0.out, hb4⟩
          · have H0 : Hid ((3, 0) = fr) := g3 (by simp [hn])
            have d1 : decide (n ≤ 4000) = false := by simpa using hn
            clear g2 g3
            go_wp2_with (go_at_call 74; refine (implLow y _ (le_max (by omega))).mono ?_; rintro e w5 ⟨rfl, hb5⟩)
            go_ret2
            exact ⟨ret_frm H0.out, past6 hb4 hb5⟩
theorem own_frm (l : List Fl) : ((frm l).1 == 0) = ownB l := by
  unfold ownB frm
  cases fldsOk l with
  | false => rfl
  | true =>
    rw [if_pos rfl]
    cases (getF l clS).2 with
    | true =>
      rw [if_pos rfl]
      split
      · rfl
      · split <;> rfl
    | false =>
      rw [if_neg (by decide)]
      cases (getF l teS).2 with
      | true => rw [if_pos rfl]; split <;> rfl
      | false => rw [if_neg (by decide)]; rfl
theorem implUnf (v : Value) (l : List Fl) (w : World) (h : Fits w v l) :
    Calls Tryd.prog 47 #[v] w fun e w' => e = .returned (.bool (ownB l)) ∧ Below w.heap.size w w' := by
  have hf := implFrm v l w h
  have H0 : Hid (((frm l).1 == 0) = ownB l) := own_frm l
  obtain ⟨a, cap, rfl, hcap⟩ := h.1
  clear hcap h
  unfold frmE at hf
  generalize frm l = fr at hf H0
  obtain ⟨k, n⟩ := fr
  simp only at hf H0
  go_enter Tryd.func47, Tryd.ntmps47
  go_wp2_with (go_at_call 59; refine hf.mono ?_; rintro e w1 ⟨rfl, hb1⟩)
  go_ret
  exact ⟨ret_bool H0.out, hb1⟩
theorem rsOk_bad {r : Rs} (h4 : bareB r.s = true) (h5 : ¬ r.b.size = 0) : false = rsOk r := by unfold rsOk; rw [h4, decide_eq_false h5]; simp
theorem rsOk_is2 {r : Rs} (h : decide (200 ≤ r.s ∧ r.s ≤ 599) = true) (h2 : ownB r.l = true) (h4 : bareB r.s = false ∨ r.b.size = 0) : decide ((r.b.size : Int) ≤ 4000) = rsOk r := by
  unfold rsOk
  rw [h, h2]
  have e : (!bareB r.s || decide (r.b.size = 0)) = true := by rcases h4 with h4 | h4 <;> simp [h4]
  rw [e]
  by_cases hb : r.b.size ≤ 4000
  · rw [decide_eq_true hb, decide_eq_true (by omega)]; rfl
  · rw [decide_eq_false hb, decide_eq_false (by omega)]; rfl
set_option maxHeartbeats 1000000 in
theorem implRsOk_tail (r : Rs) (v : Value) (w : World) (h : RsIn w v r) (h4 : bareB r.s = false ∨ r.b.size = 0) :
    Calls Tryd.prog 36 #[rsV r v] w fun e w' => e = .returned (.bool (rsOk r)) ∧ Below w.heap.size w w' := by
  obtain ⟨hf, z3⟩ := h
  have hfs := hf.1
  obtain ⟨a, cap, rfl, hcap⟩ := hfs
  clear hcap
  unfold rsV
  have F0 : Hid (Fits (w.alloc (.cells #[.int .i64 r.s, .slice a r.l.length cap, .string r.b] 31)) (.slice a r.l.length cap) r.l) := hf.alloc _
  have Q0 : Hid (RsB (w.alloc (.cells #[.int .i64 r.s, .slice a r.l.length cap, .string r.b] 31)) w.heap.size r (.slice a r.l.length cap)) := RsB.new w r _ _
  have B0 : Hid (Below w.heap.size w (w.alloc (.cells #[.int .i64 r.s, .slice a r.l.length cap, .string r.b] 31))) := (Below.refl _ w).alloc (Nat.le_refl _) _
  clear hf
  have hq1 : r.b.size ≤ 9223372036854775807 := by omega
  have H4 : Hid (bareB r.s = false ∨ r.b.size = 0) := h4
  have hbe : bareB r.s = true → r.b.toList.isEmpty = true := fun hb => by rw [void_emp]; rcases h4 with h4 | h4; · rw [h4] at hb; cases hb
                                                                          · exact decide_eq_true h4
  clear h4
  go_enter Tryd.func36, Tryd.ntmps36
  go_wp2_with fail
  refine (implBare _ _).mono ?_
  rintro e w1 ⟨rfl, rfl⟩
  cases hba : bareB r.s with
  | true =>
    have hb1 := hbe hba
    have hb2 : r.b.toList = [] := by simpa using hb1
    clear hbe
    go_wp2_with fail
    refine (implSta _ _).mono ?_
    rintro e w1 ⟨rfl, rfl⟩
    clear hb1 hb2
    cases h1 : decide (200 ≤ r.s ∧ r.s ≤ 599) with
    | false =>
      have H0 : Hid (false = rsOk r) := rsOk_no1 h1
      go_wp2
      go_ret
      exact ⟨ret_bool H0.out, B0.out⟩
    | true =>
      go_wp2_with fail
      refine (implUnf _ r.l _ F0.out).mono ?_
      rintro e w2 ⟨rfl, hb2⟩
      have Q2 : Hid (RsB w2 w.heap.size r (.slice a r.l.length cap)) := Q0.out.next hb2
      have B2 : Hid (Below w.heap.size w w2) := past6 B0.out hb2
      clear Q0 B0 F0 hb2
      have a2 := Q2.out.c2
      cases h2 : ownB r.l with
      | false =>
        have H0 : Hid (false = rsOk r) := rsOk_no2 h1 h2
        go_wp2
        go_ret
        exact ⟨ret_bool H0.out, B2.out⟩
      | true =>
        have H0 : Hid (decide ((r.b.size : Int) ≤ 4000) = rsOk r) := rsOk_is2 h1 h2 H4.out
        go_wp2
        go_ret
        exact ⟨ret_bool H0.out, B2.out⟩
  | false =>
    clear hbe
    go_wp2_with fail
    refine (implSta _ _).mono ?_
    rintro e w1 ⟨rfl, rfl⟩
    cases h1 : decide (200 ≤ r.s ∧ r.s ≤ 599) with
    | false =>
      have H0 : Hid (false = rsOk r) := rsOk_no1 h1
      go_wp2
      go_ret
      exact ⟨ret_bool H0.out, B0.out⟩
    | true =>
      go_wp2_with fail
      refine (implUnf _ r.l _ F0.out).mono ?_
      rintro e w2 ⟨rfl, hb2⟩
      have Q2 : Hid (RsB w2 w.heap.size r (.slice a r.l.length cap)) := Q0.out.next hb2
      have B2 : Hid (Below w.heap.size w w2) := past6 B0.out hb2
      clear Q0 B0 F0 hb2
      have a2 := Q2.out.c2
      cases h2 : ownB r.l with
      | false =>
        have H0 : Hid (false = rsOk r) := rsOk_no2 h1 h2
        go_wp2
        go_ret
        exact ⟨ret_bool H0.out, B2.out⟩
      | true =>
        have H0 : Hid (decide ((r.b.size : Int) ≤ 4000) = rsOk r) := rsOk_is2 h1 h2 H4.out
        go_wp2
        go_ret
        exact ⟨ret_bool H0.out, B2.out⟩
set_option maxHeartbeats 1000000 in
theorem implRsOk (r : Rs) (v : Value) (w : World) (h : RsIn w v r) :
    Calls Tryd.prog 36 #[rsV r v] w fun e w' => e = .returned (.bool (rsOk r)) ∧ Below w.heap.size w w' := by
  by_cases h4 : bareB r.s = false ∨ r.b.size = 0
  · exact implRsOk_tail r v w h h4
  · have hba : bareB r.s = true := by cases e : bareB r.s with
      | false => exact absurd (.inl e) h4
      | true => rfl
    have hbz : ¬ r.b.size = 0 := fun e => h4 (.inr e)
    have hbe : r.b.toList.isEmpty = false := by rw [void_emp]; exact decide_eq_false hbz
    have hbl : ¬ r.b.toList = [] := by simpa using hbe
    have H0 : Hid (false = rsOk r) := rsOk_bad hba hbz
    obtain ⟨hf, z3⟩ := h
    have hfs := hf.1
    obtain ⟨a, cap, rfl, hcap⟩ := hfs
    clear hcap hf h4 hbz
    unfold rsV
    have Q0 : Hid (RsB (w.alloc (.cells #[.int .i64 r.s, .slice a r.l.length cap, .string r.b] 31)) w.heap.size r (.slice a r.l.length cap)) := RsB.new w r _ _
    have B0 : Hid (Below w.heap.size w (w.alloc (.cells #[.int .i64 r.s, .slice a r.l.length cap, .string r.b] 31))) := (Below.refl _ w).alloc (Nat.le_refl _) _
    go_enter Tryd.func36, Tryd.ntmps36
    go_wp2_with fail
    refine (implBare _ _).mono ?_
    rw [hba]
    rintro e w1 ⟨rfl, rfl⟩
    go_wp2
    go_ret
    exact ⟨ret_bool H0.out, B0.out⟩
end Go.Proofs.YtemmgfnepdgpbaaDoor
namespace Go.Proofs.YtemmgfnepdgpbaaDoor
open Go.RowKit Go.Sort
set_option linter.unusedVariables false

set_option maxHeartbeats 1000000 in
theorem implSol (s : ByteArray) (w : World) (hs : s.size ≤ 1048576) :
    Calls Tryd.prog 34 #[.string s, .int .i64 500] w fun e w' => e = .returned (.bool (keyO s)) ∧ w = w' := by
  have HK : Hid (keyO s = (allB keyN s.data.toList && decide (s.size ≤ 500))) := rfl
  generalize keyO s = K at HK ⊢
  by_cases h5 : (500 : Int) < (s.size : Int)
  · have HF : Hid (false = K) := by show _ = _; rw [HK.out, decide_eq_false (by omega), Bool.and_false]
    go_enter Tryd.func34, Tryd.ntmps34
    go_wp2
    go_ret
    exact ⟨ret_bool HF.out, rfl⟩
  · go_enter Tryd.func34, Tryd.ntmps34
    go_wp2
    go_loop [12] (fun i => ∃ k : Nat, k ≤ s.size ∧ i = .int .i64 k ∧ Hid (allB keyN (s.data.toList.take k) = true)) (fun i => s.size - (intOf i).toNat)
    case atStart => exact ⟨0, Nat.zero_le _, rfl, allB_nil _ _⟩
    case round =>
      obtain ⟨k, hk, rfl, ha⟩ := hrel
      by_cases hlt : k < s.size
      · by_cases hl : (s[k].toNat : Int) < 33
        · have HF : Hid (false = K) := by show _ = _; rw [HK.out, ← allB_not (p := keyN) hlt (keyN_no (by omega))]; rfl
          go_wp2
          go_ret
          exact ⟨ret_bool HF.out, rfl⟩
        · by_cases hg : 126 < (s[k].toNat : Int)
          · have HF : Hid (false = K) := by show _ = _; rw [HK.out, ← allB_not (p := keyN) hlt (keyN_no (by omega))]; rfl
            go_wp2
            go_ret
            exact ⟨ret_bool HF.out, rfl⟩
          · have HV : Hid (allB keyN (s.data.toList.take (k + 1)) = true) := allB_step hlt ha.out (keyN_yes (by omega))
            go_wp2
            go_round
            case rel => exact ⟨k + 1, by omega, by go_num, HV⟩
            case measure => simp [intOf]; omega
      · have HE : Hid (true = K) := by
          show _ = _
          have e : s.data.toList.take k = s.data.toList := List.take_of_length_le (by simp; omega)
          have h2 := ha.out
          rw [e] at h2
          rw [HK.out, h2, Bool.true_and, decide_eq_true (by omega)]
        go_wp2
        go_ret
        exact ⟨ret_bool HE.out, rfl⟩
theorem implMomB (n : Int) (w : World) : Calls Tryd.prog 37 #[.int .i64 n] w fun e w' => e = .returned (.bool (momB n)) ∧ w = w' := by
  have HB : Hid (momB n = (decide (0 ≤ n) && decide (n ≤ 253402300799))) := rfl
  generalize momB n = b at HB ⊢
  by_cases h0 : 0 ≤ n
  · have HR : Hid (decide (n ≤ 253402300799) = b) := by show _ = _; rw [HB.out, decide_eq_true h0, Bool.true_and]
    go_enter Tryd.func37, Tryd.ntmps37
    go_wp2
    go_ret
    exact ⟨ret_bool HR.out, rfl⟩
  · have HR : Hid (false = b) := by show _ = _; rw [HB.out, decide_eq_false h0, Bool.false_and]
    go_enter Tryd.func37, Tryd.ntmps37
    go_wp2
    go_ret
    exact ⟨ret_bool HR.out, rfl⟩
set_option maxHeartbeats 4000000 in
theorem implObOk (o : Ob) (v u : Value) (w : World) (h : ObIn w v u o) :
    Calls Tryd.prog 18 #[obV o v u] w fun e w' => e = .returned (.bool (obB o)) ∧ Below w.heap.size w w' := by
  have HB : Hid (obB o = (keyO o.k && (fldsOk o.l && (rsOk o.r && (momB o.asked && (momB o.got && (decide (o.asked ≤ o.got) && (decide (0 ≤ o.ep) && decide (o.ep ≤ 100000))))))))) := rfl
  have j1 := fun W => implSol o.k W h.2.2
  have j2 := fun W (hW : Fits W v o.l) => implOk v o.l W hW.1 hW.2.1
  have j3 := fun W hW => implRsOk o.r u W hW
  have j4 := fun W => implMomB o.asked W
  have j5 := fun W => implMomB o.got W
  skip
  generalize obB o = R at HB ⊢
  generalize keyO o.k = b1 at HB j1
  generalize fldsOk o.l = b2 at HB j2
  generalize rsOk o.r = b3 at HB j3
  generalize momB o.asked = b4 at HB j4
  generalize momB o.got = b5 at HB j5
  obtain ⟨va, vc, rfl⟩ := h.1.form
  obtain ⟨ua, uc, rfl⟩ := h.2.1.1.form
  have Q0 : Hid (ObB (w.alloc (.cells #[.string o.k, .slice va o.l.length vc, .int .i64 o.r.s, .slice ua o.r.l.length uc, .string o.r.b, .int .i64 o.asked, .int .i64 o.got, .int .i64 o.ep] 33)) w.heap.size o (.slice va o.l.length vc) (.slice ua o.r.l.length uc)) := ObB.new w o _ _ _
  have B0 : Hid (Below w.heap.size w (w.alloc (.cells #[.string o.k, .slice va o.l.length vc, .int .i64 o.r.s, .slice ua o.r.l.length uc, .string o.r.b, .int .i64 o.asked, .int .i64 o.got, .int .i64 o.ep] 33))) := (Below.refl _ w).alloc (Nat.le_refl _) _
  have I0 : Hid (ObIn (w.alloc (.cells #[.string o.k, .slice va o.l.length vc, .int .i64 o.r.s, .slice ua o.r.l.length uc, .string o.r.b, .int .i64 o.asked, .int .i64 o.got, .int .i64 o.ep] 33)) (.slice va o.l.length vc) (.slice ua o.r.l.length uc) o) := h.kept B0.out
  clear h
  unfold obV
  unfold rsV at j3
  go_enter Tryd.func18, Tryd.ntmps18
  go_wp2_with fail
  refine (j1 _).mono ?_
  rintro e w1 ⟨rfl, rfl⟩
  clear j1
  cases b1 with
  | false =>
    have HR : Hid (false = R) := HB.out.symm
    go_wp2
    go_ret
    exact ⟨ret_bool HR.out, B0.out⟩
  | true =>
    go_wp2_with fail
    refine (j2 _ I0.out.1).mono ?_
    rintro e w2 ⟨rfl, hb2⟩
    have Q2 : Hid (ObB w2 w.heap.size o (.slice va o.l.length vc) (.slice ua o.r.l.length uc)) := Q0.out.next hb2
    have B2 : Hid (Below w.heap.size w w2) := past6 B0.out hb2
    have I2 : Hid (ObIn w2 (.slice va o.l.length vc) (.slice ua o.r.l.length uc) o) := I0.out.kept hb2
    clear hb2 Q0 B0 I0 j2
    cases b2 with
    | false =>
      have HR : Hid (false = R) := HB.out.symm
      go_wp2
      go_ret
      exact ⟨ret_bool HR.out, B2.out⟩
    | true =>
      have d2 := Q2.out.c2
      have d3 := Q2.out.c3
      have d4 := Q2.out.c4
      go_wp2_with fail
      refine (j3 _ I2.out.2.1).mono ?_
      rintro e w3 ⟨rfl, hb3⟩
      have Q3 : Hid (ObB w3 w.heap.size o (.slice va o.l.length vc) (.slice ua o.r.l.length uc)) := Q2.out.next hb3
      have B3 : Hid (Below w.heap.size w w3) := past6 B2.out hb3
      clear hb3 Q2 B2 I2 j3 d2 d3 d4
      have d5 := Q3.out.c5
      have d6 := Q3.out.c6
      have d7 := Q3.out.c7
      cases b3 with
      | false =>
        have HR : Hid (false = R) := HB.out.symm
        go_wp2
        go_ret
        exact ⟨ret_bool HR.out, B3.out⟩
      | true =>
        go_wp2_with fail
        refine (j4 _).mono ?_
        rintro e w4 ⟨rfl, rfl⟩
        clear j4
        cases b4 with
        | false =>
          have HR : Hid (false = R) := HB.out.symm
          go_wp2
          go_ret
          exact ⟨ret_bool HR.out, B3.out⟩
        | true =>
          go_wp2_with fail
          refine (j5 _).mono ?_
          rintro e w5 ⟨rfl, rfl⟩
          clear j5
          cases b5 with
          | false =>
            have HR : Hid (false = R) := HB.out.symm
            go_wp2
            go_ret
            exact ⟨ret_bool HR.out, B3.out⟩
          | true =>
            by_cases hag : o.asked ≤ o.got
            · have da : decide (o.asked ≤ o.got) = true := decide_eq_true hag
              by_cases h0 : 0 ≤ o.ep
              · have d0 : decide (0 ≤ o.ep) = true := decide_eq_true h0
                have HR : Hid (decide (o.ep ≤ 100000) = R) := by show _ = _; rw [HB.out, da, d0]; simp
                go_wp2
                go_ret
                exact ⟨ret_bool HR.out, B3.out⟩
              · have d0 : decide (0 ≤ o.ep) = false := decide_eq_false h0
                have HR : Hid (false = R) := by show _ = _; rw [HB.out, da, d0]; simp
                go_wp2
                go_ret
                exact ⟨ret_bool HR.out, B3.out⟩
            · have da : decide (o.asked ≤ o.got) = false := decide_eq_false hag
              have HR : Hid (false = R) := by show _ = _; rw [HB.out, da]; simp
              go_wp2
              go_ret
              exact ⟨ret_bool HR.out, B3.out⟩
end Go.Proofs.YtemmgfnepdgpbaaDoor
namespace Go.Proofs.YtemmgfnepdgpbaaDoor
open Go.RowKit Go.Sort

theorem showF_text (f : Fl) : (f.1 ++ (⟨#[58, 32]⟩ : ByteArray) ++ f.2 ++ (⟨#[13, 10]⟩ : ByteArray)).data.toList = showF f := by
  rw [data_app, data_app, data_app]; rfl
theorem showF_size (f : Fl) : (f.1 ++ (⟨#[58, 32]⟩ : ByteArray) ++ f.2 ++ (⟨#[13, 10]⟩ : ByteArray)).size = f.1.size + f.2.size + 4 := by
  rw [ByteArray.size_append, ByteArray.size_append, ByteArray.size_append]
  show f.1.size + 2 + f.2.size + 2 = _
  omega

/-- The block of a field is no block of bytes. -/
theorem boxNe {w : World} {B b : Nat} {v : Value} {l : List UInt8} {f : Fl} (h : OwnsB w B v l) (hb : w.heap[b]? = some (.cells #[.string f.1, .string f.2] 57)) : ∀ j, v.ownBlock = some j → j ≠ b := by
  intro j hj e
  subst e
  rcases h.2 with ⟨rfl, _⟩ | ⟨g, cap, cur, rfl, _, hg, _⟩
  · simp [Value.ownBlock] at hj
  · simp only [Value.ownBlock, Option.some.injEq] at hj
    subst hj
    rw [hg] at hb
    simp at hb
theorem boxAt {w : World} {b : Nat} {f : Fl} (hb : w.heap[b]? = some (.cells #[.string f.1, .string f.2] 57)) : w.cell? ⟨b, 1, none⟩ = some (.string f.2) := by
  rw [cell_of_row w b 1 _ _ _ hb]; rfl
theorem boxStays {w w' : World} {b : Nat} {r : Option Nat} {f : Fl} (hb : w.heap[b]? = some (.cells #[.string f.1, .string f.2] 57)) (hg : w.grownBy w' r) (hne : ∀ j, r = some j → j ≠ b) : w'.heap[b]? = some (.cells #[.string f.1, .string f.2] 57) := by
  rw [hg.block b (Array.getElem?_eq_some_iff.1 hb).1 (fun e => hne b e.symm rfl)]; exact hb

set_option maxHeartbeats 1000000 in
theorem specShowL (v : Value) (l : List Fl) (w : World) (h : Fls w v l) (hok : fldsOk l = true) :
    Calls Tryd.prog 32 #[v] w fun e w' => e = .returned (.string ⟨(showL l).toArray⟩) ∧ Below w.heap.size w w' := by
  obtain ⟨a, cap, rfl, h1, h2, h3⟩ := h
  unfold maxLen at h2
  obtain ⟨hl, hfs⟩ := fldsOk_parts hok
  go_enter Tryd.func32, Tryd.ntmps32
  go_wp2
  go_loopw [3, 4] (fun b i wr => ∃ (k : Nat), k ≤ l.length ∧ i = .int .i64 k ∧ OwnsB wr w.heap.size b (showL (l.take k)) ∧ Below w.heap.size w wr) (fun _ i _ => l.length - (intOf i).toNat)
  case atStart => exact ⟨0, Nat.zero_le _, rfl, OwnsB.empty w, (Below.refl _ _).alloc (Nat.le_refl _) _⟩
  case round =>
    obtain ⟨k, hk, rfl, hown, hb⟩ := hrel
    have hsl := showL_length l hfs k hk
    by_cases hlt : k < l.length
    · obtain ⟨g, o, rfl, hg, hc⟩ := h3 (by omega)
      have c1 := (hb.cell (p := ⟨g, o + k * 2, none⟩) hg).trans (hc k hlt).1
      have c2 := (hb.cell (p := ⟨g, o + k * 2 + 1, none⟩) hg).trans (hc k hlt).2
      have hsz := fldOk_size (hfs l[k] (List.getElem_mem hlt))
      have HN : Hid (showL (l.take (k + 1)) = showL (l.take k) ++ showF l[k]) := showL_next hlt
      generalize l[k] = f at c1 c2 hsz HN
      have hst := showF_size f
      have z1 : (f.1 ++ (⟨#[58, 32]⟩ : ByteArray)).size = f.1.size + 2 := by rw [ByteArray.size_append]; rfl
      have z2 : (f.1 ++ (⟨#[58, 32]⟩ : ByteArray) ++ f.2).size = f.1.size + 2 + f.2.size := by rw [ByteArray.size_append, z1]
      generalize showL (l.take k) = s0 at hown hsl HN
      have q1 : ¬ 9223372036854775807 < f.1.size + 2 := by omega
      have q2 : ¬ 9223372036854775807 < f.1.size + 2 + f.2.size := by omega
      have q3 : ¬ 9223372036854775807 < f.1.size + 2 + f.2.size + 2 := by omega
      clear hc h3 hfs
      go_wp2
      go_region_law (refine step_ownStr rfl (.tmp 12) (.tmp 25) rfl w.heap.size _ s0 (f.1 ++ (⟨#[58, 32]⟩ : ByteArray) ++ f.2 ++ (⟨#[13, 10]⟩ : ByteArray)) (by first | rfl | (simp [Act.eval]; done)) (OwnsB.drew hown) (by first | rfl | (simp [Act.eval]; done)) (by omega) hb.size ?_; intro v2 w2 ho2 hg2)
      all_goals
        have hb02 := hb.grown (show wr.grownBy w2 _ from ⟨hg2.os, hg2.tape, hg2.output, hg2.size, hg2.block⟩) hb.size (OwnsB.from hown)
        rw [showF_text, ← HN.out] at ho2
        clear hown hb hg2 c1 c2 hst z1 z2
        go_wp2
        go_roundw
        case rel => exact ⟨k + 1, by omega, by go_num, ho2, hb02⟩
        case measure => simp [intOf]; omega
    · rw [showL_end hlt] at hown
      have ht := hown.text
      go_wp2
      go_ret
      exact ⟨rfl, hb⟩

set_option maxHeartbeats 1000000 in
theorem implShow (v : Value) (l : List Fl) (w : World) (h : Fls w v l) (hz : szL l ≤ 1048576) :
    Calls Tryd.prog 20 #[v] w fun e w' => e = .returned (.string (showA l)) ∧ Below w.heap.size w w' := by
  have hh := h
  obtain ⟨a, cap, rfl, h1, h2, h3⟩ := hh
  unfold maxLen at h2
  cases hok : fldsOk l with
  | false =>
    have HN : Hid (⟨#[]⟩ = showA l) := showA_no hok
    go_enter Tryd.func20, Tryd.ntmps20
    go_wp2_with (go_at_call 35; refine (implOk _ l _ h hz).mono ?_; rw [hok]; rintro e w1 ⟨rfl, hb1⟩)
    go_ret
    exact ⟨ret_strT HN.out, hb1⟩
  | true =>
    obtain ⟨hl, hfs⟩ := fldsOk_parts hok
    have HG : Hid (⟨(showL l).toArray⟩ = showA l) := showA_yes hok
    go_enter Tryd.func20, Tryd.ntmps20
    go_wp2_with (go_at_call 35; refine (implOk _ l _ h hz).mono ?_; rw [hok]; rintro e w1 ⟨rfl, hb1⟩)
    go_loopw [3, 11] (fun b i wr => ∃ (k : Nat), k ≤ l.length ∧ i = .int .i64 k ∧ OwnsB wr w.heap.size b (showL (l.take k)) ∧ Below w.heap.size w wr) (fun _ i _ => l.length - (intOf i).toNat)
    case atStart => exact ⟨0, Nat.zero_le _, rfl, OwnsB.nil _ _, hb1⟩
    case round =>
      clear hb1 h
      obtain ⟨k, hk, rfl, hown, hb⟩ := hrel
      have hsl := showL_length l hfs k hk
      by_cases hlt : k < l.length
      · obtain ⟨g, o, rfl, hg, hc⟩ := h3 (by omega)
        have c1 := (hb.cell (p := ⟨g, o + k * 2, none⟩) hg).trans (hc k hlt).1
        have c2 := (hb.cell (p := ⟨g, o + k * 2 + 1, none⟩) hg).trans (hc k hlt).2
        have hsz := fldOk_size (hfs l[k] (List.getElem_mem hlt))
        have HN : Hid (showL (l.take (k + 1)) = showL (l.take k) ++ showF l[k]) := showL_next hlt
        generalize l[k] = f at c1 c2 hsz HN
        generalize showL (l.take k) = s0 at hown hsl HN
        have d1 : (wr.alloc (.cells #[.string f.1, .string f.2] 57)).heap[wr.heap.size]? = some (.cells #[.string f.1, .string f.2] 57) := heap_alloc_new wr _
        have bl := box_lt wr (.cells #[.string f.1, .string f.2] 57)
        have hba := hb.alloc hb.size (.cells #[.string f.1, .string f.2] 57)
        have hoa := hown.alloc (.cells #[.string f.1, .string f.2] 57)
        have hun := OwnsB.under hown
        have l1 := len_of f.1
        have l2 := len_of f.2
        clear hc h3 hfs
        go_wp2_with (first
          | (at_builtin; refine wpList_pushStr _ rfl _ _ rfl w.heap.size _ _ f.1 rfl hoa rfl (by omega) hba.size ?_; intro v2 w2 ho2 hg2; have d2 := boxStays d1 hg2 (boxNe hoa d1); have hb2 := hba.grown hg2 hba.size (OwnsB.from hoa); have n2 : (s0 ++ f.1.data.toList).length ≤ 20000 := by rw [List.length_append]; omega)
          | (at_builtin; refine wpList_pushStr _ rfl _ _ rfl w.heap.size _ _ ⟨#[58, 32]⟩ rfl ho2 rfl (by show _ + 2 ≤ _; omega) hb2.size ?_; intro v3 w3 ho3 hg3; have d3 := boxAt (boxStays d2 hg3 (boxNe ho2 d2)); have hb3 := hb2.grown hg3 hb2.size (OwnsB.from ho2))
          | (at_builtin; refine wpList_pushStr _ rfl _ _ rfl w.heap.size _ _ f.2 rfl ho3 rfl (by rw [List.length_append]; show _ + 2 + _ ≤ _; omega) hb3.size ?_; intro v4 w4 ho4 hg4; have hb4 := hb3.grown hg4 hb3.size (OwnsB.from ho3))
          | (at_builtin; refine wpList_pushStr _ rfl _ _ rfl w.heap.size _ _ ⟨#[13, 10]⟩ rfl ho4 rfl (by rw [List.length_append, List.length_append]; show _ + 2 + _ + 2 ≤ _; omega) hb4.size ?_; intro v5 w5 ho5 hg5; have hb5 := hb4.grown hg5 hb4.size (OwnsB.from ho4)))
        have HX : Hid (s0 ++ f.1.data.toList ++ [58, 32] ++ f.2.data.toList ++ [13, 10] = showL (l.take (k + 1))) := by
          show _ = _
          rw [HN.out]
          simp [showF]
        have ho6 : OwnsB w5 w.heap.size v5 (showL (l.take (k + 1))) := by rw [← HX.out]; exact ho5
        clear hown hoa ho2 ho3 ho4 ho5 hb hba hb2 hb3 hb4 hg2 hg3 hg4 hg5 c1 c2 d1 d2 d3 HX HN
        go_roundw
        case rel => exact ⟨k + 1, by omega, by go_num, ho6, hb5⟩
        case measure => simp [intOf]; omega
      · rw [showL_end hlt] at hown
        have ht := hown.text
        have HN := HG
        go_wp2
        go_ret
        exact ⟨ret_strT HN.out, hb⟩
end Go.Proofs.YtemmgfnepdgpbaaDoor
