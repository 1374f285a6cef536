/-
  The program's Total and Cut by their contracts.
-/
import Derived.Test.YtamfgjgmnnnjpaaSpnW
import Derived.Test.YtamfgjgmnnnjpaaSpnD
import Derived.Test.YtamfgjgmnnnjpaaShelfK
namespace Go.Proofs.Ytamfgjgmnnnjpaa
open Go.RowKit Go.Sort
set_option linter.unusedVariables false

theorem low_alloc {w w1 : World} (h : Below w.heap.size w w1) (o : Obj) : Below w.heap.size w (w1.alloc o) := h.alloc h.size o
set_option maxHeartbeats 2000000 in
theorem implTot (v : Value) (l : List Sp) (w : World) (h : Sls spnE w v l) (hr : ∀ x ∈ l, InR x) :
    Calls Try.prog 12 #[v] w fun e w' => e = .returned (.int .i64 (totS l)) ∧ Below w.heap.size w w' := by
  have hk := fun W hW => implMg v l W hW hr
  have hn := mgd_nrm l
  have hw0 := mgd_wide (M := 9223372036854775807) (l := l) (fun x hx => (hr x hx).2.2)
  have hml := (mgd_length l).1
  have t1 := @totS_none l
  have t2 := @totS_wide l
  have t3 := @totS_sum l
  generalize totS l = T at t1 t2 t3 ⊢
  generalize mgd l = m at hk hn hw0 hml t1 t2 t3
  obtain ⟨hn1, hn2⟩ := hn
  clear hn2
  have HT3 : Hid (¬ m = [] → wideS m = false → T = sumS m) := t3
  have HT2 : Hid (wideS m = true → T = -1) := t2
  have HN : Hid (∀ x ∈ m, 0 ≤ x.1 ∧ x.1 ≤ x.2) := hn1
  have HW : Hid (∀ x ∈ m, x.2 ≤ 9223372036854775807) := hw0
  have hmx := mixed
  clear t3 t2 hn1 hw0 hr
  obtain ⟨a, cap, rfl, _, _, _⟩ := h.two
  go_enter Try.func12, Try.ntmps12
  go_wp2_with fail
  refine (hk _ h).mono ?_
  rintro e w1 ⟨u, rfl, ho, hb1⟩
  have HB : Hid (Below w.heap.size w w1) := hb1
  have HO : Hid (Sls spnE w1 u m) := ho.sls
  obtain ⟨a2, c2, rfl, q1, q2, q3⟩ := HO.out.two
  clear hk h hb1 ho
  by_cases h0 : m.length = 0
  · have HT : Hid (-1 = T) := (t1 (List.eq_nil_of_length_eq_zero h0)).symm
    rw [h0]
    go_wp2
    go_ret
    exact ⟨ret_int8 HT.out, HB.out⟩
  · have hne : ¬ m = [] := fun e => h0 (by rw [e]; rfl)
    have dz : ((m.length : Int) == 0) = false := by simp; omega
    clear t1
    go_wp2
    go_loopw [4, 14] (fun s i wr => ∃ (j : Nat), j ≤ m.length ∧ i = .int .i64 j ∧ s = .int .i64 (sumS (m.take j)) ∧ Hid (Below w1.heap.size w1 wr) ∧ Hid (wideS (m.take j) = false)) (fun _ i _ => m.length - (intOf i).toNat)
    case atStart => exact ⟨0, Nat.zero_le _, rfl, rfl, Below.refl _ _, rfl⟩
    case round =>
      obtain ⟨j, hj, rfl, rfl, hb, hwd⟩ := hrel
      obtain ⟨b1, b2⟩ := sum_take HN.out hml hwd.out
      by_cases hlt : j < m.length
      · obtain ⟨g, o, rfl, hg, hc⟩ := q3 (by omega)
        have e1 := (hb.out.cell (p := ⟨g, o + j * 2, Option.none⟩) hg).trans (hc j hlt).1
        have e2 := (hb.out.cell (p := ⟨g, o + j * 2 + 1, Option.none⟩) hg).trans (hc j hlt).2
        have hx := HN.out m[j] (List.getElem_mem hlt)
        have hx2 := HW.out m[j] (List.getElem_mem hlt)
        have hs := sumS_next hlt
        have k1 := @wideS_hit m j hlt
        have k2 := @wideS_step m j hlt hwd.out
        generalize m[j] = x at e1 e2 hx hx2 hs k1 k2
        obtain ⟨x1, x2⟩ := x
        simp only at e1 e2 hx hx2 hs k1 k2
        have bW : Hid (Below w1.heap.size w1 (wr.alloc (.cells #[.int .i64 x1, .int .i64 x2] 30))) := low_alloc hb.out _
        have ew : IntKind.i64.wrap (x2 - x1) = x2 - x1 := by rw [IntKind.wrap_i64]; omega
        by_cases hwide : 1099511627776 ≤ x2 - x1
        · have HT : Hid (-1 = T) := (HT2.out (k1 hwide)).symm
          have dl : decide (1099511627776 ≤ x2 - x1) = true := decide_eq_true hwide
          clear k1 k2 hs hc q3
          go_wp2
          go_ret
          exact ⟨ret_int8 HT.out, HB.out.trans (bW.out.mono HB.out.size)⟩
        · have HW2 : Hid (wideS (m.take (j + 1)) = false) := k2 hwide
          have HS : Hid (sumS (m.take (j + 1)) = sumS (m.take j) + (x2 - x1 + 1)) := hs
          have dl : decide (1099511627776 ≤ x2 - x1) = false := decide_eq_false hwide
          have ew2 : IntKind.i64.wrap (x2 - x1 + 1) = x2 - x1 + 1 := by rw [IntKind.wrap_i64]; omega
          generalize sumS (m.take j) = S at b1 b2 HS
          have ew3 : IntKind.i64.wrap (S + (x2 - x1 + 1)) = S + (x2 - x1 + 1) := by rw [IntKind.wrap_i64]; omega
          clear k1 k2 hs hc q3
          go_wp2
          go_roundw
          case rel => exact ⟨j + 1, by omega, by go_num, by rw [HS.out], bW, HW2⟩
          case measure => simp [intOf]; omega
      · obtain rfl : j = m.length := by omega
        rw [List.take_length] at *
        have HT : Hid (sumS m = T) := (HT3.out hne hwd.out).symm
        generalize sumS m = S at HT b1 b2
        go_wp2
        go_ret
        exact ⟨ret_int8 HT.out, HB.out.trans (hb.out.mono HB.out.size)⟩
theorem cloneS (s : ByteArray) (w : World) (h : s.size ≤ 1048576) :
    Calls Try.prog 32 #[.string s] w fun e w' => e = .returned (.string s) ∧ Below w.heap.size w w' := by
  go_enter Try.func32, Try.ntmps32
  go_wp2_with (go_at_call 39; refine (Try.stringslite_Clone s _ (by omega)).mono ?_; rintro e w1 ⟨rfl, hb1⟩)
  go_ret
  exact ⟨rfl, hb1⟩
set_option maxHeartbeats 1000000 in
theorem implCut (b : ByteArray) (x : Sp) (w : World) (hb : b.size ≤ 1048576) (hr : InR x) :
    Calls Try.prog 21 #[.string b, spV x] w fun e w' => e = .returned (.string (cutS b x)) ∧ Below w.heap.size w w' := by
  have hk := fun W => implSpn x W
  have hn := @cutS_no b x
  have hy := @cutS_yes b x
  have hi := @spB_iff x
  obtain ⟨p, q⟩ := x
  obtain ⟨⟨r1, r2⟩, r3, r4⟩ := hr
  simp only at r1 r2 r3 r4 hi hn hy
  have B0 : Hid (Below w.heap.size w (w.alloc (.cells #[.int .i64 p, .int .i64 q] 30))) := (Below.refl _ w).alloc (Nat.le_refl _) _
  have c0 : Hid (∀ W, Below (w.heap.size + 1) (w.alloc (.cells #[.int .i64 p, .int .i64 q] 30)) W → W.cell? ⟨w.heap.size, 0, Option.none⟩ = some (.int .i64 p) ∧ W.cell? ⟨w.heap.size, 1, Option.none⟩ = some (.int .i64 q)) := fun W hW => by
    constructor
    · exact (hW.cell (p := ⟨w.heap.size, 0, Option.none⟩) (Nat.lt_succ_self _)).trans (World.cell?_alloc_mark _ _ _ _ _)
    · exact (hW.cell (p := ⟨w.heap.size, 1, Option.none⟩) (Nat.lt_succ_self _)).trans (World.cell?_alloc_mark _ _ _ _ _)
  unfold spV at hk ⊢
  generalize cutS b (p, q) = R at hn hy ⊢
  generalize spB (p, q) = ok at hk hn hy hi
  go_enter Try.func21, Try.ntmps21
  go_wp2_with fail
  refine (hk _).mono ?_
  rintro e w1 ⟨rfl, hg1⟩
  have B1 : Hid (Below w.heap.size w w1) := B0.out.trans (hg1.1.mono (by simp))
  obtain ⟨d0, d1⟩ := c0.out w1 (by simpa using hg1.1)
  clear hk hg1 c0
  cases ok with
  | false =>
    have HR : Hid (⟨#[]⟩ = R) := (hn (fun h => by cases h.1)).symm
    clear hn hy hi
    go_wp2
    go_ret
    exact ⟨ret_txt8 HR.out, B1.out⟩
  | true =>
    have hpq := hi.1 rfl
    by_cases hlt : q < b.size
    · have HR : Hid (b.extract p.toNat (q + 1).toNat = R) := (hy rfl hlt).symm
      have dl : decide ((b.size : Int) ≤ q) = false := decide_eq_false (by omega)
      clear hn hy hi
      obtain ⟨p, rfl⟩ := Int.eq_ofNat_of_zero_le hpq.1
      obtain ⟨q, rfl⟩ := Int.eq_ofNat_of_zero_le (show 0 ≤ q by omega)
      have e1 : ((q : Int) + 1).toNat = q + 1 := by omega
      have e2 : ((p : Int)).toNat = p := by omega
      rw [e1, e2] at HR
      have hcl := fun W => cloneS (b.extract p (q + 1)) W (by rw [ByteArray.size_extract]; omega)
      go_wp2_with (go_at_call 32; refine (hcl _).mono ?_; rintro e w2 ⟨rfl, hb2⟩; have HB2 : Hid _ := hb2; clear hb2)
      go_ret
      exact ⟨ret_txt8 HR.out, B1.out.trans (HB2.out.mono B1.out.size)⟩
    · have HR : Hid (⟨#[]⟩ = R) := (hn (fun h => hlt h.2)).symm
      have dl : decide ((b.size : Int) ≤ q) = true := decide_eq_true (by omega)
      clear hn hy hi
      go_wp2
      go_ret
      exact ⟨ret_txt8 HR.out, B1.out⟩
end Go.Proofs.Ytamfgjgmnnnjpaa
