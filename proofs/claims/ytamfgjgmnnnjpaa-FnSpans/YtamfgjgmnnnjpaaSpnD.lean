/-
  The specification's Total and Cut by their contracts.
-/
import Derived.Test.YtamfgjgmnnnjpaaSpnC
namespace Go.Proofs.Ytamfgjgmnnnjpaa
open Go.RowKit Go.Sort
set_option linter.unusedVariables false

theorem ret_int8 {a b : Int} (h : a = b) : Ending.returned (.int .i64 a) = .returned (.int .i64 b) := by rw [h]
theorem sum_take {l : List Sp} {j : Nat} (h1 : ∀ x ∈ l, 0 ≤ x.1 ∧ x.1 ≤ x.2) (hl : l.length ≤ 10) (hw : wideS (l.take j) = false) : 0 ≤ sumS (l.take j) ∧ sumS (l.take j) ≤ 10995116277760 := by
  have := sumS_bound (fun x hx => h1 x (List.mem_of_mem_take hx)) hw
  have h2 : (l.take j).length ≤ 10 := by rw [List.length_take]; omega
  omega
set_option maxHeartbeats 2000000 in
theorem specTot (v : Value) (l : List Sp) (w : World) (h : Sls spnE w v l) (hr : ∀ x ∈ l, InR x) :
    Calls Try.prog 13 #[v] w fun e w' => e = .returned (.int .i64 (totS l)) ∧ Below w.heap.size w w' := by
  have hk := fun W hW => specMg v l W hW hr
  have hn := mgd_nrm l
  have hw0 := mgd_wide (M := 9223372036854775807) (l := l) (fun x hx => (hr x hx).2.2)
  have hml := (mgd_length l).1
  have t1 := @totS_none l
  have t2 := @totS_wide l
  have t3 := @totS_sum l
  generalize totS l = T at t1 t2 t3 ⊢
  generalize mgd l = m at hk hn hw0 hml t1 t2 t3
  obtain ⟨hn1, hn2⟩ := hn
  clear hn2
  have HT3 : Hid (¬ m = [] → wideS m = false → T = sumS m) := t3
  have HT2 : Hid (wideS m = true → T = -1) := t2
  have HN : Hid (∀ x ∈ m, 0 ≤ x.1 ∧ x.1 ≤ x.2) := hn1
  have HW : Hid (∀ x ∈ m, x.2 ≤ 9223372036854775807) := hw0
  have hmx := mixed
  clear t3 t2 hn1 hw0 hr
  obtain ⟨a, cap, rfl, _, _, _⟩ := h.two
  go_enter Try.func13, Try.ntmps13
  go_wp2_with fail
  refine (hk _ h).mono ?_
  rintro e w1 ⟨u, rfl, ho, hb1⟩
  have HB : Hid (Below w.heap.size w w1) := hb1
  have HO : Hid (Sls spnE w1 u m) := ho.sls
  obtain ⟨a2, c2, rfl, q1, q2, q3⟩ := HO.out.two
  clear hk h hb1 ho
  by_cases h0 : m.length = 0
  · have HT : Hid (-1 = T) := (t1 (List.eq_nil_of_length_eq_zero h0)).symm
    rw [h0]
    go_wp2
    go_ret
    exact ⟨ret_int8 HT.out, HB.out⟩
  · have hne : ¬ m = [] := fun e => h0 (by rw [e]; rfl)
    have dz : ((m.length : Int) == 0) = false := by simp; omega
    clear t1
    go_wp2
    go_loopw [4, 5] (fun s i wr => ∃ (j n : Nat), j ≤ m.length ∧ i = .int .i64 j ∧ s = .int .i64 (sumS (m.take j)) ∧ wr = w1.drewN n ∧ Hid (wideS (m.take j) = false)) (fun _ i _ => m.length - (intOf i).toNat)
    case atStart => exact ⟨0, 0, Nat.zero_le _, rfl, rfl, rfl, rfl⟩
    case round =>
      obtain ⟨j, n, hj, rfl, rfl, rfl, hwd⟩ := hrel
      obtain ⟨b1, b2⟩ := sum_take HN.out hml hwd.out
      by_cases hlt : j < m.length
      · obtain ⟨g, o, rfl, hg, hc⟩ := q3 (by omega)
        obtain ⟨e1, e2⟩ := hc j hlt
        have hx := HN.out m[j] (List.getElem_mem hlt)
        have hx2 := HW.out m[j] (List.getElem_mem hlt)
        have hs := sumS_next hlt
        have k1 := @wideS_hit m j hlt
        have k2 := @wideS_step m j hlt hwd.out
        generalize m[j] = x at e1 e2 hx hx2 hs k1 k2
        obtain ⟨x1, x2⟩ := x
        simp only at e1 e2 hx hx2 hs k1 k2
        by_cases hwide : 1099511627776 ≤ x2 - x1
        · have HT : Hid (-1 = T) := (HT2.out (k1 hwide)).symm
          have dl : decide (1099511627776 ≤ x2 - x1) = true := decide_eq_true hwide
          have ew : IntKind.i64.wrap (x2 - x1) = x2 - x1 := by rw [IntKind.wrap_i64]; omega
          clear k1 k2 hs hc q3
          go_wp2
          go_quiet (fail)
          go_wp2
          go_ret
          exact ⟨ret_int8 HT.out, belowN (belowN HB.out)⟩
        · have HW2 : Hid (wideS (m.take (j + 1)) = false) := k2 hwide
          have HS : Hid (sumS (m.take (j + 1)) = sumS (m.take j) + (x2 - x1 + 1)) := hs
          have dl : decide (1099511627776 ≤ x2 - x1) = false := decide_eq_false hwide
          have ew : IntKind.i64.wrap (x2 - x1) = x2 - x1 := by rw [IntKind.wrap_i64]; omega
          have ev : IntKind.i64.wrap (sumS (m.take j) + x2) = sumS (m.take j) + x2 ∨ True := .inr trivial
          generalize sumS (m.take j) = S at b1 b2 HS ev
          clear k1 k2 hs hc q3 ev
          go_wp2
          go_quiet (fail)
          go_wp2
          go_quiet (fail)
          go_wp2
          go_roundw
          case rel => exact ⟨j + 1, _, by omega, by go_num, by rw [HS.out]; (congr 1; unfold wrap64; omega), rfl, HW2⟩
          case measure => simp [intOf]; omega
      · obtain rfl : j = m.length := by omega
        rw [List.take_length] at *
        have HT : Hid (sumS m = T) := (HT3.out hne hwd.out).symm
        generalize sumS m = S at HT b1 b2
        go_wp2
        go_ret
        exact ⟨ret_int8 HT.out, belowN HB.out⟩
/-- What Cut answers. -/
def cutS (b : ByteArray) (x : Sp) : ByteArray := if spB x = true ∧ x.2 < b.size then b.extract x.1.toNat (x.2 + 1).toNat else ⟨#[]⟩
theorem cutS_no {b : ByteArray} {x : Sp} (h : ¬ (spB x = true ∧ x.2 < b.size)) : cutS b x = ⟨#[]⟩ := by unfold cutS; rw [if_neg h]
theorem cutS_yes {b : ByteArray} {x : Sp} (h1 : spB x = true) (h2 : x.2 < b.size) : cutS b x = b.extract x.1.toNat (x.2 + 1).toNat := by unfold cutS; rw [if_pos ⟨h1, h2⟩]
theorem ret_txt8 {a b : ByteArray} (h : a = b) : Ending.returned (.string a) = .returned (.string b) := by rw [h]
set_option maxHeartbeats 1000000 in
theorem specCut (b : ByteArray) (x : Sp) (w : World) (hb : b.size ≤ maxLen) (hr : InR x) :
    Calls Try.prog 19 #[.string b, spV x] w fun e w' => e = .returned (.string (cutS b x)) ∧ Below w.heap.size w w' := by
  have hk := fun W => specSpn x W
  have hn := @cutS_no b x
  have hy := @cutS_yes b x
  have hi := @spB_iff x
  unfold maxLen at hb
  obtain ⟨p, q⟩ := x
  obtain ⟨⟨r1, r2⟩, r3, r4⟩ := hr
  simp only at r1 r2 r3 r4 hi hn hy
  have B0 : Hid (Below w.heap.size w (w.alloc (.cells #[.int .i64 p, .int .i64 q] 30))) := (Below.refl _ w).alloc (Nat.le_refl _) _
  have c0 : Hid (∀ W, Below (w.heap.size + 1) (w.alloc (.cells #[.int .i64 p, .int .i64 q] 30)) W → W.cell? ⟨w.heap.size, 0, Option.none⟩ = some (.int .i64 p) ∧ W.cell? ⟨w.heap.size, 1, Option.none⟩ = some (.int .i64 q)) := fun W hW => by
    constructor
    · exact (hW.cell (p := ⟨w.heap.size, 0, Option.none⟩) (Nat.lt_succ_self _)).trans (World.cell?_alloc_mark _ _ _ _ _)
    · exact (hW.cell (p := ⟨w.heap.size, 1, Option.none⟩) (Nat.lt_succ_self _)).trans (World.cell?_alloc_mark _ _ _ _ _)
  unfold spV at hk ⊢
  generalize cutS b (p, q) = R at hn hy ⊢
  generalize spB (p, q) = ok at hk hn hy hi
  go_enter Try.func19, Try.ntmps19
  go_wp2_with fail
  refine (hk _).mono ?_
  rintro e w1 ⟨rfl, hb1⟩
  have B1 : Hid (Below w.heap.size w w1) := B0.out.trans (hb1.mono (by simp))
  obtain ⟨d0, d1⟩ := c0.out w1 (by simpa using hb1)
  clear hk hb1 c0
  cases ok with
  | false =>
    have HR : Hid (⟨#[]⟩ = R) := (hn (fun h => by cases h.1)).symm
    clear hn hy hi
    go_wp2
    go_ret
    exact ⟨ret_txt8 HR.out, B1.out⟩
  | true =>
    have hpq := hi.1 rfl
    by_cases hlt : q < b.size
    · have HR : Hid (b.extract p.toNat (q + 1).toNat = R) := (hy rfl hlt).symm
      have dl : decide ((b.size : Int) ≤ q) = false := decide_eq_false (by omega)
      clear hn hy hi
      obtain ⟨p, rfl⟩ := Int.eq_ofNat_of_zero_le hpq.1
      obtain ⟨q, rfl⟩ := Int.eq_ofNat_of_zero_le (show 0 ≤ q by omega)
      have e1 : ((q : Int) + 1).toNat = q + 1 := by omega
      have e2 : ((p : Int)).toNat = p := by omega
      rw [e1, e2] at HR
      go_wp2
      go_ret
      exact ⟨ret_txt8 HR.out, B1.out⟩
    · have HR : Hid (⟨#[]⟩ = R) := (hn (fun h => hlt h.2)).symm
      have dl : decide ((b.size : Int) ≤ q) = true := decide_eq_true (by omega)
      clear hn hy hi
      go_wp2
      go_ret
      exact ⟨ret_txt8 HR.out, B1.out⟩
end Go.Proofs.Ytamfgjgmnnnjpaa
