/-
  The picked number of the laws on messages.
  A request is read from what it is shown as: the walk of the law, given what the program's functions answer.
  A response is read from what it is shown as: the walk of the law, given what the program's functions answer.
-/
import Derived.Test.YteibacmohplblaaGreatDoorG34
import Derived.Test.YteibacmohplblaaGreatDoorG23
import Derived.Test.YteibacmohplblaaGreatDoorG22
import Derived.Lib.QuietBelow
namespace Go.Proofs.YteibacmohplblaaGreatDoor
open Go.RowKit

theorem take_ext6 (s : ByteArray) (k : Nat) : (s.extract 0 k).data.toList = s.data.toList.take k := by
  rw [ByteArray.data_extract, Array.toList_extract]
  simp [List.extract]
theorem size_ext6 (s : ByteArray) (k : Nat) : (s.extract 0 k).size ≤ s.size := by
  have : (s.extract 0 k).data.toList.length = (s.extract 0 k).size := by simp
  rw [← this, take_ext6, List.length_take]
  have : s.data.toList.length = s.size := by simp
  omega
theorem ret_ofp {a b : Int} (h : a = b) : Ending.returned (.int .i64 a) = Ending.returned (.int .i64 b) := by rw [h]
theorem code8_onp {w w' : World} {sa : Option Addr} {sl : Nat} (h : Code8 w w.heap.size sa sl) (hb : Below w.heap.size w w') : Code8 w' w'.heap.size sa sl := by
  intro j hj
  obtain ⟨g, o, z, h1, h2, h3⟩ := (h.kept hb (Nat.le_refl _)) j hj
  have := hb.size
  exact ⟨g, o, z, h1, by omega, h3⟩
set_option maxHeartbeats 400000 in
theorem pick5 (sa : Option Addr) (sl sc : Nat) (n : Nat) (hn1 : 1 ≤ n) (hn2 : n ≤ 10000) (w : World) (hc : Code8 w w.heap.size sa sl) (hl : sl ≤ 4096) :
    Calls Tryz.prog 14 #[.slice sa sl sc, .int .i64 1, .int .i64 (n : Int)] w fun e w' => (∃ r : Nat, e = .returned (.int .i64 r) ∧ r < n) ∧ w = w' := by
  have hnz : ((n : Int) == 0) = false := by simp; omega
  go_enter Tryz.func14, Tryz.ntmps14
  go_wp2
  go_loop [7, 8] (fun x i => ∃ (k : Nat) (p : Int), k ≤ sl ∧ i = .int .i64 k ∧ x = .int .i64 p ∧ 0 ≤ p ∧ p ≤ 1000002) (fun _ i => sl - (intOf i).toNat)
  case atStart => exact ⟨0, _, Nat.zero_le _, rfl, rfl, by omega, by omega⟩
  case round =>
    obtain ⟨k, p, hk, rfl, rfl, b0, b1⟩ := hrel
    by_cases hlt : k < sl
    · obtain ⟨g, o, z, rfl, hg, hcell, hz0, hz1⟩ := hc k hlt
      clear hc
      go_wp2
      go_round
      case rel => exact ⟨k + 1, _, by omega, by go_num, rfl, by omega, by omega⟩
      case measure => simp [intOf]; omega
    · obtain rfl : k = sl := by omega
      have e0 : p.tmod (n : Int) = p % (n : Int) := Int.tmod_eq_emod_of_nonneg b0
      have e1 : 0 ≤ p % (n : Int) := Int.emod_nonneg p (by omega)
      have e2 : p % (n : Int) < (n : Int) := Int.emod_lt_of_pos p (by omega)
      obtain ⟨r, hr⟩ := Int.eq_ofNat_of_zero_le e1
      have hrn : r < n := by omega
      have hr2 : p.tmod (n : Int) = (r : Int) := e0.trans hr
      have hw : IntKind.i64.wrap (r : Int) = (r : Int) := by rw [IntKind.wrap_i64]; omega
      go_wp2
      go_ret
      exact ⟨⟨r, by first | rfl | exact ret_ofp hr | exact ret_ofp hr2 | (simp [hr2, hw, hr]), hrn⟩, rfl⟩

end Go.Proofs.YteibacmohplblaaGreatDoor
namespace Go.Proofs.YteibacmohplblaaGreatDoor
open Go.RowKit Go.Sort
set_option linter.unusedVariables false

theorem rq_in6 {w : World} {B : Nat} {v : Value} {r : Rq} (h : HasF w B v r.l) (hok : rqOk r = true) : RqIn w v r := by
  unfold rqOk at hok
  simp only [Bool.and_eq_true, decide_eq_true_eq] at hok
  exact ⟨h.fits (ownB_parts hok.2.2.1).1, by have := met_size hok.1; omega, by have := tar_size hok.2.1; omega, by omega⟩

set_option maxHeartbeats 8000000 in
set_option maxRecDepth 100000 in
theorem fnRq (X : World → Prop) (hX : ∀ w w', X w → Below w.heap.size w w' → X w')
    (hiS : ∀ (r : Rq) (v : Value) (w : World), X w → RqIn w v r → Calls Tryz.prog 9 #[rqV r v] w fun e w' => e = .returned (.string (shRq r)) ∧ Below w.heap.size w w')
    (hiO : ∀ (r : Rq) (v : Value) (w : World), X w → RqIn w v r → Calls Tryz.prog 11 #[rqV r v] w fun e w' => e = .returned (.bool (rqOk r)) ∧ Below w.heap.size w w')
    (hiR : ∀ (t : ByteArray) (w : World), X w → t.size ≤ 1048576 → Calls Tryz.prog 13 #[.string t] w fun e w' => GivesQ w w' e (rdRq t.data.toList))
    (hiF : ∀ (v : Value) (l : List Fl) (w : World), X w → Fits w v l → Calls Tryz.prog 19 #[v] w fun e w' => e = .returned (frmE (frm l)) ∧ Below w.heap.size w w')
    (sa : Option Addr) (sl sc : Nat) (zs : List Int) (w : World) (hw : IsRow w sa sl sc zs) (hx : X w) :
    Calls Tryz.prog 3 #[.slice sa sl sc] w fun e w' => e = .returned (.bool true) ∧ Below w.heap.size w w' := by
  by_cases hbig : 4096 < sl
  · have hlen := hw.len
    clear hw
    go_enter Tryz.func3, Tryz.ntmps3
    go_wp2_with (go_at_call 7; refine (isBig sa sl sc _ hbig hlen).mono ?_; rintro e w1 ⟨rfl, rfl⟩)
    go_ret
    exact ⟨rfl, Below.refl _ _⟩
  · have hl : sl ≤ 4096 := by omega
    have h8 : Hid (Code8 w w.heap.size sa sl) := hw.code.code
    have hSh : Hid (∀ (r : Rq) (v : Value) (W : World), Below w.heap.size w W → RqIn W v r → Calls Tryz.prog 9 #[rqV r v] W fun e w' => e = .returned (.string (shRq r)) ∧ Below W.heap.size W w') := fun r v W hb hin => hiS r v W (hX w W hx hb) hin
    have hOk : Hid (∀ (r : Rq) (v : Value) (W : World), Below w.heap.size w W → RqIn W v r → Calls Tryz.prog 11 #[rqV r v] W fun e w' => e = .returned (.bool (rqOk r)) ∧ Below W.heap.size W w') := fun r v W hb hin => hiO r v W (hX w W hx hb) hin
    have hRd : Hid (∀ (t : ByteArray) (W : World), Below w.heap.size w W → t.size ≤ 1048576 → Calls Tryz.prog 13 #[.string t] W fun e w' => GivesQ W w' e (rdRq t.data.toList)) := fun t W hb ht => hiR t W (hX w W hx hb) ht
    have hFr : Hid (∀ (v : Value) (l : List Fl) (W : World), Below w.heap.size w W → Fits W v l → Calls Tryz.prog 19 #[v] W fun e w' => e = .returned (frmE (frm l)) ∧ Below W.heap.size W w') := fun v l W hb hf => hiF v l W (hX w W hx hb) hf
    clear hw hbig hx hX hiS hiO hiR hiF
    go_enter Tryz.func3, Tryz.ntmps3
    go_wp2_with fail
    refine (notBig sa sl sc _ hl).mono ?_
    rintro e w0 ⟨rfl, rfl⟩
    go_wp2_with fail
    refine (drawShQ sa sl sc _ h8.out hl).mono ?_
    rintro e w1 ⟨⟨r, u, rfl, ho, hsm⟩, hb1⟩
    have B1 : Hid (Below w.heap.size w w1) := hb1
    have I1' : RqIn w1 u r := ⟨ho.fitsU hsm.2.2.1, by have := hsm.1; omega, by have := hsm.2.1; omega, by have := hsm.2.2.2; omega⟩
    obtain ⟨A1, cap1, rfl, _⟩ := ho.form
    have I1 : Hid (RqIn w1 (.slice A1 r.l.length cap1) r) := I1'
    have hsz : (shRq r).size ≤ 7000 := shRq_small hsm
    have hlr : r.l.length ≤ 1048576 := by have := hsm.2.2.1.1; omega
    have c1 := hSh.out r (.slice A1 r.l.length cap1) (w1.alloc (.cells #[.string r.m, .string r.t, .slice A1 r.l.length cap1, .string r.b] 26)) (hb1.alloc hb1.size _) (I1'.kept ((Below.refl _ w1).alloc (Nat.le_refl _) _))
    have hki : Hid (∀ (W : World) (v : Value), Below w.heap.size w W → RqIn W v r → Calls Tryz.prog 11 #[rqV r v] W fun e w' => e = .returned (.bool (rqOk r)) ∧ Below W.heap.size W w') := fun W v hb hin => hOk.out r v W hb hin
    have hks : Hid (∀ (W : World) (v : Value), RqIn W v r → Calls Tryz.prog 12 #[rqV r v] W fun e w' => e = .returned (.bool (rqOk r)) ∧ Below W.heap.size W w') := fun W v hin => specRqOk r v W hin
    have hss : Hid (∀ (W : World) (v : Value), RqIn W v r → Calls Tryz.prog 10 #[rqV r v] W fun e w' => e = .returned (.string (shRq r)) ∧ Below W.heap.size W w') := fun W v hin => specShRq r v W hin
    have hbk : Hid (0 < (shRq r).size → ∀ W, Below w.heap.size w W → Calls Tryz.prog 13 #[.string (shRq r ++ (⟨#[71, 69, 84, 32, 47, 32]⟩ : ByteArray))] W fun e w' => GivesQ W w' e (0, r, ((shRq r).size : Int))) := fun h0 W hb => by
      have := hRd.out (shRq r ++ (⟨#[71, 69, 84, 32, 47, 32]⟩ : ByteArray)) W hb (by rw [ByteArray.size_append]; show (shRq r).size + 6 ≤ 1048576; omega)
      rw [add_list, (rq_back h0 _).1] at this
      exact this
    have hct : Hid (0 < (shRq r).size → ∀ k, k < (shRq r).size → ∃ (K : Int) (q : Rq), ¬ K = 0 ∧ ∀ W, Below w.heap.size w W → Calls Tryz.prog 13 #[.string ((shRq r).extract 0 k)] W fun e w' => GivesQ W w' e (K, q, 0)) := fun h0 k hk => by
      have hcc := rq_cut h0 hk
      refine ⟨(rdRq ((shRq r).data.toList.take k)).1, (rdRq ((shRq r).data.toList.take k)).2.1, hcc.1, fun W hb => ?_⟩
      have := hRd.out ((shRq r).extract 0 k) W hb (by have := size_ext6 (shRq r) k; omega)
      rw [take_ext6] at this
      have e3 := hcc.2
      generalize rdRq ((shRq r).data.toList.take k) = P at this e3 ⊢
      obtain ⟨K, q, N⟩ := P
      simp only at e3
      subst e3
      exact this
    have hlk : Hid (∀ (W : World) (u u' : Value), Fls W u r.l → Fls W u' r.l → Calls Tryz.prog 15 #[rqV r u, rqV r u'] W fun e w' => e = .returned (.bool true) ∧ Below W.heap.size W w') := fun W u u' F F' => likeQ r u u' W F F' hlr
    generalize shRq r = s at c1 hss hbk hct hsz
    generalize rqOk r = okr at hki hks
    unfold GivesQ at hbk hct
    unfold rqV at c1 hki hks hss hlk hbk ⊢
    simp only at hbk hct
    clear hb1 ho I1' hsm hlr
    go_wp2_with fail
    refine c1.mono ?_
    rintro e' w2 ⟨rfl, hb2⟩
    have C2 : Hid (RqB w2 w1.heap.size r (.slice A1 r.l.length cap1)) := (RqB.new w1 r _ _).next hb2
    have B2 : Hid (Below w.heap.size w w2) := pastA6 B1.out hb2
    have I2 : Hid (RqIn w2 (.slice A1 r.l.length cap1) r) := (I1.out.kept ((Below.refl _ w1).alloc (Nat.le_refl _) _)).kept hb2
    clear c1 hb2 B1 I1
    go_wp2
    have k0 := cell_regrown C2.out.c0
    have k1 := cell_regrown C2.out.c1
    have k2 := cell_regrown C2.out.c2
    have k3 := cell_regrown C2.out.c3
    have cS : ∀ d os, Calls Tryz.prog 10 #[.agg #[.string r.m, .string r.t, .slice A1 r.l.length cap1, .string r.b]] (grow (redrawn w2 d) os) fun e' w'' => e' = .returned (.string s) ∧ ∃ p : Regrown, w'' = grow (redrawn w2 p.d) p.os := fun d os => Calls.regrown_of (hss.out _ _ (I2.out.kept (below_regrown w2 d os)))
    have cI : ∀ d os, Calls Tryz.prog 11 #[.agg #[.string r.m, .string r.t, .slice A1 r.l.length cap1, .string r.b]] (grow (redrawn w2 d) os) fun e' w'' => e' = .returned (.bool okr) ∧ ∃ p : Regrown, w'' = grow (redrawn w2 p.d) p.os := fun d os => Calls.regrown_of (hki.out _ _ (past6 B2.out (below_regrown w2 d os)) (I2.out.kept (below_regrown w2 d os)))
    have cK : ∀ d os, Calls Tryz.prog 12 #[.agg #[.string r.m, .string r.t, .slice A1 r.l.length cap1, .string r.b]] (grow (redrawn w2 d) os) fun e' w'' => e' = .returned (.bool okr) ∧ ∃ p : Regrown, w'' = grow (redrawn w2 p.d) p.os := fun d os => Calls.regrown_of (hks.out _ _ (I2.out.kept (below_regrown w2 d os)))
    refine wp_region_quiet_below (by kernel_rfl) (by kernel_rfl) ?_
    repeat (quiet_step (first | exact cS _ _ | exact cI _ _ | exact cK _ _))
    refine wpQuiet_nil ?_
    intro _ hw'
    obtain ⟨⟨dq, osq⟩, hw''⟩ := hw'
    subst hw''
    have hb4 := below_regrown w2 dq osq
    generalize grow (redrawn w2 dq) osq = w4 at hb4 ⊢
    have C4 : Hid (RqB w4 w1.heap.size r (.slice A1 r.l.length cap1)) := C2.out.next hb4
    have B4 : Hid (Below w.heap.size w w4) := past6 B2.out hb4
    have I4 : Hid (RqIn w4 (.slice A1 r.l.length cap1) r) := I2.out.kept hb4
    clear k0 k1 k2 k3 cS cI cK hb4 C2 B2 I2 hss hki hks
    by_cases h0 : s.size = 0
    · have e1 := void5 h0
      have e2 : s.toList.isEmpty = true := by rw [e1]; rfl
      have H0 : Hid (s.size = 0) := h0
      clear hbk hct hlk C4 I4 h0
      go_wp2_with fail
      refine (drawRdQ sa sl sc _ (code8_onp h8.out B4.out) hl).mono ?_
      rintro e' x1 ⟨t, rfl, ht, hc1⟩
      have E1 : Hid (Below w.heap.size w x1) := past6 B4.out hc1
      clear hc1
      have ci : Hid (∀ W, Below w.heap.size w W → Calls Tryz.prog 13 #[.string t] W fun e w' => GivesQ W w' e (rdRq t.data.toList)) := fun W hb => hRd.out t W hb (by omega)
      have cs : Hid (∀ W, Calls Tryz.prog 17 #[.string t] W fun e w' => GivesQ W w' e (rdRq t.data.toList)) := fun W => specRdRq t W (by omega)
      have hfew := rq_few t.data.toList
      have hY : Hid ((rdRq t.data.toList).1 = 0 → rqOk (rdRq t.data.toList).2.1 = true) := fun h => (rq_right h).1
      have hN : Hid (¬ (rdRq t.data.toList).1 = 0 → (rdRq t.data.toList).2.2 = 0) := fun h => by rw [rq_fails h]
      have hG : Hid ((rdRq t.data.toList).1 = 0 → 0 < (rdRq t.data.toList).2.2) := fun h => (rq_right h).2
      unfold GivesQ at ci cs
      generalize rdRq t.data.toList = P at ci cs hfew hY hN hG
      obtain ⟨K, y, N⟩ := P
      simp only at ci cs hfew hY hN hG
      have hll : y.l.length ≤ 1048576 := by omega
      have lk : Hid (∀ (W : World) (u u' : Value), Fls W u y.l → Fls W u' y.l → Calls Tryz.prog 15 #[rqV y u, rqV y u'] W fun e w' => e = .returned (.bool true) ∧ Below W.heap.size W w') := fun W u u' F F' => likeQ y u u' W F F' hll
      have ko : Hid (∀ (W : World) (u : Value), Below w.heap.size w W → RqIn W u y → Calls Tryz.prog 11 #[rqV y u] W fun e w' => e = .returned (.bool (rqOk y)) ∧ Below W.heap.size W w') := fun W u hb hin => hOk.out y u W hb hin
      unfold rqV at ci cs lk ko
      clear hfew hll ht
      go_wp2_with fail
      refine (ci.out _ E1.out).mono ?_
      rintro e' x2 ⟨u2, rfl, p2, hc2⟩
      have E2' : Hid (Below w.heap.size w x2) := past6 E1.out hc2
      have al2 : Below x2.heap.size x2 (x2.alloc (.cells #[.string y.m, .string y.t, u2, .string y.b] 26)) := (Below.refl _ x2).alloc (Nat.le_refl _) _
      have E2 : Hid (Below w.heap.size w (x2.alloc (.cells #[.string y.m, .string y.t, u2, .string y.b] 26))) := past6 E2'.out al2
      have P2' := p2.kept al2
      have J2' : RqB (x2.alloc (.cells #[.string y.m, .string y.t, u2, .string y.b] 26)) x2.heap.size y u2 := RqB.new x2 y u2 _
      obtain ⟨a2, cap2, rfl, _⟩ := p2.form
      have P2 : Hid (HasF (x2.alloc (.cells #[.string y.m, .string y.t, .slice a2 y.l.length cap2, .string y.b] 26)) x1.heap.size (.slice a2 y.l.length cap2) y.l) := P2'
      have J2 : Hid (RqB (x2.alloc (.cells #[.string y.m, .string y.t, .slice a2 y.l.length cap2, .string y.b] 26)) x2.heap.size y (.slice a2 y.l.length cap2)) := J2'
      clear p2 hc2 P2' J2' al2 E2' E1 ci
      go_wp2_with fail
      refine (cs.out _).mono ?_
      rintro e' x3 ⟨u3, rfl, p3, hc3⟩
      have E3' : Hid (Below w.heap.size w x3) := past6 E2.out hc3
      have al3 : Hid (Below x3.heap.size x3 (x3.alloc (.cells #[.string y.m, .string y.t, u3, .string y.b] 26))) := (Below.refl _ x3).alloc (Nat.le_refl _) _
      have E3 : Hid (Below w.heap.size w (x3.alloc (.cells #[.string y.m, .string y.t, u3, .string y.b] 26))) := past6 E3'.out al3.out
      have P3 : Hid (HasF (x3.alloc (.cells #[.string y.m, .string y.t, u3, .string y.b] 26)) x1.heap.size (.slice a2 y.l.length cap2) y.l) := (P2.out.kept hc3).kept al3.out
      have J3 : Hid (RqB (x3.alloc (.cells #[.string y.m, .string y.t, u3, .string y.b] 26)) x2.heap.size y (.slice a2 y.l.length cap2)) := (J2.out.next hc3).alloc _
      have Q3' := p3.kept al3.out
      have L3' : RqB (x3.alloc (.cells #[.string y.m, .string y.t, u3, .string y.b] 26)) x3.heap.size y u3 := RqB.new x3 y u3 _
      have lt3 : x2.heap.size < x3.heap.size := by have := hc3.size; simp at this; omega
      obtain ⟨a3, cap3, rfl, _⟩ := p3.form
      have F3 : Hid (Fls (x3.alloc (.cells #[.string y.m, .string y.t, .slice a3 y.l.length cap3, .string y.b] 26)) (.slice a3 y.l.length cap3) y.l) := Q3'.fls
      have L3 : Hid (RqB (x3.alloc (.cells #[.string y.m, .string y.t, .slice a3 y.l.length cap3, .string y.b] 26)) x3.heap.size y (.slice a3 y.l.length cap3)) := L3'
      clear p3 hc3 Q3' L3' al3 E3' E2 P2 J2 cs
      have k0 := J3.out.c0
      have k1 := J3.out.c1
      have k2 := J3.out.c2
      have k3 := J3.out.c3
      have j0 := L3.out.c0
      have j1 := L3.out.c1
      have j2 := L3.out.c2
      have j3 := L3.out.c3
      go_wp2_with fail
      refine (lk.out _ _ _ P3.out.fls F3.out).mono ?_
      rintro e' x4 ⟨rfl, hc4⟩
      have E4 : Hid (Below w.heap.size w x4) := past6 E3.out hc4
      have P4 : Hid (HasF x4 x1.heap.size (.slice a2 y.l.length cap2) y.l) := P3.out.kept hc4
      have J4 : Hid (RqB x4 x2.heap.size y (.slice a2 y.l.length cap2)) := J3.out.next hc4
      clear k0 k1 k2 k3 j0 j1 j2 j3 hc4 E3 P3 J3 F3 L3 lk lt3
      go_wp2_with fail
      refine (drawFrm sa sl sc _ (code8_onp h8.out E4.out) hl).mono ?_
      rintro e' x5 ⟨⟨uf, lf, rfl, hof, hsf⟩, hc5⟩
      have E5 : Hid (Below w.heap.size w x5) := past6 E4.out hc5
      have P5 : Hid (HasF x5 x1.heap.size (.slice a2 y.l.length cap2) y.l) := P4.out.kept hc5
      have J5 : Hid (RqB x5 x2.heap.size y (.slice a2 y.l.length cap2)) := J4.out.next hc5
      have F5' : Fits x5 uf lf := hof.fitsU hsf
      obtain ⟨af, capf, rfl, _⟩ := hof.form
      have F5 : Hid (Fits x5 (.slice af lf.length capf) lf) := F5'
      have fi := hFr.out (.slice af lf.length capf) lf x5 E5.out F5'
      have fs : Hid (∀ W, Fits W (.slice af lf.length capf) lf → Calls Tryz.prog 20 #[.slice af lf.length capf] W fun e w' => e = .returned (frmE (frm lf)) ∧ Below W.heap.size W w') := fun W h => specFrm _ lf W h
      generalize frm lf = g at fi fs
      obtain ⟨g1, g2⟩ := g
      unfold frmE at fi fs
      simp only at fi fs
      clear hc5 E4 P4 J4 hof hsf F5'
      go_wp2_with fail
      refine fi.mono ?_
      rintro e' x6 ⟨rfl, hc6⟩
      have E6 : Hid (Below w.heap.size w x6) := past6 E5.out hc6
      have P6 : Hid (HasF x6 x1.heap.size (.slice a2 y.l.length cap2) y.l) := P5.out.kept hc6
      have J6 : Hid (RqB x6 x2.heap.size y (.slice a2 y.l.length cap2)) := J5.out.next hc6
      have F6 : Hid (Fits x6 (.slice af lf.length capf) lf) := F5.out.kept hc6
      clear hc6 E5 P5 J5 F5 fi
      go_wp2_with fail
      refine (fs.out _ F6.out).mono ?_
      rintro e' x7 ⟨rfl, hc7⟩
      have E7 : Hid (Below w.heap.size w x7) := past6 E6.out hc7
      have P7 : Hid (HasF x7 x1.heap.size (.slice a2 y.l.length cap2) y.l) := P6.out.kept hc7
      have J7 : Hid (RqB x7 x2.heap.size y (.slice a2 y.l.length cap2)) := J6.out.next hc7
      clear hc7 E6 P6 J6 F6 fs
      have k0 := J7.out.c0
      have k1 := J7.out.c1
      have k2 := J7.out.c2
      have k3 := J7.out.c3
      by_cases hK : K = 0
      · have hy := hY.out hK
        have hin : Hid (RqIn x7 (.slice a2 y.l.length cap2) y) := rq_in6 P7.out hy
        rw [hy] at ko
        have hpos := hG.out hK
        subst hK
        clear hY hN hG hy
        go_wp2_with fail
        refine (ko.out _ _ E7.out hin.out).mono ?_
        rintro e' x8 ⟨rfl, hc8⟩
        have E8 : Hid (Below w.heap.size w x8) := past6 E7.out hc8
        clear k0 k1 k2 k3 hc8 E7 P7 J7 ko hin
        go_wp2
        go_ret
        exact ⟨rfl, E8.out⟩
      · have hn := hN.out hK
        subst hn
        clear hY hN hG
        go_wp2
        go_ret
        exact ⟨rfl, E7.out⟩
    · have e1 := full5 h0
      have e2 : s.toList.isEmpty = false := by simpa using e1
      have z1 : (s ++ (⟨#[71, 69, 84, 32, 47, 32]⟩ : ByteArray)).size = s.size + 6 := by rw [ByteArray.size_append]; rfl
      have q1 : ¬ 9223372036854775807 < s.size + 6 := by omega
      have hb := hbk.out (by omega)
      have hc := hct.out (by omega)
      clear hbk hct
      have Hc : Hid (∀ k, k < s.size → ∃ (K : Int) (q : Rq), ¬ K = 0 ∧ ∀ W, Below w.heap.size w W → Calls Tryz.prog 13 #[.string (s.extract 0 k)] W fun e w' => ∃ u, e = .returned (.tuple #[rqV q u, .int .i64 0, .int .i64 K]) ∧ HasF w' W.heap.size u q.l ∧ Below W.heap.size W w') := hc
      have hb' := hb w4 B4.out
      clear hb hc
      go_wp2_with fail
      refine hb'.mono ?_
      rintro e' w5 ⟨u5, rfl, p5, hb5⟩
      have B5' : Hid (Below w.heap.size w w5) := past6 B4.out hb5
      have al5 : Hid (Below w5.heap.size w5 (w5.alloc (.cells #[.string r.m, .string r.t, u5, .string r.b] 26))) := (Below.refl _ w5).alloc (Nat.le_refl _) _
      have B5 : Hid (Below w.heap.size w (w5.alloc (.cells #[.string r.m, .string r.t, u5, .string r.b] 26))) := past6 B5'.out al5.out
      have C5 : Hid (RqB (w5.alloc (.cells #[.string r.m, .string r.t, u5, .string r.b] 26)) w1.heap.size r (.slice A1 r.l.length cap1)) := (C4.out.next hb5).alloc _
      have I5 : Hid (RqIn (w5.alloc (.cells #[.string r.m, .string r.t, u5, .string r.b] 26)) (.slice A1 r.l.length cap1) r) := (I4.out.kept hb5).kept al5.out
      have P5' := p5.kept al5.out
      have J5' : RqB (w5.alloc (.cells #[.string r.m, .string r.t, u5, .string r.b] 26)) w5.heap.size r u5 := RqB.new w5 r u5 _
      obtain ⟨a5, cap5, rfl, _⟩ := p5.form
      have P5 : Hid (Fls (w5.alloc (.cells #[.string r.m, .string r.t, .slice a5 r.l.length cap5, .string r.b] 26)) (.slice a5 r.l.length cap5) r.l) := P5'.fls
      have J5 : Hid (RqB (w5.alloc (.cells #[.string r.m, .string r.t, .slice a5 r.l.length cap5, .string r.b] 26)) w5.heap.size r (.slice a5 r.l.length cap5)) := J5'
      clear p5 hb5 P5' J5' al5 B5' C4 I4 B4 hb' z1 q1
      go_wp2_with fail
      refine (pick5 _ _ _ s.size (by omega) (by omega) _ (code8_onp h8.out B5.out) hl).mono ?_
      rintro e' w6 ⟨⟨kk, rfl, hkk⟩, rfl⟩
      obtain ⟨K, q, hK, hq⟩ := Hc.out kk hkk
      unfold rqV at hq
      have hq' := hq _ B5.out
      have HK : Hid (¬ K = 0) := hK
      clear Hc hq hK
      go_wp2_with fail
      refine hq'.mono ?_
      rintro e' w7 ⟨u7, rfl, p7, hb7⟩
      obtain ⟨a7, cap7, rfl, _⟩ := p7.form
      have al7 : Hid (Below w7.heap.size w7 (w7.alloc (.cells #[.string q.m, .string q.t, .slice a7 q.l.length cap7, .string q.b] 26))) := (Below.refl _ w7).alloc (Nat.le_refl _) _
      have B7 : Hid (Below w.heap.size w (w7.alloc (.cells #[.string q.m, .string q.t, .slice a7 q.l.length cap7, .string q.b] 26))) := past6 (past6 B5.out hb7) al7.out
      have C7 : Hid (RqB (w7.alloc (.cells #[.string q.m, .string q.t, .slice a7 q.l.length cap7, .string q.b] 26)) w1.heap.size r (.slice A1 r.l.length cap1)) := (C5.out.next hb7).alloc _
      have I7 : Hid (RqIn (w7.alloc (.cells #[.string q.m, .string q.t, .slice a7 q.l.length cap7, .string q.b] 26)) (.slice A1 r.l.length cap1) r) := (I5.out.kept hb7).kept al7.out
      have P7 : Hid (Fls (w7.alloc (.cells #[.string q.m, .string q.t, .slice a7 q.l.length cap7, .string q.b] 26)) (.slice a5 r.l.length cap5) r.l) := (P5.out.kept hb7).kept al7.out
      have J7 : Hid (RqB (w7.alloc (.cells #[.string q.m, .string q.t, .slice a7 q.l.length cap7, .string q.b] 26)) w5.heap.size r (.slice a5 r.l.length cap5)) := (J5.out.next hb7).alloc _
      have lt7 : w5.heap.size < w7.heap.size := by have := hb7.size; simp at this; omega
      have lt1 : w1.heap.size < w5.heap.size + 1 := by have := C5.out.hi; simp at this; omega
      clear p7 hb7 al7 B5 C5 I5 P5 J5 hq'
      have k0 := J7.out.c0
      have k1 := J7.out.c1
      have k2 := J7.out.c2
      have k3 := J7.out.c3
      have j0 := C7.out.c0
      have j1 := C7.out.c1
      have j2 := C7.out.c2
      have j3 := C7.out.c3
      go_wp2_with fail
      refine (hlk.out _ _ _ P7.out I7.out.1.1).mono ?_
      rintro e' w8 ⟨rfl, hb8⟩
      have B8 : Hid (Below w.heap.size w w8) := past6 B7.out hb8
      have hK : ¬ K = 0 := HK.out
      clear k0 k1 k2 k3 j0 j1 j2 j3 hb8 B7 C7 I7 P7 J7 lt7 lt1 hlk HK
      go_wp2_with fail
      refine (drawRdQ sa sl sc _ (code8_onp h8.out B8.out) hl).mono ?_
      rintro e' x1 ⟨t, rfl, ht, hc1⟩
      have E1 : Hid (Below w.heap.size w x1) := past6 B8.out hc1
      clear hc1
      have ci : Hid (∀ W, Below w.heap.size w W → Calls Tryz.prog 13 #[.string t] W fun e w' => GivesQ W w' e (rdRq t.data.toList)) := fun W hb => hRd.out t W hb (by omega)
      have cs : Hid (∀ W, Calls Tryz.prog 17 #[.string t] W fun e w' => GivesQ W w' e (rdRq t.data.toList)) := fun W => specRdRq t W (by omega)
      have hfew := rq_few t.data.toList
      have hY : Hid ((rdRq t.data.toList).1 = 0 → rqOk (rdRq t.data.toList).2.1 = true) := fun h => (rq_right h).1
      have hN : Hid (¬ (rdRq t.data.toList).1 = 0 → (rdRq t.data.toList).2.2 = 0) := fun h => by rw [rq_fails h]
      have hG : Hid ((rdRq t.data.toList).1 = 0 → 0 < (rdRq t.data.toList).2.2) := fun h => (rq_right h).2
      unfold GivesQ at ci cs
      generalize rdRq t.data.toList = P at ci cs hfew hY hN hG
      obtain ⟨K, y, N⟩ := P
      simp only at ci cs hfew hY hN hG
      have hll : y.l.length ≤ 1048576 := by omega
      have lk : Hid (∀ (W : World) (u u' : Value), Fls W u y.l → Fls W u' y.l → Calls Tryz.prog 15 #[rqV y u, rqV y u'] W fun e w' => e = .returned (.bool true) ∧ Below W.heap.size W w') := fun W u u' F F' => likeQ y u u' W F F' hll
      have ko : Hid (∀ (W : World) (u : Value), Below w.heap.size w W → RqIn W u y → Calls Tryz.prog 11 #[rqV y u] W fun e w' => e = .returned (.bool (rqOk y)) ∧ Below W.heap.size W w') := fun W u hb hin => hOk.out y u W hb hin
      unfold rqV at ci cs lk ko
      clear hfew hll ht
      go_wp2_with fail
      refine (ci.out _ E1.out).mono ?_
      rintro e' x2 ⟨u2, rfl, p2, hc2⟩
      have E2' : Hid (Below w.heap.size w x2) := past6 E1.out hc2
      have al2 : Below x2.heap.size x2 (x2.alloc (.cells #[.string y.m, .string y.t, u2, .string y.b] 26)) := (Below.refl _ x2).alloc (Nat.le_refl _) _
      have E2 : Hid (Below w.heap.size w (x2.alloc (.cells #[.string y.m, .string y.t, u2, .string y.b] 26))) := past6 E2'.out al2
      have P2' := p2.kept al2
      have J2' : RqB (x2.alloc (.cells #[.string y.m, .string y.t, u2, .string y.b] 26)) x2.heap.size y u2 := RqB.new x2 y u2 _
      obtain ⟨a2, cap2, rfl, _⟩ := p2.form
      have P2 : Hid (HasF (x2.alloc (.cells #[.string y.m, .string y.t, .slice a2 y.l.length cap2, .string y.b] 26)) x1.heap.size (.slice a2 y.l.length cap2) y.l) := P2'
      have J2 : Hid (RqB (x2.alloc (.cells #[.string y.m, .string y.t, .slice a2 y.l.length cap2, .string y.b] 26)) x2.heap.size y (.slice a2 y.l.length cap2)) := J2'
      clear p2 hc2 P2' J2' al2 E2' E1 ci
      go_wp2_with fail
      refine (cs.out _).mono ?_
      rintro e' x3 ⟨u3, rfl, p3, hc3⟩
      have E3' : Hid (Below w.heap.size w x3) := past6 E2.out hc3
      have al3 : Hid (Below x3.heap.size x3 (x3.alloc (.cells #[.string y.m, .string y.t, u3, .string y.b] 26))) := (Below.refl _ x3).alloc (Nat.le_refl _) _
      have E3 : Hid (Below w.heap.size w (x3.alloc (.cells #[.string y.m, .string y.t, u3, .string y.b] 26))) := past6 E3'.out al3.out
      have P3 : Hid (HasF (x3.alloc (.cells #[.string y.m, .string y.t, u3, .string y.b] 26)) x1.heap.size (.slice a2 y.l.length cap2) y.l) := (P2.out.kept hc3).kept al3.out
      have J3 : Hid (RqB (x3.alloc (.cells #[.string y.m, .string y.t, u3, .string y.b] 26)) x2.heap.size y (.slice a2 y.l.length cap2)) := (J2.out.next hc3).alloc _
      have Q3' := p3.kept al3.out
      have L3' : RqB (x3.alloc (.cells #[.string y.m, .string y.t, u3, .string y.b] 26)) x3.heap.size y u3 := RqB.new x3 y u3 _
      have lt3 : x2.heap.size < x3.heap.size := by have := hc3.size; simp at this; omega
      obtain ⟨a3, cap3, rfl, _⟩ := p3.form
      have F3 : Hid (Fls (x3.alloc (.cells #[.string y.m, .string y.t, .slice a3 y.l.length cap3, .string y.b] 26)) (.slice a3 y.l.length cap3) y.l) := Q3'.fls
      have L3 : Hid (RqB (x3.alloc (.cells #[.string y.m, .string y.t, .slice a3 y.l.length cap3, .string y.b] 26)) x3.heap.size y (.slice a3 y.l.length cap3)) := L3'
      clear p3 hc3 Q3' L3' al3 E3' E2 P2 J2 cs
      have k0 := J3.out.c0
      have k1 := J3.out.c1
      have k2 := J3.out.c2
      have k3 := J3.out.c3
      have j0 := L3.out.c0
      have j1 := L3.out.c1
      have j2 := L3.out.c2
      have j3 := L3.out.c3
      go_wp2_with fail
      refine (lk.out _ _ _ P3.out.fls F3.out).mono ?_
      rintro e' x4 ⟨rfl, hc4⟩
      have E4 : Hid (Below w.heap.size w x4) := past6 E3.out hc4
      have P4 : Hid (HasF x4 x1.heap.size (.slice a2 y.l.length cap2) y.l) := P3.out.kept hc4
      have J4 : Hid (RqB x4 x2.heap.size y (.slice a2 y.l.length cap2)) := J3.out.next hc4
      clear k0 k1 k2 k3 j0 j1 j2 j3 hc4 E3 P3 J3 F3 L3 lk lt3
      go_wp2_with fail
      refine (drawFrm sa sl sc _ (code8_onp h8.out E4.out) hl).mono ?_
      rintro e' x5 ⟨⟨uf, lf, rfl, hof, hsf⟩, hc5⟩
      have E5 : Hid (Below w.heap.size w x5) := past6 E4.out hc5
      have P5 : Hid (HasF x5 x1.heap.size (.slice a2 y.l.length cap2) y.l) := P4.out.kept hc5
      have J5 : Hid (RqB x5 x2.heap.size y (.slice a2 y.l.length cap2)) := J4.out.next hc5
      have F5' : Fits x5 uf lf := hof.fitsU hsf
      obtain ⟨af, capf, rfl, _⟩ := hof.form
      have F5 : Hid (Fits x5 (.slice af lf.length capf) lf) := F5'
      have fi := hFr.out (.slice af lf.length capf) lf x5 E5.out F5'
      have fs : Hid (∀ W, Fits W (.slice af lf.length capf) lf → Calls Tryz.prog 20 #[.slice af lf.length capf] W fun e w' => e = .returned (frmE (frm lf)) ∧ Below W.heap.size W w') := fun W h => specFrm _ lf W h
      generalize frm lf = g at fi fs
      obtain ⟨g1, g2⟩ := g
      unfold frmE at fi fs
      simp only at fi fs
      clear hc5 E4 P4 J4 hof hsf F5'
      go_wp2_with fail
      refine fi.mono ?_
      rintro e' x6 ⟨rfl, hc6⟩
      have E6 : Hid (Below w.heap.size w x6) := past6 E5.out hc6
      have P6 : Hid (HasF x6 x1.heap.size (.slice a2 y.l.length cap2) y.l) := P5.out.kept hc6
      have J6 : Hid (RqB x6 x2.heap.size y (.slice a2 y.l.length cap2)) := J5.out.next hc6
      have F6 : Hid (Fits x6 (.slice af lf.length capf) lf) := F5.out.kept hc6
      clear hc6 E5 P5 J5 F5 fi
      go_wp2_with fail
      refine (fs.out _ F6.out).mono ?_
      rintro e' x7 ⟨rfl, hc7⟩
      have E7 : Hid (Below w.heap.size w x7) := past6 E6.out hc7
      have P7 : Hid (HasF x7 x1.heap.size (.slice a2 y.l.length cap2) y.l) := P6.out.kept hc7
      have J7 : Hid (RqB x7 x2.heap.size y (.slice a2 y.l.length cap2)) := J6.out.next hc7
      clear hc7 E6 P6 J6 F6 fs
      have k0 := J7.out.c0
      have k1 := J7.out.c1
      have k2 := J7.out.c2
      have k3 := J7.out.c3
      by_cases hK : K = 0
      · have hy := hY.out hK
        have hin : Hid (RqIn x7 (.slice a2 y.l.length cap2) y) := rq_in6 P7.out hy
        rw [hy] at ko
        have hpos := hG.out hK
        subst hK
        clear hY hN hG hy
        go_wp2_with fail
        refine (ko.out _ _ E7.out hin.out).mono ?_
        rintro e' x8 ⟨rfl, hc8⟩
        have E8 : Hid (Below w.heap.size w x8) := past6 E7.out hc8
        clear k0 k1 k2 k3 hc8 E7 P7 J7 ko hin
        go_wp2
        go_ret
        exact ⟨rfl, E8.out⟩
      · have hn := hN.out hK
        subst hn
        clear hY hN hG
        go_wp2
        go_ret
        exact ⟨rfl, E7.out⟩
end Go.Proofs.YteibacmohplblaaGreatDoor
namespace Go.Proofs.YteibacmohplblaaGreatDoor
open Go.RowKit Go.Sort
set_option linter.unusedVariables false

theorem rs_in6 {w : World} {B : Nat} {v : Value} {r : Rs} (h : HasF w B v r.l) (hok : rsOk r = true) : RsIn w v r := by
  unfold rsOk at hok
  simp only [Bool.and_eq_true, decide_eq_true_eq] at hok
  exact ⟨h.fits (ownB_parts hok.2.1).1, by omega⟩

set_option maxHeartbeats 8000000 in
set_option maxRecDepth 100000 in
theorem fnRs (X : World → Prop) (hX : ∀ w w', X w → Below w.heap.size w w' → X w')
    (hiS : ∀ (r : Rs) (v : Value) (w : World), X w → RsIn w v r → Calls Tryz.prog 22 #[rsV r v] w fun e w' => e = .returned (.string (shRs r)) ∧ Below w.heap.size w w')
    (hiO : ∀ (r : Rs) (v : Value) (w : World), X w → RsIn w v r → Calls Tryz.prog 24 #[rsV r v] w fun e w' => e = .returned (.bool (rsOk r)) ∧ Below w.heap.size w w')
    (hiR : ∀ (t : ByteArray) (w : World), X w → t.size ≤ 1048576 → Calls Tryz.prog 26 #[.string t] w fun e w' => GivesS w w' e (rdRs t.data.toList))
    (sa : Option Addr) (sl sc : Nat) (zs : List Int) (w : World) (hw : IsRow w sa sl sc zs) (hx : X w) :
    Calls Tryz.prog 4 #[.slice sa sl sc] w fun e w' => e = .returned (.bool true) ∧ Below w.heap.size w w' := by
  by_cases hbig : 4096 < sl
  · have hlen := hw.len
    clear hw
    go_enter Tryz.func4, Tryz.ntmps4
    go_wp2_with (go_at_call 7; refine (isBig sa sl sc _ hbig hlen).mono ?_; rintro e w1 ⟨rfl, rfl⟩)
    go_ret
    exact ⟨rfl, Below.refl _ _⟩
  · have hl : sl ≤ 4096 := by omega
    have h8 : Hid (Code8 w w.heap.size sa sl) := hw.code.code
    have hSh : Hid (∀ (r : Rs) (v : Value) (W : World), Below w.heap.size w W → RsIn W v r → Calls Tryz.prog 22 #[rsV r v] W fun e w' => e = .returned (.string (shRs r)) ∧ Below W.heap.size W w') := fun r v W hb hin => hiS r v W (hX w W hx hb) hin
    have hOk : Hid (∀ (r : Rs) (v : Value) (W : World), Below w.heap.size w W → RsIn W v r → Calls Tryz.prog 24 #[rsV r v] W fun e w' => e = .returned (.bool (rsOk r)) ∧ Below W.heap.size W w') := fun r v W hb hin => hiO r v W (hX w W hx hb) hin
    have hRd : Hid (∀ (t : ByteArray) (W : World), Below w.heap.size w W → t.size ≤ 1048576 → Calls Tryz.prog 26 #[.string t] W fun e w' => GivesS W w' e (rdRs t.data.toList)) := fun t W hb ht => hiR t W (hX w W hx hb) ht
    clear hw hbig hx hX hiS hiO hiR
    go_enter Tryz.func4, Tryz.ntmps4
    go_wp2_with fail
    refine (notBig sa sl sc _ hl).mono ?_
    rintro e w0 ⟨rfl, rfl⟩
    go_wp2_with fail
    refine (drawShS sa sl sc _ h8.out hl).mono ?_
    rintro e w1 ⟨⟨r, u, rfl, ho, hsm⟩, hb1⟩
    have B1 : Hid (Below w.heap.size w w1) := hb1
    have I1' : RsIn w1 u r := ⟨ho.fitsU hsm.1, by have := hsm.2; omega⟩
    obtain ⟨A1, cap1, rfl, _⟩ := ho.form
    have I1 : Hid (RsIn w1 (.slice A1 r.l.length cap1) r) := I1'
    have hsz : (shRs r).size ≤ 7000 := shRs_small hsm
    have hlr : r.l.length ≤ 1048576 := by have := hsm.1.1; omega
    have c1 := hSh.out r (.slice A1 r.l.length cap1) (w1.alloc (.cells #[.int .i64 r.s, .slice A1 r.l.length cap1, .string r.b] 39)) (hb1.alloc hb1.size _) (I1'.kept ((Below.refl _ w1).alloc (Nat.le_refl _) _))
    have hki : Hid (∀ (W : World) (v : Value), Below w.heap.size w W → RsIn W v r → Calls Tryz.prog 24 #[rsV r v] W fun e w' => e = .returned (.bool (rsOk r)) ∧ Below W.heap.size W w') := fun W v hb hin => hOk.out r v W hb hin
    have hks : Hid (∀ (W : World) (v : Value), RsIn W v r → Calls Tryz.prog 25 #[rsV r v] W fun e w' => e = .returned (.bool (rsOk r)) ∧ Below W.heap.size W w') := fun W v hin => specRsOk r v W hin
    have hss : Hid (∀ (W : World) (v : Value), RsIn W v r → Calls Tryz.prog 23 #[rsV r v] W fun e w' => e = .returned (.string (shRs r)) ∧ Below W.heap.size W w') := fun W v hin => specShRs r v W hin
    have hbk : Hid (0 < (shRs r).size → ∀ W, Below w.heap.size w W → Calls Tryz.prog 26 #[.string (shRs r ++ (⟨#[72, 84, 84, 80]⟩ : ByteArray))] W fun e w' => GivesS W w' e (0, r, ((shRs r).size : Int))) := fun h0 W hb => by
      have := hRd.out (shRs r ++ (⟨#[72, 84, 84, 80]⟩ : ByteArray)) W hb (by rw [ByteArray.size_append]; show (shRs r).size + 4 ≤ 1048576; omega)
      rw [add_list, (rs_back h0 _).1] at this
      exact this
    have hct : Hid (0 < (shRs r).size → ∀ k, k < (shRs r).size → ∃ (K : Int) (q : Rs), ¬ K = 0 ∧ ∀ W, Below w.heap.size w W → Calls Tryz.prog 26 #[.string ((shRs r).extract 0 k)] W fun e w' => GivesS W w' e (K, q, 0)) := fun h0 k hk => by
      have hcc := rs_cut h0 hk
      refine ⟨(rdRs ((shRs r).data.toList.take k)).1, (rdRs ((shRs r).data.toList.take k)).2.1, hcc.1, fun W hb => ?_⟩
      have := hRd.out ((shRs r).extract 0 k) W hb (by have := size_ext6 (shRs r) k; omega)
      rw [take_ext6] at this
      have e3 := hcc.2
      generalize rdRs ((shRs r).data.toList.take k) = P at this e3 ⊢
      obtain ⟨K, q, N⟩ := P
      simp only at e3
      subst e3
      exact this
    have hlk : Hid (∀ (W : World) (u u' : Value), Fls W u r.l → Fls W u' r.l → Calls Tryz.prog 27 #[rsV r u, rsV r u'] W fun e w' => e = .returned (.bool true) ∧ Below W.heap.size W w') := fun W u u' F F' => likeS r u u' W F F' hlr
    generalize shRs r = s at c1 hss hbk hct hsz
    generalize rsOk r = okr at hki hks
    unfold GivesS at hbk hct
    unfold rsV at c1 hki hks hss hlk hbk ⊢
    simp only at hbk hct
    clear hb1 ho I1' hsm hlr
    go_wp2_with fail
    refine c1.mono ?_
    rintro e' w2 ⟨rfl, hb2⟩
    have C2 : Hid (RsB w2 w1.heap.size r (.slice A1 r.l.length cap1)) := (RsB.new w1 r _ _).next hb2
    have B2 : Hid (Below w.heap.size w w2) := pastA6 B1.out hb2
    have I2 : Hid (RsIn w2 (.slice A1 r.l.length cap1) r) := (I1.out.kept ((Below.refl _ w1).alloc (Nat.le_refl _) _)).kept hb2
    clear c1 hb2 B1 I1
    go_wp2
    have k0 := cell_regrown C2.out.c0
    have k1 := cell_regrown C2.out.c1
    have k2 := cell_regrown C2.out.c2
    have cS : ∀ d os, Calls Tryz.prog 23 #[.agg #[.int .i64 r.s, .slice A1 r.l.length cap1, .string r.b]] (grow (redrawn w2 d) os) fun e' w'' => e' = .returned (.string s) ∧ ∃ p : Regrown, w'' = grow (redrawn w2 p.d) p.os := fun d os => Calls.regrown_of (hss.out _ _ (I2.out.kept (below_regrown w2 d os)))
    have cI : ∀ d os, Calls Tryz.prog 24 #[.agg #[.int .i64 r.s, .slice A1 r.l.length cap1, .string r.b]] (grow (redrawn w2 d) os) fun e' w'' => e' = .returned (.bool okr) ∧ ∃ p : Regrown, w'' = grow (redrawn w2 p.d) p.os := fun d os => Calls.regrown_of (hki.out _ _ (past6 B2.out (below_regrown w2 d os)) (I2.out.kept (below_regrown w2 d os)))
    have cK : ∀ d os, Calls Tryz.prog 25 #[.agg #[.int .i64 r.s, .slice A1 r.l.length cap1, .string r.b]] (grow (redrawn w2 d) os) fun e' w'' => e' = .returned (.bool okr) ∧ ∃ p : Regrown, w'' = grow (redrawn w2 p.d) p.os := fun d os => Calls.regrown_of (hks.out _ _ (I2.out.kept (below_regrown w2 d os)))
    refine wp_region_quiet_below (by kernel_rfl) (by kernel_rfl) ?_
    repeat (quiet_step (first | exact cS _ _ | exact cI _ _ | exact cK _ _))
    refine wpQuiet_nil ?_
    intro _ hw'
    obtain ⟨⟨dq, osq⟩, hw''⟩ := hw'
    subst hw''
    have hb4 := below_regrown w2 dq osq
    generalize grow (redrawn w2 dq) osq = w4 at hb4 ⊢
    have C4 : Hid (RsB w4 w1.heap.size r (.slice A1 r.l.length cap1)) := C2.out.next hb4
    have B4 : Hid (Below w.heap.size w w4) := past6 B2.out hb4
    have I4 : Hid (RsIn w4 (.slice A1 r.l.length cap1) r) := I2.out.kept hb4
    clear k0 k1 k2 cS cI cK hb4 C2 B2 I2 hss hki hks
    by_cases h0 : s.size = 0
    · have e1 := void5 h0
      have e2 : s.toList.isEmpty = true := by rw [e1]; rfl
      have H0 : Hid (s.size = 0) := h0
      clear hbk hct hlk C4 I4 h0
      go_wp2_with fail
      refine (drawRdS sa sl sc _ (code8_onp h8.out B4.out) hl).mono ?_
      rintro e' x1 ⟨t, rfl, ht, hc1⟩
      have E1 : Hid (Below w.heap.size w x1) := past6 B4.out hc1
      clear hc1
      have ci : Hid (∀ W, Below w.heap.size w W → Calls Tryz.prog 26 #[.string t] W fun e w' => GivesS W w' e (rdRs t.data.toList)) := fun W hb => hRd.out t W hb (by omega)
      have cs : Hid (∀ W, Calls Tryz.prog 29 #[.string t] W fun e w' => GivesS W w' e (rdRs t.data.toList)) := fun W => specRdRs t W (by omega)
      have hfew := rs_few t.data.toList
      have hY : Hid ((rdRs t.data.toList).1 = 0 → rsOk (rdRs t.data.toList).2.1 = true) := fun h => rs_right h
      have hN : Hid (¬ (rdRs t.data.toList).1 = 0 → (rdRs t.data.toList).2.2 = 0) := fun h => by rw [rs_fails h]
      unfold GivesS at ci cs
      generalize rdRs t.data.toList = P at ci cs hfew hY hN
      obtain ⟨K, y, N⟩ := P
      simp only at ci cs hfew hY hN
      have hll : y.l.length ≤ 1048576 := by omega
      have lk : Hid (∀ (W : World) (u u' : Value), Fls W u y.l → Fls W u' y.l → Calls Tryz.prog 27 #[rsV y u, rsV y u'] W fun e w' => e = .returned (.bool true) ∧ Below W.heap.size W w') := fun W u u' F F' => likeS y u u' W F F' hll
      have ko : Hid (∀ (W : World) (u : Value), Below w.heap.size w W → RsIn W u y → Calls Tryz.prog 24 #[rsV y u] W fun e w' => e = .returned (.bool (rsOk y)) ∧ Below W.heap.size W w') := fun W u hb hin => hOk.out y u W hb hin
      unfold rsV at ci cs lk ko
      clear hfew hll ht
      go_wp2_with fail
      refine (ci.out _ E1.out).mono ?_
      rintro e' x2 ⟨u2, rfl, p2, hc2⟩
      have E2' : Hid (Below w.heap.size w x2) := past6 E1.out hc2
      have al2 : Below x2.heap.size x2 (x2.alloc (.cells #[.int .i64 y.s, u2, .string y.b] 39)) := (Below.refl _ x2).alloc (Nat.le_refl _) _
      have E2 : Hid (Below w.heap.size w (x2.alloc (.cells #[.int .i64 y.s, u2, .string y.b] 39))) := past6 E2'.out al2
      have P2' := p2.kept al2
      have J2' : RsB (x2.alloc (.cells #[.int .i64 y.s, u2, .string y.b] 39)) x2.heap.size y u2 := RsB.new x2 y u2 _
      obtain ⟨a2, cap2, rfl, _⟩ := p2.form
      have P2 : Hid (HasF (x2.alloc (.cells #[.int .i64 y.s, .slice a2 y.l.length cap2, .string y.b] 39)) x1.heap.size (.slice a2 y.l.length cap2) y.l) := P2'
      have J2 : Hid (RsB (x2.alloc (.cells #[.int .i64 y.s, .slice a2 y.l.length cap2, .string y.b] 39)) x2.heap.size y (.slice a2 y.l.length cap2)) := J2'
      clear p2 hc2 P2' J2' al2 E2' E1 ci
      go_wp2_with fail
      refine (cs.out _).mono ?_
      rintro e' x3 ⟨u3, rfl, p3, hc3⟩
      have E3' : Hid (Below w.heap.size w x3) := past6 E2.out hc3
      have al3 : Hid (Below x3.heap.size x3 (x3.alloc (.cells #[.int .i64 y.s, u3, .string y.b] 39))) := (Below.refl _ x3).alloc (Nat.le_refl _) _
      have E3 : Hid (Below w.heap.size w (x3.alloc (.cells #[.int .i64 y.s, u3, .string y.b] 39))) := past6 E3'.out al3.out
      have P3 : Hid (HasF (x3.alloc (.cells #[.int .i64 y.s, u3, .string y.b] 39)) x1.heap.size (.slice a2 y.l.length cap2) y.l) := (P2.out.kept hc3).kept al3.out
      have J3 : Hid (RsB (x3.alloc (.cells #[.int .i64 y.s, u3, .string y.b] 39)) x2.heap.size y (.slice a2 y.l.length cap2)) := (J2.out.next hc3).alloc _
      have Q3' := p3.kept al3.out
      have L3' : RsB (x3.alloc (.cells #[.int .i64 y.s, u3, .string y.b] 39)) x3.heap.size y u3 := RsB.new x3 y u3 _
      have lt3 : x2.heap.size < x3.heap.size := by have := hc3.size; simp at this; omega
      obtain ⟨a3, cap3, rfl, _⟩ := p3.form
      have F3 : Hid (Fls (x3.alloc (.cells #[.int .i64 y.s, .slice a3 y.l.length cap3, .string y.b] 39)) (.slice a3 y.l.length cap3) y.l) := Q3'.fls
      have L3 : Hid (RsB (x3.alloc (.cells #[.int .i64 y.s, .slice a3 y.l.length cap3, .string y.b] 39)) x3.heap.size y (.slice a3 y.l.length cap3)) := L3'
      clear p3 hc3 Q3' L3' al3 E3' E2 P2 J2 cs
      have k0 := J3.out.c0
      have k1 := J3.out.c1
      have k2 := J3.out.c2
      have j0 := L3.out.c0
      have j1 := L3.out.c1
      have j2 := L3.out.c2
      go_wp2_with fail
      refine (lk.out _ _ _ P3.out.fls F3.out).mono ?_
      rintro e' x4 ⟨rfl, hc4⟩
      have E4 : Hid (Below w.heap.size w x4) := past6 E3.out hc4
      have P4 : Hid (HasF x4 x1.heap.size (.slice a2 y.l.length cap2) y.l) := P3.out.kept hc4
      have J4 : Hid (RsB x4 x2.heap.size y (.slice a2 y.l.length cap2)) := J3.out.next hc4
      clear k0 k1 k2 j0 j1 j2 hc4 E3 P3 J3 F3 L3 lk lt3
      have k0 := J4.out.c0
      have k1 := J4.out.c1
      have k2 := J4.out.c2
      by_cases hK : K = 0
      · have hy := hY.out hK
        have hin : Hid (RsIn x4 (.slice a2 y.l.length cap2) y) := rs_in6 P4.out hy
        rw [hy] at ko
        subst hK
        clear hY hN hy
        go_wp2_with fail
        refine (ko.out _ _ E4.out hin.out).mono ?_
        rintro e' x5 ⟨rfl, hc5⟩
        have E5 : Hid (Below w.heap.size w x5) := past6 E4.out hc5
        clear k0 k1 k2 hc5 E4 P4 J4 ko hin
        go_wp2
        go_ret
        exact ⟨rfl, E5.out⟩
      · have hn := hN.out hK
        subst hn
        clear hY hN
        go_wp2
        go_ret
        exact ⟨rfl, E4.out⟩
    · have e1 := full5 h0
      have e2 : s.toList.isEmpty = false := by simpa using e1
      have z1 : (s ++ (⟨#[72, 84, 84, 80]⟩ : ByteArray)).size = s.size + 4 := by rw [ByteArray.size_append]; rfl
      have q1 : ¬ 9223372036854775807 < s.size + 4 := by omega
      have hb := hbk.out (by omega)
      have hc := hct.out (by omega)
      clear hbk hct
      have Hc : Hid (∀ k, k < s.size → ∃ (K : Int) (q : Rs), ¬ K = 0 ∧ ∀ W, Below w.heap.size w W → Calls Tryz.prog 26 #[.string (s.extract 0 k)] W fun e w' => ∃ u, e = .returned (.tuple #[rsV q u, .int .i64 0, .int .i64 K]) ∧ HasF w' W.heap.size u q.l ∧ Below W.heap.size W w') := hc
      have hb' := hb w4 B4.out
      clear hb hc
      go_wp2_with fail
      refine hb'.mono ?_
      rintro e' w5 ⟨u5, rfl, p5, hb5⟩
      have B5' : Hid (Below w.heap.size w w5) := past6 B4.out hb5
      have al5 : Hid (Below w5.heap.size w5 (w5.alloc (.cells #[.int .i64 r.s, u5, .string r.b] 39))) := (Below.refl _ w5).alloc (Nat.le_refl _) _
      have B5 : Hid (Below w.heap.size w (w5.alloc (.cells #[.int .i64 r.s, u5, .string r.b] 39))) := past6 B5'.out al5.out
      have C5 : Hid (RsB (w5.alloc (.cells #[.int .i64 r.s, u5, .string r.b] 39)) w1.heap.size r (.slice A1 r.l.length cap1)) := (C4.out.next hb5).alloc _
      have I5 : Hid (RsIn (w5.alloc (.cells #[.int .i64 r.s, u5, .string r.b] 39)) (.slice A1 r.l.length cap1) r) := (I4.out.kept hb5).kept al5.out
      have P5' := p5.kept al5.out
      have J5' : RsB (w5.alloc (.cells #[.int .i64 r.s, u5, .string r.b] 39)) w5.heap.size r u5 := RsB.new w5 r u5 _
      obtain ⟨a5, cap5, rfl, _⟩ := p5.form
      have P5 : Hid (Fls (w5.alloc (.cells #[.int .i64 r.s, .slice a5 r.l.length cap5, .string r.b] 39)) (.slice a5 r.l.length cap5) r.l) := P5'.fls
      have J5 : Hid (RsB (w5.alloc (.cells #[.int .i64 r.s, .slice a5 r.l.length cap5, .string r.b] 39)) w5.heap.size r (.slice a5 r.l.length cap5)) := J5'
      clear p5 hb5 P5' J5' al5 B5' C4 I4 B4 hb' z1 q1
      go_wp2_with fail
      refine (pick5 _ _ _ s.size (by omega) (by omega) _ (code8_onp h8.out B5.out) hl).mono ?_
      rintro e' w6 ⟨⟨kk, rfl, hkk⟩, rfl⟩
      obtain ⟨K, q, hK, hq⟩ := Hc.out kk hkk
      unfold rsV at hq
      have hq' := hq _ B5.out
      have HK : Hid (¬ K = 0) := hK
      clear Hc hq hK
      go_wp2_with fail
      refine hq'.mono ?_
      rintro e' w7 ⟨u7, rfl, p7, hb7⟩
      obtain ⟨a7, cap7, rfl, _⟩ := p7.form
      have al7 : Hid (Below w7.heap.size w7 (w7.alloc (.cells #[.int .i64 q.s, .slice a7 q.l.length cap7, .string q.b] 39))) := (Below.refl _ w7).alloc (Nat.le_refl _) _
      have B7 : Hid (Below w.heap.size w (w7.alloc (.cells #[.int .i64 q.s, .slice a7 q.l.length cap7, .string q.b] 39))) := past6 (past6 B5.out hb7) al7.out
      have C7 : Hid (RsB (w7.alloc (.cells #[.int .i64 q.s, .slice a7 q.l.length cap7, .string q.b] 39)) w1.heap.size r (.slice A1 r.l.length cap1)) := (C5.out.next hb7).alloc _
      have I7 : Hid (RsIn (w7.alloc (.cells #[.int .i64 q.s, .slice a7 q.l.length cap7, .string q.b] 39)) (.slice A1 r.l.length cap1) r) := (I5.out.kept hb7).kept al7.out
      have P7 : Hid (Fls (w7.alloc (.cells #[.int .i64 q.s, .slice a7 q.l.length cap7, .string q.b] 39)) (.slice a5 r.l.length cap5) r.l) := (P5.out.kept hb7).kept al7.out
      have J7 : Hid (RsB (w7.alloc (.cells #[.int .i64 q.s, .slice a7 q.l.length cap7, .string q.b] 39)) w5.heap.size r (.slice a5 r.l.length cap5)) := (J5.out.next hb7).alloc _
      have lt7 : w5.heap.size < w7.heap.size := by have := hb7.size; simp at this; omega
      have lt1 : w1.heap.size < w5.heap.size + 1 := by have := C5.out.hi; simp at this; omega
      clear p7 hb7 al7 B5 C5 I5 P5 J5 hq'
      have k0 := J7.out.c0
      have k1 := J7.out.c1
      have k2 := J7.out.c2
      have j0 := C7.out.c0
      have j1 := C7.out.c1
      have j2 := C7.out.c2
      go_wp2_with fail
      refine (hlk.out _ _ _ P7.out I7.out.1.1).mono ?_
      rintro e' w8 ⟨rfl, hb8⟩
      have B8 : Hid (Below w.heap.size w w8) := past6 B7.out hb8
      have hK : ¬ K = 0 := HK.out
      clear k0 k1 k2 j0 j1 j2 hb8 B7 C7 I7 P7 J7 lt7 lt1 hlk HK
      go_wp2_with fail
      refine (drawRdS sa sl sc _ (code8_onp h8.out B8.out) hl).mono ?_
      rintro e' x1 ⟨t, rfl, ht, hc1⟩
      have E1 : Hid (Below w.heap.size w x1) := past6 B8.out hc1
      clear hc1
      have ci : Hid (∀ W, Below w.heap.size w W → Calls Tryz.prog 26 #[.string t] W fun e w' => GivesS W w' e (rdRs t.data.toList)) := fun W hb => hRd.out t W hb (by omega)
      have cs : Hid (∀ W, Calls Tryz.prog 29 #[.string t] W fun e w' => GivesS W w' e (rdRs t.data.toList)) := fun W => specRdRs t W (by omega)
      have hfew := rs_few t.data.toList
      have hY : Hid ((rdRs t.data.toList).1 = 0 → rsOk (rdRs t.data.toList).2.1 = true) := fun h => rs_right h
      have hN : Hid (¬ (rdRs t.data.toList).1 = 0 → (rdRs t.data.toList).2.2 = 0) := fun h => by rw [rs_fails h]
      unfold GivesS at ci cs
      generalize rdRs t.data.toList = P at ci cs hfew hY hN
      obtain ⟨K, y, N⟩ := P
      simp only at ci cs hfew hY hN
      have hll : y.l.length ≤ 1048576 := by omega
      have lk : Hid (∀ (W : World) (u u' : Value), Fls W u y.l → Fls W u' y.l → Calls Tryz.prog 27 #[rsV y u, rsV y u'] W fun e w' => e = .returned (.bool true) ∧ Below W.heap.size W w') := fun W u u' F F' => likeS y u u' W F F' hll
      have ko : Hid (∀ (W : World) (u : Value), Below w.heap.size w W → RsIn W u y → Calls Tryz.prog 24 #[rsV y u] W fun e w' => e = .returned (.bool (rsOk y)) ∧ Below W.heap.size W w') := fun W u hb hin => hOk.out y u W hb hin
      unfold rsV at ci cs lk ko
      clear hfew hll ht
      go_wp2_with fail
      refine (ci.out _ E1.out).mono ?_
      rintro e' x2 ⟨u2, rfl, p2, hc2⟩
      have E2' : Hid (Below w.heap.size w x2) := past6 E1.out hc2
      have al2 : Below x2.heap.size x2 (x2.alloc (.cells #[.int .i64 y.s, u2, .string y.b] 39)) := (Below.refl _ x2).alloc (Nat.le_refl _) _
      have E2 : Hid (Below w.heap.size w (x2.alloc (.cells #[.int .i64 y.s, u2, .string y.b] 39))) := past6 E2'.out al2
      have P2' := p2.kept al2
      have J2' : RsB (x2.alloc (.cells #[.int .i64 y.s, u2, .string y.b] 39)) x2.heap.size y u2 := RsB.new x2 y u2 _
      obtain ⟨a2, cap2, rfl, _⟩ := p2.form
      have P2 : Hid (HasF (x2.alloc (.cells #[.int .i64 y.s, .slice a2 y.l.length cap2, .string y.b] 39)) x1.heap.size (.slice a2 y.l.length cap2) y.l) := P2'
      have J2 : Hid (RsB (x2.alloc (.cells #[.int .i64 y.s, .slice a2 y.l.length cap2, .string y.b] 39)) x2.heap.size y (.slice a2 y.l.length cap2)) := J2'
      clear p2 hc2 P2' J2' al2 E2' E1 ci
      go_wp2_with fail
      refine (cs.out _).mono ?_
      rintro e' x3 ⟨u3, rfl, p3, hc3⟩
      have E3' : Hid (Below w.heap.size w x3) := past6 E2.out hc3
      have al3 : Hid (Below x3.heap.size x3 (x3.alloc (.cells #[.int .i64 y.s, u3, .string y.b] 39))) := (Below.refl _ x3).alloc (Nat.le_refl _) _
      have E3 : Hid (Below w.heap.size w (x3.alloc (.cells #[.int .i64 y.s, u3, .string y.b] 39))) := past6 E3'.out al3.out
      have P3 : Hid (HasF (x3.alloc (.cells #[.int .i64 y.s, u3, .string y.b] 39)) x1.heap.size (.slice a2 y.l.length cap2) y.l) := (P2.out.kept hc3).kept al3.out
      have J3 : Hid (RsB (x3.alloc (.cells #[.int .i64 y.s, u3, .string y.b] 39)) x2.heap.size y (.slice a2 y.l.length cap2)) := (J2.out.next hc3).alloc _
      have Q3' := p3.kept al3.out
      have L3' : RsB (x3.alloc (.cells #[.int .i64 y.s, u3, .string y.b] 39)) x3.heap.size y u3 := RsB.new x3 y u3 _
      have lt3 : x2.heap.size < x3.heap.size := by have := hc3.size; simp at this; omega
      obtain ⟨a3, cap3, rfl, _⟩ := p3.form
      have F3 : Hid (Fls (x3.alloc (.cells #[.int .i64 y.s, .slice a3 y.l.length cap3, .string y.b] 39)) (.slice a3 y.l.length cap3) y.l) := Q3'.fls
      have L3 : Hid (RsB (x3.alloc (.cells #[.int .i64 y.s, .slice a3 y.l.length cap3, .string y.b] 39)) x3.heap.size y (.slice a3 y.l.length cap3)) := L3'
      clear p3 hc3 Q3' L3' al3 E3' E2 P2 J2 cs
      have k0 := J3.out.c0
      have k1 := J3.out.c1
      have k2 := J3.out.c2
      have j0 := L3.out.c0
      have j1 := L3.out.c1
      have j2 := L3.out.c2
      go_wp2_with fail
      refine (lk.out _ _ _ P3.out.fls F3.out).mono ?_
      rintro e' x4 ⟨rfl, hc4⟩
      have E4 : Hid (Below w.heap.size w x4) := past6 E3.out hc4
      have P4 : Hid (HasF x4 x1.heap.size (.slice a2 y.l.length cap2) y.l) := P3.out.kept hc4
      have J4 : Hid (RsB x4 x2.heap.size y (.slice a2 y.l.length cap2)) := J3.out.next hc4
      clear k0 k1 k2 j0 j1 j2 hc4 E3 P3 J3 F3 L3 lk lt3
      have k0 := J4.out.c0
      have k1 := J4.out.c1
      have k2 := J4.out.c2
      by_cases hK : K = 0
      · have hy := hY.out hK
        have hin : Hid (RsIn x4 (.slice a2 y.l.length cap2) y) := rs_in6 P4.out hy
        rw [hy] at ko
        subst hK
        clear hY hN hy
        go_wp2_with fail
        refine (ko.out _ _ E4.out hin.out).mono ?_
        rintro e' x5 ⟨rfl, hc5⟩
        have E5 : Hid (Below w.heap.size w x5) := past6 E4.out hc5
        clear k0 k1 k2 hc5 E4 P4 J4 ko hin
        go_wp2
        go_ret
        exact ⟨rfl, E5.out⟩
      · have hn := hN.out hK
        subst hn
        clear hY hN
        go_wp2
        go_ret
        exact ⟨rfl, E4.out⟩
end Go.Proofs.YteibacmohplblaaGreatDoor
