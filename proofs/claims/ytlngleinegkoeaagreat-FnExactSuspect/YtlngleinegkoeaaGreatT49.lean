/-
  The walk of FnExactSuspect, given both sides' Suspect.
-/
import Derived.Test.YtlngleinegkoeaaGreatT30
import Derived.Test.YtlngleinegkoeaaGreatT41
import Derived.Test.YtlngleinegkoeaaGreatT48
namespace Go.Proofs.YtlngleinegkoeaaGreat.Rl
open Go.RowKit Go.Sort Pg
set_option linter.unusedVariables false
set_option linter.unusedSimpArgs false

theorem SusAns.open {r : Rp} {R : Rp} {L : List Ms} (hP : susA r = (R, L)) {w w' : World} {e : Ending} (h : SusAns r w e w') : ∃ pl0 ql0 po0 qo0 pc0 qc0 pt0 qt0 M0 v T C, e = .returned (.tuple #[.agg #[.int .i64 R.id, .int .i64 R.p, .int .i64 R.v, .bool R.n, .int .i64 R.la, .slice pl0 R.l.length ql0, .int .i64 R.c, .slice po0 R.ok.length qo0, .slice pc0 R.ch.length qc0, .slice pt0 R.te.length qt0], v]) ∧ RpHas w' w.heap.size ⟨.slice pl0 R.l.length ql0, .slice po0 R.ok.length qo0, .slice pc0 R.ch.length qc0, .slice pt0 R.te.length qt0, M0⟩ R ∧ RpAp ⟨.slice pl0 R.l.length ql0, .slice po0 R.ok.length qo0, .slice pc0 R.ch.length qc0, .slice pt0 R.te.length qt0, M0⟩ ∧ (∀ x ∈ Rv.rows ⟨.slice pl0 R.l.length ql0, .slice po0 R.ok.length qo0, .slice pc0 R.ch.length qc0, .slice pt0 R.te.length qt0, M0⟩, ∀ k, x.ownBlock = some k → k < C) ∧ (w.heap.size ≤ C ∧ C ≤ w'.heap.size) ∧ MsOwn w' C v T L ∧ Below w.heap.size w w' := by
  obtain ⟨u, v, T, h1, h2⟩ := h
  rw [hP] at h1 h2
  obtain ⟨a, b, c, d, e', f, g, i, M, rfl⟩ := h2.h.got.form
  obtain ⟨C, k⟩ := h2.open
  exact ⟨a, b, c, d, e', f, g, i, M, v, T, C, h1, k⟩
theorem rp_fit {r : Rp} (h : RpOk r) : Fit r ∧ 1 + cR r ≤ 40000000 := by
  refine ⟨h.fit, ?_⟩
  have h1 := logB_sm h.l
  have h2 := h.te5
  have h3 := h.ok5
  have h4 := h.ch5
  have h5 := sum_le_mul (r.te.map fun m => m.l.length) 60 (fun x hx => by obtain ⟨m, hm, rfl⟩ := List.mem_map.1 hx; exact (h2.2 m hm).1)
  rw [List.length_map] at h5
  have h6 : r.te.length * 60 ≤ 5 * 60 := Nat.mul_le_mul_right _ h2.1
  unfold cR
  omega
theorem susA_fit (r : Rp) : (Fit (susA r).1 ∧ 1 + cR (susA r).1 ≤ 40000000) ∧ Few (susA r).2 := by
  by_cases h : RpOk r
  · have e : susA r = susF r := by unfold susA; exact if_pos h
    rw [e]
    unfold susF
    split
    · exact ⟨rp_fit h, few_nil⟩
    · rename_i hv
      have hv1 := h.v
      have hk := (told_kp (ask_kp h (v := r.v + 1) (by omega) (by omega)).ok).ok
      exact ⟨rp_fit hk, sprL_few hk⟩
  · have e : susA r = (noRp, []) := by unfold susA; exact if_neg h
    rw [e]
    exact ⟨⟨noRp_fit.1, by decide⟩, few_nil⟩
def frRss (s t : Nat → Value) : Act := { tmps := #[s 0, s 1, s 2, s 3, s 4, s 5, s 6, s 7, s 8, s 9, s 10, s 11, s 12, s 13, s 14, s 15, s 16, s 17, s 18, s 19, s 20, s 21, s 22, s 23, s 24, s 25, s 26, s 27, s 28, s 29, s 30, s 31, s 32, s 33, s 34, s 35, s 36, s 37, s 38, s 39, s 40, s 41, t 42, t 43, t 44, t 45, s 46, s 47, s 48, s 49, s 50, s 51, s 52, s 53, s 54, s 55, s 56, s 57, s 58, s 59, s 60, s 61, s 62, s 63, s 64, s 65, s 66, s 67, s 68, s 69, s 70, s 71, s 72, s 73, s 74, s 75, s 76, s 77, s 78, s 79, s 80, s 81, s 82, s 83, s 84, s 85, s 86, s 87, s 88, s 89, s 90, s 91, s 92, s 93, s 94, s 95, s 96, s 97, s 98, s 99, s 100, s 101, s 102, s 103, s 104, s 105, s 106, s 107, s 108, s 109, s 110, s 111], defers := [] }
def dRss (i : Nat) : Nat := i + 42
def GRss (r : Rp) (pl4 : Option Addr) (ql4 : Nat) (po4 : Option Addr) (qo4 : Nat) (pc4 : Option Addr) (qc4 : Nat) (pt4 : Option Addr) (qt4 : Nat) (plA : Option Addr) (qlA : Nat) (poA : Option Addr) (qoA : Nat) (pcA : Option Addr) (qcA : Nat) (ptA : Option Addr) (qtA : Nat) (i : Nat) (x : World) (v : Value) : Prop := match i with
  | 0 => v = .agg #[.int .i64 r.id, .int .i64 r.p, .int .i64 r.v, .bool r.n, .int .i64 r.la, .slice pl4 r.l.length ql4, .int .i64 r.c, .slice po4 r.ok.length qo4, .slice pc4 r.ch.length qc4, .slice pt4 r.te.length qt4]
  | 1 => v = .agg #[.int .i64 r.id, .int .i64 r.p, .int .i64 r.v, .bool r.n, .int .i64 r.la, .slice plA r.l.length qlA, .int .i64 r.c, .slice poA r.ok.length qoA, .slice pcA r.ch.length qcA, .slice ptA r.te.length qtA]
  | 2 => ∃ (p1 : Option Addr) (d1 : Nat) (p2 : Option Addr) (d2 : Nat) (p3 : Option Addr) (d3 : Nat) (p4 : Option Addr) (d4 : Nat), v = .agg #[.int .i64 r.id, .int .i64 r.p, .int .i64 r.v, .bool r.n, .int .i64 r.la, .slice p1 r.l.length d1, .int .i64 r.c, .slice p2 r.ok.length d2, .slice p3 r.ch.length d3, .slice p4 r.te.length d4] ∧ GotM x r p1 d1 p2 d2 p3 d3 p4 d4
  | 3 => v = .bool true
  | _ => True
theorem GRss.keep {r : Rp} {pl4 : Option Addr} {ql4 : Nat} {po4 : Option Addr} {qo4 : Nat} {pc4 : Option Addr} {qc4 : Nat} {pt4 : Option Addr} {qt4 : Nat} {plA : Option Addr} {qlA : Nat} {poA : Option Addr} {qoA : Nat} {pcA : Option Addr} {qcA : Nat} {ptA : Option Addr} {qtA : Nat} {x y : World} (hb : Below x.heap.size x y) (j : Nat) (v : Value) (hj : j < 4) (h : GRss r pl4 ql4 po4 qo4 pc4 qc4 pt4 qt4 plA qlA poA qoA pcA qcA ptA qtA j x v) : GRss r pl4 ql4 po4 qo4 pc4 qc4 pt4 qt4 plA qlA poA qoA pcA qcA ptA qtA j y v := by
  rcases (show j = 0 ∨ j = 1 ∨ j = 2 ∨ j = 3 by omega) with rfl | rfl | rfl | rfl
  · exact h
  · exact h
  · obtain ⟨p1, d1, p2, d2, p3, d3, p4, d4, h1, h2⟩ := h; exact ⟨p1, d1, p2, d2, p3, d3, p4, d4, h1, h2.kept hb⟩
  · exact h
set_option maxRecDepth 100000 in
set_option maxHeartbeats 32000000 in
theorem walkSus (r : Rp) (u : Rv) (w : World) (h : RpGot w u r) (hL : Lens r) :
    Calls Tryz.prog 9 #[rpA r u] w fun e w' => e = .returned (.bool true) ∧ Below w.heap.size w w' := by
  obtain ⟨plA, qlA, poA, qoA, pcA, qcA, ptA, qtA, MA, rfl⟩ := h.form
  have HI : Hid (RpGot w ⟨.slice plA r.l.length qlA, .slice poA r.ok.length qoA, .slice pcA r.ch.length qcA, .slice ptA r.te.length qtA, MA⟩ r) := h
  have hsz := fun W hW => szRp r ⟨.slice plA r.l.length qlA, .slice poA r.ok.length qoA, .slice pcA r.ch.length qcA, .slice ptA r.te.length qtA, MA⟩ 1048576 (by decide) (by decide) W hW hL
  have hto := fun (hf : Fit r) W hW => toRpS r ⟨.slice plA r.l.length qlA, .slice poA r.ok.length qoA, .slice pcA r.ch.length qcA, .slice ptA r.te.length qtA, MA⟩ W hW hf
  have hel := fun (r : Rp) ux uy W hx hy (hf : Fit r) => eqRp r ux uy W hx hy hf
  have hRf := (susA_fit r).1.1
  have hRc := (susA_fit r).1.2
  have hFw := (susA_fit r).2
  obtain ⟨R, L, hP⟩ : ∃ R L, susA r = (R, L) := ⟨_, _, rfl⟩
  rw [hP] at hRf hRc hFw
  have hsp := fun (hf : Fit r) ux W hW => (specSusR r ux W hW hf).mono fun e w' hh => hh.open hP
  have him := fun (hf : Fit r) ux W hW => (implSusR r ux W hW hf).mono fun e w' hh => hh.open hP
  have hkl := fun (hf : Fit r) (hc : 1 + cR r ≤ 50000000) ux B W (hW : RpHas W B ux r) hap => (show Calls Tryz.prog 59 #[rpA r ux, .int .i64 1] W (fun e w' => e = .returned (.int .i64 (kR r)) ∧ ChS (Bl ux.rows) W w') from (markRp 1 (by decide) r ux B hc W hW hap hf).mono fun e w' hh => ⟨hh.1, hh.2.2⟩)
  have HFW : Hid (Few L) := hFw
  have hk0 : ¬ kR r < 0 := kR_nn r
  generalize kR r = kk at hkl hk0
  have HRF : Hid (Fit R) := hRf
  have hkm := fun u lo hi W (h : RpF lo hi u R W) hap => markRp1 hRf (by omega) W h hap
  have hhd := fun u lo hi W (h : RpF lo hi (mkRv 1 R u) (mkRp 1 R u.T) W) ht => heldRp1 hRf (by omega) W h ht
  have hmm := fun lo hi v T W (h : MsF lo hi v T W) i => markMsN HFW.out (s := 1 + cR R) (by omega) hRc W h i
  have hhm := fun lo hi v T W (h : MsF lo hi v (mkTe (1 + cR R) T) W) i => heldMsN HFW.out (s := 1 + cR R) (by omega) hRc W h i
  have hm0 : ¬ kR R < 0 := kR_nn R
  rw [kR_is] at hkm hhd hm0
  generalize 1 + cR R = ss at hkm hhd hm0 hmm hhm
  unfold rpA at *
  simp only at hsz hto ⊢
  clear h hL hRf hRc hFw
  have AA : Hid (Liv w.heap.size (w.heap.size + 1) (fun W => Bx W (w.heap.size) 77 #[.int .i64 r.id, .int .i64 r.p, .int .i64 r.v, .bool r.n, .int .i64 r.la, .slice plA r.l.length qlA, .int .i64 r.c, .slice poA r.ok.length qoA, .slice pcA r.ch.length qcA, .slice ptA r.te.length qtA]) (w.alloc (.cells #[.int .i64 r.id, .int .i64 r.p, .int .i64 r.v, .bool r.n, .int .i64 r.la, .slice plA r.l.length qlA, .int .i64 r.c, .slice poA r.ok.length qoA, .slice pcA r.ch.length qcA, .slice ptA r.te.length qtA] 77))) := (show Hid _ from Liv.box (Bx.new _ _ _))
  have BB : Hid (Below w.heap.size w (w.alloc (.cells #[.int .i64 r.id, .int .i64 r.p, .int .i64 r.v, .bool r.n, .int .i64 r.la, .slice plA r.l.length qlA, .int .i64 r.c, .slice poA r.ok.length qoA, .slice pcA r.ch.length qcA, .slice ptA r.te.length qtA] 77))) := (Below.refl _ w).alloc (Nat.le_refl _) _
  have zA : (w.alloc (.cells #[.int .i64 r.id, .int .i64 r.p, .int .i64 r.v, .bool r.n, .int .i64 r.la, .slice plA r.l.length qlA, .int .i64 r.c, .slice poA r.ok.length qoA, .slice pcA r.ch.length qcA, .slice ptA r.te.length qtA] 77)).heap.size = w.heap.size + 1 := by simp
  generalize hw1 : (w.alloc (.cells #[.int .i64 r.id, .int .i64 r.p, .int .i64 r.v, .bool r.n, .int .i64 r.la, .slice plA r.l.length qlA, .int .i64 r.c, .slice poA r.ok.length qoA, .slice pcA r.ch.length qcA, .slice ptA r.te.length qtA] 77)) = w1 at BB zA AA
  have Z1 : Hid (w1.heap.size = w.heap.size + 1) := zA
  clear zA
  go_enter Tryz.func9, Tryz.ntmps9
  have AA_0 := AA.out.now.cell 0
  have AA_1 := AA.out.now.cell 1
  have AA_2 := AA.out.now.cell 2
  have AA_3 := AA.out.now.cell 3
  have AA_4 := AA.out.now.cell 4
  have AA_5 := AA.out.now.cell 5
  have AA_6 := AA.out.now.cell 6
  have AA_7 := AA.out.now.cell 7
  have AA_8 := AA.out.now.cell 8
  have AA_9 := AA.out.now.cell 9
  go_wp2_with fail
  try clear hw1
  clear AA_0 AA_1 AA_2 AA_3 AA_4 AA_5 AA_6 AA_7 AA_8 AA_9
  refine (hsz _ (HI.out.kept BB.out)).mono ?_
  rintro e w2 ⟨⟨z0, rfl, q1, q2, q3⟩, hb⟩
  replace AA : Hid (Liv w.heap.size (w.heap.size + 1) (fun W => Bx W (w.heap.size) 77 #[.int .i64 r.id, .int .i64 r.p, .int .i64 r.v, .bool r.n, .int .i64 r.la, .slice plA r.l.length qlA, .int .i64 r.c, .slice poA r.ok.length qoA, .slice pcA r.ch.length qcA, .slice ptA r.te.length qtA]) w2) := AA.out.kept hb
  have Z2 : Hid (w1.heap.size ≤ w2.heap.size) := hb.size
  replace BB : Hid (Below w.heap.size w w2) := (show Hid _ from BB.out.trans (hb.mono BB.out.size))
  clear hb
  have AA_0 := AA.out.now.cell 0
  have AA_1 := AA.out.now.cell 1
  have AA_2 := AA.out.now.cell 2
  have AA_3 := AA.out.now.cell 3
  have AA_4 := AA.out.now.cell 4
  have AA_5 := AA.out.now.cell 5
  have AA_6 := AA.out.now.cell 6
  have AA_7 := AA.out.now.cell 7
  have AA_8 := AA.out.now.cell 8
  have AA_9 := AA.out.now.cell 9
  by_cases hV : z0 < 0
  · go_wp2
    go_ret
    exact ⟨rfl, BB.out⟩
  have hf : Fit r := (q3 (by omega)).1
  have HF : Hid (Fit r) := hf
  have hcr : 1 + cR r ≤ 50000000 := by
    have h1 := (q3 (by omega)).2
    have h2 := hf.te.1
    unfold cR
    omega
  replace hto := hto hf; replace hsp := hsp hf; replace him := him hf; replace hkl := hkl hf hcr
  clear q1 q2 hf hcr
  clear q3
  go_wp2_with fail
  clear AA_0 AA_1 AA_2 AA_3 AA_4 AA_5 AA_6 AA_7 AA_8 AA_9
  refine (hto _ (HI.out.kept BB.out)).mono ?_
  rintro e w3 ⟨pl2, ql2, po2, qo2, pc2, qc2, pt2, qt2, M2, rfl, ho, _, hb⟩
  replace AA : Hid (Liv w.heap.size (w.heap.size + 1) (fun W => Bx W (w.heap.size) 77 #[.int .i64 r.id, .int .i64 r.p, .int .i64 r.v, .bool r.n, .int .i64 r.la, .slice plA r.l.length qlA, .int .i64 r.c, .slice poA r.ok.length qoA, .slice pcA r.ch.length qcA, .slice ptA r.te.length qtA]) w3) := AA.out.kept hb
  have U : Hid (Liv w2.heap.size w3.heap.size (RpF w2.heap.size w3.heap.size ⟨.slice pl2 r.l.length ql2, .slice po2 r.ok.length qo2, .slice pc2 r.ch.length qc2, .slice pt2 r.te.length qt2, M2⟩ r) w3) := (show Hid _ from Liv.newRp ho)
  have Z3 : Hid (w2.heap.size ≤ w3.heap.size) := hb.size
  replace BB : Hid (Below w.heap.size w w3) := (show Hid _ from BB.out.trans (hb.mono BB.out.size))
  clear hb ho
  have AA_0 := AA.out.now.cell 0
  have AA_1 := AA.out.now.cell 1
  have AA_2 := AA.out.now.cell 2
  have AA_3 := AA.out.now.cell 3
  have AA_4 := AA.out.now.cell 4
  have AA_5 := AA.out.now.cell 5
  have AA_6 := AA.out.now.cell 6
  have AA_7 := AA.out.now.cell 7
  have AA_8 := AA.out.now.cell 8
  have AA_9 := AA.out.now.cell 9
  go_wp2_with fail
  clear AA_0 AA_1 AA_2 AA_3 AA_4 AA_5 AA_6 AA_7 AA_8 AA_9
  refine (hsp _ _ U.out.now.1.got).mono ?_
  rintro e w4 ⟨pl3, ql3, po3, qo3, pc3, qc3, pt3, qt3, M3, vY, TY, CY, rfl, ho, ha, hu, hcc, hom, hb⟩
  have AY : Hid (RpAp ⟨.slice pl3 R.l.length ql3, .slice po3 R.ok.length qo3, .slice pc3 R.ch.length qc3, .slice pt3 R.te.length qt3, M3⟩) := ha
  have EY : Hid ((⟨.slice pl3 R.l.length ql3, .slice po3 R.ok.length qo3, .slice pc3 R.ch.length qc3, .slice pt3 R.te.length qt3, M3⟩ : Rv).T.map (·.m) = R.te) := ho.t
  have ITY : Hid (TY.map (·.m) = L) := hom.is
  have ZCY : Hid (w3.heap.size ≤ CY ∧ CY ≤ w4.heap.size) := hcc
  clear ha
  replace AA : Hid (Liv w.heap.size (w.heap.size + 1) (fun W => Bx W (w.heap.size) 77 #[.int .i64 r.id, .int .i64 r.p, .int .i64 r.v, .bool r.n, .int .i64 r.la, .slice plA r.l.length qlA, .int .i64 r.c, .slice poA r.ok.length qoA, .slice pcA r.ch.length qcA, .slice ptA r.te.length qtA]) w4) := AA.out.kept hb
  clear U
  have Y : Hid (Liv w3.heap.size CY (RpF w3.heap.size CY ⟨.slice pl3 R.l.length ql3, .slice po3 R.ok.length qo3, .slice pc3 R.ch.length qc3, .slice pt3 R.te.length qt3, M3⟩ R) w4) := (show Hid _ from Liv.rp ho hu hcc.2)
  have Ym : Hid (Liv CY w4.heap.size (MsF CY w4.heap.size vY TY) w4) := (show Hid _ from Liv.newMs hom)
  have Z4 : Hid (w3.heap.size ≤ w4.heap.size) := hb.size
  replace BB : Hid (Below w.heap.size w w4) := (show Hid _ from BB.out.trans (hb.mono BB.out.size))
  clear hb ho
  have hbA : Below w4.heap.size w4 (w4.alloc (.cells #[.int .i64 R.id, .int .i64 R.p, .int .i64 R.v, .bool R.n, .int .i64 R.la, .slice pl3 R.l.length ql3, .int .i64 R.c, .slice po3 R.ok.length qo3, .slice pc3 R.ch.length qc3, .slice pt3 R.te.length qt3] 28)) := (Below.refl _ _).alloc (Nat.le_refl _) _
  have zA : (w4.alloc (.cells #[.int .i64 R.id, .int .i64 R.p, .int .i64 R.v, .bool R.n, .int .i64 R.la, .slice pl3 R.l.length ql3, .int .i64 R.c, .slice po3 R.ok.length qo3, .slice pc3 R.ch.length qc3, .slice pt3 R.te.length qt3] 28)).heap.size = w4.heap.size + 1 := by simp
  replace AA : Hid (Liv w.heap.size (w.heap.size + 1) (fun W => Bx W (w.heap.size) 77 #[.int .i64 r.id, .int .i64 r.p, .int .i64 r.v, .bool r.n, .int .i64 r.la, .slice plA r.l.length qlA, .int .i64 r.c, .slice poA r.ok.length qoA, .slice pcA r.ch.length qcA, .slice ptA r.te.length qtA]) (w4.alloc (.cells #[.int .i64 R.id, .int .i64 R.p, .int .i64 R.v, .bool R.n, .int .i64 R.la, .slice pl3 R.l.length ql3, .int .i64 R.c, .slice po3 R.ok.length qo3, .slice pc3 R.ch.length qc3, .slice pt3 R.te.length qt3] 28))) := AA.out.kept hbA
  replace Y : Hid (Liv w3.heap.size CY (RpF w3.heap.size CY ⟨.slice pl3 R.l.length ql3, .slice po3 R.ok.length qo3, .slice pc3 R.ch.length qc3, .slice pt3 R.te.length qt3, M3⟩ R) (w4.alloc (.cells #[.int .i64 R.id, .int .i64 R.p, .int .i64 R.v, .bool R.n, .int .i64 R.la, .slice pl3 R.l.length ql3, .int .i64 R.c, .slice po3 R.ok.length qo3, .slice pc3 R.ch.length qc3, .slice pt3 R.te.length qt3] 28))) := Y.out.kept hbA
  replace Ym : Hid (Liv CY w4.heap.size (MsF CY w4.heap.size vY TY) (w4.alloc (.cells #[.int .i64 R.id, .int .i64 R.p, .int .i64 R.v, .bool R.n, .int .i64 R.la, .slice pl3 R.l.length ql3, .int .i64 R.c, .slice po3 R.ok.length qo3, .slice pc3 R.ch.length qc3, .slice pt3 R.te.length qt3] 28))) := Ym.out.kept hbA
  replace BB : Hid (Below w.heap.size w (w4.alloc (.cells #[.int .i64 R.id, .int .i64 R.p, .int .i64 R.v, .bool R.n, .int .i64 R.la, .slice pl3 R.l.length ql3, .int .i64 R.c, .slice po3 R.ok.length qo3, .slice pc3 R.ch.length qc3, .slice pt3 R.te.length qt3] 28))) := (show Hid _ from BB.out.trans (hbA.mono BB.out.size))
  have Y0 : Hid (Liv w4.heap.size (w4.heap.size + 1) (fun W => Bx W (w4.heap.size) 28 #[.int .i64 R.id, .int .i64 R.p, .int .i64 R.v, .bool R.n, .int .i64 R.la, .slice pl3 R.l.length ql3, .int .i64 R.c, .slice po3 R.ok.length qo3, .slice pc3 R.ch.length qc3, .slice pt3 R.te.length qt3]) (w4.alloc (.cells #[.int .i64 R.id, .int .i64 R.p, .int .i64 R.v, .bool R.n, .int .i64 R.la, .slice pl3 R.l.length ql3, .int .i64 R.c, .slice po3 R.ok.length qo3, .slice pc3 R.ch.length qc3, .slice pt3 R.te.length qt3] 28))) := (show Hid _ from Liv.box (Bx.new _ _ _))
  clear hbA
  generalize hww5 : (w4.alloc (.cells #[.int .i64 R.id, .int .i64 R.p, .int .i64 R.v, .bool R.n, .int .i64 R.la, .slice pl3 R.l.length ql3, .int .i64 R.c, .slice po3 R.ok.length qo3, .slice pc3 R.ch.length qc3, .slice pt3 R.te.length qt3] 28)) = w5 at BB zA AA Y Ym Y0
  have Z5 : Hid (w5.heap.size = w4.heap.size + 1) := zA
  clear zA
  have AA_0 := AA.out.now.cell 0
  have AA_1 := AA.out.now.cell 1
  have AA_2 := AA.out.now.cell 2
  have AA_3 := AA.out.now.cell 3
  have AA_4 := AA.out.now.cell 4
  have AA_5 := AA.out.now.cell 5
  have AA_6 := AA.out.now.cell 6
  have AA_7 := AA.out.now.cell 7
  have AA_8 := AA.out.now.cell 8
  have AA_9 := AA.out.now.cell 9
  have Y0_0 := Y0.out.now.cell 0
  have Y0_1 := Y0.out.now.cell 1
  have Y0_2 := Y0.out.now.cell 2
  have Y0_3 := Y0.out.now.cell 3
  have Y0_4 := Y0.out.now.cell 4
  have Y0_5 := Y0.out.now.cell 5
  have Y0_6 := Y0.out.now.cell 6
  have Y0_7 := Y0.out.now.cell 7
  have Y0_8 := Y0.out.now.cell 8
  have Y0_9 := Y0.out.now.cell 9
  go_wp2_with fail
  clear hww5
  clear AA_0 AA_1 AA_2 AA_3 AA_4 AA_5 AA_6 AA_7 AA_8 AA_9 Y0_0 Y0_1 Y0_2 Y0_3 Y0_4 Y0_5 Y0_6 Y0_7 Y0_8 Y0_9
  refine (hto _ (HI.out.kept BB.out)).mono ?_
  rintro e w6 ⟨pl4, ql4, po4, qo4, pc4, qc4, pt4, qt4, M4, rfl, ho, ha, hb⟩
  have HA : Hid (RpAp ⟨.slice pl4 r.l.length ql4, .slice po4 r.ok.length qo4, .slice pc4 r.ch.length qc4, .slice pt4 r.te.length qt4, M4⟩) := ha
  clear ha
  replace AA : Hid (Liv w.heap.size (w.heap.size + 1) (fun W => Bx W (w.heap.size) 77 #[.int .i64 r.id, .int .i64 r.p, .int .i64 r.v, .bool r.n, .int .i64 r.la, .slice plA r.l.length qlA, .int .i64 r.c, .slice poA r.ok.length qoA, .slice pcA r.ch.length qcA, .slice ptA r.te.length qtA]) w6) := AA.out.kept hb
  replace Y : Hid (Liv w3.heap.size CY (RpF w3.heap.size CY ⟨.slice pl3 R.l.length ql3, .slice po3 R.ok.length qo3, .slice pc3 R.ch.length qc3, .slice pt3 R.te.length qt3, M3⟩ R) w6) := Y.out.kept hb
  replace Ym : Hid (Liv CY w4.heap.size (MsF CY w4.heap.size vY TY) w6) := Ym.out.kept hb
  replace Y0 : Hid (Liv w4.heap.size (w4.heap.size + 1) (fun W => Bx W (w4.heap.size) 28 #[.int .i64 R.id, .int .i64 R.p, .int .i64 R.v, .bool R.n, .int .i64 R.la, .slice pl3 R.l.length ql3, .int .i64 R.c, .slice po3 R.ok.length qo3, .slice pc3 R.ch.length qc3, .slice pt3 R.te.length qt3]) w6) := Y0.out.kept hb
  have X : Hid (Liv w5.heap.size w6.heap.size (RpF w5.heap.size w6.heap.size ⟨.slice pl4 r.l.length ql4, .slice po4 r.ok.length qo4, .slice pc4 r.ch.length qc4, .slice pt4 r.te.length qt4, M4⟩ r) w6) := (show Hid _ from Liv.newRp ho)
  have Z6 : Hid (w5.heap.size ≤ w6.heap.size) := hb.size
  replace BB : Hid (Below w.heap.size w w6) := (show Hid _ from BB.out.trans (hb.mono BB.out.size))
  clear hb ho
  have hbA : Below w6.heap.size w6 (w6.alloc (.cells #[.int .i64 r.id, .int .i64 r.p, .int .i64 r.v, .bool r.n, .int .i64 r.la, .slice pl4 r.l.length ql4, .int .i64 r.c, .slice po4 r.ok.length qo4, .slice pc4 r.ch.length qc4, .slice pt4 r.te.length qt4] 28)) := (Below.refl _ _).alloc (Nat.le_refl _) _
  have zA : (w6.alloc (.cells #[.int .i64 r.id, .int .i64 r.p, .int .i64 r.v, .bool r.n, .int .i64 r.la, .slice pl4 r.l.length ql4, .int .i64 r.c, .slice po4 r.ok.length qo4, .slice pc4 r.ch.length qc4, .slice pt4 r.te.length qt4] 28)).heap.size = w6.heap.size + 1 := by simp
  replace AA : Hid (Liv w.heap.size (w.heap.size + 1) (fun W => Bx W (w.heap.size) 77 #[.int .i64 r.id, .int .i64 r.p, .int .i64 r.v, .bool r.n, .int .i64 r.la, .slice plA r.l.length qlA, .int .i64 r.c, .slice poA r.ok.length qoA, .slice pcA r.ch.length qcA, .slice ptA r.te.length qtA]) (w6.alloc (.cells #[.int .i64 r.id, .int .i64 r.p, .int .i64 r.v, .bool r.n, .int .i64 r.la, .slice pl4 r.l.length ql4, .int .i64 r.c, .slice po4 r.ok.length qo4, .slice pc4 r.ch.length qc4, .slice pt4 r.te.length qt4] 28))) := AA.out.kept hbA
  replace Y : Hid (Liv w3.heap.size CY (RpF w3.heap.size CY ⟨.slice pl3 R.l.length ql3, .slice po3 R.ok.length qo3, .slice pc3 R.ch.length qc3, .slice pt3 R.te.length qt3, M3⟩ R) (w6.alloc (.cells #[.int .i64 r.id, .int .i64 r.p, .int .i64 r.v, .bool r.n, .int .i64 r.la, .slice pl4 r.l.length ql4, .int .i64 r.c, .slice po4 r.ok.length qo4, .slice pc4 r.ch.length qc4, .slice pt4 r.te.length qt4] 28))) := Y.out.kept hbA
  replace Ym : Hid (Liv CY w4.heap.size (MsF CY w4.heap.size vY TY) (w6.alloc (.cells #[.int .i64 r.id, .int .i64 r.p, .int .i64 r.v, .bool r.n, .int .i64 r.la, .slice pl4 r.l.length ql4, .int .i64 r.c, .slice po4 r.ok.length qo4, .slice pc4 r.ch.length qc4, .slice pt4 r.te.length qt4] 28))) := Ym.out.kept hbA
  replace Y0 : Hid (Liv w4.heap.size (w4.heap.size + 1) (fun W => Bx W (w4.heap.size) 28 #[.int .i64 R.id, .int .i64 R.p, .int .i64 R.v, .bool R.n, .int .i64 R.la, .slice pl3 R.l.length ql3, .int .i64 R.c, .slice po3 R.ok.length qo3, .slice pc3 R.ch.length qc3, .slice pt3 R.te.length qt3]) (w6.alloc (.cells #[.int .i64 r.id, .int .i64 r.p, .int .i64 r.v, .bool r.n, .int .i64 r.la, .slice pl4 r.l.length ql4, .int .i64 r.c, .slice po4 r.ok.length qo4, .slice pc4 r.ch.length qc4, .slice pt4 r.te.length qt4] 28))) := Y0.out.kept hbA
  replace X : Hid (Liv w5.heap.size w6.heap.size (RpF w5.heap.size w6.heap.size ⟨.slice pl4 r.l.length ql4, .slice po4 r.ok.length qo4, .slice pc4 r.ch.length qc4, .slice pt4 r.te.length qt4, M4⟩ r) (w6.alloc (.cells #[.int .i64 r.id, .int .i64 r.p, .int .i64 r.v, .bool r.n, .int .i64 r.la, .slice pl4 r.l.length ql4, .int .i64 r.c, .slice po4 r.ok.length qo4, .slice pc4 r.ch.length qc4, .slice pt4 r.te.length qt4] 28))) := X.out.kept hbA
  replace BB : Hid (Below w.heap.size w (w6.alloc (.cells #[.int .i64 r.id, .int .i64 r.p, .int .i64 r.v, .bool r.n, .int .i64 r.la, .slice pl4 r.l.length ql4, .int .i64 r.c, .slice po4 r.ok.length qo4, .slice pc4 r.ch.length qc4, .slice pt4 r.te.length qt4] 28))) := (show Hid _ from BB.out.trans (hbA.mono BB.out.size))
  have X0 : Hid (Liv w6.heap.size (w6.heap.size + 1) (fun W => Bx W (w6.heap.size) 28 #[.int .i64 r.id, .int .i64 r.p, .int .i64 r.v, .bool r.n, .int .i64 r.la, .slice pl4 r.l.length ql4, .int .i64 r.c, .slice po4 r.ok.length qo4, .slice pc4 r.ch.length qc4, .slice pt4 r.te.length qt4]) (w6.alloc (.cells #[.int .i64 r.id, .int .i64 r.p, .int .i64 r.v, .bool r.n, .int .i64 r.la, .slice pl4 r.l.length ql4, .int .i64 r.c, .slice po4 r.ok.length qo4, .slice pc4 r.ch.length qc4, .slice pt4 r.te.length qt4] 28))) := (show Hid _ from Liv.box (Bx.new _ _ _))
  clear hbA
  generalize hww7 : (w6.alloc (.cells #[.int .i64 r.id, .int .i64 r.p, .int .i64 r.v, .bool r.n, .int .i64 r.la, .slice pl4 r.l.length ql4, .int .i64 r.c, .slice po4 r.ok.length qo4, .slice pc4 r.ch.length qc4, .slice pt4 r.te.length qt4] 28)) = w7 at BB zA AA Y Ym Y0 X X0
  have Z7 : Hid (w7.heap.size = w6.heap.size + 1) := zA
  clear zA
  have AA_0 := AA.out.now.cell 0
  have AA_1 := AA.out.now.cell 1
  have AA_2 := AA.out.now.cell 2
  have AA_3 := AA.out.now.cell 3
  have AA_4 := AA.out.now.cell 4
  have AA_5 := AA.out.now.cell 5
  have AA_6 := AA.out.now.cell 6
  have AA_7 := AA.out.now.cell 7
  have AA_8 := AA.out.now.cell 8
  have AA_9 := AA.out.now.cell 9
  have Y0_0 := Y0.out.now.cell 0
  have Y0_1 := Y0.out.now.cell 1
  have Y0_2 := Y0.out.now.cell 2
  have Y0_3 := Y0.out.now.cell 3
  have Y0_4 := Y0.out.now.cell 4
  have Y0_5 := Y0.out.now.cell 5
  have Y0_6 := Y0.out.now.cell 6
  have Y0_7 := Y0.out.now.cell 7
  have Y0_8 := Y0.out.now.cell 8
  have Y0_9 := Y0.out.now.cell 9
  have X0_0 := X0.out.now.cell 0
  have X0_1 := X0.out.now.cell 1
  have X0_2 := X0.out.now.cell 2
  have X0_3 := X0.out.now.cell 3
  have X0_4 := X0.out.now.cell 4
  have X0_5 := X0.out.now.cell 5
  have X0_6 := X0.out.now.cell 6
  have X0_7 := X0.out.now.cell 7
  have X0_8 := X0.out.now.cell 8
  have X0_9 := X0.out.now.cell 9
  go_wp2_with fail
  clear hww7
  clear AA_0 AA_1 AA_2 AA_3 AA_4 AA_5 AA_6 AA_7 AA_8 AA_9 Y0_0 Y0_1 Y0_2 Y0_3 Y0_4 Y0_5 Y0_6 Y0_7 Y0_8 Y0_9 X0_0 X0_1 X0_2 X0_3 X0_4 X0_5 X0_6 X0_7 X0_8 X0_9
  refine (him _ _ X.out.now.1.got).mono ?_
  rintro e w8 ⟨pl5, ql5, po5, qo5, pc5, qc5, pt5, qt5, M5, vG, TG, CG, rfl, ho, ha, hu, hcc, hom, hb⟩
  have AG : Hid (RpAp ⟨.slice pl5 R.l.length ql5, .slice po5 R.ok.length qo5, .slice pc5 R.ch.length qc5, .slice pt5 R.te.length qt5, M5⟩) := ha
  have EG : Hid ((⟨.slice pl5 R.l.length ql5, .slice po5 R.ok.length qo5, .slice pc5 R.ch.length qc5, .slice pt5 R.te.length qt5, M5⟩ : Rv).T.map (·.m) = R.te) := ho.t
  have ITG : Hid (TG.map (·.m) = L) := hom.is
  have ZCG : Hid (w7.heap.size ≤ CG ∧ CG ≤ w8.heap.size) := hcc
  clear ha
  replace AA : Hid (Liv w.heap.size (w.heap.size + 1) (fun W => Bx W (w.heap.size) 77 #[.int .i64 r.id, .int .i64 r.p, .int .i64 r.v, .bool r.n, .int .i64 r.la, .slice plA r.l.length qlA, .int .i64 r.c, .slice poA r.ok.length qoA, .slice pcA r.ch.length qcA, .slice ptA r.te.length qtA]) w8) := AA.out.kept hb
  replace Y : Hid (Liv w3.heap.size CY (RpF w3.heap.size CY ⟨.slice pl3 R.l.length ql3, .slice po3 R.ok.length qo3, .slice pc3 R.ch.length qc3, .slice pt3 R.te.length qt3, M3⟩ R) w8) := Y.out.kept hb
  replace Ym : Hid (Liv CY w4.heap.size (MsF CY w4.heap.size vY TY) w8) := Ym.out.kept hb
  replace Y0 : Hid (Liv w4.heap.size (w4.heap.size + 1) (fun W => Bx W (w4.heap.size) 28 #[.int .i64 R.id, .int .i64 R.p, .int .i64 R.v, .bool R.n, .int .i64 R.la, .slice pl3 R.l.length ql3, .int .i64 R.c, .slice po3 R.ok.length qo3, .slice pc3 R.ch.length qc3, .slice pt3 R.te.length qt3]) w8) := Y0.out.kept hb
  replace X : Hid (Liv w5.heap.size w6.heap.size (RpF w5.heap.size w6.heap.size ⟨.slice pl4 r.l.length ql4, .slice po4 r.ok.length qo4, .slice pc4 r.ch.length qc4, .slice pt4 r.te.length qt4, M4⟩ r) w8) := X.out.kept hb
  replace X0 : Hid (Liv w6.heap.size (w6.heap.size + 1) (fun W => Bx W (w6.heap.size) 28 #[.int .i64 r.id, .int .i64 r.p, .int .i64 r.v, .bool r.n, .int .i64 r.la, .slice pl4 r.l.length ql4, .int .i64 r.c, .slice po4 r.ok.length qo4, .slice pc4 r.ch.length qc4, .slice pt4 r.te.length qt4]) w8) := X0.out.kept hb
  have G : Hid (Liv w7.heap.size CG (RpF w7.heap.size CG ⟨.slice pl5 R.l.length ql5, .slice po5 R.ok.length qo5, .slice pc5 R.ch.length qc5, .slice pt5 R.te.length qt5, M5⟩ R) w8) := (show Hid _ from Liv.rp ho hu hcc.2)
  have Gm : Hid (Liv CG w8.heap.size (MsF CG w8.heap.size vG TG) w8) := (show Hid _ from Liv.newMs hom)
  have Z8 : Hid (w7.heap.size ≤ w8.heap.size) := hb.size
  replace BB : Hid (Below w.heap.size w w8) := (show Hid _ from BB.out.trans (hb.mono BB.out.size))
  clear hb ho
  have hbA : Below w8.heap.size w8 (w8.alloc (.cells #[.int .i64 R.id, .int .i64 R.p, .int .i64 R.v, .bool R.n, .int .i64 R.la, .slice pl5 R.l.length ql5, .int .i64 R.c, .slice po5 R.ok.length qo5, .slice pc5 R.ch.length qc5, .slice pt5 R.te.length qt5] 28)) := (Below.refl _ _).alloc (Nat.le_refl _) _
  have zA : (w8.alloc (.cells #[.int .i64 R.id, .int .i64 R.p, .int .i64 R.v, .bool R.n, .int .i64 R.la, .slice pl5 R.l.length ql5, .int .i64 R.c, .slice po5 R.ok.length qo5, .slice pc5 R.ch.length qc5, .slice pt5 R.te.length qt5] 28)).heap.size = w8.heap.size + 1 := by simp
  replace AA : Hid (Liv w.heap.size (w.heap.size + 1) (fun W => Bx W (w.heap.size) 77 #[.int .i64 r.id, .int .i64 r.p, .int .i64 r.v, .bool r.n, .int .i64 r.la, .slice plA r.l.length qlA, .int .i64 r.c, .slice poA r.ok.length qoA, .slice pcA r.ch.length qcA, .slice ptA r.te.length qtA]) (w8.alloc (.cells #[.int .i64 R.id, .int .i64 R.p, .int .i64 R.v, .bool R.n, .int .i64 R.la, .slice pl5 R.l.length ql5, .int .i64 R.c, .slice po5 R.ok.length qo5, .slice pc5 R.ch.length qc5, .slice pt5 R.te.length qt5] 28))) := AA.out.kept hbA
  replace Y : Hid (Liv w3.heap.size CY (RpF w3.heap.size CY ⟨.slice pl3 R.l.length ql3, .slice po3 R.ok.length qo3, .slice pc3 R.ch.length qc3, .slice pt3 R.te.length qt3, M3⟩ R) (w8.alloc (.cells #[.int .i64 R.id, .int .i64 R.p, .int .i64 R.v, .bool R.n, .int .i64 R.la, .slice pl5 R.l.length ql5, .int .i64 R.c, .slice po5 R.ok.length qo5, .slice pc5 R.ch.length qc5, .slice pt5 R.te.length qt5] 28))) := Y.out.kept hbA
  replace Ym : Hid (Liv CY w4.heap.size (MsF CY w4.heap.size vY TY) (w8.alloc (.cells #[.int .i64 R.id, .int .i64 R.p, .int .i64 R.v, .bool R.n, .int .i64 R.la, .slice pl5 R.l.length ql5, .int .i64 R.c, .slice po5 R.ok.length qo5, .slice pc5 R.ch.length qc5, .slice pt5 R.te.length qt5] 28))) := Ym.out.kept hbA
  replace Y0 : Hid (Liv w4.heap.size (w4.heap.size + 1) (fun W => Bx W (w4.heap.size) 28 #[.int .i64 R.id, .int .i64 R.p, .int .i64 R.v, .bool R.n, .int .i64 R.la, .slice pl3 R.l.length ql3, .int .i64 R.c, .slice po3 R.ok.length qo3, .slice pc3 R.ch.length qc3, .slice pt3 R.te.length qt3]) (w8.alloc (.cells #[.int .i64 R.id, .int .i64 R.p, .int .i64 R.v, .bool R.n, .int .i64 R.la, .slice pl5 R.l.length ql5, .int .i64 R.c, .slice po5 R.ok.length qo5, .slice pc5 R.ch.length qc5, .slice pt5 R.te.length qt5] 28))) := Y0.out.kept hbA
  replace X : Hid (Liv w5.heap.size w6.heap.size (RpF w5.heap.size w6.heap.size ⟨.slice pl4 r.l.length ql4, .slice po4 r.ok.length qo4, .slice pc4 r.ch.length qc4, .slice pt4 r.te.length qt4, M4⟩ r) (w8.alloc (.cells #[.int .i64 R.id, .int .i64 R.p, .int .i64 R.v, .bool R.n, .int .i64 R.la, .slice pl5 R.l.length ql5, .int .i64 R.c, .slice po5 R.ok.length qo5, .slice pc5 R.ch.length qc5, .slice pt5 R.te.length qt5] 28))) := X.out.kept hbA
  replace X0 : Hid (Liv w6.heap.size (w6.heap.size + 1) (fun W => Bx W (w6.heap.size) 28 #[.int .i64 r.id, .int .i64 r.p, .int .i64 r.v, .bool r.n, .int .i64 r.la, .slice pl4 r.l.length ql4, .int .i64 r.c, .slice po4 r.ok.length qo4, .slice pc4 r.ch.length qc4, .slice pt4 r.te.length qt4]) (w8.alloc (.cells #[.int .i64 R.id, .int .i64 R.p, .int .i64 R.v, .bool R.n, .int .i64 R.la, .slice pl5 R.l.length ql5, .int .i64 R.c, .slice po5 R.ok.length qo5, .slice pc5 R.ch.length qc5, .slice pt5 R.te.length qt5] 28))) := X0.out.kept hbA
  replace G : Hid (Liv w7.heap.size CG (RpF w7.heap.size CG ⟨.slice pl5 R.l.length ql5, .slice po5 R.ok.length qo5, .slice pc5 R.ch.length qc5, .slice pt5 R.te.length qt5, M5⟩ R) (w8.alloc (.cells #[.int .i64 R.id, .int .i64 R.p, .int .i64 R.v, .bool R.n, .int .i64 R.la, .slice pl5 R.l.length ql5, .int .i64 R.c, .slice po5 R.ok.length qo5, .slice pc5 R.ch.length qc5, .slice pt5 R.te.length qt5] 28))) := G.out.kept hbA
  replace Gm : Hid (Liv CG w8.heap.size (MsF CG w8.heap.size vG TG) (w8.alloc (.cells #[.int .i64 R.id, .int .i64 R.p, .int .i64 R.v, .bool R.n, .int .i64 R.la, .slice pl5 R.l.length ql5, .int .i64 R.c, .slice po5 R.ok.length qo5, .slice pc5 R.ch.length qc5, .slice pt5 R.te.length qt5] 28))) := Gm.out.kept hbA
  replace BB : Hid (Below w.heap.size w (w8.alloc (.cells #[.int .i64 R.id, .int .i64 R.p, .int .i64 R.v, .bool R.n, .int .i64 R.la, .slice pl5 R.l.length ql5, .int .i64 R.c, .slice po5 R.ok.length qo5, .slice pc5 R.ch.length qc5, .slice pt5 R.te.length qt5] 28))) := (show Hid _ from BB.out.trans (hbA.mono BB.out.size))
  have G0 : Hid (Liv w8.heap.size (w8.heap.size + 1) (fun W => Bx W (w8.heap.size) 28 #[.int .i64 R.id, .int .i64 R.p, .int .i64 R.v, .bool R.n, .int .i64 R.la, .slice pl5 R.l.length ql5, .int .i64 R.c, .slice po5 R.ok.length qo5, .slice pc5 R.ch.length qc5, .slice pt5 R.te.length qt5]) (w8.alloc (.cells #[.int .i64 R.id, .int .i64 R.p, .int .i64 R.v, .bool R.n, .int .i64 R.la, .slice pl5 R.l.length ql5, .int .i64 R.c, .slice po5 R.ok.length qo5, .slice pc5 R.ch.length qc5, .slice pt5 R.te.length qt5] 28))) := (show Hid _ from Liv.box (Bx.new _ _ _))
  clear hbA
  generalize hww9 : (w8.alloc (.cells #[.int .i64 R.id, .int .i64 R.p, .int .i64 R.v, .bool R.n, .int .i64 R.la, .slice pl5 R.l.length ql5, .int .i64 R.c, .slice po5 R.ok.length qo5, .slice pc5 R.ch.length qc5, .slice pt5 R.te.length qt5] 28)) = w9 at BB zA AA Y Ym Y0 X X0 G Gm G0
  have Z9 : Hid (w9.heap.size = w8.heap.size + 1) := zA
  clear zA
  have AA_0 := AA.out.now.cell 0
  have AA_1 := AA.out.now.cell 1
  have AA_2 := AA.out.now.cell 2
  have AA_3 := AA.out.now.cell 3
  have AA_4 := AA.out.now.cell 4
  have AA_5 := AA.out.now.cell 5
  have AA_6 := AA.out.now.cell 6
  have AA_7 := AA.out.now.cell 7
  have AA_8 := AA.out.now.cell 8
  have AA_9 := AA.out.now.cell 9
  have Y0_0 := Y0.out.now.cell 0
  have Y0_1 := Y0.out.now.cell 1
  have Y0_2 := Y0.out.now.cell 2
  have Y0_3 := Y0.out.now.cell 3
  have Y0_4 := Y0.out.now.cell 4
  have Y0_5 := Y0.out.now.cell 5
  have Y0_6 := Y0.out.now.cell 6
  have Y0_7 := Y0.out.now.cell 7
  have Y0_8 := Y0.out.now.cell 8
  have Y0_9 := Y0.out.now.cell 9
  have X0_0 := X0.out.now.cell 0
  have X0_1 := X0.out.now.cell 1
  have X0_2 := X0.out.now.cell 2
  have X0_3 := X0.out.now.cell 3
  have X0_4 := X0.out.now.cell 4
  have X0_5 := X0.out.now.cell 5
  have X0_6 := X0.out.now.cell 6
  have X0_7 := X0.out.now.cell 7
  have X0_8 := X0.out.now.cell 8
  have X0_9 := X0.out.now.cell 9
  have G0_0 := G0.out.now.cell 0
  have G0_1 := G0.out.now.cell 1
  have G0_2 := G0.out.now.cell 2
  have G0_3 := G0.out.now.cell 3
  have G0_4 := G0.out.now.cell 4
  have G0_5 := G0.out.now.cell 5
  have G0_6 := G0.out.now.cell 6
  have G0_7 := G0.out.now.cell 7
  have G0_8 := G0.out.now.cell 8
  have G0_9 := G0.out.now.cell 9
  go_wp2_with fail
  clear hww9
  clear AA_0 AA_1 AA_2 AA_3 AA_4 AA_5 AA_6 AA_7 AA_8 AA_9 Y0_0 Y0_1 Y0_2 Y0_3 Y0_4 Y0_5 Y0_6 Y0_7 Y0_8 Y0_9 X0_0 X0_1 X0_2 X0_3 X0_4 X0_5 X0_6 X0_7 X0_8 X0_9 G0_0 G0_1 G0_2 G0_3 G0_4 G0_5 G0_6 G0_7 G0_8 G0_9
  refine (hel R _ _ _ G.out.now.1.got Y.out.now.1.got HRF.out).mono ?_
  rintro e w10 ⟨rfl, hb⟩
  replace AA : Hid (Liv w.heap.size (w.heap.size + 1) (fun W => Bx W (w.heap.size) 77 #[.int .i64 r.id, .int .i64 r.p, .int .i64 r.v, .bool r.n, .int .i64 r.la, .slice plA r.l.length qlA, .int .i64 r.c, .slice poA r.ok.length qoA, .slice pcA r.ch.length qcA, .slice ptA r.te.length qtA]) w10) := AA.out.kept hb
  replace Y : Hid (Liv w3.heap.size CY (RpF w3.heap.size CY ⟨.slice pl3 R.l.length ql3, .slice po3 R.ok.length qo3, .slice pc3 R.ch.length qc3, .slice pt3 R.te.length qt3, M3⟩ R) w10) := Y.out.kept hb
  replace Ym : Hid (Liv CY w4.heap.size (MsF CY w4.heap.size vY TY) w10) := Ym.out.kept hb
  replace Y0 : Hid (Liv w4.heap.size (w4.heap.size + 1) (fun W => Bx W (w4.heap.size) 28 #[.int .i64 R.id, .int .i64 R.p, .int .i64 R.v, .bool R.n, .int .i64 R.la, .slice pl3 R.l.length ql3, .int .i64 R.c, .slice po3 R.ok.length qo3, .slice pc3 R.ch.length qc3, .slice pt3 R.te.length qt3]) w10) := Y0.out.kept hb
  replace X : Hid (Liv w5.heap.size w6.heap.size (RpF w5.heap.size w6.heap.size ⟨.slice pl4 r.l.length ql4, .slice po4 r.ok.length qo4, .slice pc4 r.ch.length qc4, .slice pt4 r.te.length qt4, M4⟩ r) w10) := X.out.kept hb
  replace X0 : Hid (Liv w6.heap.size (w6.heap.size + 1) (fun W => Bx W (w6.heap.size) 28 #[.int .i64 r.id, .int .i64 r.p, .int .i64 r.v, .bool r.n, .int .i64 r.la, .slice pl4 r.l.length ql4, .int .i64 r.c, .slice po4 r.ok.length qo4, .slice pc4 r.ch.length qc4, .slice pt4 r.te.length qt4]) w10) := X0.out.kept hb
  replace G : Hid (Liv w7.heap.size CG (RpF w7.heap.size CG ⟨.slice pl5 R.l.length ql5, .slice po5 R.ok.length qo5, .slice pc5 R.ch.length qc5, .slice pt5 R.te.length qt5, M5⟩ R) w10) := G.out.kept hb
  replace Gm : Hid (Liv CG w8.heap.size (MsF CG w8.heap.size vG TG) w10) := Gm.out.kept hb
  replace G0 : Hid (Liv w8.heap.size (w8.heap.size + 1) (fun W => Bx W (w8.heap.size) 28 #[.int .i64 R.id, .int .i64 R.p, .int .i64 R.v, .bool R.n, .int .i64 R.la, .slice pl5 R.l.length ql5, .int .i64 R.c, .slice po5 R.ok.length qo5, .slice pc5 R.ch.length qc5, .slice pt5 R.te.length qt5]) w10) := G0.out.kept hb
  have Z10 : Hid (w9.heap.size ≤ w10.heap.size) := hb.size
  replace BB : Hid (Below w.heap.size w w10) := (show Hid _ from BB.out.trans (hb.mono BB.out.size))
  clear hb
  have AA_0 := AA.out.now.cell 0
  have AA_1 := AA.out.now.cell 1
  have AA_2 := AA.out.now.cell 2
  have AA_3 := AA.out.now.cell 3
  have AA_4 := AA.out.now.cell 4
  have AA_5 := AA.out.now.cell 5
  have AA_6 := AA.out.now.cell 6
  have AA_7 := AA.out.now.cell 7
  have AA_8 := AA.out.now.cell 8
  have AA_9 := AA.out.now.cell 9
  have Y0_0 := Y0.out.now.cell 0
  have Y0_1 := Y0.out.now.cell 1
  have Y0_2 := Y0.out.now.cell 2
  have Y0_3 := Y0.out.now.cell 3
  have Y0_4 := Y0.out.now.cell 4
  have Y0_5 := Y0.out.now.cell 5
  have Y0_6 := Y0.out.now.cell 6
  have Y0_7 := Y0.out.now.cell 7
  have Y0_8 := Y0.out.now.cell 8
  have Y0_9 := Y0.out.now.cell 9
  have X0_0 := X0.out.now.cell 0
  have X0_1 := X0.out.now.cell 1
  have X0_2 := X0.out.now.cell 2
  have X0_3 := X0.out.now.cell 3
  have X0_4 := X0.out.now.cell 4
  have X0_5 := X0.out.now.cell 5
  have X0_6 := X0.out.now.cell 6
  have X0_7 := X0.out.now.cell 7
  have X0_8 := X0.out.now.cell 8
  have X0_9 := X0.out.now.cell 9
  have G0_0 := G0.out.now.cell 0
  have G0_1 := G0.out.now.cell 1
  have G0_2 := G0.out.now.cell 2
  have G0_3 := G0.out.now.cell 3
  have G0_4 := G0.out.now.cell 4
  have G0_5 := G0.out.now.cell 5
  have G0_6 := G0.out.now.cell 6
  have G0_7 := G0.out.now.cell 7
  have G0_8 := G0.out.now.cell 8
  have G0_9 := G0.out.now.cell 9
  go_wp2_with fail
  clear AA_0 AA_1 AA_2 AA_3 AA_4 AA_5 AA_6 AA_7 AA_8 AA_9 Y0_0 Y0_1 Y0_2 Y0_3 Y0_4 Y0_5 Y0_6 Y0_7 Y0_8 Y0_9 X0_0 X0_1 X0_2 X0_3 X0_4 X0_5 X0_6 X0_7 X0_8 X0_9 G0_0 G0_1 G0_2 G0_3 G0_4 G0_5 G0_6 G0_7 G0_8 G0_9
  refine (eqMs1 HFW.out _ Gm.out.now Ym.out.now ITG.out ITY.out).mono ?_
  rintro e w11 ⟨rfl, hb⟩
  replace AA : Hid (Liv w.heap.size (w.heap.size + 1) (fun W => Bx W (w.heap.size) 77 #[.int .i64 r.id, .int .i64 r.p, .int .i64 r.v, .bool r.n, .int .i64 r.la, .slice plA r.l.length qlA, .int .i64 r.c, .slice poA r.ok.length qoA, .slice pcA r.ch.length qcA, .slice ptA r.te.length qtA]) w11) := AA.out.kept hb
  replace Y : Hid (Liv w3.heap.size CY (RpF w3.heap.size CY ⟨.slice pl3 R.l.length ql3, .slice po3 R.ok.length qo3, .slice pc3 R.ch.length qc3, .slice pt3 R.te.length qt3, M3⟩ R) w11) := Y.out.kept hb
  replace Ym : Hid (Liv CY w4.heap.size (MsF CY w4.heap.size vY TY) w11) := Ym.out.kept hb
  replace Y0 : Hid (Liv w4.heap.size (w4.heap.size + 1) (fun W => Bx W (w4.heap.size) 28 #[.int .i64 R.id, .int .i64 R.p, .int .i64 R.v, .bool R.n, .int .i64 R.la, .slice pl3 R.l.length ql3, .int .i64 R.c, .slice po3 R.ok.length qo3, .slice pc3 R.ch.length qc3, .slice pt3 R.te.length qt3]) w11) := Y0.out.kept hb
  replace X : Hid (Liv w5.heap.size w6.heap.size (RpF w5.heap.size w6.heap.size ⟨.slice pl4 r.l.length ql4, .slice po4 r.ok.length qo4, .slice pc4 r.ch.length qc4, .slice pt4 r.te.length qt4, M4⟩ r) w11) := X.out.kept hb
  replace X0 : Hid (Liv w6.heap.size (w6.heap.size + 1) (fun W => Bx W (w6.heap.size) 28 #[.int .i64 r.id, .int .i64 r.p, .int .i64 r.v, .bool r.n, .int .i64 r.la, .slice pl4 r.l.length ql4, .int .i64 r.c, .slice po4 r.ok.length qo4, .slice pc4 r.ch.length qc4, .slice pt4 r.te.length qt4]) w11) := X0.out.kept hb
  replace G : Hid (Liv w7.heap.size CG (RpF w7.heap.size CG ⟨.slice pl5 R.l.length ql5, .slice po5 R.ok.length qo5, .slice pc5 R.ch.length qc5, .slice pt5 R.te.length qt5, M5⟩ R) w11) := G.out.kept hb
  replace Gm : Hid (Liv CG w8.heap.size (MsF CG w8.heap.size vG TG) w11) := Gm.out.kept hb
  replace G0 : Hid (Liv w8.heap.size (w8.heap.size + 1) (fun W => Bx W (w8.heap.size) 28 #[.int .i64 R.id, .int .i64 R.p, .int .i64 R.v, .bool R.n, .int .i64 R.la, .slice pl5 R.l.length ql5, .int .i64 R.c, .slice po5 R.ok.length qo5, .slice pc5 R.ch.length qc5, .slice pt5 R.te.length qt5]) w11) := G0.out.kept hb
  have Z11 : Hid (w10.heap.size ≤ w11.heap.size) := hb.size
  replace BB : Hid (Below w.heap.size w w11) := (show Hid _ from BB.out.trans (hb.mono BB.out.size))
  clear hb
  have AA_0 := AA.out.now.cell 0
  have AA_1 := AA.out.now.cell 1
  have AA_2 := AA.out.now.cell 2
  have AA_3 := AA.out.now.cell 3
  have AA_4 := AA.out.now.cell 4
  have AA_5 := AA.out.now.cell 5
  have AA_6 := AA.out.now.cell 6
  have AA_7 := AA.out.now.cell 7
  have AA_8 := AA.out.now.cell 8
  have AA_9 := AA.out.now.cell 9
  have Y0_0 := Y0.out.now.cell 0
  have Y0_1 := Y0.out.now.cell 1
  have Y0_2 := Y0.out.now.cell 2
  have Y0_3 := Y0.out.now.cell 3
  have Y0_4 := Y0.out.now.cell 4
  have Y0_5 := Y0.out.now.cell 5
  have Y0_6 := Y0.out.now.cell 6
  have Y0_7 := Y0.out.now.cell 7
  have Y0_8 := Y0.out.now.cell 8
  have Y0_9 := Y0.out.now.cell 9
  have X0_0 := X0.out.now.cell 0
  have X0_1 := X0.out.now.cell 1
  have X0_2 := X0.out.now.cell 2
  have X0_3 := X0.out.now.cell 3
  have X0_4 := X0.out.now.cell 4
  have X0_5 := X0.out.now.cell 5
  have X0_6 := X0.out.now.cell 6
  have X0_7 := X0.out.now.cell 7
  have X0_8 := X0.out.now.cell 8
  have X0_9 := X0.out.now.cell 9
  have G0_0 := G0.out.now.cell 0
  have G0_1 := G0.out.now.cell 1
  have G0_2 := G0.out.now.cell 2
  have G0_3 := G0.out.now.cell 3
  have G0_4 := G0.out.now.cell 4
  have G0_5 := G0.out.now.cell 5
  have G0_6 := G0.out.now.cell 6
  have G0_7 := G0.out.now.cell 7
  have G0_8 := G0.out.now.cell 8
  have G0_9 := G0.out.now.cell 9
  go_upto_region 10 with fail
  clear AA_0 AA_1 AA_2 AA_3 AA_4 AA_5 AA_6 AA_7 AA_8 AA_9 Y0_0 Y0_1 Y0_2 Y0_3 Y0_4 Y0_5 Y0_6 Y0_7 Y0_8 Y0_9 X0_0 X0_1 X0_2 X0_3 X0_4 X0_5 X0_6 X0_7 X0_8 X0_9 G0_0 G0_1 G0_2 G0_3 G0_4 G0_5 G0_6 G0_7 G0_8 G0_9
  have helG := fun (x : World) p1 d1 p2 d2 p3 d3 p4 d4 (hb : Below w11.heap.size w11 x) (hg : GotM x r p1 d1 p2 d2 p3 d3 p4 d4) => (show Calls Tryz.prog 57 #[.agg #[.int .i64 r.id, .int .i64 r.p, .int .i64 r.v, .bool r.n, .int .i64 r.la, .slice pl4 r.l.length ql4, .int .i64 r.c, .slice po4 r.ok.length qo4, .slice pc4 r.ch.length qc4, .slice pt4 r.te.length qt4], .agg #[.int .i64 r.id, .int .i64 r.p, .int .i64 r.v, .bool r.n, .int .i64 r.la, .slice p1 r.l.length d1, .int .i64 r.c, .slice p2 r.ok.length d2, .slice p3 r.ch.length d3, .slice p4 r.te.length d4]] x (fun e w' => e = .returned (.bool true) ∧ Below x.heap.size x w') from by
    obtain ⟨M9, hM⟩ := hg
    exact hel r ⟨.slice pl4 r.l.length ql4, .slice po4 r.ok.length qo4, .slice pc4 r.ch.length qc4, .slice pt4 r.te.length qt4, M4⟩ ⟨.slice p1 r.l.length d1, .slice p2 r.ok.length d2, .slice p3 r.ch.length d3, .slice p4 r.te.length d4, M9⟩ x (X.out.kept hb).now.1.got hM HF.out)
  have S0 : Below w11.heap.size w11 w11.drew := ⟨rfl, rfl, rfl, Nat.le_refl _, fun _ _ => rfl⟩
  generalize hA : Act.mk _ _ = A
  obtain ⟨s, hs, s1_, s2_, s4_, s5_, s6_, s7_, s8_⟩ : ∃ s : Nat → Value, A = frRss s (fun _ => undef) ∧ s 1 = .pointer (some ⟨w.heap.size, 0, none⟩) ∧ s 2 = .bool false ∧ s 4 = .pointer (some ⟨w4.heap.size, 0, none⟩) ∧ s 5 = vY ∧ s 6 = .pointer (some ⟨w6.heap.size, 0, none⟩) ∧ s 7 = .pointer (some ⟨w8.heap.size, 0, none⟩) ∧ s 8 = vG := by
    refine ⟨fun i => A.tmps.getD i undef, ?_, ?_, ?_, ?_, ?_, ?_, ?_, ?_⟩ <;> rw [← hA] <;> rfl
  rw [hs]
  clear hs hA
  refine region_heads 4 mixed (by decide) (by kernel_rfl) (by kernel_rfl) (by kernel_rfl) (by kernel_rfl) (frRss s) dRss (fun x => Below w11.heap.size w11 x) (GRss r pl4 ql4 po4 qo4 pc4 qc4 pt4 qt4 plA qlA poA qoA pcA qcA ptA qtA) (fun i j hi hj h => by unfold dRss; omega) ?put (fun _ => undef) rfl S0 ?step ?done
  case put =>
    intro i o hi ho t v
    rcases (show i = 0 ∨ i = 1 ∨ i = 2 ∨ i = 3 by omega) with rfl | rfl | rfl | rfl
    all_goals
      obtain rfl := Option.some.inj ho
      rfl
  case step =>
    intro i o hi ho t x hS hdep K hK
    rcases (show i = 0 ∨ i = 1 ∨ i = 2 ∨ i = 3 by omega) with rfl | rfl | rfl | rfl
    all_goals obtain rfl := Option.some.inj ho
    · have y0 := (X0.out.kept hS).now.cell 0
      have y1 := (X0.out.kept hS).now.cell 1
      have y2 := (X0.out.kept hS).now.cell 2
      have y3 := (X0.out.kept hS).now.cell 3
      have y4 := (X0.out.kept hS).now.cell 4
      have y5 := (X0.out.kept hS).now.cell 5
      have y6 := (X0.out.kept hS).now.cell 6
      have y7 := (X0.out.kept hS).now.cell 7
      have y8 := (X0.out.kept hS).now.cell 8
      have y9 := (X0.out.kept hS).now.cell 9
      have h2 := hK (.agg #[.int .i64 r.id, .int .i64 r.p, .int .i64 r.v, .bool r.n, .int .i64 r.la, .slice pl4 r.l.length ql4, .int .i64 r.c, .slice po4 r.ok.length qo4, .slice pc4 r.ch.length qc4, .slice pt4 r.te.length qt4]) x hS (fun j u hj hne h => h) rfl
      unfold frRss at h2 ⊢
      clear hK
      go_simp
      simpa [Act.put, y0, y1, y2, y3, y4, y5, y6, y7, y8, y9, s1_, s2_, s4_, s5_, s6_, s7_, s8_] using h2
    · have y0 := (AA.out.kept hS).now.cell 0
      have y1 := (AA.out.kept hS).now.cell 1
      have y2 := (AA.out.kept hS).now.cell 2
      have y3 := (AA.out.kept hS).now.cell 3
      have y4 := (AA.out.kept hS).now.cell 4
      have y5 := (AA.out.kept hS).now.cell 5
      have y6 := (AA.out.kept hS).now.cell 6
      have y7 := (AA.out.kept hS).now.cell 7
      have y8 := (AA.out.kept hS).now.cell 8
      have y9 := (AA.out.kept hS).now.cell 9
      have h2 := hK (.agg #[.int .i64 r.id, .int .i64 r.p, .int .i64 r.v, .bool r.n, .int .i64 r.la, .slice plA r.l.length qlA, .int .i64 r.c, .slice poA r.ok.length qoA, .slice pcA r.ch.length qcA, .slice ptA r.te.length qtA]) x hS (fun j u hj hne h => h) rfl
      unfold frRss at h2 ⊢
      clear hK
      go_simp
      simpa [Act.put, y0, y1, y2, y3, y4, y5, y6, y7, y8, y9, s1_, s2_, s4_, s5_, s6_, s7_, s8_] using h2
    · have e1 : t 43 = .agg #[.int .i64 r.id, .int .i64 r.p, .int .i64 r.v, .bool r.n, .int .i64 r.la, .slice plA r.l.length qlA, .int .i64 r.c, .slice poA r.ok.length qoA, .slice pcA r.ch.length qcA, .slice ptA r.te.length qtA] := hdep { on := 1, ground := Ground.data } (by simp) rfl
      refine callG1 (by rfl) 56 (.tmp 43) _ rfl (.agg #[.int .i64 r.id, .int .i64 r.p, .int .i64 r.v, .bool r.n, .int .i64 r.la, .slice plA r.l.length qlA, .int .i64 r.c, .slice poA r.ok.length qoA, .slice pcA r.ch.length qcA, .slice ptA r.te.length qtA]) e1 (Go.Proofs.enters_of Tryz.func56 (by kernel_rfl) rfl _) (fun v y => (∃ (p1 : Option Addr) (d1 : Nat) (p2 : Option Addr) (d2 : Nat) (p3 : Option Addr) (d3 : Nat) (p4 : Option Addr) (d4 : Nat), v = .agg #[.int .i64 r.id, .int .i64 r.p, .int .i64 r.v, .bool r.n, .int .i64 r.la, .slice p1 r.l.length d1, .int .i64 r.c, .slice p2 r.ok.length d2, .slice p3 r.ch.length d3, .slice p4 r.te.length d4] ∧ GotM y r p1 d1 p2 d2 p3 d3 p4 d4) ∧ Below x.heap.size x y) ((hto x (show RpGot x ⟨.slice plA r.l.length qlA, .slice poA r.ok.length qoA, .slice pcA r.ch.length qcA, .slice ptA r.te.length qtA, MA⟩ r from HI.out.kept (BB.out.trans (hS.mono BB.out.size)))).mono ?_) ?_
      · rintro e0 y0 ⟨pl0, ql0, po0, qo0, pc0, qc0, pt0, qt0, M0, h0, ho, _, hb9⟩
        exact ⟨_, h0, ⟨pl0, ql0, po0, qo0, pc0, qc0, pt0, qt0, rfl, ⟨M0, ho.got⟩⟩, hb9⟩
      · rintro v y ⟨h0, hb2⟩
        exact hK v y ((show Below w11.heap.size w11 y from hS.trans (hb2.mono hS.size))) (fun j u hj hne h => GRss.keep hb2 j u hj h) h0
    · have e0 : t 42 = .agg #[.int .i64 r.id, .int .i64 r.p, .int .i64 r.v, .bool r.n, .int .i64 r.la, .slice pl4 r.l.length ql4, .int .i64 r.c, .slice po4 r.ok.length qo4, .slice pc4 r.ch.length qc4, .slice pt4 r.te.length qt4] := hdep { on := 0, ground := Ground.data } (by simp) rfl
      obtain ⟨p1_2, d1_2, p2_2, d2_2, p3_2, d3_2, p4_2, d4_2, e2, k2⟩ : ∃ (p1 : Option Addr) (d1 : Nat) (p2 : Option Addr) (d2 : Nat) (p3 : Option Addr) (d3 : Nat) (p4 : Option Addr) (d4 : Nat), t 44 = .agg #[.int .i64 r.id, .int .i64 r.p, .int .i64 r.v, .bool r.n, .int .i64 r.la, .slice p1 r.l.length d1, .int .i64 r.c, .slice p2 r.ok.length d2, .slice p3 r.ch.length d3, .slice p4 r.te.length d4] ∧ GotM x r p1 d1 p2 d2 p3 d3 p4 d4 := hdep { on := 2, ground := Ground.data } (by simp) rfl
      refine callG2 (by rfl) 57 (.tmp 42) (.tmp 44) _ rfl (.agg #[.int .i64 r.id, .int .i64 r.p, .int .i64 r.v, .bool r.n, .int .i64 r.la, .slice pl4 r.l.length ql4, .int .i64 r.c, .slice po4 r.ok.length qo4, .slice pc4 r.ch.length qc4, .slice pt4 r.te.length qt4]) (.agg #[.int .i64 r.id, .int .i64 r.p, .int .i64 r.v, .bool r.n, .int .i64 r.la, .slice p1_2 r.l.length d1_2, .int .i64 r.c, .slice p2_2 r.ok.length d2_2, .slice p3_2 r.ch.length d3_2, .slice p4_2 r.te.length d4_2]) e0 e2 (Go.Proofs.enters_of Tryz.func57 (by kernel_rfl) rfl _) (fun v y => (v = .bool true) ∧ Below x.heap.size x y) ((helG x _ _ _ _ _ _ _ _ hS k2).mono ?_) ?_
      · rintro e0 y0 ⟨h0, hb9⟩
        exact ⟨_, h0, rfl, hb9⟩
      · rintro v y ⟨h0, hb2⟩
        exact hK v y ((show Below w11.heap.size w11 y from hS.trans (hb2.mono hS.size))) (fun j u hj hne h => GRss.keep hb2 j u hj h) h0
  case done =>
    intro t w12 hS hG
    have e3 : t 45 = .bool true := hG 3 (by decide)
    replace AA : Hid (Liv w.heap.size (w.heap.size + 1) (fun W => Bx W (w.heap.size) 77 #[.int .i64 r.id, .int .i64 r.p, .int .i64 r.v, .bool r.n, .int .i64 r.la, .slice plA r.l.length qlA, .int .i64 r.c, .slice poA r.ok.length qoA, .slice pcA r.ch.length qcA, .slice ptA r.te.length qtA]) w12) := AA.out.kept hS
    replace Y : Hid (Liv w3.heap.size CY (RpF w3.heap.size CY ⟨.slice pl3 R.l.length ql3, .slice po3 R.ok.length qo3, .slice pc3 R.ch.length qc3, .slice pt3 R.te.length qt3, M3⟩ R) w12) := Y.out.kept hS
    replace Ym : Hid (Liv CY w4.heap.size (MsF CY w4.heap.size vY TY) w12) := Ym.out.kept hS
    replace Y0 : Hid (Liv w4.heap.size (w4.heap.size + 1) (fun W => Bx W (w4.heap.size) 28 #[.int .i64 R.id, .int .i64 R.p, .int .i64 R.v, .bool R.n, .int .i64 R.la, .slice pl3 R.l.length ql3, .int .i64 R.c, .slice po3 R.ok.length qo3, .slice pc3 R.ch.length qc3, .slice pt3 R.te.length qt3]) w12) := Y0.out.kept hS
    replace X : Hid (Liv w5.heap.size w6.heap.size (RpF w5.heap.size w6.heap.size ⟨.slice pl4 r.l.length ql4, .slice po4 r.ok.length qo4, .slice pc4 r.ch.length qc4, .slice pt4 r.te.length qt4, M4⟩ r) w12) := X.out.kept hS
    replace X0 : Hid (Liv w6.heap.size (w6.heap.size + 1) (fun W => Bx W (w6.heap.size) 28 #[.int .i64 r.id, .int .i64 r.p, .int .i64 r.v, .bool r.n, .int .i64 r.la, .slice pl4 r.l.length ql4, .int .i64 r.c, .slice po4 r.ok.length qo4, .slice pc4 r.ch.length qc4, .slice pt4 r.te.length qt4]) w12) := X0.out.kept hS
    replace G : Hid (Liv w7.heap.size CG (RpF w7.heap.size CG ⟨.slice pl5 R.l.length ql5, .slice po5 R.ok.length qo5, .slice pc5 R.ch.length qc5, .slice pt5 R.te.length qt5, M5⟩ R) w12) := G.out.kept hS
    replace Gm : Hid (Liv CG w8.heap.size (MsF CG w8.heap.size vG TG) w12) := Gm.out.kept hS
    replace G0 : Hid (Liv w8.heap.size (w8.heap.size + 1) (fun W => Bx W (w8.heap.size) 28 #[.int .i64 R.id, .int .i64 R.p, .int .i64 R.v, .bool R.n, .int .i64 R.la, .slice pl5 R.l.length ql5, .int .i64 R.c, .slice po5 R.ok.length qo5, .slice pc5 R.ch.length qc5, .slice pt5 R.te.length qt5]) w12) := G0.out.kept hS
    have Z12 : Hid (w11.heap.size ≤ w12.heap.size) := hS.size
    replace BB : Hid (Below w.heap.size w w12) := (show Hid _ from BB.out.trans (hS.mono BB.out.size))
    clear hG hS S0 helG
    show wpList Tryz.prog _ _ [_] _ w12
    unfold frRss
    simp only [e3, s1_, s2_, s4_, s5_, s6_, s7_, s8_]
    clear e3 s1_ s2_ s4_ s5_ s6_ s7_ s8_
    have AA_0 := AA.out.now.cell 0
    have AA_1 := AA.out.now.cell 1
    have AA_2 := AA.out.now.cell 2
    have AA_3 := AA.out.now.cell 3
    have AA_4 := AA.out.now.cell 4
    have AA_5 := AA.out.now.cell 5
    have AA_6 := AA.out.now.cell 6
    have AA_7 := AA.out.now.cell 7
    have AA_8 := AA.out.now.cell 8
    have AA_9 := AA.out.now.cell 9
    have Y0_0 := Y0.out.now.cell 0
    have Y0_1 := Y0.out.now.cell 1
    have Y0_2 := Y0.out.now.cell 2
    have Y0_3 := Y0.out.now.cell 3
    have Y0_4 := Y0.out.now.cell 4
    have Y0_5 := Y0.out.now.cell 5
    have Y0_6 := Y0.out.now.cell 6
    have Y0_7 := Y0.out.now.cell 7
    have Y0_8 := Y0.out.now.cell 8
    have Y0_9 := Y0.out.now.cell 9
    have X0_0 := X0.out.now.cell 0
    have X0_1 := X0.out.now.cell 1
    have X0_2 := X0.out.now.cell 2
    have X0_3 := X0.out.now.cell 3
    have X0_4 := X0.out.now.cell 4
    have X0_5 := X0.out.now.cell 5
    have X0_6 := X0.out.now.cell 6
    have X0_7 := X0.out.now.cell 7
    have X0_8 := X0.out.now.cell 8
    have X0_9 := X0.out.now.cell 9
    have G0_0 := G0.out.now.cell 0
    have G0_1 := G0.out.now.cell 1
    have G0_2 := G0.out.now.cell 2
    have G0_3 := G0.out.now.cell 3
    have G0_4 := G0.out.now.cell 4
    have G0_5 := G0.out.now.cell 5
    have G0_6 := G0.out.now.cell 6
    have G0_7 := G0.out.now.cell 7
    have G0_8 := G0.out.now.cell 8
    have G0_9 := G0.out.now.cell 9
    go_wp2_with fail
    clear AA_0 AA_1 AA_2 AA_3 AA_4 AA_5 AA_6 AA_7 AA_8 AA_9 Y0_0 Y0_1 Y0_2 Y0_3 Y0_4 Y0_5 Y0_6 Y0_7 Y0_8 Y0_9 X0_0 X0_1 X0_2 X0_3 X0_4 X0_5 X0_6 X0_7 X0_8 X0_9 G0_0 G0_1 G0_2 G0_3 G0_4 G0_5 G0_6 G0_7 G0_8 G0_9
    refine (hkl _ _ _ X.out.now.1 HA.out).mono ?_
    rintro e w13 ⟨rfl, hb⟩
    have hc : Chg w5.heap.size w6.heap.size w12 w13 := hb.chg (fun k ⟨v, hv, hk⟩ => ⟨X.out.now.1.from v hv k hk, X.out.now.2 v hv k hk⟩)
    clear X0
    replace AA : Hid (Liv w.heap.size (w.heap.size + 1) (fun W => Bx W (w.heap.size) 77 #[.int .i64 r.id, .int .i64 r.p, .int .i64 r.v, .bool r.n, .int .i64 r.la, .slice plA r.l.length qlA, .int .i64 r.c, .slice poA r.ok.length qoA, .slice pcA r.ch.length qcA, .slice ptA r.te.length qtA]) w13) := AA.out.off hc (by have := Z1.out; have := Z2.out; have := Z3.out; have := Z4.out; have := Z5.out; have := ZCY.out; have := Z6.out; have := Z7.out; have := Z8.out; have := Z9.out; have := ZCG.out; have := Z10.out; have := Z11.out; have := Z12.out; omega)
    replace Y : Hid (Liv w3.heap.size CY (RpF w3.heap.size CY ⟨.slice pl3 R.l.length ql3, .slice po3 R.ok.length qo3, .slice pc3 R.ch.length qc3, .slice pt3 R.te.length qt3, M3⟩ R) w13) := Y.out.off hc (by have := Z1.out; have := Z2.out; have := Z3.out; have := Z4.out; have := Z5.out; have := ZCY.out; have := Z6.out; have := Z7.out; have := Z8.out; have := Z9.out; have := ZCG.out; have := Z10.out; have := Z11.out; have := Z12.out; omega)
    replace Ym : Hid (Liv CY w4.heap.size (MsF CY w4.heap.size vY TY) w13) := Ym.out.off hc (by have := Z1.out; have := Z2.out; have := Z3.out; have := Z4.out; have := Z5.out; have := ZCY.out; have := Z6.out; have := Z7.out; have := Z8.out; have := Z9.out; have := ZCG.out; have := Z10.out; have := Z11.out; have := Z12.out; omega)
    replace Y0 : Hid (Liv w4.heap.size (w4.heap.size + 1) (fun W => Bx W (w4.heap.size) 28 #[.int .i64 R.id, .int .i64 R.p, .int .i64 R.v, .bool R.n, .int .i64 R.la, .slice pl3 R.l.length ql3, .int .i64 R.c, .slice po3 R.ok.length qo3, .slice pc3 R.ch.length qc3, .slice pt3 R.te.length qt3]) w13) := Y0.out.off hc (by have := Z1.out; have := Z2.out; have := Z3.out; have := Z4.out; have := Z5.out; have := ZCY.out; have := Z6.out; have := Z7.out; have := Z8.out; have := Z9.out; have := ZCG.out; have := Z10.out; have := Z11.out; have := Z12.out; omega)
    replace G : Hid (Liv w7.heap.size CG (RpF w7.heap.size CG ⟨.slice pl5 R.l.length ql5, .slice po5 R.ok.length qo5, .slice pc5 R.ch.length qc5, .slice pt5 R.te.length qt5, M5⟩ R) w13) := G.out.off hc (by have := Z1.out; have := Z2.out; have := Z3.out; have := Z4.out; have := Z5.out; have := ZCY.out; have := Z6.out; have := Z7.out; have := Z8.out; have := Z9.out; have := ZCG.out; have := Z10.out; have := Z11.out; have := Z12.out; omega)
    replace Gm : Hid (Liv CG w8.heap.size (MsF CG w8.heap.size vG TG) w13) := Gm.out.off hc (by have := Z1.out; have := Z2.out; have := Z3.out; have := Z4.out; have := Z5.out; have := ZCY.out; have := Z6.out; have := Z7.out; have := Z8.out; have := Z9.out; have := ZCG.out; have := Z10.out; have := Z11.out; have := Z12.out; omega)
    replace G0 : Hid (Liv w8.heap.size (w8.heap.size + 1) (fun W => Bx W (w8.heap.size) 28 #[.int .i64 R.id, .int .i64 R.p, .int .i64 R.v, .bool R.n, .int .i64 R.la, .slice pl5 R.l.length ql5, .int .i64 R.c, .slice po5 R.ok.length qo5, .slice pc5 R.ch.length qc5, .slice pt5 R.te.length qt5]) w13) := G0.out.off hc (by have := Z1.out; have := Z2.out; have := Z3.out; have := Z4.out; have := Z5.out; have := ZCY.out; have := Z6.out; have := Z7.out; have := Z8.out; have := Z9.out; have := ZCG.out; have := Z10.out; have := Z11.out; have := Z12.out; omega)
    clear X
    have Z13 : Hid (w12.heap.size ≤ w13.heap.size) := hc.size
    replace BB : Hid (Below w.heap.size w w13) := (show Hid _ from hc.below BB.out BB.out.size (by have := Z1.out; have := Z2.out; have := Z3.out; have := Z4.out; have := Z5.out; have := ZCY.out; have := Z6.out; have := Z7.out; have := Z8.out; have := Z9.out; have := ZCG.out; have := Z10.out; have := Z11.out; have := Z12.out; have := Z13.out; omega))
    clear hb hc
    have AA_0 := AA.out.now.cell 0
    have AA_1 := AA.out.now.cell 1
    have AA_2 := AA.out.now.cell 2
    have AA_3 := AA.out.now.cell 3
    have AA_4 := AA.out.now.cell 4
    have AA_5 := AA.out.now.cell 5
    have AA_6 := AA.out.now.cell 6
    have AA_7 := AA.out.now.cell 7
    have AA_8 := AA.out.now.cell 8
    have AA_9 := AA.out.now.cell 9
    have Y0_0 := Y0.out.now.cell 0
    have Y0_1 := Y0.out.now.cell 1
    have Y0_2 := Y0.out.now.cell 2
    have Y0_3 := Y0.out.now.cell 3
    have Y0_4 := Y0.out.now.cell 4
    have Y0_5 := Y0.out.now.cell 5
    have Y0_6 := Y0.out.now.cell 6
    have Y0_7 := Y0.out.now.cell 7
    have Y0_8 := Y0.out.now.cell 8
    have Y0_9 := Y0.out.now.cell 9
    have G0_0 := G0.out.now.cell 0
    have G0_1 := G0.out.now.cell 1
    have G0_2 := G0.out.now.cell 2
    have G0_3 := G0.out.now.cell 3
    have G0_4 := G0.out.now.cell 4
    have G0_5 := G0.out.now.cell 5
    have G0_6 := G0.out.now.cell 6
    have G0_7 := G0.out.now.cell 7
    have G0_8 := G0.out.now.cell 8
    have G0_9 := G0.out.now.cell 9
    go_wp2_with fail
    clear AA_0 AA_1 AA_2 AA_3 AA_4 AA_5 AA_6 AA_7 AA_8 AA_9 Y0_0 Y0_1 Y0_2 Y0_3 Y0_4 Y0_5 Y0_6 Y0_7 Y0_8 Y0_9 G0_0 G0_1 G0_2 G0_3 G0_4 G0_5 G0_6 G0_7 G0_8 G0_9
    refine (hel R _ _ _ G.out.now.1.got Y.out.now.1.got HRF.out).mono ?_
    rintro e w14 ⟨rfl, hb⟩
    replace AA : Hid (Liv w.heap.size (w.heap.size + 1) (fun W => Bx W (w.heap.size) 77 #[.int .i64 r.id, .int .i64 r.p, .int .i64 r.v, .bool r.n, .int .i64 r.la, .slice plA r.l.length qlA, .int .i64 r.c, .slice poA r.ok.length qoA, .slice pcA r.ch.length qcA, .slice ptA r.te.length qtA]) w14) := AA.out.kept hb
    replace Y : Hid (Liv w3.heap.size CY (RpF w3.heap.size CY ⟨.slice pl3 R.l.length ql3, .slice po3 R.ok.length qo3, .slice pc3 R.ch.length qc3, .slice pt3 R.te.length qt3, M3⟩ R) w14) := Y.out.kept hb
    replace Ym : Hid (Liv CY w4.heap.size (MsF CY w4.heap.size vY TY) w14) := Ym.out.kept hb
    replace Y0 : Hid (Liv w4.heap.size (w4.heap.size + 1) (fun W => Bx W (w4.heap.size) 28 #[.int .i64 R.id, .int .i64 R.p, .int .i64 R.v, .bool R.n, .int .i64 R.la, .slice pl3 R.l.length ql3, .int .i64 R.c, .slice po3 R.ok.length qo3, .slice pc3 R.ch.length qc3, .slice pt3 R.te.length qt3]) w14) := Y0.out.kept hb
    replace G : Hid (Liv w7.heap.size CG (RpF w7.heap.size CG ⟨.slice pl5 R.l.length ql5, .slice po5 R.ok.length qo5, .slice pc5 R.ch.length qc5, .slice pt5 R.te.length qt5, M5⟩ R) w14) := G.out.kept hb
    replace Gm : Hid (Liv CG w8.heap.size (MsF CG w8.heap.size vG TG) w14) := Gm.out.kept hb
    replace G0 : Hid (Liv w8.heap.size (w8.heap.size + 1) (fun W => Bx W (w8.heap.size) 28 #[.int .i64 R.id, .int .i64 R.p, .int .i64 R.v, .bool R.n, .int .i64 R.la, .slice pl5 R.l.length ql5, .int .i64 R.c, .slice po5 R.ok.length qo5, .slice pc5 R.ch.length qc5, .slice pt5 R.te.length qt5]) w14) := G0.out.kept hb
    have Z14 : Hid (w13.heap.size ≤ w14.heap.size) := hb.size
    replace BB : Hid (Below w.heap.size w w14) := (show Hid _ from BB.out.trans (hb.mono BB.out.size))
    clear hb
    have AA_0 := AA.out.now.cell 0
    have AA_1 := AA.out.now.cell 1
    have AA_2 := AA.out.now.cell 2
    have AA_3 := AA.out.now.cell 3
    have AA_4 := AA.out.now.cell 4
    have AA_5 := AA.out.now.cell 5
    have AA_6 := AA.out.now.cell 6
    have AA_7 := AA.out.now.cell 7
    have AA_8 := AA.out.now.cell 8
    have AA_9 := AA.out.now.cell 9
    have Y0_0 := Y0.out.now.cell 0
    have Y0_1 := Y0.out.now.cell 1
    have Y0_2 := Y0.out.now.cell 2
    have Y0_3 := Y0.out.now.cell 3
    have Y0_4 := Y0.out.now.cell 4
    have Y0_5 := Y0.out.now.cell 5
    have Y0_6 := Y0.out.now.cell 6
    have Y0_7 := Y0.out.now.cell 7
    have Y0_8 := Y0.out.now.cell 8
    have Y0_9 := Y0.out.now.cell 9
    have G0_0 := G0.out.now.cell 0
    have G0_1 := G0.out.now.cell 1
    have G0_2 := G0.out.now.cell 2
    have G0_3 := G0.out.now.cell 3
    have G0_4 := G0.out.now.cell 4
    have G0_5 := G0.out.now.cell 5
    have G0_6 := G0.out.now.cell 6
    have G0_7 := G0.out.now.cell 7
    have G0_8 := G0.out.now.cell 8
    have G0_9 := G0.out.now.cell 9
    go_wp2_with fail
    clear AA_0 AA_1 AA_2 AA_3 AA_4 AA_5 AA_6 AA_7 AA_8 AA_9 Y0_0 Y0_1 Y0_2 Y0_3 Y0_4 Y0_5 Y0_6 Y0_7 Y0_8 Y0_9 G0_0 G0_1 G0_2 G0_3 G0_4 G0_5 G0_6 G0_7 G0_8 G0_9
    refine (eqMs1 HFW.out _ Gm.out.now Ym.out.now ITG.out ITY.out).mono ?_
    rintro e w15 ⟨rfl, hb⟩
    replace AA : Hid (Liv w.heap.size (w.heap.size + 1) (fun W => Bx W (w.heap.size) 77 #[.int .i64 r.id, .int .i64 r.p, .int .i64 r.v, .bool r.n, .int .i64 r.la, .slice plA r.l.length qlA, .int .i64 r.c, .slice poA r.ok.length qoA, .slice pcA r.ch.length qcA, .slice ptA r.te.length qtA]) w15) := AA.out.kept hb
    replace Y : Hid (Liv w3.heap.size CY (RpF w3.heap.size CY ⟨.slice pl3 R.l.length ql3, .slice po3 R.ok.length qo3, .slice pc3 R.ch.length qc3, .slice pt3 R.te.length qt3, M3⟩ R) w15) := Y.out.kept hb
    replace Ym : Hid (Liv CY w4.heap.size (MsF CY w4.heap.size vY TY) w15) := Ym.out.kept hb
    replace Y0 : Hid (Liv w4.heap.size (w4.heap.size + 1) (fun W => Bx W (w4.heap.size) 28 #[.int .i64 R.id, .int .i64 R.p, .int .i64 R.v, .bool R.n, .int .i64 R.la, .slice pl3 R.l.length ql3, .int .i64 R.c, .slice po3 R.ok.length qo3, .slice pc3 R.ch.length qc3, .slice pt3 R.te.length qt3]) w15) := Y0.out.kept hb
    replace G : Hid (Liv w7.heap.size CG (RpF w7.heap.size CG ⟨.slice pl5 R.l.length ql5, .slice po5 R.ok.length qo5, .slice pc5 R.ch.length qc5, .slice pt5 R.te.length qt5, M5⟩ R) w15) := G.out.kept hb
    replace Gm : Hid (Liv CG w8.heap.size (MsF CG w8.heap.size vG TG) w15) := Gm.out.kept hb
    replace G0 : Hid (Liv w8.heap.size (w8.heap.size + 1) (fun W => Bx W (w8.heap.size) 28 #[.int .i64 R.id, .int .i64 R.p, .int .i64 R.v, .bool R.n, .int .i64 R.la, .slice pl5 R.l.length ql5, .int .i64 R.c, .slice po5 R.ok.length qo5, .slice pc5 R.ch.length qc5, .slice pt5 R.te.length qt5]) w15) := G0.out.kept hb
    have Z15 : Hid (w14.heap.size ≤ w15.heap.size) := hb.size
    replace BB : Hid (Below w.heap.size w w15) := (show Hid _ from BB.out.trans (hb.mono BB.out.size))
    clear hb
    have AA_0 := AA.out.now.cell 0
    have AA_1 := AA.out.now.cell 1
    have AA_2 := AA.out.now.cell 2
    have AA_3 := AA.out.now.cell 3
    have AA_4 := AA.out.now.cell 4
    have AA_5 := AA.out.now.cell 5
    have AA_6 := AA.out.now.cell 6
    have AA_7 := AA.out.now.cell 7
    have AA_8 := AA.out.now.cell 8
    have AA_9 := AA.out.now.cell 9
    have Y0_0 := Y0.out.now.cell 0
    have Y0_1 := Y0.out.now.cell 1
    have Y0_2 := Y0.out.now.cell 2
    have Y0_3 := Y0.out.now.cell 3
    have Y0_4 := Y0.out.now.cell 4
    have Y0_5 := Y0.out.now.cell 5
    have Y0_6 := Y0.out.now.cell 6
    have Y0_7 := Y0.out.now.cell 7
    have Y0_8 := Y0.out.now.cell 8
    have Y0_9 := Y0.out.now.cell 9
    have G0_0 := G0.out.now.cell 0
    have G0_1 := G0.out.now.cell 1
    have G0_2 := G0.out.now.cell 2
    have G0_3 := G0.out.now.cell 3
    have G0_4 := G0.out.now.cell 4
    have G0_5 := G0.out.now.cell 5
    have G0_6 := G0.out.now.cell 6
    have G0_7 := G0.out.now.cell 7
    have G0_8 := G0.out.now.cell 8
    have G0_9 := G0.out.now.cell 9
    go_wp2_with fail
    clear AA_0 AA_1 AA_2 AA_3 AA_4 AA_5 AA_6 AA_7 AA_8 AA_9 Y0_0 Y0_1 Y0_2 Y0_3 Y0_4 Y0_5 Y0_6 Y0_7 Y0_8 Y0_9 G0_0 G0_1 G0_2 G0_3 G0_4 G0_5 G0_6 G0_7 G0_8 G0_9
    refine (hkm _ _ _ _ G.out.now AG.out).mono ?_
    rintro e w16 ⟨rfl, hm, hb⟩
    have hc : Chg w7.heap.size CG w15 w16 := hb
    replace AA : Hid (Liv w.heap.size (w.heap.size + 1) (fun W => Bx W (w.heap.size) 77 #[.int .i64 r.id, .int .i64 r.p, .int .i64 r.v, .bool r.n, .int .i64 r.la, .slice plA r.l.length qlA, .int .i64 r.c, .slice poA r.ok.length qoA, .slice pcA r.ch.length qcA, .slice ptA r.te.length qtA]) w16) := AA.out.off hc (by have := Z1.out; have := Z2.out; have := Z3.out; have := Z4.out; have := Z5.out; have := ZCY.out; have := Z6.out; have := Z7.out; have := Z8.out; have := Z9.out; have := ZCG.out; have := Z10.out; have := Z11.out; have := Z12.out; have := Z13.out; have := Z14.out; have := Z15.out; omega)
    replace Y : Hid (Liv w3.heap.size CY (RpF w3.heap.size CY ⟨.slice pl3 R.l.length ql3, .slice po3 R.ok.length qo3, .slice pc3 R.ch.length qc3, .slice pt3 R.te.length qt3, M3⟩ R) w16) := Y.out.off hc (by have := Z1.out; have := Z2.out; have := Z3.out; have := Z4.out; have := Z5.out; have := ZCY.out; have := Z6.out; have := Z7.out; have := Z8.out; have := Z9.out; have := ZCG.out; have := Z10.out; have := Z11.out; have := Z12.out; have := Z13.out; have := Z14.out; have := Z15.out; omega)
    replace Ym : Hid (Liv CY w4.heap.size (MsF CY w4.heap.size vY TY) w16) := Ym.out.off hc (by have := Z1.out; have := Z2.out; have := Z3.out; have := Z4.out; have := Z5.out; have := ZCY.out; have := Z6.out; have := Z7.out; have := Z8.out; have := Z9.out; have := ZCG.out; have := Z10.out; have := Z11.out; have := Z12.out; have := Z13.out; have := Z14.out; have := Z15.out; omega)
    replace Y0 : Hid (Liv w4.heap.size (w4.heap.size + 1) (fun W => Bx W (w4.heap.size) 28 #[.int .i64 R.id, .int .i64 R.p, .int .i64 R.v, .bool R.n, .int .i64 R.la, .slice pl3 R.l.length ql3, .int .i64 R.c, .slice po3 R.ok.length qo3, .slice pc3 R.ch.length qc3, .slice pt3 R.te.length qt3]) w16) := Y0.out.off hc (by have := Z1.out; have := Z2.out; have := Z3.out; have := Z4.out; have := Z5.out; have := ZCY.out; have := Z6.out; have := Z7.out; have := Z8.out; have := Z9.out; have := ZCG.out; have := Z10.out; have := Z11.out; have := Z12.out; have := Z13.out; have := Z14.out; have := Z15.out; omega)
    replace G : Hid (Liv w7.heap.size CG (RpF w7.heap.size CG (mkRv 1 R ⟨.slice pl5 R.l.length ql5, .slice po5 R.ok.length qo5, .slice pc5 R.ch.length qc5, .slice pt5 R.te.length qt5, M5⟩) (mkRp 1 R M5)) w16) := (show Hid _ from Liv.rp hm.1 hm.2 (Nat.le_trans G.out.top hb.size))
    replace Gm : Hid (Liv CG w8.heap.size (MsF CG w8.heap.size vG TG) w16) := Gm.out.off hc (by have := Z1.out; have := Z2.out; have := Z3.out; have := Z4.out; have := Z5.out; have := ZCY.out; have := Z6.out; have := Z7.out; have := Z8.out; have := Z9.out; have := ZCG.out; have := Z10.out; have := Z11.out; have := Z12.out; have := Z13.out; have := Z14.out; have := Z15.out; omega)
    replace G0 : Hid (Liv w8.heap.size (w8.heap.size + 1) (fun W => Bx W (w8.heap.size) 28 #[.int .i64 R.id, .int .i64 R.p, .int .i64 R.v, .bool R.n, .int .i64 R.la, .slice pl5 R.l.length ql5, .int .i64 R.c, .slice po5 R.ok.length qo5, .slice pc5 R.ch.length qc5, .slice pt5 R.te.length qt5]) w16) := G0.out.off hc (by have := Z1.out; have := Z2.out; have := Z3.out; have := Z4.out; have := Z5.out; have := ZCY.out; have := Z6.out; have := Z7.out; have := Z8.out; have := Z9.out; have := ZCG.out; have := Z10.out; have := Z11.out; have := Z12.out; have := Z13.out; have := Z14.out; have := Z15.out; omega)
    have Z16 : Hid (w15.heap.size ≤ w16.heap.size) := hc.size
    replace BB : Hid (Below w.heap.size w w16) := (show Hid _ from hc.below BB.out BB.out.size (by have := Z1.out; have := Z2.out; have := Z3.out; have := Z4.out; have := Z5.out; have := ZCY.out; have := Z6.out; have := Z7.out; have := Z8.out; have := Z9.out; have := ZCG.out; have := Z10.out; have := Z11.out; have := Z12.out; have := Z13.out; have := Z14.out; have := Z15.out; have := Z16.out; omega))
    clear hb hc hm
    have AA_0 := AA.out.now.cell 0
    have AA_1 := AA.out.now.cell 1
    have AA_2 := AA.out.now.cell 2
    have AA_3 := AA.out.now.cell 3
    have AA_4 := AA.out.now.cell 4
    have AA_5 := AA.out.now.cell 5
    have AA_6 := AA.out.now.cell 6
    have AA_7 := AA.out.now.cell 7
    have AA_8 := AA.out.now.cell 8
    have AA_9 := AA.out.now.cell 9
    have Y0_0 := Y0.out.now.cell 0
    have Y0_1 := Y0.out.now.cell 1
    have Y0_2 := Y0.out.now.cell 2
    have Y0_3 := Y0.out.now.cell 3
    have Y0_4 := Y0.out.now.cell 4
    have Y0_5 := Y0.out.now.cell 5
    have Y0_6 := Y0.out.now.cell 6
    have Y0_7 := Y0.out.now.cell 7
    have Y0_8 := Y0.out.now.cell 8
    have Y0_9 := Y0.out.now.cell 9
    have G0_0 := G0.out.now.cell 0
    have G0_1 := G0.out.now.cell 1
    have G0_2 := G0.out.now.cell 2
    have G0_3 := G0.out.now.cell 3
    have G0_4 := G0.out.now.cell 4
    have G0_5 := G0.out.now.cell 5
    have G0_6 := G0.out.now.cell 6
    have G0_7 := G0.out.now.cell 7
    have G0_8 := G0.out.now.cell 8
    have G0_9 := G0.out.now.cell 9
    go_wp2_with fail
    clear AA_0 AA_1 AA_2 AA_3 AA_4 AA_5 AA_6 AA_7 AA_8 AA_9 Y0_0 Y0_1 Y0_2 Y0_3 Y0_4 Y0_5 Y0_6 Y0_7 Y0_8 Y0_9 G0_0 G0_1 G0_2 G0_3 G0_4 G0_5 G0_6 G0_7 G0_8 G0_9
    refine (hmm _ _ _ _ _ Gm.out.now ITG.out).mono ?_
    rintro e w17 ⟨rfl, hm, hb⟩
    have hc : Chg CG w8.heap.size w16 w17 := hb
    replace AA : Hid (Liv w.heap.size (w.heap.size + 1) (fun W => Bx W (w.heap.size) 77 #[.int .i64 r.id, .int .i64 r.p, .int .i64 r.v, .bool r.n, .int .i64 r.la, .slice plA r.l.length qlA, .int .i64 r.c, .slice poA r.ok.length qoA, .slice pcA r.ch.length qcA, .slice ptA r.te.length qtA]) w17) := AA.out.off hc (by have := Z1.out; have := Z2.out; have := Z3.out; have := Z4.out; have := Z5.out; have := ZCY.out; have := Z6.out; have := Z7.out; have := Z8.out; have := Z9.out; have := ZCG.out; have := Z10.out; have := Z11.out; have := Z12.out; have := Z13.out; have := Z14.out; have := Z15.out; have := Z16.out; omega)
    replace Y : Hid (Liv w3.heap.size CY (RpF w3.heap.size CY ⟨.slice pl3 R.l.length ql3, .slice po3 R.ok.length qo3, .slice pc3 R.ch.length qc3, .slice pt3 R.te.length qt3, M3⟩ R) w17) := Y.out.off hc (by have := Z1.out; have := Z2.out; have := Z3.out; have := Z4.out; have := Z5.out; have := ZCY.out; have := Z6.out; have := Z7.out; have := Z8.out; have := Z9.out; have := ZCG.out; have := Z10.out; have := Z11.out; have := Z12.out; have := Z13.out; have := Z14.out; have := Z15.out; have := Z16.out; omega)
    replace Ym : Hid (Liv CY w4.heap.size (MsF CY w4.heap.size vY TY) w17) := Ym.out.off hc (by have := Z1.out; have := Z2.out; have := Z3.out; have := Z4.out; have := Z5.out; have := ZCY.out; have := Z6.out; have := Z7.out; have := Z8.out; have := Z9.out; have := ZCG.out; have := Z10.out; have := Z11.out; have := Z12.out; have := Z13.out; have := Z14.out; have := Z15.out; have := Z16.out; omega)
    replace Y0 : Hid (Liv w4.heap.size (w4.heap.size + 1) (fun W => Bx W (w4.heap.size) 28 #[.int .i64 R.id, .int .i64 R.p, .int .i64 R.v, .bool R.n, .int .i64 R.la, .slice pl3 R.l.length ql3, .int .i64 R.c, .slice po3 R.ok.length qo3, .slice pc3 R.ch.length qc3, .slice pt3 R.te.length qt3]) w17) := Y0.out.off hc (by have := Z1.out; have := Z2.out; have := Z3.out; have := Z4.out; have := Z5.out; have := ZCY.out; have := Z6.out; have := Z7.out; have := Z8.out; have := Z9.out; have := ZCG.out; have := Z10.out; have := Z11.out; have := Z12.out; have := Z13.out; have := Z14.out; have := Z15.out; have := Z16.out; omega)
    replace G : Hid (Liv w7.heap.size CG (RpF w7.heap.size CG (mkRv 1 R ⟨.slice pl5 R.l.length ql5, .slice po5 R.ok.length qo5, .slice pc5 R.ch.length qc5, .slice pt5 R.te.length qt5, M5⟩) (mkRp 1 R M5)) w17) := G.out.off hc (by have := Z1.out; have := Z2.out; have := Z3.out; have := Z4.out; have := Z5.out; have := ZCY.out; have := Z6.out; have := Z7.out; have := Z8.out; have := Z9.out; have := ZCG.out; have := Z10.out; have := Z11.out; have := Z12.out; have := Z13.out; have := Z14.out; have := Z15.out; have := Z16.out; omega)
    replace Gm : Hid (Liv CG w8.heap.size (MsF CG w8.heap.size vG (mkTe ss TG)) w17) := (show Hid _ from Liv.ms hm (Nat.le_trans Gm.out.top hb.size))
    replace G0 : Hid (Liv w8.heap.size (w8.heap.size + 1) (fun W => Bx W (w8.heap.size) 28 #[.int .i64 R.id, .int .i64 R.p, .int .i64 R.v, .bool R.n, .int .i64 R.la, .slice pl5 R.l.length ql5, .int .i64 R.c, .slice po5 R.ok.length qo5, .slice pc5 R.ch.length qc5, .slice pt5 R.te.length qt5]) w17) := G0.out.off hc (by have := Z1.out; have := Z2.out; have := Z3.out; have := Z4.out; have := Z5.out; have := ZCY.out; have := Z6.out; have := Z7.out; have := Z8.out; have := Z9.out; have := ZCG.out; have := Z10.out; have := Z11.out; have := Z12.out; have := Z13.out; have := Z14.out; have := Z15.out; have := Z16.out; omega)
    have Z17 : Hid (w16.heap.size ≤ w17.heap.size) := hc.size
    replace BB : Hid (Below w.heap.size w w17) := (show Hid _ from hc.below BB.out BB.out.size (by have := Z1.out; have := Z2.out; have := Z3.out; have := Z4.out; have := Z5.out; have := ZCY.out; have := Z6.out; have := Z7.out; have := Z8.out; have := Z9.out; have := ZCG.out; have := Z10.out; have := Z11.out; have := Z12.out; have := Z13.out; have := Z14.out; have := Z15.out; have := Z16.out; have := Z17.out; omega))
    clear hb hc hm
    have AA_0 := AA.out.now.cell 0
    have AA_1 := AA.out.now.cell 1
    have AA_2 := AA.out.now.cell 2
    have AA_3 := AA.out.now.cell 3
    have AA_4 := AA.out.now.cell 4
    have AA_5 := AA.out.now.cell 5
    have AA_6 := AA.out.now.cell 6
    have AA_7 := AA.out.now.cell 7
    have AA_8 := AA.out.now.cell 8
    have AA_9 := AA.out.now.cell 9
    have Y0_0 := Y0.out.now.cell 0
    have Y0_1 := Y0.out.now.cell 1
    have Y0_2 := Y0.out.now.cell 2
    have Y0_3 := Y0.out.now.cell 3
    have Y0_4 := Y0.out.now.cell 4
    have Y0_5 := Y0.out.now.cell 5
    have Y0_6 := Y0.out.now.cell 6
    have Y0_7 := Y0.out.now.cell 7
    have Y0_8 := Y0.out.now.cell 8
    have Y0_9 := Y0.out.now.cell 9
    have G0_0 := G0.out.now.cell 0
    have G0_1 := G0.out.now.cell 1
    have G0_2 := G0.out.now.cell 2
    have G0_3 := G0.out.now.cell 3
    have G0_4 := G0.out.now.cell 4
    have G0_5 := G0.out.now.cell 5
    have G0_6 := G0.out.now.cell 6
    have G0_7 := G0.out.now.cell 7
    have G0_8 := G0.out.now.cell 8
    have G0_9 := G0.out.now.cell 9
    have hn0 : ¬ mkS ss TG < 0 := mkS_nn ss TG
    have dmm : (mkS ss TG != mkS ss TG) = false := by simp
    go_wp2_with fail
    clear AA_0 AA_1 AA_2 AA_3 AA_4 AA_5 AA_6 AA_7 AA_8 AA_9 Y0_0 Y0_1 Y0_2 Y0_3 Y0_4 Y0_5 Y0_6 Y0_7 Y0_8 Y0_9 G0_0 G0_1 G0_2 G0_3 G0_4 G0_5 G0_6 G0_7 G0_8 G0_9
    refine (hhd _ _ _ _ G.out.now EG.out).mono ?_
    rintro e w18 ⟨rfl, hb⟩
    replace AA : Hid (Liv w.heap.size (w.heap.size + 1) (fun W => Bx W (w.heap.size) 77 #[.int .i64 r.id, .int .i64 r.p, .int .i64 r.v, .bool r.n, .int .i64 r.la, .slice plA r.l.length qlA, .int .i64 r.c, .slice poA r.ok.length qoA, .slice pcA r.ch.length qcA, .slice ptA r.te.length qtA]) w18) := AA.out.kept hb
    replace Y : Hid (Liv w3.heap.size CY (RpF w3.heap.size CY ⟨.slice pl3 R.l.length ql3, .slice po3 R.ok.length qo3, .slice pc3 R.ch.length qc3, .slice pt3 R.te.length qt3, M3⟩ R) w18) := Y.out.kept hb
    replace Ym : Hid (Liv CY w4.heap.size (MsF CY w4.heap.size vY TY) w18) := Ym.out.kept hb
    replace Y0 : Hid (Liv w4.heap.size (w4.heap.size + 1) (fun W => Bx W (w4.heap.size) 28 #[.int .i64 R.id, .int .i64 R.p, .int .i64 R.v, .bool R.n, .int .i64 R.la, .slice pl3 R.l.length ql3, .int .i64 R.c, .slice po3 R.ok.length qo3, .slice pc3 R.ch.length qc3, .slice pt3 R.te.length qt3]) w18) := Y0.out.kept hb
    replace G : Hid (Liv w7.heap.size CG (RpF w7.heap.size CG (mkRv 1 R ⟨.slice pl5 R.l.length ql5, .slice po5 R.ok.length qo5, .slice pc5 R.ch.length qc5, .slice pt5 R.te.length qt5, M5⟩) (mkRp 1 R M5)) w18) := G.out.kept hb
    replace Gm : Hid (Liv CG w8.heap.size (MsF CG w8.heap.size vG (mkTe ss TG)) w18) := Gm.out.kept hb
    replace G0 : Hid (Liv w8.heap.size (w8.heap.size + 1) (fun W => Bx W (w8.heap.size) 28 #[.int .i64 R.id, .int .i64 R.p, .int .i64 R.v, .bool R.n, .int .i64 R.la, .slice pl5 R.l.length ql5, .int .i64 R.c, .slice po5 R.ok.length qo5, .slice pc5 R.ch.length qc5, .slice pt5 R.te.length qt5]) w18) := G0.out.kept hb
    have Z18 : Hid (w17.heap.size ≤ w18.heap.size) := hb.size
    replace BB : Hid (Below w.heap.size w w18) := (show Hid _ from BB.out.trans (hb.mono BB.out.size))
    clear hb
    have AA_0 := AA.out.now.cell 0
    have AA_1 := AA.out.now.cell 1
    have AA_2 := AA.out.now.cell 2
    have AA_3 := AA.out.now.cell 3
    have AA_4 := AA.out.now.cell 4
    have AA_5 := AA.out.now.cell 5
    have AA_6 := AA.out.now.cell 6
    have AA_7 := AA.out.now.cell 7
    have AA_8 := AA.out.now.cell 8
    have AA_9 := AA.out.now.cell 9
    have Y0_0 := Y0.out.now.cell 0
    have Y0_1 := Y0.out.now.cell 1
    have Y0_2 := Y0.out.now.cell 2
    have Y0_3 := Y0.out.now.cell 3
    have Y0_4 := Y0.out.now.cell 4
    have Y0_5 := Y0.out.now.cell 5
    have Y0_6 := Y0.out.now.cell 6
    have Y0_7 := Y0.out.now.cell 7
    have Y0_8 := Y0.out.now.cell 8
    have Y0_9 := Y0.out.now.cell 9
    have G0_0 := G0.out.now.cell 0
    have G0_1 := G0.out.now.cell 1
    have G0_2 := G0.out.now.cell 2
    have G0_3 := G0.out.now.cell 3
    have G0_4 := G0.out.now.cell 4
    have G0_5 := G0.out.now.cell 5
    have G0_6 := G0.out.now.cell 6
    have G0_7 := G0.out.now.cell 7
    have G0_8 := G0.out.now.cell 8
    have G0_9 := G0.out.now.cell 9
    go_wp2_with fail
    clear AA_0 AA_1 AA_2 AA_3 AA_4 AA_5 AA_6 AA_7 AA_8 AA_9 Y0_0 Y0_1 Y0_2 Y0_3 Y0_4 Y0_5 Y0_6 Y0_7 Y0_8 Y0_9 G0_0 G0_1 G0_2 G0_3 G0_4 G0_5 G0_6 G0_7 G0_8 G0_9
    refine (hhm _ _ _ _ _ Gm.out.now ITG.out).mono ?_
    rintro e w19 ⟨rfl, hb⟩
    replace AA : Hid (Liv w.heap.size (w.heap.size + 1) (fun W => Bx W (w.heap.size) 77 #[.int .i64 r.id, .int .i64 r.p, .int .i64 r.v, .bool r.n, .int .i64 r.la, .slice plA r.l.length qlA, .int .i64 r.c, .slice poA r.ok.length qoA, .slice pcA r.ch.length qcA, .slice ptA r.te.length qtA]) w19) := AA.out.kept hb
    replace Y : Hid (Liv w3.heap.size CY (RpF w3.heap.size CY ⟨.slice pl3 R.l.length ql3, .slice po3 R.ok.length qo3, .slice pc3 R.ch.length qc3, .slice pt3 R.te.length qt3, M3⟩ R) w19) := Y.out.kept hb
    replace Ym : Hid (Liv CY w4.heap.size (MsF CY w4.heap.size vY TY) w19) := Ym.out.kept hb
    replace Y0 : Hid (Liv w4.heap.size (w4.heap.size + 1) (fun W => Bx W (w4.heap.size) 28 #[.int .i64 R.id, .int .i64 R.p, .int .i64 R.v, .bool R.n, .int .i64 R.la, .slice pl3 R.l.length ql3, .int .i64 R.c, .slice po3 R.ok.length qo3, .slice pc3 R.ch.length qc3, .slice pt3 R.te.length qt3]) w19) := Y0.out.kept hb
    replace G : Hid (Liv w7.heap.size CG (RpF w7.heap.size CG (mkRv 1 R ⟨.slice pl5 R.l.length ql5, .slice po5 R.ok.length qo5, .slice pc5 R.ch.length qc5, .slice pt5 R.te.length qt5, M5⟩) (mkRp 1 R M5)) w19) := G.out.kept hb
    replace Gm : Hid (Liv CG w8.heap.size (MsF CG w8.heap.size vG (mkTe ss TG)) w19) := Gm.out.kept hb
    replace G0 : Hid (Liv w8.heap.size (w8.heap.size + 1) (fun W => Bx W (w8.heap.size) 28 #[.int .i64 R.id, .int .i64 R.p, .int .i64 R.v, .bool R.n, .int .i64 R.la, .slice pl5 R.l.length ql5, .int .i64 R.c, .slice po5 R.ok.length qo5, .slice pc5 R.ch.length qc5, .slice pt5 R.te.length qt5]) w19) := G0.out.kept hb
    have Z19 : Hid (w18.heap.size ≤ w19.heap.size) := hb.size
    replace BB : Hid (Below w.heap.size w w19) := (show Hid _ from BB.out.trans (hb.mono BB.out.size))
    clear hb
    have AA_0 := AA.out.now.cell 0
    have AA_1 := AA.out.now.cell 1
    have AA_2 := AA.out.now.cell 2
    have AA_3 := AA.out.now.cell 3
    have AA_4 := AA.out.now.cell 4
    have AA_5 := AA.out.now.cell 5
    have AA_6 := AA.out.now.cell 6
    have AA_7 := AA.out.now.cell 7
    have AA_8 := AA.out.now.cell 8
    have AA_9 := AA.out.now.cell 9
    have Y0_0 := Y0.out.now.cell 0
    have Y0_1 := Y0.out.now.cell 1
    have Y0_2 := Y0.out.now.cell 2
    have Y0_3 := Y0.out.now.cell 3
    have Y0_4 := Y0.out.now.cell 4
    have Y0_5 := Y0.out.now.cell 5
    have Y0_6 := Y0.out.now.cell 6
    have Y0_7 := Y0.out.now.cell 7
    have Y0_8 := Y0.out.now.cell 8
    have Y0_9 := Y0.out.now.cell 9
    have G0_0 := G0.out.now.cell 0
    have G0_1 := G0.out.now.cell 1
    have G0_2 := G0.out.now.cell 2
    have G0_3 := G0.out.now.cell 3
    have G0_4 := G0.out.now.cell 4
    have G0_5 := G0.out.now.cell 5
    have G0_6 := G0.out.now.cell 6
    have G0_7 := G0.out.now.cell 7
    have G0_8 := G0.out.now.cell 8
    have G0_9 := G0.out.now.cell 9
    go_wp2_with fail
    clear AA_0 AA_1 AA_2 AA_3 AA_4 AA_5 AA_6 AA_7 AA_8 AA_9 Y0_0 Y0_1 Y0_2 Y0_3 Y0_4 Y0_5 Y0_6 Y0_7 Y0_8 Y0_9 G0_0 G0_1 G0_2 G0_3 G0_4 G0_5 G0_6 G0_7 G0_8 G0_9
    refine (hto _ (HI.out.kept BB.out)).mono ?_
    rintro e w20 ⟨pl6, ql6, po6, qo6, pc6, qc6, pt6, qt6, M6, rfl, ho, _, hb⟩
    replace AA : Hid (Liv w.heap.size (w.heap.size + 1) (fun W => Bx W (w.heap.size) 77 #[.int .i64 r.id, .int .i64 r.p, .int .i64 r.v, .bool r.n, .int .i64 r.la, .slice plA r.l.length qlA, .int .i64 r.c, .slice poA r.ok.length qoA, .slice pcA r.ch.length qcA, .slice ptA r.te.length qtA]) w20) := AA.out.kept hb
    replace Y : Hid (Liv w3.heap.size CY (RpF w3.heap.size CY ⟨.slice pl3 R.l.length ql3, .slice po3 R.ok.length qo3, .slice pc3 R.ch.length qc3, .slice pt3 R.te.length qt3, M3⟩ R) w20) := Y.out.kept hb
    replace Ym : Hid (Liv CY w4.heap.size (MsF CY w4.heap.size vY TY) w20) := Ym.out.kept hb
    replace Y0 : Hid (Liv w4.heap.size (w4.heap.size + 1) (fun W => Bx W (w4.heap.size) 28 #[.int .i64 R.id, .int .i64 R.p, .int .i64 R.v, .bool R.n, .int .i64 R.la, .slice pl3 R.l.length ql3, .int .i64 R.c, .slice po3 R.ok.length qo3, .slice pc3 R.ch.length qc3, .slice pt3 R.te.length qt3]) w20) := Y0.out.kept hb
    replace G : Hid (Liv w7.heap.size CG (RpF w7.heap.size CG (mkRv 1 R ⟨.slice pl5 R.l.length ql5, .slice po5 R.ok.length qo5, .slice pc5 R.ch.length qc5, .slice pt5 R.te.length qt5, M5⟩) (mkRp 1 R M5)) w20) := G.out.kept hb
    replace Gm : Hid (Liv CG w8.heap.size (MsF CG w8.heap.size vG (mkTe ss TG)) w20) := Gm.out.kept hb
    replace G0 : Hid (Liv w8.heap.size (w8.heap.size + 1) (fun W => Bx W (w8.heap.size) 28 #[.int .i64 R.id, .int .i64 R.p, .int .i64 R.v, .bool R.n, .int .i64 R.la, .slice pl5 R.l.length ql5, .int .i64 R.c, .slice po5 R.ok.length qo5, .slice pc5 R.ch.length qc5, .slice pt5 R.te.length qt5]) w20) := G0.out.kept hb
    have U : Hid (Liv w19.heap.size w20.heap.size (RpF w19.heap.size w20.heap.size ⟨.slice pl6 r.l.length ql6, .slice po6 r.ok.length qo6, .slice pc6 r.ch.length qc6, .slice pt6 r.te.length qt6, M6⟩ r) w20) := (show Hid _ from Liv.newRp ho)
    have Z20 : Hid (w19.heap.size ≤ w20.heap.size) := hb.size
    replace BB : Hid (Below w.heap.size w w20) := (show Hid _ from BB.out.trans (hb.mono BB.out.size))
    clear hb ho
    have AA_0 := AA.out.now.cell 0
    have AA_1 := AA.out.now.cell 1
    have AA_2 := AA.out.now.cell 2
    have AA_3 := AA.out.now.cell 3
    have AA_4 := AA.out.now.cell 4
    have AA_5 := AA.out.now.cell 5
    have AA_6 := AA.out.now.cell 6
    have AA_7 := AA.out.now.cell 7
    have AA_8 := AA.out.now.cell 8
    have AA_9 := AA.out.now.cell 9
    have Y0_0 := Y0.out.now.cell 0
    have Y0_1 := Y0.out.now.cell 1
    have Y0_2 := Y0.out.now.cell 2
    have Y0_3 := Y0.out.now.cell 3
    have Y0_4 := Y0.out.now.cell 4
    have Y0_5 := Y0.out.now.cell 5
    have Y0_6 := Y0.out.now.cell 6
    have Y0_7 := Y0.out.now.cell 7
    have Y0_8 := Y0.out.now.cell 8
    have Y0_9 := Y0.out.now.cell 9
    have G0_0 := G0.out.now.cell 0
    have G0_1 := G0.out.now.cell 1
    have G0_2 := G0.out.now.cell 2
    have G0_3 := G0.out.now.cell 3
    have G0_4 := G0.out.now.cell 4
    have G0_5 := G0.out.now.cell 5
    have G0_6 := G0.out.now.cell 6
    have G0_7 := G0.out.now.cell 7
    have G0_8 := G0.out.now.cell 8
    have G0_9 := G0.out.now.cell 9
    go_wp2_with fail
    clear AA_0 AA_1 AA_2 AA_3 AA_4 AA_5 AA_6 AA_7 AA_8 AA_9 Y0_0 Y0_1 Y0_2 Y0_3 Y0_4 Y0_5 Y0_6 Y0_7 Y0_8 Y0_9 G0_0 G0_1 G0_2 G0_3 G0_4 G0_5 G0_6 G0_7 G0_8 G0_9
    refine (him _ _ U.out.now.1.got).mono ?_
    rintro e w21 ⟨pl7, ql7, po7, qo7, pc7, qc7, pt7, qt7, M7, vH, TH, CH, rfl, ho, ha, hu, hcc, hom, hb⟩
    have AH : Hid (RpAp ⟨.slice pl7 R.l.length ql7, .slice po7 R.ok.length qo7, .slice pc7 R.ch.length qc7, .slice pt7 R.te.length qt7, M7⟩) := ha
    have EH : Hid ((⟨.slice pl7 R.l.length ql7, .slice po7 R.ok.length qo7, .slice pc7 R.ch.length qc7, .slice pt7 R.te.length qt7, M7⟩ : Rv).T.map (·.m) = R.te) := ho.t
    have ITH : Hid (TH.map (·.m) = L) := hom.is
    have ZCH : Hid (w20.heap.size ≤ CH ∧ CH ≤ w21.heap.size) := hcc
    clear ha
    replace AA : Hid (Liv w.heap.size (w.heap.size + 1) (fun W => Bx W (w.heap.size) 77 #[.int .i64 r.id, .int .i64 r.p, .int .i64 r.v, .bool r.n, .int .i64 r.la, .slice plA r.l.length qlA, .int .i64 r.c, .slice poA r.ok.length qoA, .slice pcA r.ch.length qcA, .slice ptA r.te.length qtA]) w21) := AA.out.kept hb
    replace Y : Hid (Liv w3.heap.size CY (RpF w3.heap.size CY ⟨.slice pl3 R.l.length ql3, .slice po3 R.ok.length qo3, .slice pc3 R.ch.length qc3, .slice pt3 R.te.length qt3, M3⟩ R) w21) := Y.out.kept hb
    replace Ym : Hid (Liv CY w4.heap.size (MsF CY w4.heap.size vY TY) w21) := Ym.out.kept hb
    replace Y0 : Hid (Liv w4.heap.size (w4.heap.size + 1) (fun W => Bx W (w4.heap.size) 28 #[.int .i64 R.id, .int .i64 R.p, .int .i64 R.v, .bool R.n, .int .i64 R.la, .slice pl3 R.l.length ql3, .int .i64 R.c, .slice po3 R.ok.length qo3, .slice pc3 R.ch.length qc3, .slice pt3 R.te.length qt3]) w21) := Y0.out.kept hb
    replace G : Hid (Liv w7.heap.size CG (RpF w7.heap.size CG (mkRv 1 R ⟨.slice pl5 R.l.length ql5, .slice po5 R.ok.length qo5, .slice pc5 R.ch.length qc5, .slice pt5 R.te.length qt5, M5⟩) (mkRp 1 R M5)) w21) := G.out.kept hb
    replace Gm : Hid (Liv CG w8.heap.size (MsF CG w8.heap.size vG (mkTe ss TG)) w21) := Gm.out.kept hb
    replace G0 : Hid (Liv w8.heap.size (w8.heap.size + 1) (fun W => Bx W (w8.heap.size) 28 #[.int .i64 R.id, .int .i64 R.p, .int .i64 R.v, .bool R.n, .int .i64 R.la, .slice pl5 R.l.length ql5, .int .i64 R.c, .slice po5 R.ok.length qo5, .slice pc5 R.ch.length qc5, .slice pt5 R.te.length qt5]) w21) := G0.out.kept hb
    clear U
    have H : Hid (Liv w20.heap.size CH (RpF w20.heap.size CH ⟨.slice pl7 R.l.length ql7, .slice po7 R.ok.length qo7, .slice pc7 R.ch.length qc7, .slice pt7 R.te.length qt7, M7⟩ R) w21) := (show Hid _ from Liv.rp ho hu hcc.2)
    have Hm : Hid (Liv CH w21.heap.size (MsF CH w21.heap.size vH TH) w21) := (show Hid _ from Liv.newMs hom)
    have Z21 : Hid (w20.heap.size ≤ w21.heap.size) := hb.size
    replace BB : Hid (Below w.heap.size w w21) := (show Hid _ from BB.out.trans (hb.mono BB.out.size))
    clear hb ho
    have hbA : Below w21.heap.size w21 (w21.alloc (.cells #[.int .i64 R.id, .int .i64 R.p, .int .i64 R.v, .bool R.n, .int .i64 R.la, .slice pl7 R.l.length ql7, .int .i64 R.c, .slice po7 R.ok.length qo7, .slice pc7 R.ch.length qc7, .slice pt7 R.te.length qt7] 28)) := (Below.refl _ _).alloc (Nat.le_refl _) _
    have zA : (w21.alloc (.cells #[.int .i64 R.id, .int .i64 R.p, .int .i64 R.v, .bool R.n, .int .i64 R.la, .slice pl7 R.l.length ql7, .int .i64 R.c, .slice po7 R.ok.length qo7, .slice pc7 R.ch.length qc7, .slice pt7 R.te.length qt7] 28)).heap.size = w21.heap.size + 1 := by simp
    replace AA : Hid (Liv w.heap.size (w.heap.size + 1) (fun W => Bx W (w.heap.size) 77 #[.int .i64 r.id, .int .i64 r.p, .int .i64 r.v, .bool r.n, .int .i64 r.la, .slice plA r.l.length qlA, .int .i64 r.c, .slice poA r.ok.length qoA, .slice pcA r.ch.length qcA, .slice ptA r.te.length qtA]) (w21.alloc (.cells #[.int .i64 R.id, .int .i64 R.p, .int .i64 R.v, .bool R.n, .int .i64 R.la, .slice pl7 R.l.length ql7, .int .i64 R.c, .slice po7 R.ok.length qo7, .slice pc7 R.ch.length qc7, .slice pt7 R.te.length qt7] 28))) := AA.out.kept hbA
    replace Y : Hid (Liv w3.heap.size CY (RpF w3.heap.size CY ⟨.slice pl3 R.l.length ql3, .slice po3 R.ok.length qo3, .slice pc3 R.ch.length qc3, .slice pt3 R.te.length qt3, M3⟩ R) (w21.alloc (.cells #[.int .i64 R.id, .int .i64 R.p, .int .i64 R.v, .bool R.n, .int .i64 R.la, .slice pl7 R.l.length ql7, .int .i64 R.c, .slice po7 R.ok.length qo7, .slice pc7 R.ch.length qc7, .slice pt7 R.te.length qt7] 28))) := Y.out.kept hbA
    replace Ym : Hid (Liv CY w4.heap.size (MsF CY w4.heap.size vY TY) (w21.alloc (.cells #[.int .i64 R.id, .int .i64 R.p, .int .i64 R.v, .bool R.n, .int .i64 R.la, .slice pl7 R.l.length ql7, .int .i64 R.c, .slice po7 R.ok.length qo7, .slice pc7 R.ch.length qc7, .slice pt7 R.te.length qt7] 28))) := Ym.out.kept hbA
    replace Y0 : Hid (Liv w4.heap.size (w4.heap.size + 1) (fun W => Bx W (w4.heap.size) 28 #[.int .i64 R.id, .int .i64 R.p, .int .i64 R.v, .bool R.n, .int .i64 R.la, .slice pl3 R.l.length ql3, .int .i64 R.c, .slice po3 R.ok.length qo3, .slice pc3 R.ch.length qc3, .slice pt3 R.te.length qt3]) (w21.alloc (.cells #[.int .i64 R.id, .int .i64 R.p, .int .i64 R.v, .bool R.n, .int .i64 R.la, .slice pl7 R.l.length ql7, .int .i64 R.c, .slice po7 R.ok.length qo7, .slice pc7 R.ch.length qc7, .slice pt7 R.te.length qt7] 28))) := Y0.out.kept hbA
    replace G : Hid (Liv w7.heap.size CG (RpF w7.heap.size CG (mkRv 1 R ⟨.slice pl5 R.l.length ql5, .slice po5 R.ok.length qo5, .slice pc5 R.ch.length qc5, .slice pt5 R.te.length qt5, M5⟩) (mkRp 1 R M5)) (w21.alloc (.cells #[.int .i64 R.id, .int .i64 R.p, .int .i64 R.v, .bool R.n, .int .i64 R.la, .slice pl7 R.l.length ql7, .int .i64 R.c, .slice po7 R.ok.length qo7, .slice pc7 R.ch.length qc7, .slice pt7 R.te.length qt7] 28))) := G.out.kept hbA
    replace Gm : Hid (Liv CG w8.heap.size (MsF CG w8.heap.size vG (mkTe ss TG)) (w21.alloc (.cells #[.int .i64 R.id, .int .i64 R.p, .int .i64 R.v, .bool R.n, .int .i64 R.la, .slice pl7 R.l.length ql7, .int .i64 R.c, .slice po7 R.ok.length qo7, .slice pc7 R.ch.length qc7, .slice pt7 R.te.length qt7] 28))) := Gm.out.kept hbA
    replace G0 : Hid (Liv w8.heap.size (w8.heap.size + 1) (fun W => Bx W (w8.heap.size) 28 #[.int .i64 R.id, .int .i64 R.p, .int .i64 R.v, .bool R.n, .int .i64 R.la, .slice pl5 R.l.length ql5, .int .i64 R.c, .slice po5 R.ok.length qo5, .slice pc5 R.ch.length qc5, .slice pt5 R.te.length qt5]) (w21.alloc (.cells #[.int .i64 R.id, .int .i64 R.p, .int .i64 R.v, .bool R.n, .int .i64 R.la, .slice pl7 R.l.length ql7, .int .i64 R.c, .slice po7 R.ok.length qo7, .slice pc7 R.ch.length qc7, .slice pt7 R.te.length qt7] 28))) := G0.out.kept hbA
    replace H : Hid (Liv w20.heap.size CH (RpF w20.heap.size CH ⟨.slice pl7 R.l.length ql7, .slice po7 R.ok.length qo7, .slice pc7 R.ch.length qc7, .slice pt7 R.te.length qt7, M7⟩ R) (w21.alloc (.cells #[.int .i64 R.id, .int .i64 R.p, .int .i64 R.v, .bool R.n, .int .i64 R.la, .slice pl7 R.l.length ql7, .int .i64 R.c, .slice po7 R.ok.length qo7, .slice pc7 R.ch.length qc7, .slice pt7 R.te.length qt7] 28))) := H.out.kept hbA
    replace Hm : Hid (Liv CH w21.heap.size (MsF CH w21.heap.size vH TH) (w21.alloc (.cells #[.int .i64 R.id, .int .i64 R.p, .int .i64 R.v, .bool R.n, .int .i64 R.la, .slice pl7 R.l.length ql7, .int .i64 R.c, .slice po7 R.ok.length qo7, .slice pc7 R.ch.length qc7, .slice pt7 R.te.length qt7] 28))) := Hm.out.kept hbA
    replace BB : Hid (Below w.heap.size w (w21.alloc (.cells #[.int .i64 R.id, .int .i64 R.p, .int .i64 R.v, .bool R.n, .int .i64 R.la, .slice pl7 R.l.length ql7, .int .i64 R.c, .slice po7 R.ok.length qo7, .slice pc7 R.ch.length qc7, .slice pt7 R.te.length qt7] 28))) := (show Hid _ from BB.out.trans (hbA.mono BB.out.size))
    have H0 : Hid (Liv w21.heap.size (w21.heap.size + 1) (fun W => Bx W (w21.heap.size) 28 #[.int .i64 R.id, .int .i64 R.p, .int .i64 R.v, .bool R.n, .int .i64 R.la, .slice pl7 R.l.length ql7, .int .i64 R.c, .slice po7 R.ok.length qo7, .slice pc7 R.ch.length qc7, .slice pt7 R.te.length qt7]) (w21.alloc (.cells #[.int .i64 R.id, .int .i64 R.p, .int .i64 R.v, .bool R.n, .int .i64 R.la, .slice pl7 R.l.length ql7, .int .i64 R.c, .slice po7 R.ok.length qo7, .slice pc7 R.ch.length qc7, .slice pt7 R.te.length qt7] 28))) := (show Hid _ from Liv.box (Bx.new _ _ _))
    clear hbA
    generalize hww22 : (w21.alloc (.cells #[.int .i64 R.id, .int .i64 R.p, .int .i64 R.v, .bool R.n, .int .i64 R.la, .slice pl7 R.l.length ql7, .int .i64 R.c, .slice po7 R.ok.length qo7, .slice pc7 R.ch.length qc7, .slice pt7 R.te.length qt7] 28)) = w22 at BB zA AA Y Ym Y0 G Gm G0 H Hm H0
    have Z22 : Hid (w22.heap.size = w21.heap.size + 1) := zA
    clear zA
    have AA_0 := AA.out.now.cell 0
    have AA_1 := AA.out.now.cell 1
    have AA_2 := AA.out.now.cell 2
    have AA_3 := AA.out.now.cell 3
    have AA_4 := AA.out.now.cell 4
    have AA_5 := AA.out.now.cell 5
    have AA_6 := AA.out.now.cell 6
    have AA_7 := AA.out.now.cell 7
    have AA_8 := AA.out.now.cell 8
    have AA_9 := AA.out.now.cell 9
    have Y0_0 := Y0.out.now.cell 0
    have Y0_1 := Y0.out.now.cell 1
    have Y0_2 := Y0.out.now.cell 2
    have Y0_3 := Y0.out.now.cell 3
    have Y0_4 := Y0.out.now.cell 4
    have Y0_5 := Y0.out.now.cell 5
    have Y0_6 := Y0.out.now.cell 6
    have Y0_7 := Y0.out.now.cell 7
    have Y0_8 := Y0.out.now.cell 8
    have Y0_9 := Y0.out.now.cell 9
    have G0_0 := G0.out.now.cell 0
    have G0_1 := G0.out.now.cell 1
    have G0_2 := G0.out.now.cell 2
    have G0_3 := G0.out.now.cell 3
    have G0_4 := G0.out.now.cell 4
    have G0_5 := G0.out.now.cell 5
    have G0_6 := G0.out.now.cell 6
    have G0_7 := G0.out.now.cell 7
    have G0_8 := G0.out.now.cell 8
    have G0_9 := G0.out.now.cell 9
    have H0_0 := H0.out.now.cell 0
    have H0_1 := H0.out.now.cell 1
    have H0_2 := H0.out.now.cell 2
    have H0_3 := H0.out.now.cell 3
    have H0_4 := H0.out.now.cell 4
    have H0_5 := H0.out.now.cell 5
    have H0_6 := H0.out.now.cell 6
    have H0_7 := H0.out.now.cell 7
    have H0_8 := H0.out.now.cell 8
    have H0_9 := H0.out.now.cell 9
    go_wp2_with fail
    clear hww22
    clear AA_0 AA_1 AA_2 AA_3 AA_4 AA_5 AA_6 AA_7 AA_8 AA_9 Y0_0 Y0_1 Y0_2 Y0_3 Y0_4 Y0_5 Y0_6 Y0_7 Y0_8 Y0_9 G0_0 G0_1 G0_2 G0_3 G0_4 G0_5 G0_6 G0_7 G0_8 G0_9 H0_0 H0_1 H0_2 H0_3 H0_4 H0_5 H0_6 H0_7 H0_8 H0_9
    refine (hel R _ _ _ H.out.now.1.got Y.out.now.1.got HRF.out).mono ?_
    rintro e w23 ⟨rfl, hb⟩
    replace AA : Hid (Liv w.heap.size (w.heap.size + 1) (fun W => Bx W (w.heap.size) 77 #[.int .i64 r.id, .int .i64 r.p, .int .i64 r.v, .bool r.n, .int .i64 r.la, .slice plA r.l.length qlA, .int .i64 r.c, .slice poA r.ok.length qoA, .slice pcA r.ch.length qcA, .slice ptA r.te.length qtA]) w23) := AA.out.kept hb
    replace Y : Hid (Liv w3.heap.size CY (RpF w3.heap.size CY ⟨.slice pl3 R.l.length ql3, .slice po3 R.ok.length qo3, .slice pc3 R.ch.length qc3, .slice pt3 R.te.length qt3, M3⟩ R) w23) := Y.out.kept hb
    replace Ym : Hid (Liv CY w4.heap.size (MsF CY w4.heap.size vY TY) w23) := Ym.out.kept hb
    replace Y0 : Hid (Liv w4.heap.size (w4.heap.size + 1) (fun W => Bx W (w4.heap.size) 28 #[.int .i64 R.id, .int .i64 R.p, .int .i64 R.v, .bool R.n, .int .i64 R.la, .slice pl3 R.l.length ql3, .int .i64 R.c, .slice po3 R.ok.length qo3, .slice pc3 R.ch.length qc3, .slice pt3 R.te.length qt3]) w23) := Y0.out.kept hb
    replace G : Hid (Liv w7.heap.size CG (RpF w7.heap.size CG (mkRv 1 R ⟨.slice pl5 R.l.length ql5, .slice po5 R.ok.length qo5, .slice pc5 R.ch.length qc5, .slice pt5 R.te.length qt5, M5⟩) (mkRp 1 R M5)) w23) := G.out.kept hb
    replace Gm : Hid (Liv CG w8.heap.size (MsF CG w8.heap.size vG (mkTe ss TG)) w23) := Gm.out.kept hb
    replace G0 : Hid (Liv w8.heap.size (w8.heap.size + 1) (fun W => Bx W (w8.heap.size) 28 #[.int .i64 R.id, .int .i64 R.p, .int .i64 R.v, .bool R.n, .int .i64 R.la, .slice pl5 R.l.length ql5, .int .i64 R.c, .slice po5 R.ok.length qo5, .slice pc5 R.ch.length qc5, .slice pt5 R.te.length qt5]) w23) := G0.out.kept hb
    replace H : Hid (Liv w20.heap.size CH (RpF w20.heap.size CH ⟨.slice pl7 R.l.length ql7, .slice po7 R.ok.length qo7, .slice pc7 R.ch.length qc7, .slice pt7 R.te.length qt7, M7⟩ R) w23) := H.out.kept hb
    replace Hm : Hid (Liv CH w21.heap.size (MsF CH w21.heap.size vH TH) w23) := Hm.out.kept hb
    replace H0 : Hid (Liv w21.heap.size (w21.heap.size + 1) (fun W => Bx W (w21.heap.size) 28 #[.int .i64 R.id, .int .i64 R.p, .int .i64 R.v, .bool R.n, .int .i64 R.la, .slice pl7 R.l.length ql7, .int .i64 R.c, .slice po7 R.ok.length qo7, .slice pc7 R.ch.length qc7, .slice pt7 R.te.length qt7]) w23) := H0.out.kept hb
    have Z23 : Hid (w22.heap.size ≤ w23.heap.size) := hb.size
    replace BB : Hid (Below w.heap.size w w23) := (show Hid _ from BB.out.trans (hb.mono BB.out.size))
    clear hb
    have AA_0 := AA.out.now.cell 0
    have AA_1 := AA.out.now.cell 1
    have AA_2 := AA.out.now.cell 2
    have AA_3 := AA.out.now.cell 3
    have AA_4 := AA.out.now.cell 4
    have AA_5 := AA.out.now.cell 5
    have AA_6 := AA.out.now.cell 6
    have AA_7 := AA.out.now.cell 7
    have AA_8 := AA.out.now.cell 8
    have AA_9 := AA.out.now.cell 9
    have Y0_0 := Y0.out.now.cell 0
    have Y0_1 := Y0.out.now.cell 1
    have Y0_2 := Y0.out.now.cell 2
    have Y0_3 := Y0.out.now.cell 3
    have Y0_4 := Y0.out.now.cell 4
    have Y0_5 := Y0.out.now.cell 5
    have Y0_6 := Y0.out.now.cell 6
    have Y0_7 := Y0.out.now.cell 7
    have Y0_8 := Y0.out.now.cell 8
    have Y0_9 := Y0.out.now.cell 9
    have G0_0 := G0.out.now.cell 0
    have G0_1 := G0.out.now.cell 1
    have G0_2 := G0.out.now.cell 2
    have G0_3 := G0.out.now.cell 3
    have G0_4 := G0.out.now.cell 4
    have G0_5 := G0.out.now.cell 5
    have G0_6 := G0.out.now.cell 6
    have G0_7 := G0.out.now.cell 7
    have G0_8 := G0.out.now.cell 8
    have G0_9 := G0.out.now.cell 9
    have H0_0 := H0.out.now.cell 0
    have H0_1 := H0.out.now.cell 1
    have H0_2 := H0.out.now.cell 2
    have H0_3 := H0.out.now.cell 3
    have H0_4 := H0.out.now.cell 4
    have H0_5 := H0.out.now.cell 5
    have H0_6 := H0.out.now.cell 6
    have H0_7 := H0.out.now.cell 7
    have H0_8 := H0.out.now.cell 8
    have H0_9 := H0.out.now.cell 9
    go_wp2_with fail
    clear AA_0 AA_1 AA_2 AA_3 AA_4 AA_5 AA_6 AA_7 AA_8 AA_9 Y0_0 Y0_1 Y0_2 Y0_3 Y0_4 Y0_5 Y0_6 Y0_7 Y0_8 Y0_9 G0_0 G0_1 G0_2 G0_3 G0_4 G0_5 G0_6 G0_7 G0_8 G0_9 H0_0 H0_1 H0_2 H0_3 H0_4 H0_5 H0_6 H0_7 H0_8 H0_9
    refine (eqMs1 HFW.out _ Hm.out.now Ym.out.now ITH.out ITY.out).mono ?_
    rintro e w24 ⟨rfl, hb⟩
    replace AA : Hid (Liv w.heap.size (w.heap.size + 1) (fun W => Bx W (w.heap.size) 77 #[.int .i64 r.id, .int .i64 r.p, .int .i64 r.v, .bool r.n, .int .i64 r.la, .slice plA r.l.length qlA, .int .i64 r.c, .slice poA r.ok.length qoA, .slice pcA r.ch.length qcA, .slice ptA r.te.length qtA]) w24) := AA.out.kept hb
    replace Y : Hid (Liv w3.heap.size CY (RpF w3.heap.size CY ⟨.slice pl3 R.l.length ql3, .slice po3 R.ok.length qo3, .slice pc3 R.ch.length qc3, .slice pt3 R.te.length qt3, M3⟩ R) w24) := Y.out.kept hb
    replace Ym : Hid (Liv CY w4.heap.size (MsF CY w4.heap.size vY TY) w24) := Ym.out.kept hb
    replace Y0 : Hid (Liv w4.heap.size (w4.heap.size + 1) (fun W => Bx W (w4.heap.size) 28 #[.int .i64 R.id, .int .i64 R.p, .int .i64 R.v, .bool R.n, .int .i64 R.la, .slice pl3 R.l.length ql3, .int .i64 R.c, .slice po3 R.ok.length qo3, .slice pc3 R.ch.length qc3, .slice pt3 R.te.length qt3]) w24) := Y0.out.kept hb
    replace G : Hid (Liv w7.heap.size CG (RpF w7.heap.size CG (mkRv 1 R ⟨.slice pl5 R.l.length ql5, .slice po5 R.ok.length qo5, .slice pc5 R.ch.length qc5, .slice pt5 R.te.length qt5, M5⟩) (mkRp 1 R M5)) w24) := G.out.kept hb
    replace Gm : Hid (Liv CG w8.heap.size (MsF CG w8.heap.size vG (mkTe ss TG)) w24) := Gm.out.kept hb
    replace G0 : Hid (Liv w8.heap.size (w8.heap.size + 1) (fun W => Bx W (w8.heap.size) 28 #[.int .i64 R.id, .int .i64 R.p, .int .i64 R.v, .bool R.n, .int .i64 R.la, .slice pl5 R.l.length ql5, .int .i64 R.c, .slice po5 R.ok.length qo5, .slice pc5 R.ch.length qc5, .slice pt5 R.te.length qt5]) w24) := G0.out.kept hb
    replace H : Hid (Liv w20.heap.size CH (RpF w20.heap.size CH ⟨.slice pl7 R.l.length ql7, .slice po7 R.ok.length qo7, .slice pc7 R.ch.length qc7, .slice pt7 R.te.length qt7, M7⟩ R) w24) := H.out.kept hb
    replace Hm : Hid (Liv CH w21.heap.size (MsF CH w21.heap.size vH TH) w24) := Hm.out.kept hb
    replace H0 : Hid (Liv w21.heap.size (w21.heap.size + 1) (fun W => Bx W (w21.heap.size) 28 #[.int .i64 R.id, .int .i64 R.p, .int .i64 R.v, .bool R.n, .int .i64 R.la, .slice pl7 R.l.length ql7, .int .i64 R.c, .slice po7 R.ok.length qo7, .slice pc7 R.ch.length qc7, .slice pt7 R.te.length qt7]) w24) := H0.out.kept hb
    have Z24 : Hid (w23.heap.size ≤ w24.heap.size) := hb.size
    replace BB : Hid (Below w.heap.size w w24) := (show Hid _ from BB.out.trans (hb.mono BB.out.size))
    clear hb
    have AA_0 := AA.out.now.cell 0
    have AA_1 := AA.out.now.cell 1
    have AA_2 := AA.out.now.cell 2
    have AA_3 := AA.out.now.cell 3
    have AA_4 := AA.out.now.cell 4
    have AA_5 := AA.out.now.cell 5
    have AA_6 := AA.out.now.cell 6
    have AA_7 := AA.out.now.cell 7
    have AA_8 := AA.out.now.cell 8
    have AA_9 := AA.out.now.cell 9
    have Y0_0 := Y0.out.now.cell 0
    have Y0_1 := Y0.out.now.cell 1
    have Y0_2 := Y0.out.now.cell 2
    have Y0_3 := Y0.out.now.cell 3
    have Y0_4 := Y0.out.now.cell 4
    have Y0_5 := Y0.out.now.cell 5
    have Y0_6 := Y0.out.now.cell 6
    have Y0_7 := Y0.out.now.cell 7
    have Y0_8 := Y0.out.now.cell 8
    have Y0_9 := Y0.out.now.cell 9
    have G0_0 := G0.out.now.cell 0
    have G0_1 := G0.out.now.cell 1
    have G0_2 := G0.out.now.cell 2
    have G0_3 := G0.out.now.cell 3
    have G0_4 := G0.out.now.cell 4
    have G0_5 := G0.out.now.cell 5
    have G0_6 := G0.out.now.cell 6
    have G0_7 := G0.out.now.cell 7
    have G0_8 := G0.out.now.cell 8
    have G0_9 := G0.out.now.cell 9
    have H0_0 := H0.out.now.cell 0
    have H0_1 := H0.out.now.cell 1
    have H0_2 := H0.out.now.cell 2
    have H0_3 := H0.out.now.cell 3
    have H0_4 := H0.out.now.cell 4
    have H0_5 := H0.out.now.cell 5
    have H0_6 := H0.out.now.cell 6
    have H0_7 := H0.out.now.cell 7
    have H0_8 := H0.out.now.cell 8
    have H0_9 := H0.out.now.cell 9
    go_wp2_with fail
    clear AA_0 AA_1 AA_2 AA_3 AA_4 AA_5 AA_6 AA_7 AA_8 AA_9 Y0_0 Y0_1 Y0_2 Y0_3 Y0_4 Y0_5 Y0_6 Y0_7 Y0_8 Y0_9 G0_0 G0_1 G0_2 G0_3 G0_4 G0_5 G0_6 G0_7 G0_8 G0_9 H0_0 H0_1 H0_2 H0_3 H0_4 H0_5 H0_6 H0_7 H0_8 H0_9
    refine (hhd _ _ _ _ G.out.now EG.out).mono ?_
    rintro e w25 ⟨rfl, hb⟩
    replace AA : Hid (Liv w.heap.size (w.heap.size + 1) (fun W => Bx W (w.heap.size) 77 #[.int .i64 r.id, .int .i64 r.p, .int .i64 r.v, .bool r.n, .int .i64 r.la, .slice plA r.l.length qlA, .int .i64 r.c, .slice poA r.ok.length qoA, .slice pcA r.ch.length qcA, .slice ptA r.te.length qtA]) w25) := AA.out.kept hb
    replace Y : Hid (Liv w3.heap.size CY (RpF w3.heap.size CY ⟨.slice pl3 R.l.length ql3, .slice po3 R.ok.length qo3, .slice pc3 R.ch.length qc3, .slice pt3 R.te.length qt3, M3⟩ R) w25) := Y.out.kept hb
    replace Ym : Hid (Liv CY w4.heap.size (MsF CY w4.heap.size vY TY) w25) := Ym.out.kept hb
    replace Y0 : Hid (Liv w4.heap.size (w4.heap.size + 1) (fun W => Bx W (w4.heap.size) 28 #[.int .i64 R.id, .int .i64 R.p, .int .i64 R.v, .bool R.n, .int .i64 R.la, .slice pl3 R.l.length ql3, .int .i64 R.c, .slice po3 R.ok.length qo3, .slice pc3 R.ch.length qc3, .slice pt3 R.te.length qt3]) w25) := Y0.out.kept hb
    replace G : Hid (Liv w7.heap.size CG (RpF w7.heap.size CG (mkRv 1 R ⟨.slice pl5 R.l.length ql5, .slice po5 R.ok.length qo5, .slice pc5 R.ch.length qc5, .slice pt5 R.te.length qt5, M5⟩) (mkRp 1 R M5)) w25) := G.out.kept hb
    replace Gm : Hid (Liv CG w8.heap.size (MsF CG w8.heap.size vG (mkTe ss TG)) w25) := Gm.out.kept hb
    replace G0 : Hid (Liv w8.heap.size (w8.heap.size + 1) (fun W => Bx W (w8.heap.size) 28 #[.int .i64 R.id, .int .i64 R.p, .int .i64 R.v, .bool R.n, .int .i64 R.la, .slice pl5 R.l.length ql5, .int .i64 R.c, .slice po5 R.ok.length qo5, .slice pc5 R.ch.length qc5, .slice pt5 R.te.length qt5]) w25) := G0.out.kept hb
    replace H : Hid (Liv w20.heap.size CH (RpF w20.heap.size CH ⟨.slice pl7 R.l.length ql7, .slice po7 R.ok.length qo7, .slice pc7 R.ch.length qc7, .slice pt7 R.te.length qt7, M7⟩ R) w25) := H.out.kept hb
    replace Hm : Hid (Liv CH w21.heap.size (MsF CH w21.heap.size vH TH) w25) := Hm.out.kept hb
    replace H0 : Hid (Liv w21.heap.size (w21.heap.size + 1) (fun W => Bx W (w21.heap.size) 28 #[.int .i64 R.id, .int .i64 R.p, .int .i64 R.v, .bool R.n, .int .i64 R.la, .slice pl7 R.l.length ql7, .int .i64 R.c, .slice po7 R.ok.length qo7, .slice pc7 R.ch.length qc7, .slice pt7 R.te.length qt7]) w25) := H0.out.kept hb
    have Z25 : Hid (w24.heap.size ≤ w25.heap.size) := hb.size
    replace BB : Hid (Below w.heap.size w w25) := (show Hid _ from BB.out.trans (hb.mono BB.out.size))
    clear hb
    have AA_0 := AA.out.now.cell 0
    have AA_1 := AA.out.now.cell 1
    have AA_2 := AA.out.now.cell 2
    have AA_3 := AA.out.now.cell 3
    have AA_4 := AA.out.now.cell 4
    have AA_5 := AA.out.now.cell 5
    have AA_6 := AA.out.now.cell 6
    have AA_7 := AA.out.now.cell 7
    have AA_8 := AA.out.now.cell 8
    have AA_9 := AA.out.now.cell 9
    have Y0_0 := Y0.out.now.cell 0
    have Y0_1 := Y0.out.now.cell 1
    have Y0_2 := Y0.out.now.cell 2
    have Y0_3 := Y0.out.now.cell 3
    have Y0_4 := Y0.out.now.cell 4
    have Y0_5 := Y0.out.now.cell 5
    have Y0_6 := Y0.out.now.cell 6
    have Y0_7 := Y0.out.now.cell 7
    have Y0_8 := Y0.out.now.cell 8
    have Y0_9 := Y0.out.now.cell 9
    have G0_0 := G0.out.now.cell 0
    have G0_1 := G0.out.now.cell 1
    have G0_2 := G0.out.now.cell 2
    have G0_3 := G0.out.now.cell 3
    have G0_4 := G0.out.now.cell 4
    have G0_5 := G0.out.now.cell 5
    have G0_6 := G0.out.now.cell 6
    have G0_7 := G0.out.now.cell 7
    have G0_8 := G0.out.now.cell 8
    have G0_9 := G0.out.now.cell 9
    have H0_0 := H0.out.now.cell 0
    have H0_1 := H0.out.now.cell 1
    have H0_2 := H0.out.now.cell 2
    have H0_3 := H0.out.now.cell 3
    have H0_4 := H0.out.now.cell 4
    have H0_5 := H0.out.now.cell 5
    have H0_6 := H0.out.now.cell 6
    have H0_7 := H0.out.now.cell 7
    have H0_8 := H0.out.now.cell 8
    have H0_9 := H0.out.now.cell 9
    go_wp2_with fail
    clear AA_0 AA_1 AA_2 AA_3 AA_4 AA_5 AA_6 AA_7 AA_8 AA_9 Y0_0 Y0_1 Y0_2 Y0_3 Y0_4 Y0_5 Y0_6 Y0_7 Y0_8 Y0_9 G0_0 G0_1 G0_2 G0_3 G0_4 G0_5 G0_6 G0_7 G0_8 G0_9 H0_0 H0_1 H0_2 H0_3 H0_4 H0_5 H0_6 H0_7 H0_8 H0_9
    refine (hhm _ _ _ _ _ Gm.out.now ITG.out).mono ?_
    rintro e w26 ⟨rfl, hb⟩
    replace AA : Hid (Liv w.heap.size (w.heap.size + 1) (fun W => Bx W (w.heap.size) 77 #[.int .i64 r.id, .int .i64 r.p, .int .i64 r.v, .bool r.n, .int .i64 r.la, .slice plA r.l.length qlA, .int .i64 r.c, .slice poA r.ok.length qoA, .slice pcA r.ch.length qcA, .slice ptA r.te.length qtA]) w26) := AA.out.kept hb
    replace Y : Hid (Liv w3.heap.size CY (RpF w3.heap.size CY ⟨.slice pl3 R.l.length ql3, .slice po3 R.ok.length qo3, .slice pc3 R.ch.length qc3, .slice pt3 R.te.length qt3, M3⟩ R) w26) := Y.out.kept hb
    replace Ym : Hid (Liv CY w4.heap.size (MsF CY w4.heap.size vY TY) w26) := Ym.out.kept hb
    replace Y0 : Hid (Liv w4.heap.size (w4.heap.size + 1) (fun W => Bx W (w4.heap.size) 28 #[.int .i64 R.id, .int .i64 R.p, .int .i64 R.v, .bool R.n, .int .i64 R.la, .slice pl3 R.l.length ql3, .int .i64 R.c, .slice po3 R.ok.length qo3, .slice pc3 R.ch.length qc3, .slice pt3 R.te.length qt3]) w26) := Y0.out.kept hb
    replace G : Hid (Liv w7.heap.size CG (RpF w7.heap.size CG (mkRv 1 R ⟨.slice pl5 R.l.length ql5, .slice po5 R.ok.length qo5, .slice pc5 R.ch.length qc5, .slice pt5 R.te.length qt5, M5⟩) (mkRp 1 R M5)) w26) := G.out.kept hb
    replace Gm : Hid (Liv CG w8.heap.size (MsF CG w8.heap.size vG (mkTe ss TG)) w26) := Gm.out.kept hb
    replace G0 : Hid (Liv w8.heap.size (w8.heap.size + 1) (fun W => Bx W (w8.heap.size) 28 #[.int .i64 R.id, .int .i64 R.p, .int .i64 R.v, .bool R.n, .int .i64 R.la, .slice pl5 R.l.length ql5, .int .i64 R.c, .slice po5 R.ok.length qo5, .slice pc5 R.ch.length qc5, .slice pt5 R.te.length qt5]) w26) := G0.out.kept hb
    replace H : Hid (Liv w20.heap.size CH (RpF w20.heap.size CH ⟨.slice pl7 R.l.length ql7, .slice po7 R.ok.length qo7, .slice pc7 R.ch.length qc7, .slice pt7 R.te.length qt7, M7⟩ R) w26) := H.out.kept hb
    replace Hm : Hid (Liv CH w21.heap.size (MsF CH w21.heap.size vH TH) w26) := Hm.out.kept hb
    replace H0 : Hid (Liv w21.heap.size (w21.heap.size + 1) (fun W => Bx W (w21.heap.size) 28 #[.int .i64 R.id, .int .i64 R.p, .int .i64 R.v, .bool R.n, .int .i64 R.la, .slice pl7 R.l.length ql7, .int .i64 R.c, .slice po7 R.ok.length qo7, .slice pc7 R.ch.length qc7, .slice pt7 R.te.length qt7]) w26) := H0.out.kept hb
    have Z26 : Hid (w25.heap.size ≤ w26.heap.size) := hb.size
    replace BB : Hid (Below w.heap.size w w26) := (show Hid _ from BB.out.trans (hb.mono BB.out.size))
    clear hb
    have AA_0 := AA.out.now.cell 0
    have AA_1 := AA.out.now.cell 1
    have AA_2 := AA.out.now.cell 2
    have AA_3 := AA.out.now.cell 3
    have AA_4 := AA.out.now.cell 4
    have AA_5 := AA.out.now.cell 5
    have AA_6 := AA.out.now.cell 6
    have AA_7 := AA.out.now.cell 7
    have AA_8 := AA.out.now.cell 8
    have AA_9 := AA.out.now.cell 9
    have Y0_0 := Y0.out.now.cell 0
    have Y0_1 := Y0.out.now.cell 1
    have Y0_2 := Y0.out.now.cell 2
    have Y0_3 := Y0.out.now.cell 3
    have Y0_4 := Y0.out.now.cell 4
    have Y0_5 := Y0.out.now.cell 5
    have Y0_6 := Y0.out.now.cell 6
    have Y0_7 := Y0.out.now.cell 7
    have Y0_8 := Y0.out.now.cell 8
    have Y0_9 := Y0.out.now.cell 9
    have G0_0 := G0.out.now.cell 0
    have G0_1 := G0.out.now.cell 1
    have G0_2 := G0.out.now.cell 2
    have G0_3 := G0.out.now.cell 3
    have G0_4 := G0.out.now.cell 4
    have G0_5 := G0.out.now.cell 5
    have G0_6 := G0.out.now.cell 6
    have G0_7 := G0.out.now.cell 7
    have G0_8 := G0.out.now.cell 8
    have G0_9 := G0.out.now.cell 9
    have H0_0 := H0.out.now.cell 0
    have H0_1 := H0.out.now.cell 1
    have H0_2 := H0.out.now.cell 2
    have H0_3 := H0.out.now.cell 3
    have H0_4 := H0.out.now.cell 4
    have H0_5 := H0.out.now.cell 5
    have H0_6 := H0.out.now.cell 6
    have H0_7 := H0.out.now.cell 7
    have H0_8 := H0.out.now.cell 8
    have H0_9 := H0.out.now.cell 9
    go_wp2
    go_ret
    exact ⟨rfl, BB.out⟩
end Go.Proofs.YtlngleinegkoeaaGreat.Rl
