/-
  The walk of FnExactReceive.
  Rows of numbers that came in, opened.
  A slice of texts that came in, opened, as a row.
-/
import Derived.Test.YtdkhdjickkcaiaaGreatRVS
import Derived.Test.YtdkhdjickkcaiaaGreatRV30
import Derived.Test.YtdkhdjickkcaiaaGreatRV34
import Derived.Test.YtdkhdjickkcaiaaGreatRV12
import Derived.ChangeSlices
import Derived.ChangeArms
import Derived.ProofKit
import Derived.OpenShut
import Derived.ShutString
import Derived.Lib.SmallJoins
import Derived.Lib.LaidU8
set_option linter.unusedVariables false
set_option linter.unusedSimpArgs false
set_option maxRecDepth 100000
set_option maxHeartbeats 64000000
namespace Go.Proofs.YtdkhdjickkcaiaaGreat.Rl
open Go.RowKit Go.Sort Pg

def frRtr (s t : Nat → Value) : Act := { tmps := #[s 0, s 1, s 2, s 3, s 4, s 5, s 6, s 7, s 8, s 9, s 10, s 11, s 12, s 13, s 14, s 15, s 16, s 17, s 18, s 19, s 20, s 21, s 22, s 23, s 24, s 25, s 26, s 27, s 28, s 29, s 30, s 31, s 32, s 33, s 34, s 35, s 36, s 37, s 38, s 39, s 40, s 41, s 42, s 43, s 44, s 45, s 46, s 47, s 48, s 49, s 50, s 51, s 52, s 53, s 54, t 55, t 56, t 57, t 58, s 59, s 60, s 61, s 62, s 63, s 64, s 65, s 66, s 67, s 68, s 69, s 70, s 71, s 72, s 73, s 74, s 75, s 76, s 77, s 78, s 79, s 80, s 81, s 82, s 83, s 84, s 85, s 86, s 87, s 88, s 89, s 90, s 91, s 92, s 93, s 94, s 95, s 96, s 97, s 98, s 99, s 100, s 101, s 102, s 103, s 104, s 105, s 106, s 107, s 108, s 109, s 110, s 111, s 112, s 113, s 114, s 115, s 116, s 117, s 118, s 119, s 120, s 121, s 122, s 123, s 124, s 125, s 126, s 127, s 128, s 129, s 130, s 131, s 132, s 133, s 134], defers := [] }
def dRtr (i : Nat) : Nat := i + 55
def GRtr (r : Rp) (pl4 : Option Addr) (ql4 : Nat) (po4 : Option Addr) (qo4 : Nat) (pc4 : Option Addr) (qc4 : Nat) (pt4 : Option Addr) (qt4 : Nat) (plA : Option Addr) (qlA : Nat) (poA : Option Addr) (qoA : Nat) (pcA : Option Addr) (qcA : Nat) (ptA : Option Addr) (qtA : Nat) (i : Nat) (x : World) (v : Value) : Prop := match i with
 | 0 => v = .agg #[.int .i64 r.id, .int .i64 r.p, .int .i64 r.v, .bool r.n, .int .i64 r.la, .slice pl4 r.l.length ql4, .int .i64 r.c, .slice po4 r.ok.length qo4, .slice pc4 r.ch.length qc4, .slice pt4 r.te.length qt4]
 | 1 => v = .agg #[.int .i64 r.id, .int .i64 r.p, .int .i64 r.v, .bool r.n, .int .i64 r.la, .slice plA r.l.length qlA, .int .i64 r.c, .slice poA r.ok.length qoA, .slice pcA r.ch.length qcA, .slice ptA r.te.length qtA]
 | 2 => ∃ (p1 : Option Addr) (d1 : Nat) (p2 : Option Addr) (d2 : Nat) (p3 : Option Addr) (d3 : Nat) (p4 : Option Addr) (d4 : Nat), v = .agg #[.int .i64 r.id, .int .i64 r.p, .int .i64 r.v, .bool r.n, .int .i64 r.la, .slice p1 r.l.length d1, .int .i64 r.c, .slice p2 r.ok.length d2, .slice p3 r.ch.length d3, .slice p4 r.te.length d4] ∧ GotM x r p1 d1 p2 d2 p3 d3 p4 d4
 | 3 => v = .bool true
 | _ => True
theorem GRtr.keep {r : Rp} {pl4 : Option Addr} {ql4 : Nat} {po4 : Option Addr} {qo4 : Nat} {pc4 : Option Addr} {qc4 : Nat} {pt4 : Option Addr} {qt4 : Nat} {plA : Option Addr} {qlA : Nat} {poA : Option Addr} {qoA : Nat} {pcA : Option Addr} {qcA : Nat} {ptA : Option Addr} {qtA : Nat} {x y : World} (hb : Below x.heap.size x y) (j : Nat) (v : Value) (hj : j < 4) (h : GRtr r pl4 ql4 po4 qo4 pc4 qc4 pt4 qt4 plA qlA poA qoA pcA qcA ptA qtA j x v) : GRtr r pl4 ql4 po4 qo4 pc4 qc4 pt4 qt4 plA qlA poA qoA pcA qcA ptA qtA j y v := by
 rcases (show j = 0 ∨ j = 1 ∨ j = 2 ∨ j = 3 by omega) with rfl | rfl | rfl | rfl
 ·
  exact h
 ·
  exact h
 ·
  obtain ⟨p1, d1, p2, d2, p3, d3, p4, d4, h1, h2⟩ := h; exact ⟨p1, d1, p2, d2, p3, d3, p4, d4, h1, h2.kept hb⟩
 ·
  exact h
def frRtm (s t : Nat → Value) : Act := { tmps := #[s 0, s 1, s 2, s 3, s 4, s 5, s 6, s 7, s 8, s 9, s 10, s 11, s 12, s 13, s 14, s 15, s 16, s 17, s 18, s 19, s 20, s 21, s 22, s 23, s 24, s 25, s 26, s 27, s 28, s 29, s 30, s 31, s 32, s 33, s 34, s 35, s 36, s 37, s 38, s 39, s 40, s 41, s 42, s 43, s 44, s 45, s 46, s 47, s 48, s 49, s 50, s 51, s 52, s 53, s 54, s 55, s 56, s 57, s 58, s 59, t 60, t 61, t 62, t 63, s 64, s 65, s 66, s 67, s 68, s 69, s 70, s 71, s 72, s 73, s 74, s 75, s 76, s 77, s 78, s 79, s 80, s 81, s 82, s 83, s 84, s 85, s 86, s 87, s 88, s 89, s 90, s 91, s 92, s 93, s 94, s 95, s 96, s 97, s 98, s 99, s 100, s 101, s 102, s 103, s 104, s 105, s 106, s 107, s 108, s 109, s 110, s 111, s 112, s 113, s 114, s 115, s 116, s 117, s 118, s 119, s 120, s 121, s 122, s 123, s 124, s 125, s 126, s 127, s 128, s 129, s 130, s 131, s 132, s 133, s 134], defers := [] }
def dRtm (i : Nat) : Nat := i + 60
def GRtm (m : Ms) (pV : Option Addr) (qV : Nat) (pW : Option Addr) (qW : Nat) (i : Nat) (x : World) (v : Value) : Prop := match i with
 | 0 => v = .agg #[.int .i64 m.k, .int .i64 m.f, .int .i64 m.t, .int .i64 m.v, .int .i64 m.la, .slice pV m.l.length qV, .int .i64 m.c]
 | 1 => v = .agg #[.int .i64 m.k, .int .i64 m.f, .int .i64 m.t, .int .i64 m.v, .int .i64 m.la, .slice pW m.l.length qW, .int .i64 m.c]
 | 2 => ∃ (p1 : Option Addr) (d1 : Nat), v = .agg #[.int .i64 m.k, .int .i64 m.f, .int .i64 m.t, .int .i64 m.v, .int .i64 m.la, .slice p1 m.l.length d1, .int .i64 m.c] ∧ Sls txtE x (.slice p1 m.l.length d1) m.l
 | 3 => v = .bool true
 | _ => True
theorem GRtm.keep {m : Ms} {pV : Option Addr} {qV : Nat} {pW : Option Addr} {qW : Nat} {x y : World} (hb : Below x.heap.size x y) (j : Nat) (v : Value) (hj : j < 4) (h : GRtm m pV qV pW qW j x v) : GRtm m pV qV pW qW j y v := by
 rcases (show j = 0 ∨ j = 1 ∨ j = 2 ∨ j = 3 by omega) with rfl | rfl | rfl | rfl
 ·
  exact h
 ·
  exact h
 ·
  obtain ⟨p1, d1, h1, h2⟩ := h; exact ⟨p1, d1, h1, h2.kept hb⟩
 ·
  exact h

theorem walkRcv (r : Rp) (u : Rv) (m : Ms) (um : Value) (w : World) (h : RpGot w u r) (hL : Lens r) (hX : Sls txtE w um m.l) (hXn : m.l.length ≤ maxLen) (hXz : ∀ p ∈ m.l, p.size ≤ maxLen) :
  Calls Tryz.prog 5 #[rpA r u, msA m um] w fun e w' => e = .returned (.bool true) ∧ Below w.heap.size w w' := by
 obtain ⟨plA, qlA, poA, qoA, pcA, qcA, ptA, qtA, MA, rfl⟩ := h.form
 have HI : Hid (RpGot w ⟨.slice plA r.l.length qlA, .slice poA r.ok.length qoA, .slice pcA r.ch.length qcA, .slice ptA r.te.length qtA, MA⟩ r) := h
 have hX0 := hX
 obtain ⟨pW, qW, rfl, _⟩ := hX0
 have HM : Hid (Sls txtE w (.slice pW m.l.length qW) m.l) := hX
 have hsz := fun W hW => szRp r ⟨.slice plA r.l.length qlA, .slice poA r.ok.length qoA, .slice pcA r.ch.length qcA, .slice ptA r.te.length qtA, MA⟩ 1048576 (by decide) (by decide) W hW hL
 have hsm := fun (z0 : Int) (h0 : 0 ≤ z0) (h1 : z0 ≤ 1048576) W hW => szMs m (.slice pW m.l.length qW) z0 h0 h1 W hW hXz hXn
 have hto := fun (hf : Fit r) W hW => toRpS r ⟨.slice plA r.l.length qlA, .slice poA r.ok.length qoA, .slice pcA r.ch.length qcA, .slice ptA r.te.length qtA, MA⟩ W hW hf
 have htm := fun (hs : m.l.length ≤ 1048576) W hW => toMs7 m (.slice pW m.l.length qW) W hW hs
 have hel := fun (r : Rp) ux uy W hx hy (hf : Fit r) => eqRp r ux uy W hx hy hf
 have hem := fun (hs : m.l.length ≤ 1048576) a b c d W hx hy => eqMs m (.slice a m.l.length b) (.slice c m.l.length d) W hx hy hs
 have hRf := (rcvA_fit r m).1.1
 have hRc := (rcvA_fit r m).1.2
 have hFw := (rcvA_fit r m).2
 obtain ⟨R, L, hP⟩ : ∃ R L, Fr.rcvA r m = (R, L) := ⟨_, _, rfl⟩
 rw [hP] at hRf hRc hFw
 have hsp := fun (hf : Fit r) (hs : Sm m.l) ux (a : Option Addr) (c : Nat) W hW (hx : Sls txtE W (.slice a m.l.length c) m.l) => (Fr.specRcvR r ux ⟨m, a, c⟩ W hW hf hx hs).mono fun e w' hh => RcvAns.open hP hh
 have him := fun (hf : Fit r) (hs : Sm m.l) ux (a : Option Addr) (c : Nat) W hW (hx : Sls txtE W (.slice a m.l.length c) m.l) => (Fr.implRcv r ux ⟨m, a, c⟩ W hW hf hx hs).mono fun e w' hh => RcvAns.open hP hh
 have hkl := fun (hf : Fit r) (hc : 1 + cR r ≤ 50000000) ux B W (hW : RpHas W B ux r) hap => (show Calls Tryz.prog 36 #[rpA r ux, .int .i64 1] W (fun e w' => e = .returned (.int .i64 ((1 + cR r : Nat) : Int)) ∧ ChS (Bl ux.rows) W w') from (markRp 1 (by decide) r ux B hc W hW hap hf).mono fun e w' hh => ⟨by rw [← kR_is]; exact hh.1, hh.2.2⟩)
 have hkg := fun (hc : 1 + cR r ≤ 50000000) (hs : m.l.length ≤ 1048576) lo hi a c W (h : MgF lo hi (.slice a m.l.length c) m.l W) => markMg (s := 1 + cR r) (by omega) hc W h hs
 have HFW : Hid (Few L) := hFw
 obtain ⟨kn, hkn⟩ : ∃ kn, kn = 1 + cR r := ⟨_, rfl⟩
 rw [← hkn] at hkl hkg
 have HRF : Hid (Fit R) := hRf
 have hkm := fun u lo hi W (h : RpF lo hi u R W) hap => markRp1 hRf (by omega) W h hap
 have hhd := fun u lo hi W (h : RpF lo hi (mkRv 1 R u) (mkRp 1 R u.T) W) ht => heldRp1 hRf (by omega) W h ht
 have hmm := fun lo hi v T W (h : MsE lo hi v T W) i => markMsE HFW.out (s := 1 + cR R) (by omega) hRc W h i
 have hhm := fun lo hi v T W (h : MsE lo hi v (mkTe (1 + cR R) T) W) i => heldMsE HFW.out (s := 1 + cR R) (by omega) hRc W h i
 have hm0 : ¬ kR R < 0 := kR_nn R
 rw [kR_is] at hkm hhd hm0
 generalize 1 + cR R = ss at hkm hhd hm0 hmm hhm
 unfold rpA msA at *
 simp only at hsz hsm hto htm hem ⊢
 clear h hL hX hXn hXz hRf hRc hFw
 have AA : Hid (Liv w.heap.size (w.heap.size + 1) (fun W => Bx W (w.heap.size) 53 #[.int .i64 r.id, .int .i64 r.p, .int .i64 r.v, .bool r.n, .int .i64 r.la, .slice plA r.l.length qlA, .int .i64 r.c, .slice poA r.ok.length qoA, .slice pcA r.ch.length qcA, .slice ptA r.te.length qtA]) ((w.alloc (.cells #[.int .i64 r.id, .int .i64 r.p, .int .i64 r.v, .bool r.n, .int .i64 r.la, .slice plA r.l.length qlA, .int .i64 r.c, .slice poA r.ok.length qoA, .slice pcA r.ch.length qcA, .slice ptA r.te.length qtA] 53)).alloc (.cells #[.int .i64 m.k, .int .i64 m.f, .int .i64 m.t, .int .i64 m.v, .int .i64 m.la, .slice pW m.l.length qW, .int .i64 m.c] 54))) := hH_ (Liv.kept (Liv.box (Bx.new _ _ _)) ((Below.refl _ _).alloc (Nat.le_refl _) _))
 have WW : Hid (Liv (w.heap.size + 1) (w.heap.size + 1 + 1) (fun W => Bx W (w.heap.size + 1) 54 #[.int .i64 m.k, .int .i64 m.f, .int .i64 m.t, .int .i64 m.v, .int .i64 m.la, .slice pW m.l.length qW, .int .i64 m.c]) ((w.alloc (.cells #[.int .i64 r.id, .int .i64 r.p, .int .i64 r.v, .bool r.n, .int .i64 r.la, .slice plA r.l.length qlA, .int .i64 r.c, .slice poA r.ok.length qoA, .slice pcA r.ch.length qcA, .slice ptA r.te.length qtA] 53)).alloc (.cells #[.int .i64 m.k, .int .i64 m.f, .int .i64 m.t, .int .i64 m.v, .int .i64 m.la, .slice pW m.l.length qW, .int .i64 m.c] 54))) := hH_ (Liv.box (Bx.at _ _ (by simp)))
 have BB : Hid (Below w.heap.size w ((w.alloc (.cells #[.int .i64 r.id, .int .i64 r.p, .int .i64 r.v, .bool r.n, .int .i64 r.la, .slice plA r.l.length qlA, .int .i64 r.c, .slice poA r.ok.length qoA, .slice pcA r.ch.length qcA, .slice ptA r.te.length qtA] 53)).alloc (.cells #[.int .i64 m.k, .int .i64 m.f, .int .i64 m.t, .int .i64 m.v, .int .i64 m.la, .slice pW m.l.length qW, .int .i64 m.c] 54))) := hH_ (((Below.refl _ w).alloc (Nat.le_refl _) _).alloc (by simp) _)
 have zA : ((w.alloc (.cells #[.int .i64 r.id, .int .i64 r.p, .int .i64 r.v, .bool r.n, .int .i64 r.la, .slice plA r.l.length qlA, .int .i64 r.c, .slice poA r.ok.length qoA, .slice pcA r.ch.length qcA, .slice ptA r.te.length qtA] 53)).alloc (.cells #[.int .i64 m.k, .int .i64 m.f, .int .i64 m.t, .int .i64 m.v, .int .i64 m.la, .slice pW m.l.length qW, .int .i64 m.c] 54)).heap.size = w.heap.size + 1 + 1 := by simp
 generalize hw1 : ((w.alloc (.cells #[.int .i64 r.id, .int .i64 r.p, .int .i64 r.v, .bool r.n, .int .i64 r.la, .slice plA r.l.length qlA, .int .i64 r.c, .slice poA r.ok.length qoA, .slice pcA r.ch.length qcA, .slice ptA r.te.length qtA] 53)).alloc (.cells #[.int .i64 m.k, .int .i64 m.f, .int .i64 m.t, .int .i64 m.v, .int .i64 m.la, .slice pW m.l.length qW, .int .i64 m.c] 54)) = w1 at BB zA AA WW
 have Z1 : Hid (w1.heap.size = w.heap.size + 1 + 1) := zA
 clear zA
 go_enter Tryz.func5, Tryz.ntmps5
 obtain ⟨AA_0, AA_1, AA_2, AA_3, AA_4, AA_5, AA_6, AA_7, AA_8, AA_9⟩ := bx10 AA.out.now
 obtain ⟨WW_0, WW_1, WW_2, WW_3, WW_4, WW_5, WW_6⟩ := bx7 WW.out.now
 go_wp2_with fail
 try clear hw1
 clear AA_0 AA_1 AA_2 AA_3 AA_4 AA_5 AA_6 AA_7 AA_8 AA_9 WW_0 WW_1 WW_2 WW_3 WW_4 WW_5 WW_6
 refine (hsz _ (HI.out.kept BB.out)).mono ?_
 rintro e w2 ⟨⟨z0, rfl, q1, q2, q3⟩, hb⟩
 replace AA := hH_ (AA.out.kept hb)
 replace WW := hH_ (WW.out.kept hb)
 have Z2 : Hid (w1.heap.size ≤ w2.heap.size) := hb.size
 replace BB := hH_ (BB.out.trans (hb.mono BB.out.size))
 clear hb
 obtain ⟨AA_0, AA_1, AA_2, AA_3, AA_4, AA_5, AA_6, AA_7, AA_8, AA_9⟩ := bx10 AA.out.now
 obtain ⟨WW_0, WW_1, WW_2, WW_3, WW_4, WW_5, WW_6⟩ := bx7 WW.out.now
 by_cases hV : z0 < 0
 ·
  go_wp2
  go_ret
  exact ⟨rfl, BB.out⟩
 have hf : Fit r := (q3 (by omega)).1
 have HF : Hid (Fit r) := hf
 have hcr : kn ≤ 50000000 := by
  rw [hkn]
  have h1 := (q3 (by omega)).2
  have h2 := hf.te.1
  unfold cR
  omega
 replace hsm := hsm z0 (by omega) q1
 replace hto := hto hf; replace hsp := hsp hf; replace him := him hf
 clear q1 q2 q3
 go_wp2_with fail
 clear AA_0 AA_1 AA_2 AA_3 AA_4 AA_5 AA_6 AA_7 AA_8 AA_9 WW_0 WW_1 WW_2 WW_3 WW_4 WW_5 WW_6
 refine (hsm _ (HM.out.kept BB.out)).mono ?_
 rintro e w3 ⟨⟨z1, rfl, q1, q2, q3⟩, hb⟩
 replace AA := hH_ (AA.out.kept hb)
 replace WW := hH_ (WW.out.kept hb)
 have Z3 : Hid (w2.heap.size ≤ w3.heap.size) := hb.size
 replace BB := hH_ (BB.out.trans (hb.mono BB.out.size))
 clear hb
 obtain ⟨AA_0, AA_1, AA_2, AA_3, AA_4, AA_5, AA_6, AA_7, AA_8, AA_9⟩ := bx10 AA.out.now
 obtain ⟨WW_0, WW_1, WW_2, WW_3, WW_4, WW_5, WW_6⟩ := bx7 WW.out.now
 by_cases hV1 : z1 < 0
 ·
  go_wp2
  go_ret
  exact ⟨rfl, BB.out⟩
 have hsx : Sm m.l := (q3 (by omega)).1
 replace htm := htm hsx.1; replace hem := hem hsx.1; replace hsp := hsp hsx; replace him := him hsx; replace hkl := hkl hf hcr; replace hkg := hkg hcr hsx.1
 clear q1 q2 q3 hf hsx hcr hkn
 go_upto_region 8 with fail
 clear AA_0 AA_1 AA_2 AA_3 AA_4 AA_5 AA_6 AA_7 AA_8 AA_9 WW_0 WW_1 WW_2 WW_3 WW_4 WW_5 WW_6
 have S0 := dwB w3
 generalize hA : Act.mk _ _ = A
 obtain ⟨s, hs, s2_, s3_, s4_, s15_, s55_, s56_, s57_, s58_, s60_, s61_, s62_, s63_, s104_, s105_, s106_, s107_, s108_, s109_, s110_, s111_⟩ : ∃ s : Nat → Value, A = frRa s (fun _ => undef) ∧ s 2 = .pointer (some ⟨w.heap.size, 0, none⟩) ∧ s 3 = .pointer (some ⟨w.heap.size + 1, 0, none⟩) ∧ s 4 = .bool false ∧ s 15 = undef ∧ s 55 = undef ∧ s 56 = undef ∧ s 57 = undef ∧ s 58 = undef ∧ s 60 = undef ∧ s 61 = undef ∧ s 62 = undef ∧ s 63 = undef ∧ s 104 = undef ∧ s 105 = undef ∧ s 106 = undef ∧ s 107 = undef ∧ s 108 = undef ∧ s 109 = undef ∧ s 110 = undef ∧ s 111 = undef := by
  refine ⟨fun i => A.tmps.getD i undef, ?_, ?_, ?_, ?_, ?_, ?_, ?_, ?_, ?_, ?_, ?_, ?_, ?_, ?_, ?_, ?_, ?_, ?_, ?_, ?_, ?_⟩ <;> rw [← hA] <;> rfl
 rw [hs]
 clear hs hA
 refine region_headsL 10 mixed (by decide) (by kernel_rfl) (by kernel_rfl) (by kernel_rfl) (by kernel_rfl) (frRa s) dRa (SRa r m R L w3) (GRa #[.int .i64 r.id, .int .i64 r.p, .int .i64 r.v, .bool r.n, .int .i64 r.la, .slice plA r.l.length qlA, .int .i64 r.c, .slice poA r.ok.length qoA, .slice pcA r.ch.length qcA, .slice ptA r.te.length qtA] #[.int .i64 m.k, .int .i64 m.f, .int .i64 m.t, .int .i64 m.v, .int .i64 m.la, .slice pW m.l.length qW, .int .i64 m.c]) (fun i j hi hj h => dRa_ne hi hj h) ?put (fun _ => undef) rfl (SRa.init S0 _) ?step ?done
 case put =>
  intro i o hi ho t v
  iterate 10 rcases ltS hi with hi | rfl
  cases hi
  all_goals
   obtain rfl := Option.some.inj ho
   rfl
 case step =>
  intro i o hi ho listed hnl hcl hls t x hS hdep K hK
  iterate 10 rcases ltS hi with hi | rfl
  cases hi
  all_goals obtain rfl := Option.some.inj ho
  ·
   refine ldGL (by rfl) (.tmp 2) rfl (w.heap.size) (by show (frRa s t).eval (.tmp 2) = _; unfold frRa; simp [Act.eval, s2_]) (AA.out.kept hS.b).now rfl ?_
   exact hK (.agg #[.int .i64 r.id, .int .i64 r.p, .int .i64 r.v, .bool r.n, .int .i64 r.la, .slice plA r.l.length qlA, .int .i64 r.c, .slice poA r.ok.length qoA, .slice pcA r.ch.length qcA, .slice ptA r.te.length qtA]) x (hS.idle (by decide) (by decide) (by decide) (by decide) (by decide) (by decide) (by decide) (by decide) (by decide) (by decide)) kI_ rfl
  ·
   have e0 : t 28 = .agg #[.int .i64 r.id, .int .i64 r.p, .int .i64 r.v, .bool r.n, .int .i64 r.la, .slice plA r.l.length qlA, .int .i64 r.c, .slice poA r.ok.length qoA, .slice pcA r.ch.length qcA, .slice ptA r.te.length qtA] := hdep ⟨0, .data⟩ (by simp) rfl
   refine callG1 (by rfl) 31 (.tmp 28) _ rfl (.agg #[.int .i64 r.id, .int .i64 r.p, .int .i64 r.v, .bool r.n, .int .i64 r.la, .slice plA r.l.length qlA, .int .i64 r.c, .slice poA r.ok.length qoA, .slice pcA r.ch.length qcA, .slice ptA r.te.length qtA]) (by show (frRa s t).eval (.tmp 28) = _; unfold frRa; simp [Act.eval, e0]) (Go.Proofs.enters_of Tryz.func31 (by kernel_rfl) rfl _) (fun v y => ∃ u', v = rpA r u' ∧ RpGot y u' r ∧ Below x.heap.size x y) ((hto x (HI.out.kept (BB.out.trans (hS.b.mono BB.out.size)))).mono ?_) ?_
   ·
    rintro e9 y0 ⟨pl0, ql0, po0, qo0, pc0, qc0, pt0, qt0, M0, rfl, ho, _, hb9⟩
    exact ⟨_, rfl, ⟨.slice pl0 r.l.length ql0, .slice po0 r.ok.length qo0, .slice pc0 r.ch.length qc0, .slice pt0 r.te.length qt0, M0⟩, rfl, ho.got, hb9⟩
   ·
    rintro v y ⟨u', rfl, hg, hb9⟩
    have h4 : t 32 = undef := Classical.byContradiction fun h => by
     have a1 := hcl 4 _ rfl (hS.s4 h) ⟨1, .data⟩ (by simp) rfl
     rw [hnl] at a1
     cases a1
    exact hK _ y (hS.to1 h4 hb9 hg) kI_ (by intro h; cases h)
  ·
   refine ldGLM (by rfl) (.tmp 3) rfl (w.heap.size + 1) (by show (frRa s t).eval (.tmp 3) = _; unfold frRa; simp [Act.eval, s3_]) (WW.out.kept hS.b).now rfl ?_
   exact hK (.agg #[.int .i64 m.k, .int .i64 m.f, .int .i64 m.t, .int .i64 m.v, .int .i64 m.la, .slice pW m.l.length qW, .int .i64 m.c]) x (hS.idle (by decide) (by decide) (by decide) (by decide) (by decide) (by decide) (by decide) (by decide) (by decide) (by decide)) kI_ rfl
  ·
   have e2 : t 30 = .agg #[.int .i64 m.k, .int .i64 m.f, .int .i64 m.t, .int .i64 m.v, .int .i64 m.la, .slice pW m.l.length qW, .int .i64 m.c] := hdep ⟨2, .data⟩ (by simp) rfl
   refine callG1 (by rfl) 32 (.tmp 30) _ rfl (.agg #[.int .i64 m.k, .int .i64 m.f, .int .i64 m.t, .int .i64 m.v, .int .i64 m.la, .slice pW m.l.length qW, .int .i64 m.c]) (by show (frRa s t).eval (.tmp 30) = _; unfold frRa; simp [Act.eval, e2]) (Go.Proofs.enters_of Tryz.func32 (by kernel_rfl) rfl _) (fun v y => ∃ a c, v = .agg (mxV ⟨m, a, c⟩) ∧ Sls txtE y (.slice a m.l.length c) m.l ∧ Below x.heap.size x y) ((htm x (HM.out.kept (BB.out.trans (hS.b.mono BB.out.size)))).mono ?_) ?_
   ·
    rintro e9 y0 ⟨p0, q0, rfl, ho, hb9⟩
    exact ⟨_, rfl, p0, q0, rfl, ho.sls, hb9⟩
   ·
    rintro v y ⟨a, c, rfl, hg, hb9⟩
    have h4 : t 32 = undef := Classical.byContradiction fun h => by
     have a1 := hcl 4 _ rfl (hS.s4 h) ⟨3, .data⟩ (by simp) rfl
     rw [hnl] at a1
     cases a1
    exact hK _ y (hS.to3 h4 hb9 hg) kI_ (by intro h; cases h)
  ·
   have h1 : t 29 ≠ undef := hdep ⟨1, .data⟩ (by simp) rfl
   have h3 : t 31 ≠ undef := hdep ⟨3, .data⟩ (by simp) rfl
   have h4 : t 32 = undef := Classical.byContradiction fun h => by
    have a1 := hS.s4 h
    rw [hnl] at a1
    cases a1
   have l5 : listed.getD 5 false = false := by
    cases hq : listed.getD 5 false with
    | false => rfl
    | true =>
     have a1 := hcl 5 _ rfl hq ⟨4, .data⟩ (by simp) rfl
     rw [hnl] at a1
     cases a1
   have l7 : listed.getD 7 false = false := by
    cases hq : listed.getD 7 false with
    | false => rfl
    | true =>
     have a1 := hcl 7 _ rfl hq ⟨5, .data⟩ (by simp) rfl
     rw [l5] at a1
     cases a1
   have l9 : listed.getD 9 false = false := by
    cases hq : listed.getD 9 false with
    | false => rfl
    | true =>
     have a2 := hcl 9 _ rfl hq ⟨6, .data⟩ (by simp) rfl
     have a1 := hcl 6 _ rfl a2 ⟨5, .data⟩ (by simp) rfl
     rw [l5] at a1
     cases a1
   obtain ⟨u3, e1, g3⟩ := hS.cp h1 h4
   obtain ⟨a, c, e3, gm⟩ := hS.cm h3 h4
   refine callG2 (by rfl) 9 (.tmp 29) (.tmp 31) _ rfl (rpA r u3) (.agg (mxV ⟨m, a, c⟩)) (by show (frRa s t).eval (.tmp 29) = _; unfold frRa; simp [Act.eval, e1]) (by show (frRa s t).eval (.tmp 31) = _; unfold frRa; simp [Act.eval, e3]) (Go.Proofs.enters_of Tryz.func9 (by kernel_rfl) rfl _) (fun v y => ∃ u' vv T C, v = .tuple #[rpA R u', vv] ∧ RpHas y x.heap.size u' R ∧ RpAp u' ∧ (∀ z ∈ u'.rows, ∀ k, z.ownBlock = some k → k < C) ∧ (x.heap.size ≤ C ∧ C ≤ y.heap.size) ∧ Fr.MsG y C vv T L ∧ Below x.heap.size x y) ((hsp u3 a c x g3 gm).mono ?_) ?_
   ·
    rintro e9 y0 ⟨pl0, ql0, po0, qo0, pc0, qc0, pt0, qt0, M0, v0, T0, C0, rfl, ho, ha, hu, hcc, hom, hb9⟩
    exact ⟨_, rfl, ⟨.slice pl0 R.l.length ql0, .slice po0 R.ok.length qo0, .slice pc0 R.ch.length qc0, .slice pt0 R.te.length qt0, M0⟩, v0, T0, C0, rfl, ho, ha, hu, hcc, hom, hb9⟩
   ·
    rintro v y ⟨u', vv, T0, C0, rfl, ho, ha, hu, hcc, hom, hb9⟩
    exact hK _ y (hS.call (by rw [hls]; rfl) h4 l7 l9 hb9 ho ha hu hcc hom) kI_ (by intro h; cases h)
  ·
   have h4 : t 32 ≠ undef := hdep ⟨4, .data⟩ (by simp) rfl
   have h2 := hK (t 32) x (hS.mv5 h4).2 kI_ h4
   unfold frRa at h2 ⊢
   clear hK
   go_simp
   simpa [Act.put, s2_, s3_, s4_, s15_, s55_, s56_, s57_, s58_, s60_, s61_, s62_, s63_, s104_, s105_, s106_, s107_, s108_, s109_, s110_, s111_] using h2
  ·
   have h5 : t 27 ≠ undef := hdep ⟨5, .data⟩ (by simp) rfl
   obtain ⟨V, v9, e5, hV, kk⟩ := hS.ex6 h5
   have h2 := hK V x kk kI_ hV
   unfold frRa at h2 ⊢
   clear hK
   go_simp
   simpa [Act.put, e5, s2_, s3_, s4_, s15_, s55_, s56_, s57_, s58_, s60_, s61_, s62_, s63_, s104_, s105_, s106_, s107_, s108_, s109_, s110_, s111_] using h2
  ·
   have h5 : t 27 ≠ undef := hdep ⟨5, .data⟩ (by simp) rfl
   obtain ⟨V, v9, e5, kk⟩ := hS.ex7 h5
   have h2 := hK v9 x kk kI_ trivial
   unfold frRa at h2 ⊢
   clear hK
   go_simp
   simpa [Act.put, e5, s2_, s3_, s4_, s15_, s55_, s56_, s57_, s58_, s60_, s61_, s62_, s63_, s104_, s105_, s106_, s107_, s108_, s109_, s110_, s111_] using h2
  ·
   have l9 : listed.getD 9 false = false := by
    cases hq : listed.getD 9 false with
    | false => rfl
    | true =>
     have a1 := hcl 9 _ rfl hq ⟨8, .data⟩ (by simp) rfl
     rw [hnl] at a1
     cases a1
   have h2 := hK (.pointer (some ⟨x.heap.size, 0, none⟩)) (x.alloc (.cells #[.int .i64 0, .int .i64 0, .int .i64 0, .bool false, .int .i64 0, .slice none 0 0, .int .i64 0, .slice none 0 0, .slice none 0 0, .slice none 0 0] 28)) (hS.al8 l9 rfl) kI_ (by intro h; cases h)
   unfold frRa at h2 ⊢
   clear hK
   go_simp
   simpa [Act.put, s2_, s3_, s4_, s15_, s55_, s56_, s57_, s58_, s60_, s61_, s62_, s63_, s104_, s105_, s106_, s107_, s108_, s109_, s110_, s111_] using h2
  ·
   have h6 : t 33 ≠ undef := hdep ⟨6, .data⟩ (by simp) rfl
   have h8 : t 6 ≠ undef := hdep ⟨8, .data⟩ (by simp) rfl
   obtain ⟨gb, old, u', e8, e6, hB, hs9, hg, kk⟩ := hS.st9 h6 h8
   refine stG (by rfl) (.tmp 6) (.tmp 33) rfl gb (rpC R u') (by show (frRa s t).eval (.tmp 6) = _; unfold frRa; simp [Act.eval, e8]) (by show (frRa s t).eval (.tmp 33) = _; unfold frRa; simp [Act.eval, e6]) hB hs9 (rpC_size R u') (rpC_one hg) ?_
   intro W9 hW hc
   exact hK undef W9 (kk W9 _ _ hW hc (by decide) (by decide) (by decide) (by decide) (by decide) (by decide) (by decide)) kI_ trivial
 case done =>
  intro listed tt w4 hall hS hG
  have h4 : tt 32 ≠ undef := hG 4 (by decide)
  obtain ⟨pl3, ql3, po3, qo3, pc3, qc3, pt3, qt3, M3, vY, TY, CY, loY, hiY, gbY, e7, e8, hY, ha, hYm, hi9, hz9, hbx, hb⟩ := hS.fin h4 (hall 7 (by decide)) (hall 9 (by decide))
  have AY : Hid (RpAp ⟨.slice pl3 R.l.length ql3, .slice po3 R.ok.length qo3, .slice pc3 R.ch.length qc3, .slice pt3 R.te.length qt3, M3⟩) := ha
  have EY : Hid ((⟨.slice pl3 R.l.length ql3, .slice po3 R.ok.length qo3, .slice pc3 R.ch.length qc3, .slice pt3 R.te.length qt3, M3⟩ : Rv).T.map (·.m) = R.te) := hY.now.1.t
  have ITY : Hid (TY.map (·.m) = L) := hi9
  have ZCY : Hid (w3.heap.size ≤ loY ∧ loY ≤ CY ∧ CY ≤ hiY ∧ hiY ≤ w4.heap.size ∧ w3.heap.size ≤ gbY ∧ gbY + 1 ≤ w4.heap.size) := hz9
  replace AA := hH_ (AA.out.kept hb)
  replace WW := hH_ (WW.out.kept hb)
  have Y : Hid (Liv loY CY (RpF loY CY ⟨.slice pl3 R.l.length ql3, .slice po3 R.ok.length qo3, .slice pc3 R.ch.length qc3, .slice pt3 R.te.length qt3, M3⟩ R) w4) := hY
  have Ym : Hid (Liv CY hiY (MsE CY hiY vY TY) w4) := hYm
  have Y0 : Hid (Liv gbY (gbY + 1) (fun W => Bx W (gbY) 28 #[.int .i64 R.id, .int .i64 R.p, .int .i64 R.v, .bool R.n, .int .i64 R.la, .slice pl3 R.l.length ql3, .int .i64 R.c, .slice po3 R.ok.length qo3, .slice pc3 R.ch.length qc3, .slice pt3 R.te.length qt3]) w4) := hH_ (Liv.box hbx)
  have Z4 : Hid (w3.heap.size ≤ w4.heap.size) := hb.size
  replace BB := hH_ (BB.out.trans (hb.mono BB.out.size))
  clear hY ha hYm hi9 hz9 hbx hb hS hG hall h4 S0
  show wpList Tryz.prog _ _ [_] _ w4
  unfold frRa
  simp only [e7, e8, s2_, s3_, s4_, s15_, s55_, s56_, s57_, s58_, s60_, s61_, s62_, s63_, s104_, s105_, s106_, s107_, s108_, s109_, s110_, s111_]
  clear e7 e8 s2_ s3_ s4_ s15_ s55_ s56_ s57_ s58_ s60_ s61_ s62_ s63_ s104_ s105_ s106_ s107_ s108_ s109_ s110_ s111_
  obtain ⟨AA_0, AA_1, AA_2, AA_3, AA_4, AA_5, AA_6, AA_7, AA_8, AA_9⟩ := bx10 AA.out.now
  obtain ⟨WW_0, WW_1, WW_2, WW_3, WW_4, WW_5, WW_6⟩ := bx7 WW.out.now
  obtain ⟨Y0_0, Y0_1, Y0_2, Y0_3, Y0_4, Y0_5, Y0_6, Y0_7, Y0_8, Y0_9⟩ := bx10 Y0.out.now
  go_wp2_with fail
  clear AA_0 AA_1 AA_2 AA_3 AA_4 AA_5 AA_6 AA_7 AA_8 AA_9 WW_0 WW_1 WW_2 WW_3 WW_4 WW_5 WW_6 Y0_0 Y0_1 Y0_2 Y0_3 Y0_4 Y0_5 Y0_6 Y0_7 Y0_8 Y0_9
  refine (hto _ (HI.out.kept BB.out)).mono ?_
  rintro e w5 ⟨pl4, ql4, po4, qo4, pc4, qc4, pt4, qt4, M4, rfl, ho, ha, hb⟩
  have HA : Hid (RpAp ⟨.slice pl4 r.l.length ql4, .slice po4 r.ok.length qo4, .slice pc4 r.ch.length qc4, .slice pt4 r.te.length qt4, M4⟩) := ha
  clear ha
  replace AA := hH_ (AA.out.kept hb)
  replace WW := hH_ (WW.out.kept hb)
  replace Y := hH_ (Y.out.kept hb)
  replace Ym := hH_ (Ym.out.kept hb)
  replace Y0 := hH_ (Y0.out.kept hb)
  have X : Hid (Liv w4.heap.size w5.heap.size (RpF w4.heap.size w5.heap.size ⟨.slice pl4 r.l.length ql4, .slice po4 r.ok.length qo4, .slice pc4 r.ch.length qc4, .slice pt4 r.te.length qt4, M4⟩ r) w5) := hH_ (Liv.newRp ho)
  have Z5 : Hid (w4.heap.size ≤ w5.heap.size) := hb.size
  replace BB := hH_ (BB.out.trans (hb.mono BB.out.size))
  clear hb ho
  have hbA : Below w5.heap.size w5 (w5.alloc (.cells #[.int .i64 r.id, .int .i64 r.p, .int .i64 r.v, .bool r.n, .int .i64 r.la, .slice pl4 r.l.length ql4, .int .i64 r.c, .slice po4 r.ok.length qo4, .slice pc4 r.ch.length qc4, .slice pt4 r.te.length qt4] 28)) := (Below.refl _ _).alloc (Nat.le_refl _) _
  have zA : (w5.alloc (.cells #[.int .i64 r.id, .int .i64 r.p, .int .i64 r.v, .bool r.n, .int .i64 r.la, .slice pl4 r.l.length ql4, .int .i64 r.c, .slice po4 r.ok.length qo4, .slice pc4 r.ch.length qc4, .slice pt4 r.te.length qt4] 28)).heap.size = w5.heap.size + 1 := by simp
  replace AA := hH_ (AA.out.kept hbA)
  replace WW := hH_ (WW.out.kept hbA)
  replace Y := hH_ (Y.out.kept hbA)
  replace Ym := hH_ (Ym.out.kept hbA)
  replace Y0 := hH_ (Y0.out.kept hbA)
  replace X := hH_ (X.out.kept hbA)
  replace BB := hH_ (BB.out.trans (hbA.mono BB.out.size))
  have X0 : Hid (Liv w5.heap.size (w5.heap.size + 1) (fun W => Bx W (w5.heap.size) 28 #[.int .i64 r.id, .int .i64 r.p, .int .i64 r.v, .bool r.n, .int .i64 r.la, .slice pl4 r.l.length ql4, .int .i64 r.c, .slice po4 r.ok.length qo4, .slice pc4 r.ch.length qc4, .slice pt4 r.te.length qt4]) (w5.alloc (.cells #[.int .i64 r.id, .int .i64 r.p, .int .i64 r.v, .bool r.n, .int .i64 r.la, .slice pl4 r.l.length ql4, .int .i64 r.c, .slice po4 r.ok.length qo4, .slice pc4 r.ch.length qc4, .slice pt4 r.te.length qt4] 28))) := hH_ (Liv.box (Bx.new _ _ _))
  clear hbA
  generalize hww6 : (w5.alloc (.cells #[.int .i64 r.id, .int .i64 r.p, .int .i64 r.v, .bool r.n, .int .i64 r.la, .slice pl4 r.l.length ql4, .int .i64 r.c, .slice po4 r.ok.length qo4, .slice pc4 r.ch.length qc4, .slice pt4 r.te.length qt4] 28)) = w6 at BB zA AA WW Y Ym Y0 X X0
  have Z6 : Hid (w6.heap.size = w5.heap.size + 1) := zA
  clear zA
  obtain ⟨AA_0, AA_1, AA_2, AA_3, AA_4, AA_5, AA_6, AA_7, AA_8, AA_9⟩ := bx10 AA.out.now
  obtain ⟨WW_0, WW_1, WW_2, WW_3, WW_4, WW_5, WW_6⟩ := bx7 WW.out.now
  obtain ⟨Y0_0, Y0_1, Y0_2, Y0_3, Y0_4, Y0_5, Y0_6, Y0_7, Y0_8, Y0_9⟩ := bx10 Y0.out.now
  obtain ⟨X0_0, X0_1, X0_2, X0_3, X0_4, X0_5, X0_6, X0_7, X0_8, X0_9⟩ := bx10 X0.out.now
  go_wp2_with fail
  clear hww6
  clear AA_0 AA_1 AA_2 AA_3 AA_4 AA_5 AA_6 AA_7 AA_8 AA_9 WW_0 WW_1 WW_2 WW_3 WW_4 WW_5 WW_6 Y0_0 Y0_1 Y0_2 Y0_3 Y0_4 Y0_5 Y0_6 Y0_7 Y0_8 Y0_9 X0_0 X0_1 X0_2 X0_3 X0_4 X0_5 X0_6 X0_7 X0_8 X0_9
  refine (htm _ (HM.out.kept BB.out)).mono ?_
  rintro e w7 ⟨pV, qV, rfl, ho, hb⟩
  replace AA := hH_ (AA.out.kept hb)
  replace WW := hH_ (WW.out.kept hb)
  replace Y := hH_ (Y.out.kept hb)
  replace Ym := hH_ (Ym.out.kept hb)
  replace Y0 := hH_ (Y0.out.kept hb)
  replace X := hH_ (X.out.kept hb)
  replace X0 := hH_ (X0.out.kept hb)
  have V : Hid (Liv w6.heap.size w7.heap.size (MgF w6.heap.size w7.heap.size (.slice pV m.l.length qV) m.l) w7) := hH_ (Liv.newMg ho)
  have Z7 : Hid (w6.heap.size ≤ w7.heap.size) := hb.size
  replace BB := hH_ (BB.out.trans (hb.mono BB.out.size))
  clear hb ho
  have hbA : Below w7.heap.size w7 (w7.alloc (.cells #[.int .i64 m.k, .int .i64 m.f, .int .i64 m.t, .int .i64 m.v, .int .i64 m.la, .slice pV m.l.length qV, .int .i64 m.c] 30)) := (Below.refl _ _).alloc (Nat.le_refl _) _
  have zA : (w7.alloc (.cells #[.int .i64 m.k, .int .i64 m.f, .int .i64 m.t, .int .i64 m.v, .int .i64 m.la, .slice pV m.l.length qV, .int .i64 m.c] 30)).heap.size = w7.heap.size + 1 := by simp
  replace AA := hH_ (AA.out.kept hbA)
  replace WW := hH_ (WW.out.kept hbA)
  replace Y := hH_ (Y.out.kept hbA)
  replace Ym := hH_ (Ym.out.kept hbA)
  replace Y0 := hH_ (Y0.out.kept hbA)
  replace X := hH_ (X.out.kept hbA)
  replace X0 := hH_ (X0.out.kept hbA)
  replace V := hH_ (V.out.kept hbA)
  replace BB := hH_ (BB.out.trans (hbA.mono BB.out.size))
  have V0 : Hid (Liv w7.heap.size (w7.heap.size + 1) (fun W => Bx W (w7.heap.size) 30 #[.int .i64 m.k, .int .i64 m.f, .int .i64 m.t, .int .i64 m.v, .int .i64 m.la, .slice pV m.l.length qV, .int .i64 m.c]) (w7.alloc (.cells #[.int .i64 m.k, .int .i64 m.f, .int .i64 m.t, .int .i64 m.v, .int .i64 m.la, .slice pV m.l.length qV, .int .i64 m.c] 30))) := hH_ (Liv.box (Bx.new _ _ _))
  clear hbA
  generalize hww8 : (w7.alloc (.cells #[.int .i64 m.k, .int .i64 m.f, .int .i64 m.t, .int .i64 m.v, .int .i64 m.la, .slice pV m.l.length qV, .int .i64 m.c] 30)) = w8 at BB zA AA WW Y Ym Y0 X X0 V V0
  have Z8 : Hid (w8.heap.size = w7.heap.size + 1) := zA
  clear zA
  obtain ⟨AA_0, AA_1, AA_2, AA_3, AA_4, AA_5, AA_6, AA_7, AA_8, AA_9⟩ := bx10 AA.out.now
  obtain ⟨WW_0, WW_1, WW_2, WW_3, WW_4, WW_5, WW_6⟩ := bx7 WW.out.now
  obtain ⟨Y0_0, Y0_1, Y0_2, Y0_3, Y0_4, Y0_5, Y0_6, Y0_7, Y0_8, Y0_9⟩ := bx10 Y0.out.now
  obtain ⟨X0_0, X0_1, X0_2, X0_3, X0_4, X0_5, X0_6, X0_7, X0_8, X0_9⟩ := bx10 X0.out.now
  obtain ⟨V0_0, V0_1, V0_2, V0_3, V0_4, V0_5, V0_6⟩ := bx7 V0.out.now
  go_wp2_with fail
  clear hww8
  clear AA_0 AA_1 AA_2 AA_3 AA_4 AA_5 AA_6 AA_7 AA_8 AA_9 WW_0 WW_1 WW_2 WW_3 WW_4 WW_5 WW_6 Y0_0 Y0_1 Y0_2 Y0_3 Y0_4 Y0_5 Y0_6 Y0_7 Y0_8 Y0_9 X0_0 X0_1 X0_2 X0_3 X0_4 X0_5 X0_6 X0_7 X0_8 X0_9 V0_0 V0_1 V0_2 V0_3 V0_4 V0_5 V0_6
  refine (him _ _ _ _ X.out.now.1.got V.out.now.1.sls).mono ?_
  rintro e w9 ⟨pl5, ql5, po5, qo5, pc5, qc5, pt5, qt5, M5, vG, TG, CG, rfl, ho, ha, hu, hcc, hom, hb⟩
  have AG : Hid (RpAp ⟨.slice pl5 R.l.length ql5, .slice po5 R.ok.length qo5, .slice pc5 R.ch.length qc5, .slice pt5 R.te.length qt5, M5⟩) := ha
  have EG : Hid ((⟨.slice pl5 R.l.length ql5, .slice po5 R.ok.length qo5, .slice pc5 R.ch.length qc5, .slice pt5 R.te.length qt5, M5⟩ : Rv).T.map (·.m) = R.te) := ho.t
  have ITG : Hid (TG.map (·.m) = L) := MsG_is hom
  have ZCG : Hid (w8.heap.size ≤ CG ∧ CG ≤ w9.heap.size) := hcc
  clear ha
  replace AA := hH_ (AA.out.kept hb)
  replace WW := hH_ (WW.out.kept hb)
  replace Y := hH_ (Y.out.kept hb)
  replace Ym := hH_ (Ym.out.kept hb)
  replace Y0 := hH_ (Y0.out.kept hb)
  replace X := hH_ (X.out.kept hb)
  replace X0 := hH_ (X0.out.kept hb)
  replace V := hH_ (V.out.kept hb)
  replace V0 := hH_ (V0.out.kept hb)
  have G : Hid (Liv w8.heap.size CG (RpF w8.heap.size CG ⟨.slice pl5 R.l.length ql5, .slice po5 R.ok.length qo5, .slice pc5 R.ch.length qc5, .slice pt5 R.te.length qt5, M5⟩ R) w9) := hH_ (Liv.rp ho hu hcc.2)
  have Gm : Hid (Liv CG w9.heap.size (MsE CG w9.heap.size vG TG) w9) := hH_ (Liv.mse (MsE.of hom) (Nat.le_refl _))
  have Z9 : Hid (w8.heap.size ≤ w9.heap.size) := hb.size
  replace BB := hH_ (BB.out.trans (hb.mono BB.out.size))
  clear hb ho
  have hbA : Below w9.heap.size w9 (w9.alloc (.cells #[.int .i64 R.id, .int .i64 R.p, .int .i64 R.v, .bool R.n, .int .i64 R.la, .slice pl5 R.l.length ql5, .int .i64 R.c, .slice po5 R.ok.length qo5, .slice pc5 R.ch.length qc5, .slice pt5 R.te.length qt5] 28)) := (Below.refl _ _).alloc (Nat.le_refl _) _
  have zA : (w9.alloc (.cells #[.int .i64 R.id, .int .i64 R.p, .int .i64 R.v, .bool R.n, .int .i64 R.la, .slice pl5 R.l.length ql5, .int .i64 R.c, .slice po5 R.ok.length qo5, .slice pc5 R.ch.length qc5, .slice pt5 R.te.length qt5] 28)).heap.size = w9.heap.size + 1 := by simp
  replace AA := hH_ (AA.out.kept hbA)
  replace WW := hH_ (WW.out.kept hbA)
  replace Y := hH_ (Y.out.kept hbA)
  replace Ym := hH_ (Ym.out.kept hbA)
  replace Y0 := hH_ (Y0.out.kept hbA)
  replace X := hH_ (X.out.kept hbA)
  replace X0 := hH_ (X0.out.kept hbA)
  replace V := hH_ (V.out.kept hbA)
  replace V0 := hH_ (V0.out.kept hbA)
  replace G := hH_ (G.out.kept hbA)
  replace Gm := hH_ (Gm.out.kept hbA)
  replace BB := hH_ (BB.out.trans (hbA.mono BB.out.size))
  have G0 : Hid (Liv w9.heap.size (w9.heap.size + 1) (fun W => Bx W (w9.heap.size) 28 #[.int .i64 R.id, .int .i64 R.p, .int .i64 R.v, .bool R.n, .int .i64 R.la, .slice pl5 R.l.length ql5, .int .i64 R.c, .slice po5 R.ok.length qo5, .slice pc5 R.ch.length qc5, .slice pt5 R.te.length qt5]) (w9.alloc (.cells #[.int .i64 R.id, .int .i64 R.p, .int .i64 R.v, .bool R.n, .int .i64 R.la, .slice pl5 R.l.length ql5, .int .i64 R.c, .slice po5 R.ok.length qo5, .slice pc5 R.ch.length qc5, .slice pt5 R.te.length qt5] 28))) := hH_ (Liv.box (Bx.new _ _ _))
  clear hbA
  generalize hww10 : (w9.alloc (.cells #[.int .i64 R.id, .int .i64 R.p, .int .i64 R.v, .bool R.n, .int .i64 R.la, .slice pl5 R.l.length ql5, .int .i64 R.c, .slice po5 R.ok.length qo5, .slice pc5 R.ch.length qc5, .slice pt5 R.te.length qt5] 28)) = w10 at BB zA AA WW Y Ym Y0 X X0 V V0 G Gm G0
  have Z10 : Hid (w10.heap.size = w9.heap.size + 1) := zA
  clear zA
  obtain ⟨AA_0, AA_1, AA_2, AA_3, AA_4, AA_5, AA_6, AA_7, AA_8, AA_9⟩ := bx10 AA.out.now
  obtain ⟨WW_0, WW_1, WW_2, WW_3, WW_4, WW_5, WW_6⟩ := bx7 WW.out.now
  obtain ⟨Y0_0, Y0_1, Y0_2, Y0_3, Y0_4, Y0_5, Y0_6, Y0_7, Y0_8, Y0_9⟩ := bx10 Y0.out.now
  obtain ⟨X0_0, X0_1, X0_2, X0_3, X0_4, X0_5, X0_6, X0_7, X0_8, X0_9⟩ := bx10 X0.out.now
  obtain ⟨V0_0, V0_1, V0_2, V0_3, V0_4, V0_5, V0_6⟩ := bx7 V0.out.now
  obtain ⟨G0_0, G0_1, G0_2, G0_3, G0_4, G0_5, G0_6, G0_7, G0_8, G0_9⟩ := bx10 G0.out.now
  go_wp2_with fail
  clear hww10
  clear AA_0 AA_1 AA_2 AA_3 AA_4 AA_5 AA_6 AA_7 AA_8 AA_9 WW_0 WW_1 WW_2 WW_3 WW_4 WW_5 WW_6 Y0_0 Y0_1 Y0_2 Y0_3 Y0_4 Y0_5 Y0_6 Y0_7 Y0_8 Y0_9 X0_0 X0_1 X0_2 X0_3 X0_4 X0_5 X0_6 X0_7 X0_8 X0_9 V0_0 V0_1 V0_2 V0_3 V0_4 V0_5 V0_6 G0_0 G0_1 G0_2 G0_3 G0_4 G0_5 G0_6 G0_7 G0_8 G0_9
  refine (hel R _ _ _ G.out.now.1.got Y.out.now.1.got HRF.out).mono ?_
  rintro e w11 ⟨rfl, hb⟩
  replace AA := hH_ (AA.out.kept hb)
  replace WW := hH_ (WW.out.kept hb)
  replace Y := hH_ (Y.out.kept hb)
  replace Ym := hH_ (Ym.out.kept hb)
  replace Y0 := hH_ (Y0.out.kept hb)
  replace X := hH_ (X.out.kept hb)
  replace X0 := hH_ (X0.out.kept hb)
  replace V := hH_ (V.out.kept hb)
  replace V0 := hH_ (V0.out.kept hb)
  replace G := hH_ (G.out.kept hb)
  replace Gm := hH_ (Gm.out.kept hb)
  replace G0 := hH_ (G0.out.kept hb)
  have Z11 : Hid (w10.heap.size ≤ w11.heap.size) := hb.size
  replace BB := hH_ (BB.out.trans (hb.mono BB.out.size))
  clear hb
  obtain ⟨AA_0, AA_1, AA_2, AA_3, AA_4, AA_5, AA_6, AA_7, AA_8, AA_9⟩ := bx10 AA.out.now
  obtain ⟨WW_0, WW_1, WW_2, WW_3, WW_4, WW_5, WW_6⟩ := bx7 WW.out.now
  obtain ⟨Y0_0, Y0_1, Y0_2, Y0_3, Y0_4, Y0_5, Y0_6, Y0_7, Y0_8, Y0_9⟩ := bx10 Y0.out.now
  obtain ⟨X0_0, X0_1, X0_2, X0_3, X0_4, X0_5, X0_6, X0_7, X0_8, X0_9⟩ := bx10 X0.out.now
  obtain ⟨V0_0, V0_1, V0_2, V0_3, V0_4, V0_5, V0_6⟩ := bx7 V0.out.now
  obtain ⟨G0_0, G0_1, G0_2, G0_3, G0_4, G0_5, G0_6, G0_7, G0_8, G0_9⟩ := bx10 G0.out.now
  go_wp2_with fail
  clear AA_0 AA_1 AA_2 AA_3 AA_4 AA_5 AA_6 AA_7 AA_8 AA_9 WW_0 WW_1 WW_2 WW_3 WW_4 WW_5 WW_6 Y0_0 Y0_1 Y0_2 Y0_3 Y0_4 Y0_5 Y0_6 Y0_7 Y0_8 Y0_9 X0_0 X0_1 X0_2 X0_3 X0_4 X0_5 X0_6 X0_7 X0_8 X0_9 V0_0 V0_1 V0_2 V0_3 V0_4 V0_5 V0_6 G0_0 G0_1 G0_2 G0_3 G0_4 G0_5 G0_6 G0_7 G0_8 G0_9
  refine (eqMsE HFW.out _ Gm.out.now Ym.out.now ITG.out ITY.out).mono ?_
  rintro e w12 ⟨rfl, hb⟩
  replace AA := hH_ (AA.out.kept hb)
  replace WW := hH_ (WW.out.kept hb)
  replace Y := hH_ (Y.out.kept hb)
  replace Ym := hH_ (Ym.out.kept hb)
  replace Y0 := hH_ (Y0.out.kept hb)
  replace X := hH_ (X.out.kept hb)
  replace X0 := hH_ (X0.out.kept hb)
  replace V := hH_ (V.out.kept hb)
  replace V0 := hH_ (V0.out.kept hb)
  replace G := hH_ (G.out.kept hb)
  replace Gm := hH_ (Gm.out.kept hb)
  replace G0 := hH_ (G0.out.kept hb)
  have Z12 : Hid (w11.heap.size ≤ w12.heap.size) := hb.size
  replace BB := hH_ (BB.out.trans (hb.mono BB.out.size))
  clear hb
  obtain ⟨AA_0, AA_1, AA_2, AA_3, AA_4, AA_5, AA_6, AA_7, AA_8, AA_9⟩ := bx10 AA.out.now
  obtain ⟨WW_0, WW_1, WW_2, WW_3, WW_4, WW_5, WW_6⟩ := bx7 WW.out.now
  obtain ⟨Y0_0, Y0_1, Y0_2, Y0_3, Y0_4, Y0_5, Y0_6, Y0_7, Y0_8, Y0_9⟩ := bx10 Y0.out.now
  obtain ⟨X0_0, X0_1, X0_2, X0_3, X0_4, X0_5, X0_6, X0_7, X0_8, X0_9⟩ := bx10 X0.out.now
  obtain ⟨V0_0, V0_1, V0_2, V0_3, V0_4, V0_5, V0_6⟩ := bx7 V0.out.now
  obtain ⟨G0_0, G0_1, G0_2, G0_3, G0_4, G0_5, G0_6, G0_7, G0_8, G0_9⟩ := bx10 G0.out.now
  go_upto_region 14 with fail
  clear AA_0 AA_1 AA_2 AA_3 AA_4 AA_5 AA_6 AA_7 AA_8 AA_9 WW_0 WW_1 WW_2 WW_3 WW_4 WW_5 WW_6 Y0_0 Y0_1 Y0_2 Y0_3 Y0_4 Y0_5 Y0_6 Y0_7 Y0_8 Y0_9 X0_0 X0_1 X0_2 X0_3 X0_4 X0_5 X0_6 X0_7 X0_8 X0_9 V0_0 V0_1 V0_2 V0_3 V0_4 V0_5 V0_6 G0_0 G0_1 G0_2 G0_3 G0_4 G0_5 G0_6 G0_7 G0_8 G0_9
  have helG := fun (x : World) p1 d1 p2 d2 p3 d3 p4 d4 (hb : Below w12.heap.size w12 x) (hg : GotM x r p1 d1 p2 d2 p3 d3 p4 d4) => (show Calls Tryz.prog 33 #[.agg #[.int .i64 r.id, .int .i64 r.p, .int .i64 r.v, .bool r.n, .int .i64 r.la, .slice pl4 r.l.length ql4, .int .i64 r.c, .slice po4 r.ok.length qo4, .slice pc4 r.ch.length qc4, .slice pt4 r.te.length qt4], .agg #[.int .i64 r.id, .int .i64 r.p, .int .i64 r.v, .bool r.n, .int .i64 r.la, .slice p1 r.l.length d1, .int .i64 r.c, .slice p2 r.ok.length d2, .slice p3 r.ch.length d3, .slice p4 r.te.length d4]] x (fun e w' => e = .returned (.bool true) ∧ Below x.heap.size x w') from by
   obtain ⟨M9, hM⟩ := hg
   exact hel r ⟨.slice pl4 r.l.length ql4, .slice po4 r.ok.length qo4, .slice pc4 r.ch.length qc4, .slice pt4 r.te.length qt4, M4⟩ ⟨.slice p1 r.l.length d1, .slice p2 r.ok.length d2, .slice p3 r.ch.length d3, .slice p4 r.te.length d4, M9⟩ x (X.out.kept hb).now.1.got hM HF.out)
  have S0 := dwB w12
  generalize hA : Act.mk _ _ = A
  obtain ⟨s, hs, s2_, s3_, s4_, s6_, s7_, s8_, s9_, s10_, s11_, s15_, s60_, s61_, s62_, s63_, s104_, s105_, s106_, s107_, s108_, s109_, s110_, s111_⟩ : ∃ s : Nat → Value, A = frRtr s (fun _ => undef) ∧ s 2 = .pointer (some ⟨w.heap.size, 0, none⟩) ∧ s 3 = .pointer (some ⟨w.heap.size + 1, 0, none⟩) ∧ s 4 = .bool false ∧ s 6 = .pointer (some ⟨gbY, 0, none⟩) ∧ s 7 = vY ∧ s 8 = .pointer (some ⟨w5.heap.size, 0, none⟩) ∧ s 9 = .pointer (some ⟨w7.heap.size, 0, none⟩) ∧ s 10 = .pointer (some ⟨w9.heap.size, 0, none⟩) ∧ s 11 = vG ∧ s 15 = undef ∧ s 60 = undef ∧ s 61 = undef ∧ s 62 = undef ∧ s 63 = undef ∧ s 104 = undef ∧ s 105 = undef ∧ s 106 = undef ∧ s 107 = undef ∧ s 108 = undef ∧ s 109 = undef ∧ s 110 = undef ∧ s 111 = undef := by
   refine ⟨fun i => A.tmps.getD i undef, ?_, ?_, ?_, ?_, ?_, ?_, ?_, ?_, ?_, ?_, ?_, ?_, ?_, ?_, ?_, ?_, ?_, ?_, ?_, ?_, ?_, ?_, ?_⟩ <;> rw [← hA] <;> rfl
  rw [hs]
  clear hs hA
  refine region_heads 4 mixed (by decide) (by kernel_rfl) (by kernel_rfl) (by kernel_rfl) (by kernel_rfl) (frRtr s) dRtr (fun x => Below w12.heap.size w12 x) (GRtr r pl4 ql4 po4 qo4 pc4 qc4 pt4 qt4 plA qlA poA qoA pcA qcA ptA qtA) (fun i j hi hj h => by unfold dRtr; omega) ?put (fun _ => undef) rfl S0 ?step ?done
  case put =>
   intro i o hi ho t v
   rcases (show i = 0 ∨ i = 1 ∨ i = 2 ∨ i = 3 by omega) with rfl | rfl | rfl | rfl
   all_goals
    obtain rfl := Option.some.inj ho
    rfl
  case step =>
   intro i o hi ho t x hS hdep K hK
   rcases (show i = 0 ∨ i = 1 ∨ i = 2 ∨ i = 3 by omega) with rfl | rfl | rfl | rfl
   all_goals obtain rfl := Option.some.inj ho
   ·
    have y0 := (X0.out.kept hS).now.cell 0
    have y1 := (X0.out.kept hS).now.cell 1
    have y2 := (X0.out.kept hS).now.cell 2
    have y3 := (X0.out.kept hS).now.cell 3
    have y4 := (X0.out.kept hS).now.cell 4
    have y5 := (X0.out.kept hS).now.cell 5
    have y6 := (X0.out.kept hS).now.cell 6
    have y7 := (X0.out.kept hS).now.cell 7
    have y8 := (X0.out.kept hS).now.cell 8
    have y9 := (X0.out.kept hS).now.cell 9
    have h2 := hK (.agg #[.int .i64 r.id, .int .i64 r.p, .int .i64 r.v, .bool r.n, .int .i64 r.la, .slice pl4 r.l.length ql4, .int .i64 r.c, .slice po4 r.ok.length qo4, .slice pc4 r.ch.length qc4, .slice pt4 r.te.length qt4]) x hS kI_ rfl
    unfold frRtr at h2 ⊢
    clear hK
    go_simp
    simpa [Act.put, y0, y1, y2, y3, y4, y5, y6, y7, y8, y9, s2_, s3_, s4_, s6_, s7_, s8_, s9_, s10_, s11_, s15_, s60_, s61_, s62_, s63_, s104_, s105_, s106_, s107_, s108_, s109_, s110_, s111_] using h2
   ·
    have y0 := (AA.out.kept hS).now.cell 0
    have y1 := (AA.out.kept hS).now.cell 1
    have y2 := (AA.out.kept hS).now.cell 2
    have y3 := (AA.out.kept hS).now.cell 3
    have y4 := (AA.out.kept hS).now.cell 4
    have y5 := (AA.out.kept hS).now.cell 5
    have y6 := (AA.out.kept hS).now.cell 6
    have y7 := (AA.out.kept hS).now.cell 7
    have y8 := (AA.out.kept hS).now.cell 8
    have y9 := (AA.out.kept hS).now.cell 9
    have h2 := hK (.agg #[.int .i64 r.id, .int .i64 r.p, .int .i64 r.v, .bool r.n, .int .i64 r.la, .slice plA r.l.length qlA, .int .i64 r.c, .slice poA r.ok.length qoA, .slice pcA r.ch.length qcA, .slice ptA r.te.length qtA]) x hS kI_ rfl
    unfold frRtr at h2 ⊢
    clear hK
    go_simp
    simpa [Act.put, y0, y1, y2, y3, y4, y5, y6, y7, y8, y9, s2_, s3_, s4_, s6_, s7_, s8_, s9_, s10_, s11_, s15_, s60_, s61_, s62_, s63_, s104_, s105_, s106_, s107_, s108_, s109_, s110_, s111_] using h2
   ·
    have e1 : t 56 = .agg #[.int .i64 r.id, .int .i64 r.p, .int .i64 r.v, .bool r.n, .int .i64 r.la, .slice plA r.l.length qlA, .int .i64 r.c, .slice poA r.ok.length qoA, .slice pcA r.ch.length qcA, .slice ptA r.te.length qtA] := hdep ⟨1, .data⟩ (by simp) rfl
    refine callG1 (by rfl) 31 (.tmp 56) _ rfl (.agg #[.int .i64 r.id, .int .i64 r.p, .int .i64 r.v, .bool r.n, .int .i64 r.la, .slice plA r.l.length qlA, .int .i64 r.c, .slice poA r.ok.length qoA, .slice pcA r.ch.length qcA, .slice ptA r.te.length qtA]) e1 (Go.Proofs.enters_of Tryz.func31 (by kernel_rfl) rfl _) (fun v y => (∃ (p1 : Option Addr) (d1 : Nat) (p2 : Option Addr) (d2 : Nat) (p3 : Option Addr) (d3 : Nat) (p4 : Option Addr) (d4 : Nat), v = .agg #[.int .i64 r.id, .int .i64 r.p, .int .i64 r.v, .bool r.n, .int .i64 r.la, .slice p1 r.l.length d1, .int .i64 r.c, .slice p2 r.ok.length d2, .slice p3 r.ch.length d3, .slice p4 r.te.length d4] ∧ GotM y r p1 d1 p2 d2 p3 d3 p4 d4) ∧ Below x.heap.size x y) ((hto x (show RpGot x ⟨.slice plA r.l.length qlA, .slice poA r.ok.length qoA, .slice pcA r.ch.length qcA, .slice ptA r.te.length qtA, MA⟩ r from HI.out.kept (BB.out.trans (hS.mono BB.out.size)))).mono ?_) ?_
    ·
     rintro e0 y0 ⟨pl0, ql0, po0, qo0, pc0, qc0, pt0, qt0, M0, h0, ho, _, hb9⟩
     exact ⟨_, h0, ⟨pl0, ql0, po0, qo0, pc0, qc0, pt0, qt0, rfl, ⟨M0, ho.got⟩⟩, hb9⟩
    ·
     rintro v y ⟨h0, hb2⟩
     exact hK v y ((show Below w12.heap.size w12 y from hS.trans (hb2.mono hS.size))) (fun j u hj hne h => GRtr.keep hb2 j u hj h) h0
   ·
    have e0 : t 55 = .agg #[.int .i64 r.id, .int .i64 r.p, .int .i64 r.v, .bool r.n, .int .i64 r.la, .slice pl4 r.l.length ql4, .int .i64 r.c, .slice po4 r.ok.length qo4, .slice pc4 r.ch.length qc4, .slice pt4 r.te.length qt4] := hdep ⟨0, .data⟩ (by simp) rfl
    obtain ⟨p1_2, d1_2, p2_2, d2_2, p3_2, d3_2, p4_2, d4_2, e2, k2⟩ : ∃ (p1 : Option Addr) (d1 : Nat) (p2 : Option Addr) (d2 : Nat) (p3 : Option Addr) (d3 : Nat) (p4 : Option Addr) (d4 : Nat), t 57 = .agg #[.int .i64 r.id, .int .i64 r.p, .int .i64 r.v, .bool r.n, .int .i64 r.la, .slice p1 r.l.length d1, .int .i64 r.c, .slice p2 r.ok.length d2, .slice p3 r.ch.length d3, .slice p4 r.te.length d4] ∧ GotM x r p1 d1 p2 d2 p3 d3 p4 d4 := hdep ⟨2, .data⟩ (by simp) rfl
    refine callG2 (by rfl) 33 (.tmp 55) (.tmp 57) _ rfl (.agg #[.int .i64 r.id, .int .i64 r.p, .int .i64 r.v, .bool r.n, .int .i64 r.la, .slice pl4 r.l.length ql4, .int .i64 r.c, .slice po4 r.ok.length qo4, .slice pc4 r.ch.length qc4, .slice pt4 r.te.length qt4]) (.agg #[.int .i64 r.id, .int .i64 r.p, .int .i64 r.v, .bool r.n, .int .i64 r.la, .slice p1_2 r.l.length d1_2, .int .i64 r.c, .slice p2_2 r.ok.length d2_2, .slice p3_2 r.ch.length d3_2, .slice p4_2 r.te.length d4_2]) e0 e2 (Go.Proofs.enters_of Tryz.func33 (by kernel_rfl) rfl _) (fun v y => (v = .bool true) ∧ Below x.heap.size x y) ((helG x _ _ _ _ _ _ _ _ hS k2).mono ?_) ?_
    ·
     rintro e0 y0 ⟨h0, hb9⟩
     exact ⟨_, h0, rfl, hb9⟩
    ·
     rintro v y ⟨h0, hb2⟩
     exact hK v y ((show Below w12.heap.size w12 y from hS.trans (hb2.mono hS.size))) (fun j u hj hne h => GRtr.keep hb2 j u hj h) h0
  case done =>
   intro t w13 hS hG
   have e3 : t 58 = .bool true := hG 3 (by decide)
   replace AA := hH_ (AA.out.kept hS)
   replace WW := hH_ (WW.out.kept hS)
   replace Y := hH_ (Y.out.kept hS)
   replace Ym := hH_ (Ym.out.kept hS)
   replace Y0 := hH_ (Y0.out.kept hS)
   replace X := hH_ (X.out.kept hS)
   replace X0 := hH_ (X0.out.kept hS)
   replace V := hH_ (V.out.kept hS)
   replace V0 := hH_ (V0.out.kept hS)
   replace G := hH_ (G.out.kept hS)
   replace Gm := hH_ (Gm.out.kept hS)
   replace G0 := hH_ (G0.out.kept hS)
   have Z13 : Hid (w12.heap.size ≤ w13.heap.size) := hS.size
   replace BB := hH_ (BB.out.trans (hS.mono BB.out.size))
   clear hG hS S0 helG
   show wpList Tryz.prog _ _ [_] _ w13
   unfold frRtr
   simp only [e3, s2_, s3_, s4_, s6_, s7_, s8_, s9_, s10_, s11_, s15_, s60_, s61_, s62_, s63_, s104_, s105_, s106_, s107_, s108_, s109_, s110_, s111_]
   clear e3 s2_ s3_ s4_ s6_ s7_ s8_ s9_ s10_ s11_ s15_ s60_ s61_ s62_ s63_ s104_ s105_ s106_ s107_ s108_ s109_ s110_ s111_
   obtain ⟨AA_0, AA_1, AA_2, AA_3, AA_4, AA_5, AA_6, AA_7, AA_8, AA_9⟩ := bx10 AA.out.now
   obtain ⟨WW_0, WW_1, WW_2, WW_3, WW_4, WW_5, WW_6⟩ := bx7 WW.out.now
   obtain ⟨Y0_0, Y0_1, Y0_2, Y0_3, Y0_4, Y0_5, Y0_6, Y0_7, Y0_8, Y0_9⟩ := bx10 Y0.out.now
   obtain ⟨X0_0, X0_1, X0_2, X0_3, X0_4, X0_5, X0_6, X0_7, X0_8, X0_9⟩ := bx10 X0.out.now
   obtain ⟨V0_0, V0_1, V0_2, V0_3, V0_4, V0_5, V0_6⟩ := bx7 V0.out.now
   obtain ⟨G0_0, G0_1, G0_2, G0_3, G0_4, G0_5, G0_6, G0_7, G0_8, G0_9⟩ := bx10 G0.out.now
   go_upto_region 16 with fail
   clear AA_0 AA_1 AA_2 AA_3 AA_4 AA_5 AA_6 AA_7 AA_8 AA_9 WW_0 WW_1 WW_2 WW_3 WW_4 WW_5 WW_6 Y0_0 Y0_1 Y0_2 Y0_3 Y0_4 Y0_5 Y0_6 Y0_7 Y0_8 Y0_9 X0_0 X0_1 X0_2 X0_3 X0_4 X0_5 X0_6 X0_7 X0_8 X0_9 V0_0 V0_1 V0_2 V0_3 V0_4 V0_5 V0_6 G0_0 G0_1 G0_2 G0_3 G0_4 G0_5 G0_6 G0_7 G0_8 G0_9
   have helM := fun (x : World) p1 d1 (hb : Below w13.heap.size w13 x) (hg : Sls txtE x (.slice p1 m.l.length d1) m.l) => (show Calls Tryz.prog 35 #[.agg #[.int .i64 m.k, .int .i64 m.f, .int .i64 m.t, .int .i64 m.v, .int .i64 m.la, .slice pV m.l.length qV, .int .i64 m.c], .agg #[.int .i64 m.k, .int .i64 m.f, .int .i64 m.t, .int .i64 m.v, .int .i64 m.la, .slice p1 m.l.length d1, .int .i64 m.c]] x (fun e w' => e = .returned (.bool true) ∧ Below x.heap.size x w') from hem _ _ _ _ x (V.out.kept hb).now.1.sls hg)
   have S0 := dwB w13
   generalize hA : Act.mk _ _ = A
   obtain ⟨s, hs, s2_, s3_, s4_, s6_, s7_, s8_, s9_, s10_, s11_, s15_, s104_, s105_, s106_, s107_, s108_, s109_, s110_, s111_⟩ : ∃ s : Nat → Value, A = frRtm s (fun _ => undef) ∧ s 2 = .pointer (some ⟨w.heap.size, 0, none⟩) ∧ s 3 = .pointer (some ⟨w.heap.size + 1, 0, none⟩) ∧ s 4 = .bool false ∧ s 6 = .pointer (some ⟨gbY, 0, none⟩) ∧ s 7 = vY ∧ s 8 = .pointer (some ⟨w5.heap.size, 0, none⟩) ∧ s 9 = .pointer (some ⟨w7.heap.size, 0, none⟩) ∧ s 10 = .pointer (some ⟨w9.heap.size, 0, none⟩) ∧ s 11 = vG ∧ s 15 = undef ∧ s 104 = undef ∧ s 105 = undef ∧ s 106 = undef ∧ s 107 = undef ∧ s 108 = undef ∧ s 109 = undef ∧ s 110 = undef ∧ s 111 = undef := by
    refine ⟨fun i => A.tmps.getD i undef, ?_, ?_, ?_, ?_, ?_, ?_, ?_, ?_, ?_, ?_, ?_, ?_, ?_, ?_, ?_, ?_, ?_, ?_, ?_⟩ <;> rw [← hA] <;> rfl
   rw [hs]
   clear hs hA
   refine region_heads 4 mixed (by decide) (by kernel_rfl) (by kernel_rfl) (by kernel_rfl) (by kernel_rfl) (frRtm s) dRtm (fun x => Below w13.heap.size w13 x) (GRtm m pV qV pW qW) (fun i j hi hj h => by unfold dRtm; omega) ?put (fun _ => undef) rfl S0 ?step ?done
   case put =>
    intro i o hi ho t v
    rcases (show i = 0 ∨ i = 1 ∨ i = 2 ∨ i = 3 by omega) with rfl | rfl | rfl | rfl
    all_goals
     obtain rfl := Option.some.inj ho
     rfl
   case step =>
    intro i o hi ho t x hS hdep K hK
    rcases (show i = 0 ∨ i = 1 ∨ i = 2 ∨ i = 3 by omega) with rfl | rfl | rfl | rfl
    all_goals obtain rfl := Option.some.inj ho
    ·
     have y0 := (V0.out.kept hS).now.cell 0
     have y1 := (V0.out.kept hS).now.cell 1
     have y2 := (V0.out.kept hS).now.cell 2
     have y3 := (V0.out.kept hS).now.cell 3
     have y4 := (V0.out.kept hS).now.cell 4
     have y5 := (V0.out.kept hS).now.cell 5
     have y6 := (V0.out.kept hS).now.cell 6
     have h2 := hK (.agg #[.int .i64 m.k, .int .i64 m.f, .int .i64 m.t, .int .i64 m.v, .int .i64 m.la, .slice pV m.l.length qV, .int .i64 m.c]) x hS kI_ rfl
     unfold frRtm at h2 ⊢
     clear hK
     go_simp
     simpa [Act.put, y0, y1, y2, y3, y4, y5, y6, s2_, s3_, s4_, s6_, s7_, s8_, s9_, s10_, s11_, s15_, s104_, s105_, s106_, s107_, s108_, s109_, s110_, s111_] using h2
    ·
     have y0 := (WW.out.kept hS).now.cell 0
     have y1 := (WW.out.kept hS).now.cell 1
     have y2 := (WW.out.kept hS).now.cell 2
     have y3 := (WW.out.kept hS).now.cell 3
     have y4 := (WW.out.kept hS).now.cell 4
     have y5 := (WW.out.kept hS).now.cell 5
     have y6 := (WW.out.kept hS).now.cell 6
     have h2 := hK (.agg #[.int .i64 m.k, .int .i64 m.f, .int .i64 m.t, .int .i64 m.v, .int .i64 m.la, .slice pW m.l.length qW, .int .i64 m.c]) x hS kI_ rfl
     unfold frRtm at h2 ⊢
     clear hK
     go_simp
     simpa [Act.put, y0, y1, y2, y3, y4, y5, y6, s2_, s3_, s4_, s6_, s7_, s8_, s9_, s10_, s11_, s15_, s104_, s105_, s106_, s107_, s108_, s109_, s110_, s111_] using h2
    ·
     have e1 : t 61 = .agg #[.int .i64 m.k, .int .i64 m.f, .int .i64 m.t, .int .i64 m.v, .int .i64 m.la, .slice pW m.l.length qW, .int .i64 m.c] := hdep ⟨1, .data⟩ (by simp) rfl
     refine callG1 (by rfl) 32 (.tmp 61) _ rfl (.agg #[.int .i64 m.k, .int .i64 m.f, .int .i64 m.t, .int .i64 m.v, .int .i64 m.la, .slice pW m.l.length qW, .int .i64 m.c]) e1 (Go.Proofs.enters_of Tryz.func32 (by kernel_rfl) rfl _) (fun v y => (∃ (p1 : Option Addr) (d1 : Nat), v = .agg #[.int .i64 m.k, .int .i64 m.f, .int .i64 m.t, .int .i64 m.v, .int .i64 m.la, .slice p1 m.l.length d1, .int .i64 m.c] ∧ Sls txtE y (.slice p1 m.l.length d1) m.l) ∧ Below x.heap.size x y) ((htm x (HM.out.kept (BB.out.trans (hS.mono BB.out.size)))).mono ?_) ?_
     ·
      rintro e0 y0 ⟨p0, q0, h0, ho, hb9⟩
      exact ⟨_, h0, ⟨p0, q0, rfl, ho.sls⟩, hb9⟩
     ·
      rintro v y ⟨h0, hb2⟩
      exact hK v y ((show Below w13.heap.size w13 y from hS.trans (hb2.mono hS.size))) (fun j u hj hne h => GRtm.keep hb2 j u hj h) h0
    ·
     have e0 : t 60 = .agg #[.int .i64 m.k, .int .i64 m.f, .int .i64 m.t, .int .i64 m.v, .int .i64 m.la, .slice pV m.l.length qV, .int .i64 m.c] := hdep ⟨0, .data⟩ (by simp) rfl
     obtain ⟨p1_2, d1_2, e2, k2⟩ : ∃ (p1 : Option Addr) (d1 : Nat), t 62 = .agg #[.int .i64 m.k, .int .i64 m.f, .int .i64 m.t, .int .i64 m.v, .int .i64 m.la, .slice p1 m.l.length d1, .int .i64 m.c] ∧ Sls txtE x (.slice p1 m.l.length d1) m.l := hdep ⟨2, .data⟩ (by simp) rfl
     refine callG2 (by rfl) 35 (.tmp 60) (.tmp 62) _ rfl (.agg #[.int .i64 m.k, .int .i64 m.f, .int .i64 m.t, .int .i64 m.v, .int .i64 m.la, .slice pV m.l.length qV, .int .i64 m.c]) (.agg #[.int .i64 m.k, .int .i64 m.f, .int .i64 m.t, .int .i64 m.v, .int .i64 m.la, .slice p1_2 m.l.length d1_2, .int .i64 m.c]) e0 e2 (Go.Proofs.enters_of Tryz.func35 (by kernel_rfl) rfl _) (fun v y => (v = .bool true) ∧ Below x.heap.size x y) ((helM x _ _ hS k2).mono ?_) ?_
     ·
      rintro e0 y0 ⟨h0, hb9⟩
      exact ⟨_, h0, rfl, hb9⟩
     ·
      rintro v y ⟨h0, hb2⟩
      exact hK v y ((show Below w13.heap.size w13 y from hS.trans (hb2.mono hS.size))) (fun j u hj hne h => GRtm.keep hb2 j u hj h) h0
   case done =>
    intro t w14 hS hG
    have e3 : t 63 = .bool true := hG 3 (by decide)
    replace AA := hH_ (AA.out.kept hS)
    replace WW := hH_ (WW.out.kept hS)
    replace Y := hH_ (Y.out.kept hS)
    replace Ym := hH_ (Ym.out.kept hS)
    replace Y0 := hH_ (Y0.out.kept hS)
    replace X := hH_ (X.out.kept hS)
    replace X0 := hH_ (X0.out.kept hS)
    replace V := hH_ (V.out.kept hS)
    replace V0 := hH_ (V0.out.kept hS)
    replace G := hH_ (G.out.kept hS)
    replace Gm := hH_ (Gm.out.kept hS)
    replace G0 := hH_ (G0.out.kept hS)
    have Z14 : Hid (w13.heap.size ≤ w14.heap.size) := hS.size
    replace BB := hH_ (BB.out.trans (hS.mono BB.out.size))
    clear hG hS S0 helM
    show wpList Tryz.prog _ _ [_] _ w14
    unfold frRtm
    simp only [e3, s2_, s3_, s4_, s6_, s7_, s8_, s9_, s10_, s11_, s15_, s104_, s105_, s106_, s107_, s108_, s109_, s110_, s111_]
    clear e3 s2_ s3_ s4_ s6_ s7_ s8_ s9_ s10_ s11_ s15_ s104_ s105_ s106_ s107_ s108_ s109_ s110_ s111_
    obtain ⟨AA_0, AA_1, AA_2, AA_3, AA_4, AA_5, AA_6, AA_7, AA_8, AA_9⟩ := bx10 AA.out.now
    obtain ⟨WW_0, WW_1, WW_2, WW_3, WW_4, WW_5, WW_6⟩ := bx7 WW.out.now
    obtain ⟨Y0_0, Y0_1, Y0_2, Y0_3, Y0_4, Y0_5, Y0_6, Y0_7, Y0_8, Y0_9⟩ := bx10 Y0.out.now
    obtain ⟨X0_0, X0_1, X0_2, X0_3, X0_4, X0_5, X0_6, X0_7, X0_8, X0_9⟩ := bx10 X0.out.now
    obtain ⟨V0_0, V0_1, V0_2, V0_3, V0_4, V0_5, V0_6⟩ := bx7 V0.out.now
    obtain ⟨G0_0, G0_1, G0_2, G0_3, G0_4, G0_5, G0_6, G0_7, G0_8, G0_9⟩ := bx10 G0.out.now
    go_wp2_with fail
    clear AA_0 AA_1 AA_2 AA_3 AA_4 AA_5 AA_6 AA_7 AA_8 AA_9 WW_0 WW_1 WW_2 WW_3 WW_4 WW_5 WW_6 Y0_0 Y0_1 Y0_2 Y0_3 Y0_4 Y0_5 Y0_6 Y0_7 Y0_8 Y0_9 X0_0 X0_1 X0_2 X0_3 X0_4 X0_5 X0_6 X0_7 X0_8 X0_9 V0_0 V0_1 V0_2 V0_3 V0_4 V0_5 V0_6 G0_0 G0_1 G0_2 G0_3 G0_4 G0_5 G0_6 G0_7 G0_8 G0_9
    refine (hkl _ _ _ X.out.now.1 HA.out).mono ?_
    rintro e w15 ⟨rfl, hb⟩
    have hc : Chg w4.heap.size w5.heap.size w14 w15 := hb.chg (fun k ⟨v, hv, hk⟩ => ⟨X.out.now.1.from v hv k hk, X.out.now.2 v hv k hk⟩)
    clear X0
    have zz0 := hH_ (And.intro Z1.out (And.intro Z2.out (And.intro Z3.out (And.intro ZCY.out (And.intro Z4.out (And.intro Z5.out (And.intro Z6.out (And.intro Z7.out (And.intro Z8.out (And.intro Z9.out (And.intro Z10.out (And.intro ZCG.out (And.intro Z11.out (And.intro Z12.out (And.intro Z13.out (Z14.out))))))))))))))))
    replace AA : Hid (Liv _ _ _ w15) := AA.out.off hc (by have:=zz0.out;omega)
    replace WW : Hid (Liv _ _ _ w15) := WW.out.off hc (by have:=zz0.out;omega)
    replace Y : Hid (Liv _ _ _ w15) := Y.out.off hc (by have:=zz0.out;omega)
    replace Ym : Hid (Liv _ _ _ w15) := Ym.out.off hc (by have:=zz0.out;omega)
    replace Y0 : Hid (Liv _ _ _ w15) := Y0.out.off hc (by have:=zz0.out;omega)
    replace V : Hid (Liv _ _ _ w15) := V.out.off hc (by have:=zz0.out;omega)
    replace V0 : Hid (Liv _ _ _ w15) := V0.out.off hc (by have:=zz0.out;omega)
    replace G : Hid (Liv _ _ _ w15) := G.out.off hc (by have:=zz0.out;omega)
    replace Gm : Hid (Liv _ _ _ w15) := Gm.out.off hc (by have:=zz0.out;omega)
    replace G0 : Hid (Liv _ _ _ w15) := G0.out.off hc (by have:=zz0.out;omega)
    clear X
    have Z15 : Hid (w14.heap.size ≤ w15.heap.size) := hc.size
    replace BB : Hid (Below w.heap.size w w15) := hH_ (hc.below BB.out BB.out.size (by have:=Z1.out;have:=Z2.out;have:=Z3.out;have:=ZCY.out;have:=Z4.out;have:=Z5.out;have:=Z6.out;have:=Z7.out;have:=Z8.out;have:=Z9.out;have:=Z10.out;have:=ZCG.out;have:=Z11.out;have:=Z12.out;have:=Z13.out;have:=Z14.out;have:=Z15.out;omega))
    clear hb hc
    obtain ⟨AA_0, AA_1, AA_2, AA_3, AA_4, AA_5, AA_6, AA_7, AA_8, AA_9⟩ := bx10 AA.out.now
    obtain ⟨WW_0, WW_1, WW_2, WW_3, WW_4, WW_5, WW_6⟩ := bx7 WW.out.now
    obtain ⟨Y0_0, Y0_1, Y0_2, Y0_3, Y0_4, Y0_5, Y0_6, Y0_7, Y0_8, Y0_9⟩ := bx10 Y0.out.now
    obtain ⟨V0_0, V0_1, V0_2, V0_3, V0_4, V0_5, V0_6⟩ := bx7 V0.out.now
    obtain ⟨G0_0, G0_1, G0_2, G0_3, G0_4, G0_5, G0_6, G0_7, G0_8, G0_9⟩ := bx10 G0.out.now
    go_wp2_with fail
    clear AA_0 AA_1 AA_2 AA_3 AA_4 AA_5 AA_6 AA_7 AA_8 AA_9 WW_0 WW_1 WW_2 WW_3 WW_4 WW_5 WW_6 Y0_0 Y0_1 Y0_2 Y0_3 Y0_4 Y0_5 Y0_6 Y0_7 Y0_8 Y0_9 V0_0 V0_1 V0_2 V0_3 V0_4 V0_5 V0_6 G0_0 G0_1 G0_2 G0_3 G0_4 G0_5 G0_6 G0_7 G0_8 G0_9
    refine (hkg _ _ _ _ _ V.out.now).mono ?_
    rintro e w16 ⟨⟨zk, rfl, hzk⟩, hb⟩
    have hc : Chg w6.heap.size w7.heap.size w15 w16 := hb
    clear V0
    have zz1 := hH_ (And.intro Z1.out (And.intro Z2.out (And.intro Z3.out (And.intro ZCY.out (And.intro Z4.out (And.intro Z5.out (And.intro Z6.out (And.intro Z7.out (And.intro Z8.out (And.intro Z9.out (And.intro Z10.out (And.intro ZCG.out (And.intro Z11.out (And.intro Z12.out (And.intro Z13.out (And.intro Z14.out (Z15.out)))))))))))))))))
    replace AA : Hid (Liv _ _ _ w16) := AA.out.off hc (by have:=zz1.out;omega)
    replace WW : Hid (Liv _ _ _ w16) := WW.out.off hc (by have:=zz1.out;omega)
    replace Y : Hid (Liv _ _ _ w16) := Y.out.off hc (by have:=zz1.out;omega)
    replace Ym : Hid (Liv _ _ _ w16) := Ym.out.off hc (by have:=zz1.out;omega)
    replace Y0 : Hid (Liv _ _ _ w16) := Y0.out.off hc (by have:=zz1.out;omega)
    replace G : Hid (Liv _ _ _ w16) := G.out.off hc (by have:=zz1.out;omega)
    replace Gm : Hid (Liv _ _ _ w16) := Gm.out.off hc (by have:=zz1.out;omega)
    replace G0 : Hid (Liv _ _ _ w16) := G0.out.off hc (by have:=zz1.out;omega)
    clear V
    have Z16 : Hid (w15.heap.size ≤ w16.heap.size) := hc.size
    replace BB : Hid (Below w.heap.size w w16) := hH_ (hc.below BB.out BB.out.size (by have:=Z1.out;have:=Z2.out;have:=Z3.out;have:=ZCY.out;have:=Z4.out;have:=Z5.out;have:=Z6.out;have:=Z7.out;have:=Z8.out;have:=Z9.out;have:=Z10.out;have:=ZCG.out;have:=Z11.out;have:=Z12.out;have:=Z13.out;have:=Z14.out;have:=Z15.out;have:=Z16.out;omega))
    clear hb hc
    obtain ⟨AA_0, AA_1, AA_2, AA_3, AA_4, AA_5, AA_6, AA_7, AA_8, AA_9⟩ := bx10 AA.out.now
    obtain ⟨WW_0, WW_1, WW_2, WW_3, WW_4, WW_5, WW_6⟩ := bx7 WW.out.now
    obtain ⟨Y0_0, Y0_1, Y0_2, Y0_3, Y0_4, Y0_5, Y0_6, Y0_7, Y0_8, Y0_9⟩ := bx10 Y0.out.now
    obtain ⟨G0_0, G0_1, G0_2, G0_3, G0_4, G0_5, G0_6, G0_7, G0_8, G0_9⟩ := bx10 G0.out.now
    go_wp2_with fail
    clear AA_0 AA_1 AA_2 AA_3 AA_4 AA_5 AA_6 AA_7 AA_8 AA_9 WW_0 WW_1 WW_2 WW_3 WW_4 WW_5 WW_6 Y0_0 Y0_1 Y0_2 Y0_3 Y0_4 Y0_5 Y0_6 Y0_7 Y0_8 Y0_9 G0_0 G0_1 G0_2 G0_3 G0_4 G0_5 G0_6 G0_7 G0_8 G0_9
    refine (hel R _ _ _ G.out.now.1.got Y.out.now.1.got HRF.out).mono ?_
    rintro e w17 ⟨rfl, hb⟩
    replace AA := hH_ (AA.out.kept hb)
    replace WW := hH_ (WW.out.kept hb)
    replace Y := hH_ (Y.out.kept hb)
    replace Ym := hH_ (Ym.out.kept hb)
    replace Y0 := hH_ (Y0.out.kept hb)
    replace G := hH_ (G.out.kept hb)
    replace Gm := hH_ (Gm.out.kept hb)
    replace G0 := hH_ (G0.out.kept hb)
    have Z17 : Hid (w16.heap.size ≤ w17.heap.size) := hb.size
    replace BB := hH_ (BB.out.trans (hb.mono BB.out.size))
    clear hb
    obtain ⟨AA_0, AA_1, AA_2, AA_3, AA_4, AA_5, AA_6, AA_7, AA_8, AA_9⟩ := bx10 AA.out.now
    obtain ⟨WW_0, WW_1, WW_2, WW_3, WW_4, WW_5, WW_6⟩ := bx7 WW.out.now
    obtain ⟨Y0_0, Y0_1, Y0_2, Y0_3, Y0_4, Y0_5, Y0_6, Y0_7, Y0_8, Y0_9⟩ := bx10 Y0.out.now
    obtain ⟨G0_0, G0_1, G0_2, G0_3, G0_4, G0_5, G0_6, G0_7, G0_8, G0_9⟩ := bx10 G0.out.now
    go_wp2_with fail
    clear AA_0 AA_1 AA_2 AA_3 AA_4 AA_5 AA_6 AA_7 AA_8 AA_9 WW_0 WW_1 WW_2 WW_3 WW_4 WW_5 WW_6 Y0_0 Y0_1 Y0_2 Y0_3 Y0_4 Y0_5 Y0_6 Y0_7 Y0_8 Y0_9 G0_0 G0_1 G0_2 G0_3 G0_4 G0_5 G0_6 G0_7 G0_8 G0_9
    refine (eqMsE HFW.out _ Gm.out.now Ym.out.now ITG.out ITY.out).mono ?_
    rintro e w18 ⟨rfl, hb⟩
    replace AA := hH_ (AA.out.kept hb)
    replace WW := hH_ (WW.out.kept hb)
    replace Y := hH_ (Y.out.kept hb)
    replace Ym := hH_ (Ym.out.kept hb)
    replace Y0 := hH_ (Y0.out.kept hb)
    replace G := hH_ (G.out.kept hb)
    replace Gm := hH_ (Gm.out.kept hb)
    replace G0 := hH_ (G0.out.kept hb)
    have Z18 : Hid (w17.heap.size ≤ w18.heap.size) := hb.size
    replace BB := hH_ (BB.out.trans (hb.mono BB.out.size))
    clear hb
    obtain ⟨AA_0, AA_1, AA_2, AA_3, AA_4, AA_5, AA_6, AA_7, AA_8, AA_9⟩ := bx10 AA.out.now
    obtain ⟨WW_0, WW_1, WW_2, WW_3, WW_4, WW_5, WW_6⟩ := bx7 WW.out.now
    obtain ⟨Y0_0, Y0_1, Y0_2, Y0_3, Y0_4, Y0_5, Y0_6, Y0_7, Y0_8, Y0_9⟩ := bx10 Y0.out.now
    obtain ⟨G0_0, G0_1, G0_2, G0_3, G0_4, G0_5, G0_6, G0_7, G0_8, G0_9⟩ := bx10 G0.out.now
    go_wp2_with fail
    clear AA_0 AA_1 AA_2 AA_3 AA_4 AA_5 AA_6 AA_7 AA_8 AA_9 WW_0 WW_1 WW_2 WW_3 WW_4 WW_5 WW_6 Y0_0 Y0_1 Y0_2 Y0_3 Y0_4 Y0_5 Y0_6 Y0_7 Y0_8 Y0_9 G0_0 G0_1 G0_2 G0_3 G0_4 G0_5 G0_6 G0_7 G0_8 G0_9
    refine (hkm _ _ _ _ G.out.now AG.out).mono ?_
    rintro e w19 ⟨rfl, hm, hb⟩
    have hc : Chg w8.heap.size CG w18 w19 := hb
    have zz2 := hH_ (And.intro Z1.out (And.intro Z2.out (And.intro Z3.out (And.intro ZCY.out (And.intro Z4.out (And.intro Z5.out (And.intro Z6.out (And.intro Z7.out (And.intro Z8.out (And.intro Z9.out (And.intro Z10.out (And.intro ZCG.out (And.intro Z11.out (And.intro Z12.out (And.intro Z13.out (And.intro Z14.out (And.intro Z15.out (And.intro Z16.out (And.intro Z17.out (Z18.out))))))))))))))))))))
    replace AA : Hid (Liv _ _ _ w19) := AA.out.off hc (by have:=zz2.out;omega)
    replace WW : Hid (Liv _ _ _ w19) := WW.out.off hc (by have:=zz2.out;omega)
    replace Y : Hid (Liv _ _ _ w19) := Y.out.off hc (by have:=zz2.out;omega)
    replace Ym : Hid (Liv _ _ _ w19) := Ym.out.off hc (by have:=zz2.out;omega)
    replace Y0 : Hid (Liv _ _ _ w19) := Y0.out.off hc (by have:=zz2.out;omega)
    replace G : Hid (Liv w8.heap.size CG (RpF w8.heap.size CG (mkRv 1 R ⟨.slice pl5 R.l.length ql5, .slice po5 R.ok.length qo5, .slice pc5 R.ch.length qc5, .slice pt5 R.te.length qt5, M5⟩) (mkRp 1 R M5)) w19) := hH_ (Liv.rp hm.1 hm.2 (Nat.le_trans G.out.top hb.size))
    have zz3 := hH_ (And.intro Z1.out (And.intro Z2.out (And.intro Z3.out (And.intro ZCY.out (And.intro Z4.out (And.intro Z5.out (And.intro Z6.out (And.intro Z7.out (And.intro Z8.out (And.intro Z9.out (And.intro Z10.out (And.intro ZCG.out (And.intro Z11.out (And.intro Z12.out (And.intro Z13.out (And.intro Z14.out (And.intro Z15.out (And.intro Z16.out (And.intro Z17.out (Z18.out))))))))))))))))))))
    replace Gm : Hid (Liv _ _ _ w19) := Gm.out.off hc (by have:=zz3.out;omega)
    replace G0 : Hid (Liv _ _ _ w19) := G0.out.off hc (by have:=zz3.out;omega)
    have Z19 : Hid (w18.heap.size ≤ w19.heap.size) := hc.size
    replace BB : Hid (Below w.heap.size w w19) := hH_ (hc.below BB.out BB.out.size (by have:=Z1.out;have:=Z2.out;have:=Z3.out;have:=ZCY.out;have:=Z4.out;have:=Z5.out;have:=Z6.out;have:=Z7.out;have:=Z8.out;have:=Z9.out;have:=Z10.out;have:=ZCG.out;have:=Z11.out;have:=Z12.out;have:=Z13.out;have:=Z14.out;have:=Z15.out;have:=Z16.out;have:=Z17.out;have:=Z18.out;have:=Z19.out;omega))
    clear hb hc hm
    obtain ⟨AA_0, AA_1, AA_2, AA_3, AA_4, AA_5, AA_6, AA_7, AA_8, AA_9⟩ := bx10 AA.out.now
    obtain ⟨WW_0, WW_1, WW_2, WW_3, WW_4, WW_5, WW_6⟩ := bx7 WW.out.now
    obtain ⟨Y0_0, Y0_1, Y0_2, Y0_3, Y0_4, Y0_5, Y0_6, Y0_7, Y0_8, Y0_9⟩ := bx10 Y0.out.now
    obtain ⟨G0_0, G0_1, G0_2, G0_3, G0_4, G0_5, G0_6, G0_7, G0_8, G0_9⟩ := bx10 G0.out.now
    go_wp2_with fail
    clear AA_0 AA_1 AA_2 AA_3 AA_4 AA_5 AA_6 AA_7 AA_8 AA_9 WW_0 WW_1 WW_2 WW_3 WW_4 WW_5 WW_6 Y0_0 Y0_1 Y0_2 Y0_3 Y0_4 Y0_5 Y0_6 Y0_7 Y0_8 Y0_9 G0_0 G0_1 G0_2 G0_3 G0_4 G0_5 G0_6 G0_7 G0_8 G0_9
    refine (hmm _ _ _ _ _ Gm.out.now ITG.out).mono ?_
    rintro e w20 ⟨rfl, hm, hb⟩
    have hc : Chg CG w9.heap.size w19 w20 := hb
    have zz4 := hH_ (And.intro Z1.out (And.intro Z2.out (And.intro Z3.out (And.intro ZCY.out (And.intro Z4.out (And.intro Z5.out (And.intro Z6.out (And.intro Z7.out (And.intro Z8.out (And.intro Z9.out (And.intro Z10.out (And.intro ZCG.out (And.intro Z11.out (And.intro Z12.out (And.intro Z13.out (And.intro Z14.out (And.intro Z15.out (And.intro Z16.out (And.intro Z17.out (And.intro Z18.out (Z19.out)))))))))))))))))))))
    replace AA : Hid (Liv _ _ _ w20) := AA.out.off hc (by have:=zz4.out;omega)
    replace WW : Hid (Liv _ _ _ w20) := WW.out.off hc (by have:=zz4.out;omega)
    replace Y : Hid (Liv _ _ _ w20) := Y.out.off hc (by have:=zz4.out;omega)
    replace Ym : Hid (Liv _ _ _ w20) := Ym.out.off hc (by have:=zz4.out;omega)
    replace Y0 : Hid (Liv _ _ _ w20) := Y0.out.off hc (by have:=zz4.out;omega)
    replace G : Hid (Liv _ _ _ w20) := G.out.off hc (by have:=zz4.out;omega)
    replace Gm : Hid (Liv CG w9.heap.size (MsE CG w9.heap.size vG (mkTe ss TG)) w20) := hH_ (Liv.mse hm (Nat.le_trans Gm.out.top hb.size))
    replace G0 : Hid (Liv _ _ _ w20) := G0.out.off hc (by have:=Z1.out;have:=Z2.out;have:=Z3.out;have:=ZCY.out;have:=Z4.out;have:=Z5.out;have:=Z6.out;have:=Z7.out;have:=Z8.out;have:=Z9.out;have:=Z10.out;have:=ZCG.out;have:=Z11.out;have:=Z12.out;have:=Z13.out;have:=Z14.out;have:=Z15.out;have:=Z16.out;have:=Z17.out;have:=Z18.out;have:=Z19.out;omega)
    have Z20 : Hid (w19.heap.size ≤ w20.heap.size) := hc.size
    replace BB : Hid (Below w.heap.size w w20) := hH_ (hc.below BB.out BB.out.size (by have:=Z1.out;have:=Z2.out;have:=Z3.out;have:=ZCY.out;have:=Z4.out;have:=Z5.out;have:=Z6.out;have:=Z7.out;have:=Z8.out;have:=Z9.out;have:=Z10.out;have:=ZCG.out;have:=Z11.out;have:=Z12.out;have:=Z13.out;have:=Z14.out;have:=Z15.out;have:=Z16.out;have:=Z17.out;have:=Z18.out;have:=Z19.out;have:=Z20.out;omega))
    clear hb hc hm
    obtain ⟨AA_0, AA_1, AA_2, AA_3, AA_4, AA_5, AA_6, AA_7, AA_8, AA_9⟩ := bx10 AA.out.now
    obtain ⟨WW_0, WW_1, WW_2, WW_3, WW_4, WW_5, WW_6⟩ := bx7 WW.out.now
    obtain ⟨Y0_0, Y0_1, Y0_2, Y0_3, Y0_4, Y0_5, Y0_6, Y0_7, Y0_8, Y0_9⟩ := bx10 Y0.out.now
    obtain ⟨G0_0, G0_1, G0_2, G0_3, G0_4, G0_5, G0_6, G0_7, G0_8, G0_9⟩ := bx10 G0.out.now
    have hn0 : ¬ mkS ss TG < 0 := mkS_nn ss TG
    have dmm : (mkS ss TG != mkS ss TG) = false := by simp
    go_wp2_with fail
    clear AA_0 AA_1 AA_2 AA_3 AA_4 AA_5 AA_6 AA_7 AA_8 AA_9 WW_0 WW_1 WW_2 WW_3 WW_4 WW_5 WW_6 Y0_0 Y0_1 Y0_2 Y0_3 Y0_4 Y0_5 Y0_6 Y0_7 Y0_8 Y0_9 G0_0 G0_1 G0_2 G0_3 G0_4 G0_5 G0_6 G0_7 G0_8 G0_9
    refine (hhd _ _ _ _ G.out.now EG.out).mono ?_
    rintro e w21 ⟨rfl, hb⟩
    replace AA := hH_ (AA.out.kept hb)
    replace WW := hH_ (WW.out.kept hb)
    replace Y := hH_ (Y.out.kept hb)
    replace Ym := hH_ (Ym.out.kept hb)
    replace Y0 := hH_ (Y0.out.kept hb)
    replace G := hH_ (G.out.kept hb)
    replace Gm := hH_ (Gm.out.kept hb)
    replace G0 := hH_ (G0.out.kept hb)
    have Z21 : Hid (w20.heap.size ≤ w21.heap.size) := hb.size
    replace BB := hH_ (BB.out.trans (hb.mono BB.out.size))
    clear hb
    obtain ⟨AA_0, AA_1, AA_2, AA_3, AA_4, AA_5, AA_6, AA_7, AA_8, AA_9⟩ := bx10 AA.out.now
    obtain ⟨WW_0, WW_1, WW_2, WW_3, WW_4, WW_5, WW_6⟩ := bx7 WW.out.now
    obtain ⟨Y0_0, Y0_1, Y0_2, Y0_3, Y0_4, Y0_5, Y0_6, Y0_7, Y0_8, Y0_9⟩ := bx10 Y0.out.now
    obtain ⟨G0_0, G0_1, G0_2, G0_3, G0_4, G0_5, G0_6, G0_7, G0_8, G0_9⟩ := bx10 G0.out.now
    go_wp2_with fail
    clear AA_0 AA_1 AA_2 AA_3 AA_4 AA_5 AA_6 AA_7 AA_8 AA_9 WW_0 WW_1 WW_2 WW_3 WW_4 WW_5 WW_6 Y0_0 Y0_1 Y0_2 Y0_3 Y0_4 Y0_5 Y0_6 Y0_7 Y0_8 Y0_9 G0_0 G0_1 G0_2 G0_3 G0_4 G0_5 G0_6 G0_7 G0_8 G0_9
    refine (hhm _ _ _ _ _ Gm.out.now ITG.out).mono ?_
    rintro e w22 ⟨rfl, hb⟩
    replace AA := hH_ (AA.out.kept hb)
    replace WW := hH_ (WW.out.kept hb)
    replace Y := hH_ (Y.out.kept hb)
    replace Ym := hH_ (Ym.out.kept hb)
    replace Y0 := hH_ (Y0.out.kept hb)
    replace G := hH_ (G.out.kept hb)
    replace Gm := hH_ (Gm.out.kept hb)
    replace G0 := hH_ (G0.out.kept hb)
    have Z22 : Hid (w21.heap.size ≤ w22.heap.size) := hb.size
    replace BB := hH_ (BB.out.trans (hb.mono BB.out.size))
    clear hb
    obtain ⟨AA_0, AA_1, AA_2, AA_3, AA_4, AA_5, AA_6, AA_7, AA_8, AA_9⟩ := bx10 AA.out.now
    obtain ⟨WW_0, WW_1, WW_2, WW_3, WW_4, WW_5, WW_6⟩ := bx7 WW.out.now
    obtain ⟨Y0_0, Y0_1, Y0_2, Y0_3, Y0_4, Y0_5, Y0_6, Y0_7, Y0_8, Y0_9⟩ := bx10 Y0.out.now
    obtain ⟨G0_0, G0_1, G0_2, G0_3, G0_4, G0_5, G0_6, G0_7, G0_8, G0_9⟩ := bx10 G0.out.now
    go_upto_region 35 with fail
    clear AA_0 AA_1 AA_2 AA_3 AA_4 AA_5 AA_6 AA_7 AA_8 AA_9 WW_0 WW_1 WW_2 WW_3 WW_4 WW_5 WW_6 Y0_0 Y0_1 Y0_2 Y0_3 Y0_4 Y0_5 Y0_6 Y0_7 Y0_8 Y0_9 G0_0 G0_1 G0_2 G0_3 G0_4 G0_5 G0_6 G0_7 G0_8 G0_9
    have S0 := dwB w22
    generalize hA : Act.mk _ _ = A
    obtain ⟨s, hs, s2_, s3_, s4_, s6_, s7_, s10_, s11_, s13_⟩ : ∃ s : Nat → Value, A = frRb s (fun _ => undef) ∧ s 2 = .pointer (some ⟨w.heap.size, 0, none⟩) ∧ s 3 = .pointer (some ⟨w.heap.size + 1, 0, none⟩) ∧ s 4 = .bool false ∧ s 6 = .pointer (some ⟨gbY, 0, none⟩) ∧ s 7 = vY ∧ s 10 = .pointer (some ⟨w9.heap.size, 0, none⟩) ∧ s 11 = vG ∧ s 13 = .int .i64 (mkS ss TG) := by
     refine ⟨fun i => A.tmps.getD i undef, ?_, ?_, ?_, ?_, ?_, ?_, ?_, ?_, ?_⟩ <;> rw [← hA] <;> rfl
    rw [hs]
    clear hs hA
    refine region_headsL 10 mixed (by decide) (by kernel_rfl) (by kernel_rfl) (by kernel_rfl) (by kernel_rfl) (frRb s) dRb (SRb r m R L w22) (GRb #[.int .i64 r.id, .int .i64 r.p, .int .i64 r.v, .bool r.n, .int .i64 r.la, .slice plA r.l.length qlA, .int .i64 r.c, .slice poA r.ok.length qoA, .slice pcA r.ch.length qcA, .slice ptA r.te.length qtA] #[.int .i64 m.k, .int .i64 m.f, .int .i64 m.t, .int .i64 m.v, .int .i64 m.la, .slice pW m.l.length qW, .int .i64 m.c]) (fun i j hi hj h => dRb_ne hi hj h) ?put (fun _ => undef) rfl (SRb.init S0 _) ?step ?done
    case put =>
     intro i o hi ho t v
     iterate 10 rcases ltS hi with hi | rfl
     cases hi
     all_goals
      obtain rfl := Option.some.inj ho
      rfl
    case step =>
     intro i o hi ho listed hnl hcl hls t x hS hdep K hK
     iterate 10 rcases ltS hi with hi | rfl
     cases hi
     all_goals obtain rfl := Option.some.inj ho
     ·
      refine ldGL (by rfl) (.tmp 2) rfl (w.heap.size) (by show (frRb s t).eval (.tmp 2) = _; unfold frRb; simp [Act.eval, s2_]) (AA.out.kept hS.b).now rfl ?_
      exact hK (.agg #[.int .i64 r.id, .int .i64 r.p, .int .i64 r.v, .bool r.n, .int .i64 r.la, .slice plA r.l.length qlA, .int .i64 r.c, .slice poA r.ok.length qoA, .slice pcA r.ch.length qcA, .slice ptA r.te.length qtA]) x (hS.idle (by decide) (by decide) (by decide) (by decide) (by decide) (by decide) (by decide) (by decide) (by decide) (by decide)) kI_ rfl
     ·
      have e0 : t 105 = .agg #[.int .i64 r.id, .int .i64 r.p, .int .i64 r.v, .bool r.n, .int .i64 r.la, .slice plA r.l.length qlA, .int .i64 r.c, .slice poA r.ok.length qoA, .slice pcA r.ch.length qcA, .slice ptA r.te.length qtA] := hdep ⟨0, .data⟩ (by simp) rfl
      refine callG1 (by rfl) 31 (.tmp 105) _ rfl (.agg #[.int .i64 r.id, .int .i64 r.p, .int .i64 r.v, .bool r.n, .int .i64 r.la, .slice plA r.l.length qlA, .int .i64 r.c, .slice poA r.ok.length qoA, .slice pcA r.ch.length qcA, .slice ptA r.te.length qtA]) (by show (frRb s t).eval (.tmp 105) = _; unfold frRb; simp [Act.eval, e0]) (Go.Proofs.enters_of Tryz.func31 (by kernel_rfl) rfl _) (fun v y => ∃ u', v = rpA r u' ∧ RpGot y u' r ∧ Below x.heap.size x y) ((hto x (HI.out.kept (BB.out.trans (hS.b.mono BB.out.size)))).mono ?_) ?_
      ·
       rintro e9 y0 ⟨pl0, ql0, po0, qo0, pc0, qc0, pt0, qt0, M0, rfl, ho, _, hb9⟩
       exact ⟨_, rfl, ⟨.slice pl0 r.l.length ql0, .slice po0 r.ok.length qo0, .slice pc0 r.ch.length qc0, .slice pt0 r.te.length qt0, M0⟩, rfl, ho.got, hb9⟩
      ·
       rintro v y ⟨u', rfl, hg, hb9⟩
       have h4 : t 109 = undef := Classical.byContradiction fun h => by
        have a1 := hcl 4 _ rfl (hS.s4 h) ⟨1, .data⟩ (by simp) rfl
        rw [hnl] at a1
        cases a1
       exact hK _ y (hS.to1 h4 hb9 hg) kI_ (by intro h; cases h)
     ·
      refine ldGLM (by rfl) (.tmp 3) rfl (w.heap.size + 1) (by show (frRb s t).eval (.tmp 3) = _; unfold frRb; simp [Act.eval, s3_]) (WW.out.kept hS.b).now rfl ?_
      exact hK (.agg #[.int .i64 m.k, .int .i64 m.f, .int .i64 m.t, .int .i64 m.v, .int .i64 m.la, .slice pW m.l.length qW, .int .i64 m.c]) x (hS.idle (by decide) (by decide) (by decide) (by decide) (by decide) (by decide) (by decide) (by decide) (by decide) (by decide)) kI_ rfl
     ·
      have e2 : t 107 = .agg #[.int .i64 m.k, .int .i64 m.f, .int .i64 m.t, .int .i64 m.v, .int .i64 m.la, .slice pW m.l.length qW, .int .i64 m.c] := hdep ⟨2, .data⟩ (by simp) rfl
      refine callG1 (by rfl) 32 (.tmp 107) _ rfl (.agg #[.int .i64 m.k, .int .i64 m.f, .int .i64 m.t, .int .i64 m.v, .int .i64 m.la, .slice pW m.l.length qW, .int .i64 m.c]) (by show (frRb s t).eval (.tmp 107) = _; unfold frRb; simp [Act.eval, e2]) (Go.Proofs.enters_of Tryz.func32 (by kernel_rfl) rfl _) (fun v y => ∃ a c, v = .agg (mxV ⟨m, a, c⟩) ∧ Sls txtE y (.slice a m.l.length c) m.l ∧ Below x.heap.size x y) ((htm x (HM.out.kept (BB.out.trans (hS.b.mono BB.out.size)))).mono ?_) ?_
      ·
       rintro e9 y0 ⟨p0, q0, rfl, ho, hb9⟩
       exact ⟨_, rfl, p0, q0, rfl, ho.sls, hb9⟩
      ·
       rintro v y ⟨a, c, rfl, hg, hb9⟩
       have h4 : t 109 = undef := Classical.byContradiction fun h => by
        have a1 := hcl 4 _ rfl (hS.s4 h) ⟨3, .data⟩ (by simp) rfl
        rw [hnl] at a1
        cases a1
       exact hK _ y (hS.to3 h4 hb9 hg) kI_ (by intro h; cases h)
     ·
      have h1 : t 106 ≠ undef := hdep ⟨1, .data⟩ (by simp) rfl
      have h3 : t 108 ≠ undef := hdep ⟨3, .data⟩ (by simp) rfl
      have h4 : t 109 = undef := Classical.byContradiction fun h => by
       have a1 := hS.s4 h
       rw [hnl] at a1
       cases a1
      have l5 : listed.getD 5 false = false := by
       cases hq : listed.getD 5 false with
       | false => rfl
       | true =>
        have a1 := hcl 5 _ rfl hq ⟨4, .data⟩ (by simp) rfl
        rw [hnl] at a1
        cases a1
      have l7 : listed.getD 7 false = false := by
       cases hq : listed.getD 7 false with
       | false => rfl
       | true =>
        have a1 := hcl 7 _ rfl hq ⟨5, .data⟩ (by simp) rfl
        rw [l5] at a1
        cases a1
      have l9 : listed.getD 9 false = false := by
       cases hq : listed.getD 9 false with
       | false => rfl
       | true =>
        have a2 := hcl 9 _ rfl hq ⟨6, .data⟩ (by simp) rfl
        have a1 := hcl 6 _ rfl a2 ⟨5, .data⟩ (by simp) rfl
        rw [l5] at a1
        cases a1
      obtain ⟨u3, e1, g3⟩ := hS.cp h1 h4
      obtain ⟨a, c, e3, gm⟩ := hS.cm h3 h4
      refine callG2 (by rfl) 8 (.tmp 106) (.tmp 108) _ rfl (rpA r u3) (.agg (mxV ⟨m, a, c⟩)) (by show (frRb s t).eval (.tmp 106) = _; unfold frRb; simp [Act.eval, e1]) (by show (frRb s t).eval (.tmp 108) = _; unfold frRb; simp [Act.eval, e3]) (Go.Proofs.enters_of Tryz.func8 (by kernel_rfl) rfl _) (fun v y => ∃ u' vv T C, v = .tuple #[rpA R u', vv] ∧ RpHas y x.heap.size u' R ∧ RpAp u' ∧ (∀ z ∈ u'.rows, ∀ k, z.ownBlock = some k → k < C) ∧ (x.heap.size ≤ C ∧ C ≤ y.heap.size) ∧ Fr.MsG y C vv T L ∧ Below x.heap.size x y) ((him u3 a c x g3 gm).mono ?_) ?_
      ·
       rintro e9 y0 ⟨pl0, ql0, po0, qo0, pc0, qc0, pt0, qt0, M0, v0, T0, C0, rfl, ho, ha, hu, hcc, hom, hb9⟩
       exact ⟨_, rfl, ⟨.slice pl0 R.l.length ql0, .slice po0 R.ok.length qo0, .slice pc0 R.ch.length qc0, .slice pt0 R.te.length qt0, M0⟩, v0, T0, C0, rfl, ho, ha, hu, hcc, hom, hb9⟩
      ·
       rintro v y ⟨u', vv, T0, C0, rfl, ho, ha, hu, hcc, hom, hb9⟩
       exact hK _ y (hS.call (by rw [hls]; rfl) h4 l7 l9 hb9 ho ha hu hcc hom) kI_ (by intro h; cases h)
     ·
      have h4 : t 109 ≠ undef := hdep ⟨4, .data⟩ (by simp) rfl
      have h2 := hK (t 109) x (hS.mv5 h4).2 kI_ h4
      unfold frRb at h2 ⊢
      clear hK
      go_simp
      simpa [Act.put, s2_, s3_, s4_, s6_, s7_, s10_, s11_, s13_] using h2
     ·
      have h5 : t 104 ≠ undef := hdep ⟨5, .data⟩ (by simp) rfl
      obtain ⟨V, v9, e5, hV, kk⟩ := hS.ex6 h5
      have h2 := hK V x kk kI_ hV
      unfold frRb at h2 ⊢
      clear hK
      go_simp
      simpa [Act.put, e5, s2_, s3_, s4_, s6_, s7_, s10_, s11_, s13_] using h2
     ·
      have h5 : t 104 ≠ undef := hdep ⟨5, .data⟩ (by simp) rfl
      obtain ⟨V, v9, e5, kk⟩ := hS.ex7 h5
      have h2 := hK v9 x kk kI_ trivial
      unfold frRb at h2 ⊢
      clear hK
      go_simp
      simpa [Act.put, e5, s2_, s3_, s4_, s6_, s7_, s10_, s11_, s13_] using h2
     ·
      have l9 : listed.getD 9 false = false := by
       cases hq : listed.getD 9 false with
       | false => rfl
       | true =>
        have a1 := hcl 9 _ rfl hq ⟨8, .data⟩ (by simp) rfl
        rw [hnl] at a1
        cases a1
      have h2 := hK (.pointer (some ⟨x.heap.size, 0, none⟩)) (x.alloc (.cells #[.int .i64 0, .int .i64 0, .int .i64 0, .bool false, .int .i64 0, .slice none 0 0, .int .i64 0, .slice none 0 0, .slice none 0 0, .slice none 0 0] 28)) (hS.al8 l9 rfl) kI_ (by intro h; cases h)
      unfold frRb at h2 ⊢
      clear hK
      go_simp
      simpa [Act.put, s2_, s3_, s4_, s6_, s7_, s10_, s11_, s13_] using h2
     ·
      have h6 : t 110 ≠ undef := hdep ⟨6, .data⟩ (by simp) rfl
      have h8 : t 15 ≠ undef := hdep ⟨8, .data⟩ (by simp) rfl
      obtain ⟨gb, old, u', e8, e6, hB, hs9, hg, kk⟩ := hS.st9 h6 h8
      refine stG (by rfl) (.tmp 15) (.tmp 110) rfl gb (rpC R u') (by show (frRb s t).eval (.tmp 15) = _; unfold frRb; simp [Act.eval, e8]) (by show (frRb s t).eval (.tmp 110) = _; unfold frRb; simp [Act.eval, e6]) hB hs9 (rpC_size R u') (rpC_one hg) ?_
      intro W9 hW hc
      exact hK undef W9 (kk W9 _ _ hW hc (by decide) (by decide) (by decide) (by decide) (by decide) (by decide) (by decide)) kI_ trivial
    case done =>
     intro listed tt w23 hall hS hG
     have h4 : tt 109 ≠ undef := hG 4 (by decide)
     obtain ⟨pl7, ql7, po7, qo7, pc7, qc7, pt7, qt7, M7, vH, TH, CH, loH, hiH, gbH, e7, e8, hY, ha, hYm, hi9, hz9, hbx, hb⟩ := hS.fin h4 (hall 7 (by decide)) (hall 9 (by decide))
     have AH : Hid (RpAp ⟨.slice pl7 R.l.length ql7, .slice po7 R.ok.length qo7, .slice pc7 R.ch.length qc7, .slice pt7 R.te.length qt7, M7⟩) := ha
     have EH : Hid ((⟨.slice pl7 R.l.length ql7, .slice po7 R.ok.length qo7, .slice pc7 R.ch.length qc7, .slice pt7 R.te.length qt7, M7⟩ : Rv).T.map (·.m) = R.te) := hY.now.1.t
     have ITH : Hid (TH.map (·.m) = L) := hi9
     have ZCH : Hid (w22.heap.size ≤ loH ∧ loH ≤ CH ∧ CH ≤ hiH ∧ hiH ≤ w23.heap.size ∧ w22.heap.size ≤ gbH ∧ gbH + 1 ≤ w23.heap.size) := hz9
     replace AA := hH_ (AA.out.kept hb)
     replace WW := hH_ (WW.out.kept hb)
     replace Y := hH_ (Y.out.kept hb)
     replace Ym := hH_ (Ym.out.kept hb)
     replace Y0 := hH_ (Y0.out.kept hb)
     replace G := hH_ (G.out.kept hb)
     replace Gm := hH_ (Gm.out.kept hb)
     replace G0 := hH_ (G0.out.kept hb)
     have H : Hid (Liv loH CH (RpF loH CH ⟨.slice pl7 R.l.length ql7, .slice po7 R.ok.length qo7, .slice pc7 R.ch.length qc7, .slice pt7 R.te.length qt7, M7⟩ R) w23) := hY
     have Hm : Hid (Liv CH hiH (MsE CH hiH vH TH) w23) := hYm
     have H0 : Hid (Liv gbH (gbH + 1) (fun W => Bx W (gbH) 28 #[.int .i64 R.id, .int .i64 R.p, .int .i64 R.v, .bool R.n, .int .i64 R.la, .slice pl7 R.l.length ql7, .int .i64 R.c, .slice po7 R.ok.length qo7, .slice pc7 R.ch.length qc7, .slice pt7 R.te.length qt7]) w23) := hH_ (Liv.box hbx)
     have Z23 : Hid (w22.heap.size ≤ w23.heap.size) := hb.size
     replace BB := hH_ (BB.out.trans (hb.mono BB.out.size))
     clear hY ha hYm hi9 hz9 hbx hb hS hG hall h4 S0
     show wpList Tryz.prog _ _ [_] _ w23
     unfold frRb
     simp only [e7, e8, s2_, s3_, s4_, s6_, s7_, s10_, s11_, s13_]
     clear e7 e8 s2_ s3_ s4_ s6_ s7_ s10_ s11_ s13_
     obtain ⟨AA_0, AA_1, AA_2, AA_3, AA_4, AA_5, AA_6, AA_7, AA_8, AA_9⟩ := bx10 AA.out.now
     obtain ⟨WW_0, WW_1, WW_2, WW_3, WW_4, WW_5, WW_6⟩ := bx7 WW.out.now
     obtain ⟨Y0_0, Y0_1, Y0_2, Y0_3, Y0_4, Y0_5, Y0_6, Y0_7, Y0_8, Y0_9⟩ := bx10 Y0.out.now
     obtain ⟨G0_0, G0_1, G0_2, G0_3, G0_4, G0_5, G0_6, G0_7, G0_8, G0_9⟩ := bx10 G0.out.now
     obtain ⟨H0_0, H0_1, H0_2, H0_3, H0_4, H0_5, H0_6, H0_7, H0_8, H0_9⟩ := bx10 H0.out.now
     go_wp2_with fail
     clear AA_0 AA_1 AA_2 AA_3 AA_4 AA_5 AA_6 AA_7 AA_8 AA_9 WW_0 WW_1 WW_2 WW_3 WW_4 WW_5 WW_6 Y0_0 Y0_1 Y0_2 Y0_3 Y0_4 Y0_5 Y0_6 Y0_7 Y0_8 Y0_9 G0_0 G0_1 G0_2 G0_3 G0_4 G0_5 G0_6 G0_7 G0_8 G0_9 H0_0 H0_1 H0_2 H0_3 H0_4 H0_5 H0_6 H0_7 H0_8 H0_9
     refine (hel R _ _ _ H.out.now.1.got Y.out.now.1.got HRF.out).mono ?_
     rintro e w24 ⟨rfl, hb⟩
     replace AA := hH_ (AA.out.kept hb)
     replace WW := hH_ (WW.out.kept hb)
     replace Y := hH_ (Y.out.kept hb)
     replace Ym := hH_ (Ym.out.kept hb)
     replace Y0 := hH_ (Y0.out.kept hb)
     replace G := hH_ (G.out.kept hb)
     replace Gm := hH_ (Gm.out.kept hb)
     replace G0 := hH_ (G0.out.kept hb)
     replace H := hH_ (H.out.kept hb)
     replace Hm := hH_ (Hm.out.kept hb)
     replace H0 := hH_ (H0.out.kept hb)
     have Z24 : Hid (w23.heap.size ≤ w24.heap.size) := hb.size
     replace BB := hH_ (BB.out.trans (hb.mono BB.out.size))
     clear hb
     obtain ⟨AA_0, AA_1, AA_2, AA_3, AA_4, AA_5, AA_6, AA_7, AA_8, AA_9⟩ := bx10 AA.out.now
     obtain ⟨WW_0, WW_1, WW_2, WW_3, WW_4, WW_5, WW_6⟩ := bx7 WW.out.now
     obtain ⟨Y0_0, Y0_1, Y0_2, Y0_3, Y0_4, Y0_5, Y0_6, Y0_7, Y0_8, Y0_9⟩ := bx10 Y0.out.now
     obtain ⟨G0_0, G0_1, G0_2, G0_3, G0_4, G0_5, G0_6, G0_7, G0_8, G0_9⟩ := bx10 G0.out.now
     obtain ⟨H0_0, H0_1, H0_2, H0_3, H0_4, H0_5, H0_6, H0_7, H0_8, H0_9⟩ := bx10 H0.out.now
     go_wp2_with fail
     clear AA_0 AA_1 AA_2 AA_3 AA_4 AA_5 AA_6 AA_7 AA_8 AA_9 WW_0 WW_1 WW_2 WW_3 WW_4 WW_5 WW_6 Y0_0 Y0_1 Y0_2 Y0_3 Y0_4 Y0_5 Y0_6 Y0_7 Y0_8 Y0_9 G0_0 G0_1 G0_2 G0_3 G0_4 G0_5 G0_6 G0_7 G0_8 G0_9 H0_0 H0_1 H0_2 H0_3 H0_4 H0_5 H0_6 H0_7 H0_8 H0_9
     refine (eqMsE HFW.out _ Hm.out.now Ym.out.now ITH.out ITY.out).mono ?_
     rintro e w25 ⟨rfl, hb⟩
     replace AA := hH_ (AA.out.kept hb)
     replace WW := hH_ (WW.out.kept hb)
     replace Y := hH_ (Y.out.kept hb)
     replace Ym := hH_ (Ym.out.kept hb)
     replace Y0 := hH_ (Y0.out.kept hb)
     replace G := hH_ (G.out.kept hb)
     replace Gm := hH_ (Gm.out.kept hb)
     replace G0 := hH_ (G0.out.kept hb)
     replace H := hH_ (H.out.kept hb)
     replace Hm := hH_ (Hm.out.kept hb)
     replace H0 := hH_ (H0.out.kept hb)
     have Z25 : Hid (w24.heap.size ≤ w25.heap.size) := hb.size
     replace BB := hH_ (BB.out.trans (hb.mono BB.out.size))
     clear hb
     obtain ⟨AA_0, AA_1, AA_2, AA_3, AA_4, AA_5, AA_6, AA_7, AA_8, AA_9⟩ := bx10 AA.out.now
     obtain ⟨WW_0, WW_1, WW_2, WW_3, WW_4, WW_5, WW_6⟩ := bx7 WW.out.now
     obtain ⟨Y0_0, Y0_1, Y0_2, Y0_3, Y0_4, Y0_5, Y0_6, Y0_7, Y0_8, Y0_9⟩ := bx10 Y0.out.now
     obtain ⟨G0_0, G0_1, G0_2, G0_3, G0_4, G0_5, G0_6, G0_7, G0_8, G0_9⟩ := bx10 G0.out.now
     obtain ⟨H0_0, H0_1, H0_2, H0_3, H0_4, H0_5, H0_6, H0_7, H0_8, H0_9⟩ := bx10 H0.out.now
     go_wp2_with fail
     clear AA_0 AA_1 AA_2 AA_3 AA_4 AA_5 AA_6 AA_7 AA_8 AA_9 WW_0 WW_1 WW_2 WW_3 WW_4 WW_5 WW_6 Y0_0 Y0_1 Y0_2 Y0_3 Y0_4 Y0_5 Y0_6 Y0_7 Y0_8 Y0_9 G0_0 G0_1 G0_2 G0_3 G0_4 G0_5 G0_6 G0_7 G0_8 G0_9 H0_0 H0_1 H0_2 H0_3 H0_4 H0_5 H0_6 H0_7 H0_8 H0_9
     refine (hhd _ _ _ _ G.out.now EG.out).mono ?_
     rintro e w26 ⟨rfl, hb⟩
     replace AA := hH_ (AA.out.kept hb)
     replace WW := hH_ (WW.out.kept hb)
     replace Y := hH_ (Y.out.kept hb)
     replace Ym := hH_ (Ym.out.kept hb)
     replace Y0 := hH_ (Y0.out.kept hb)
     replace G := hH_ (G.out.kept hb)
     replace Gm := hH_ (Gm.out.kept hb)
     replace G0 := hH_ (G0.out.kept hb)
     replace H := hH_ (H.out.kept hb)
     replace Hm := hH_ (Hm.out.kept hb)
     replace H0 := hH_ (H0.out.kept hb)
     have Z26 : Hid (w25.heap.size ≤ w26.heap.size) := hb.size
     replace BB := hH_ (BB.out.trans (hb.mono BB.out.size))
     clear hb
     obtain ⟨AA_0, AA_1, AA_2, AA_3, AA_4, AA_5, AA_6, AA_7, AA_8, AA_9⟩ := bx10 AA.out.now
     obtain ⟨WW_0, WW_1, WW_2, WW_3, WW_4, WW_5, WW_6⟩ := bx7 WW.out.now
     obtain ⟨Y0_0, Y0_1, Y0_2, Y0_3, Y0_4, Y0_5, Y0_6, Y0_7, Y0_8, Y0_9⟩ := bx10 Y0.out.now
     obtain ⟨G0_0, G0_1, G0_2, G0_3, G0_4, G0_5, G0_6, G0_7, G0_8, G0_9⟩ := bx10 G0.out.now
     obtain ⟨H0_0, H0_1, H0_2, H0_3, H0_4, H0_5, H0_6, H0_7, H0_8, H0_9⟩ := bx10 H0.out.now
     go_wp2_with fail
     clear AA_0 AA_1 AA_2 AA_3 AA_4 AA_5 AA_6 AA_7 AA_8 AA_9 WW_0 WW_1 WW_2 WW_3 WW_4 WW_5 WW_6 Y0_0 Y0_1 Y0_2 Y0_3 Y0_4 Y0_5 Y0_6 Y0_7 Y0_8 Y0_9 G0_0 G0_1 G0_2 G0_3 G0_4 G0_5 G0_6 G0_7 G0_8 G0_9 H0_0 H0_1 H0_2 H0_3 H0_4 H0_5 H0_6 H0_7 H0_8 H0_9
     refine (hhm _ _ _ _ _ Gm.out.now ITG.out).mono ?_
     rintro e w27 ⟨rfl, hb⟩
     replace AA := hH_ (AA.out.kept hb)
     replace WW := hH_ (WW.out.kept hb)
     replace Y := hH_ (Y.out.kept hb)
     replace Ym := hH_ (Ym.out.kept hb)
     replace Y0 := hH_ (Y0.out.kept hb)
     replace G := hH_ (G.out.kept hb)
     replace Gm := hH_ (Gm.out.kept hb)
     replace G0 := hH_ (G0.out.kept hb)
     replace H := hH_ (H.out.kept hb)
     replace Hm := hH_ (Hm.out.kept hb)
     replace H0 := hH_ (H0.out.kept hb)
     have Z27 : Hid (w26.heap.size ≤ w27.heap.size) := hb.size
     replace BB := hH_ (BB.out.trans (hb.mono BB.out.size))
     clear hb
     obtain ⟨AA_0, AA_1, AA_2, AA_3, AA_4, AA_5, AA_6, AA_7, AA_8, AA_9⟩ := bx10 AA.out.now
     obtain ⟨WW_0, WW_1, WW_2, WW_3, WW_4, WW_5, WW_6⟩ := bx7 WW.out.now
     obtain ⟨Y0_0, Y0_1, Y0_2, Y0_3, Y0_4, Y0_5, Y0_6, Y0_7, Y0_8, Y0_9⟩ := bx10 Y0.out.now
     obtain ⟨G0_0, G0_1, G0_2, G0_3, G0_4, G0_5, G0_6, G0_7, G0_8, G0_9⟩ := bx10 G0.out.now
     obtain ⟨H0_0, H0_1, H0_2, H0_3, H0_4, H0_5, H0_6, H0_7, H0_8, H0_9⟩ := bx10 H0.out.now
     go_wp2
     go_ret
     exact ⟨rfl, BB.out⟩
end Go.Proofs.YtdkhdjickkcaiaaGreat.Rl
namespace Go.Proofs.YtdkhdjickkcaiaaGreat
open Go.RowKit Go.ChangeShapes Go.WideShapes Go.ChangeAt Go.Joins

theorem cell_ltO {w : World} {b o : Nat} {v : Value} (h : w.cell? ⟨b, o, Option.none⟩ = some v) : b < w.heap.size := by
 cases e : w.heap[b]? with
 | none => simp [World.cell?, e] at h
 | some x => exact (Array.getElem?_eq_some_iff.1 e).1
theorem open_nums {H : Type} {enc : TypeId × Value → H} {W : World} {base : Nat} {spare : Nat → Bool} {held : Bool} {fuel : Nat} {sa : Option Addr} {sl sc : Nat} {x : DataW H × List MemPlace}
  (h : DataW.trod enc Tryz.prog W base spare held fuel 25 (Value.cells (.slice sa sl sc)).toList = some x) :
  ∃ l : List Int, Sls intE W (.slice sa sl sc) l := by
 rcases open_ints Tryz.underlying25 Tryz.underlying2 (by kernel_rfl) h with ⟨hcs, _⟩ | ⟨a, l, c, zs, hcs, _, hl, hm, hz, _, hcell, hwz⟩
 ·
  simp [Value.cells] at hcs
  obtain ⟨rfl, rfl, rfl⟩ := hcs
  exact ⟨[], Sls.nil (Nat.zero_le _)⟩
 ·
  simp [Value.cells] at hcs
  obtain ⟨rfl, rfl, rfl⟩ := hcs
  have hlz : sl ≤ zs.length := by rw [hz]; split <;> omega
  have hlt : (zs.take sl).length = sl := by rw [List.length_take]; omega
  refine ⟨zs.take sl, some a, sc, by rw [hlt], by rw [hlt]; exact hl, hm, fun h0 => ?_⟩
  rw [hlt] at h0
  obtain ⟨b, o, sp⟩ := a
  have c0 := hcell 0 (by omega)
  have hsp : sp = Option.none := by
   have : W.cell? ⟨b, o, sp⟩ = some (.int .i64 (zs.getD 0 0)) := by simpa [Addr.add] using c0
   exact Go.Proofs.cell_spot this
  subst hsp
  have hb : b < W.heap.size := by
   rw [addr_add] at c0
   exact cell_ltO c0
  refine ⟨b, o, rfl, hb, fun j u hu => ?_⟩
  have hj : j < sl := by
   have := (List.getElem?_eq_some_iff.1 hu).1
   rw [cellsE_length, hlt] at this
   simpa [intE] using this
  rw [cellsN_at _ j (by rw [hlt]; exact hj)] at hu
  have c1 := hcell j (by omega)
  rw [addr_add] at c1
  rw [c1, ← hu]
  have hjz : j < zs.length := by omega
  simp [List.getD, hjz]
open Go.RowKit Go.ChangeShapes Go.WideShapes Go.ChangeAt Go.Joins Go.Sort

theorem Sls.ofP {w : World} {v : Value} {l : List ByteArray} (h : StrsP w v l) : Sls txtE w v l := by
 obtain ⟨a, cap, hv, h1, h2, h3⟩ := h
 refine ⟨a, cap, hv, h1, h2, fun h0 => ?_⟩
 obtain ⟨g, o, ha, hg, hc⟩ := h3 h0
 refine ⟨g, o, ha, hg, fun j u hu => ?_⟩
 have hj : j < l.length := by
  have := (List.getElem?_eq_some_iff.1 hu).1
  rw [cellsX_map] at this
  simpa using this
 rw [cellsX_at l j hj] at hu
 rw [hc j hj]
 exact hu
theorem open_txs {H : Type} {enc : TypeId × Value → H} {W : World} {base : Nat} {spare : Nat → Bool} {held : Bool} {fuel : Nat} {sa : Option Addr} {sl sc : Nat} {x : DataW H × List MemPlace}
  (h : DataW.trod enc Tryz.prog W base spare held fuel 24 (Value.cells (.slice sa sl sc)).toList = some x) :
  ∃ l : List ByteArray, Sls txtE W (.slice sa sl sc) l ∧ ∀ p ∈ l, p.size ≤ maxLen := by
 rcases open_strings Tryz.underlying24 Tryz.underlying9 (by kernel_rfl) h with ⟨hcs, _⟩ | ⟨a, len, cap, ss, hcs, hb, hl, hm, hlen, _, hcell, hz⟩
 ·
  simp [Value.cells] at hcs
  obtain ⟨rfl, rfl, rfl⟩ := hcs
  exact ⟨[], Sls.ofP ⟨Option.none, 0, rfl, Nat.le_refl _, Nat.zero_le _, fun h => absurd h (by simp)⟩, fun f hf => by cases hf⟩
 ·
  simp [Value.cells] at hcs
  obtain ⟨rfl, rfl, rfl⟩ := hcs
  have hls : sl ≤ ss.length := by rw [hlen]; split <;> omega
  have htl : (ss.take sl).length = sl := by rw [List.length_take]; omega
  refine ⟨ss.take sl, Sls.ofP ⟨some a, sc, by rw [htl], by omega, hm, fun h0 => ?_⟩, fun p hp => hz p (List.mem_of_mem_take hp)⟩
  have h0' : 0 < sl := by omega
  have c0 := hcell 0 (by omega)
  obtain ⟨b, o, sp⟩ := a
  have hsp : sp = Option.none := by
   have : W.cell? ⟨b, o, sp⟩ = some (.string (ss.getD 0 ByteArray.empty)) := by simpa [Addr.add] using c0
   exact Go.Proofs.cell_spot this
  subst hsp
  rw [addr_add] at c0
  refine ⟨b, o, rfl, World.block_lt_of_cell? W ⟨b, o + 0, Option.none⟩ c0, fun j hj => ?_⟩
  have hj' : j < ss.length := by omega
  have c1 := hcell j hj'
  rw [addr_add] at c1
  rw [c1]
  simp [hj']
end Go.Proofs.YtdkhdjickkcaiaaGreat
