/-
  What a row of messages of a call lives in; the walk of FnExactSpread, given both sides' Spread.
  Rows of numbers that came in, opened.
  A slice of texts that came in, opened, as a row.
-/
import Derived.Test.YtdahfhkeeemdiaaH30
import Derived.Test.YtdahfhkeeemdiaaH32
import Derived.Test.YtdahfhkeeemdiaaH17
import Derived.ChangeSlices
import Derived.ChangeArms
import Derived.ProofKit
import Derived.OpenShut
import Derived.ShutString
import Derived.Lib.SmallJoins
import Derived.Lib.LaidU8
import Derived.Test.YtdahfhkeeemdiaaH18
namespace Go.Proofs.Ytdahfhkeeemdiaa.Rl
open Go.RowKit Go.Sort
set_option linter.unusedVariables false
set_option linter.unusedSimpArgs false

/-- A row of messages whose blocks lie from lo to hi. -/
structure MsF (lo hi : Nat) (v : Value) (T : List Mx) (W : World) : Prop where
  row : HasM W lo v T
  logs : Logs W lo T
  ap : ∀ x ∈ T, ap v x.u
  top : ∀ k, Bl (v :: T.map Mx.u) k → k < hi
theorem MsF.got {lo hi : Nat} {v : Value} {T : List Mx} {W : World} (h : MsF lo hi v T W) : TeGot W v T := ⟨h.row.sls, fun x hx => (h.logs.l x hx).sls⟩
theorem MsF.low {lo hi : Nat} {v : Value} {T : List Mx} {W : World} (h : MsF lo hi v T W) : ∀ k, Bl (v :: T.map Mx.u) k → lo ≤ k ∧ k < hi := fun k hk => ⟨by
    obtain ⟨y, hy, hk⟩ := hk
    rcases List.mem_cons.1 hy with rfl | hy
    · exact h.row.from k hk
    · obtain ⟨x, hx, rfl⟩ := List.mem_map.1 hy
      exact (h.logs.l x hx).from k hk, h.top k hk⟩
theorem Liv.ms {W : World} {lo hi : Nat} {v : Value} {T : List Mx} (h : MsF lo hi v T W) (ht : hi ≤ W.heap.size) : Liv lo hi (MsF lo hi v T) W :=
  ⟨h, ht, fun W' hW _ => ⟨h.row.off fun k hk => hW k (h.low k (Bl.of (List.mem_cons_self ..) hk)).1 (h.top k (Bl.of (List.mem_cons_self ..) hk)),
    ⟨fun x hx => (h.logs.l x hx).off fun k hk => hW k (h.low k (Bl.of (List.mem_cons_of_mem _ (List.mem_map.2 ⟨x, hx, rfl⟩)) hk)).1 (h.top k (Bl.of (List.mem_cons_of_mem _ (List.mem_map.2 ⟨x, hx, rfl⟩)) hk)), h.logs.ap⟩, h.ap, h.top⟩⟩
theorem MsF.of {W : World} {lo : Nat} {v : Value} {T : List Mx} {L : List Ms} (h : MsOwn W lo v T L) : MsF lo W.heap.size v T W :=
  ⟨h.row.has, h.logs, h.ap, fun k hk => by
    obtain ⟨y, hy, hk⟩ := hk
    rcases List.mem_cons.1 hy with rfl | hy
    · exact h.row.under k hk
    · obtain ⟨x, hx, rfl⟩ := List.mem_map.1 hy
      exact (h.logs.l x hx).under k hk⟩
theorem Liv.newMs {W : World} {lo : Nat} {v : Value} {T : List Mx} {L : List Ms} (h : MsOwn W lo v T L) : Liv lo W.heap.size (MsF lo W.heap.size v T) W := Liv.ms (MsF.of h) (Nat.le_refl _)
/-- Where counting ends. -/
def mkN (T : List Mx) : Int := ((1 : Nat) : Int) + (cT T : Int)
theorem mkN_nn (T : List Mx) : ¬ mkN T < 0 := by unfold mkN; omega
def kR (r : Rp) : Int := ((1 : Nat) : Int) + (cR r : Int)
theorem kR_nn (r : Rp) : ¬ kR r < 0 := by unfold kR; omega
/-- Few messages, none with a log beyond bounds. -/
structure Few (L : List Ms) : Prop where
  n : L.length ≤ 6
  l : ∀ m ∈ L, m.l.length ≤ 1048576
theorem Few.each {L : List Ms} (h : Few L) {T : List Mx} (i : T.map (·.m) = L) : ∀ x ∈ T, x.m.l.length ≤ 1048576 := fun x hx => h.l _ (by rw [← i]; exact List.mem_map.2 ⟨x, hx, rfl⟩)
theorem Few.len {L : List Ms} (h : Few L) {T : List Mx} (i : T.map (·.m) = L) : T.length ≤ 6 := by have := h.n; rw [← i, List.length_map] at this; exact this
theorem sum_few (l : List Nat) (h : ∀ x ∈ l, x ≤ 1048576) : l.sum ≤ l.length * 1048576 := by
  induction l with
  | nil => simp
  | cons a t ih =>
    have h1 := h a (List.mem_cons_self ..)
    have h2 := ih fun x hx => h x (List.mem_cons_of_mem _ hx)
    simp only [List.sum_cons, List.length_cons]
    omega
theorem Few.cT {L : List Ms} (h : Few L) {T : List Mx} (i : T.map (·.m) = L) : 1 + cT T ≤ 50000000 := by
  rw [cT_of i]
  have h1 := sum_few (L.map fun m => m.l.length) (fun x hx => by obtain ⟨m, hm, rfl⟩ := List.mem_map.1 hx; exact h.l m hm)
  rw [List.length_map] at h1
  have h2 := h.n
  have h3 : L.length * 1048576 ≤ 6 * 1048576 := Nat.mul_le_mul_right _ h2
  omega
theorem allM_each {r : Rp} {m : Ms} (h : m.l.length ≤ 1048576) : ∀ x ∈ allM r m, x.l.length ≤ 1048576 := fun x hx => by
  unfold allM at hx
  obtain ⟨q, _, rfl⟩ := List.mem_map.1 hx
  exact h
theorem sprA_few (r : Rp) (hl : r.l.length ≤ 1048576) : Few (sprA r) := by
  by_cases ho : RpOk r
  · have e : sprA r = sprL r := by unfold sprA; rw [if_pos ho]
    rw [e]
    have n1 := fun m => allM_len r m ho.p
    unfold sprL
    split
    · exact ⟨Nat.le_trans (n1 _) (by decide), allM_each hl⟩
    · split
      · exact ⟨by simp, fun m hm => nomatch hm⟩
      · split
        · refine ⟨by have := n1 ⟨3, 0, 0, r.v, 0, [], 0⟩; simp only [List.length_append, List.length_singleton]; omega, fun m hm => ?_⟩
          rcases List.mem_append.1 hm with hm | hm
          · exact allM_each (by simp) m hm
          · rw [List.mem_singleton.1 hm]
            exact hl
        · exact ⟨by have := n1 ⟨3, 0, 0, r.v, 0, [], 0⟩; simp only [List.length_append, List.length_nil]; omega, fun m hm => by rw [List.append_nil] at hm; exact allM_each (by simp) m hm⟩
  · have e : sprA r = [] := by unfold sprA; rw [if_neg ho]
    rw [e]
    exact ⟨by simp, fun m hm => nomatch hm⟩
theorem eqMs1 {L : List Ms} (hL : Few L) {lo hi lo2 hi2 : Nat} {v v2 : Value} {T T2 : List Mx} (W : World) (h : MsF lo hi v T W) (h2 : MsF lo2 hi2 v2 T2 W) (i : T.map (·.m) = L) (i2 : T2.map (·.m) = L) :
    Calls Try.prog 17 #[v, v2] W fun e w' => e = .returned (.bool true) ∧ Below W.heap.size W w' :=
  eqMsS v v2 T T2 W h.got h2.got (i2.trans i.symm) (hL.each i) (by have := hL.len i; omega)
theorem markMs1 {L : List Ms} (hL : Few L) {lo hi : Nat} {v : Value} {T : List Mx} (W : World) (h : MsF lo hi v T W) (i : T.map (·.m) = L) :
    Calls Try.prog 18 #[v, .int .i64 1] W fun e w' => e = .returned (.int .i64 (mkN T)) ∧ MsF lo hi v (mkTe 1 T) w' ∧ Chg lo hi W w' :=
  (markMsS 1 (by decide) v T (hL.cT i) lo W h.row h.logs h.ap (hL.each i) (by have := hL.len i; omega)).mono fun e w' ⟨h1, h2, h3, h4⟩ => by
    refine ⟨h1, ⟨h2, h3, fun x hx => ?_, fun k hk => h.top k (by rw [mkTe_u] at hk; exact hk)⟩, h4.chg h.low⟩
    have hu : x.u ∈ (mkTe 1 T).map Mx.u := List.mem_map.2 ⟨x, hx, rfl⟩
    rw [mkTe_u] at hu
    obtain ⟨y, hy, e⟩ := List.mem_map.1 hu
    rw [← e]
    exact h.ap y hy
theorem heldMs1 {L : List Ms} (hL : Few L) {lo hi : Nat} {v : Value} {T : List Mx} (W : World) (h : MsF lo hi v (mkTe 1 T) W) (i : T.map (·.m) = L) :
    Calls Try.prog 19 #[v, .int .i64 1] W fun e w' => e = .returned (.int .i64 (mkN T)) ∧ Below W.heap.size W w' :=
  heldMsS 1 (by decide) v T (hL.cT i) W h.got (hL.each i) (by have := hL.len i; omega)
def frRsp (s t : Nat → Value) : Act := { tmps := #[s 0, s 1, s 2, s 3, s 4, s 5, s 6, s 7, s 8, s 9, s 10, s 11, s 12, s 13, s 14, s 15, s 16, s 17, s 18, s 19, s 20, s 21, s 22, s 23, s 24, s 25, s 26, t 27, t 28, t 29, t 30, s 31, s 32, s 33, s 34, s 35, s 36, s 37, s 38, s 39, s 40, s 41, s 42, s 43, s 44, s 45, s 46, s 47, s 48, s 49, s 50, s 51, s 52, s 53, s 54, s 55, s 56, s 57, s 58, s 59, s 60, s 61, s 62, s 63, s 64, s 65, s 66, s 67, s 68], defers := [] }
def dRsp (i : Nat) : Nat := i + 27
def GRsp (r : Rp) (pl4 : Option Addr) (ql4 : Nat) (po4 : Option Addr) (qo4 : Nat) (pc4 : Option Addr) (qc4 : Nat) (pt4 : Option Addr) (qt4 : Nat) (plA : Option Addr) (qlA : Nat) (poA : Option Addr) (qoA : Nat) (pcA : Option Addr) (qcA : Nat) (ptA : Option Addr) (qtA : Nat) (i : Nat) (x : World) (v : Value) : Prop := match i with
  | 0 => v = .agg #[.int .i64 r.id, .int .i64 r.p, .int .i64 r.v, .bool r.n, .int .i64 r.la, .slice pl4 r.l.length ql4, .int .i64 r.c, .slice po4 r.ok.length qo4, .slice pc4 r.ch.length qc4, .slice pt4 r.te.length qt4]
  | 1 => v = .agg #[.int .i64 r.id, .int .i64 r.p, .int .i64 r.v, .bool r.n, .int .i64 r.la, .slice plA r.l.length qlA, .int .i64 r.c, .slice poA r.ok.length qoA, .slice pcA r.ch.length qcA, .slice ptA r.te.length qtA]
  | 2 => ∃ (p1 : Option Addr) (d1 : Nat) (p2 : Option Addr) (d2 : Nat) (p3 : Option Addr) (d3 : Nat) (p4 : Option Addr) (d4 : Nat), v = .agg #[.int .i64 r.id, .int .i64 r.p, .int .i64 r.v, .bool r.n, .int .i64 r.la, .slice p1 r.l.length d1, .int .i64 r.c, .slice p2 r.ok.length d2, .slice p3 r.ch.length d3, .slice p4 r.te.length d4] ∧ GotM x r p1 d1 p2 d2 p3 d3 p4 d4
  | 3 => v = .bool true
  | _ => True
theorem GRsp.keep {r : Rp} {pl4 : Option Addr} {ql4 : Nat} {po4 : Option Addr} {qo4 : Nat} {pc4 : Option Addr} {qc4 : Nat} {pt4 : Option Addr} {qt4 : Nat} {plA : Option Addr} {qlA : Nat} {poA : Option Addr} {qoA : Nat} {pcA : Option Addr} {qcA : Nat} {ptA : Option Addr} {qtA : Nat} {x y : World} (hb : Below x.heap.size x y) (j : Nat) (v : Value) (hj : j < 4) (h : GRsp r pl4 ql4 po4 qo4 pc4 qc4 pt4 qt4 plA qlA poA qoA pcA qcA ptA qtA j x v) : GRsp r pl4 ql4 po4 qo4 pc4 qc4 pt4 qt4 plA qlA poA qoA pcA qcA ptA qtA j y v := by
  rcases (show j = 0 ∨ j = 1 ∨ j = 2 ∨ j = 3 by omega) with rfl | rfl | rfl | rfl
  · exact h
  · exact h
  · obtain ⟨p1, d1, p2, d2, p3, d3, p4, d4, h1, h2⟩ := h; exact ⟨p1, d1, p2, d2, p3, d3, p4, d4, h1, h2.kept hb⟩
  · exact h
set_option maxRecDepth 100000 in
set_option maxHeartbeats 16000000 in
theorem walkSpr (r : Rp) (u : Rv) (w : World) (h : RpGot w u r) (hL : Lens r) :
    Calls Try.prog 5 #[rpA r u] w fun e w' => e = .returned (.bool true) ∧ Below w.heap.size w w' := by
  obtain ⟨plA, qlA, poA, qoA, pcA, qcA, ptA, qtA, MA, rfl⟩ := h.form
  have HI : Hid (RpGot w ⟨.slice plA r.l.length qlA, .slice poA r.ok.length qoA, .slice pcA r.ch.length qcA, .slice ptA r.te.length qtA, MA⟩ r) := h
  have hsz := fun W hW => szRp r ⟨.slice plA r.l.length qlA, .slice poA r.ok.length qoA, .slice pcA r.ch.length qcA, .slice ptA r.te.length qtA, MA⟩ 1048576 (by decide) (by decide) W hW hL
  have hto := fun (hf : Fit r) W hW => toRpS r ⟨.slice plA r.l.length qlA, .slice poA r.ok.length qoA, .slice pcA r.ch.length qcA, .slice ptA r.te.length qtA, MA⟩ W hW hf
  have hel := fun (r : Rp) ux uy W hx hy (hf : Fit r) => eqRp r ux uy W hx hy hf
  have hsp := fun (hf : Fit r) ux W hW => specSpread r ux W hW hf hf.l.1 hf.ch
  have him := fun (hf : Fit r) ux W hW => implSpread r ux W hW hf hf.l.1 hf.ch (fun x hx => hf.l.2 x hx)
  have hkl := fun (hf : Fit r) (hc : 1 + cR r ≤ 50000000) ux B W (hW : RpHas W B ux r) hap => (show Calls Try.prog 13 #[rpA r ux, .int .i64 1] W (fun e w' => e = .returned (.int .i64 (kR r)) ∧ ChS (Bl ux.rows) W w') from (markRp 1 (by decide) r ux B hc W hW hap hf).mono fun e w' hh => ⟨hh.1, hh.2.2⟩)
  have hFw := fun (hf : Fit r) => sprA_few r hf.l.1
  have hk0 : ¬ kR r < 0 := kR_nn r
  generalize sprA r = L at hsp him hFw
  generalize kR r = kk at hkl hk0
  unfold rpA at *
  simp only at hsz hto ⊢
  clear h hL
  have AA : Hid (Liv w.heap.size (w.heap.size + 1) (fun W => Bx W (w.heap.size) 26 #[.int .i64 r.id, .int .i64 r.p, .int .i64 r.v, .bool r.n, .int .i64 r.la, .slice plA r.l.length qlA, .int .i64 r.c, .slice poA r.ok.length qoA, .slice pcA r.ch.length qcA, .slice ptA r.te.length qtA]) (w.alloc (.cells #[.int .i64 r.id, .int .i64 r.p, .int .i64 r.v, .bool r.n, .int .i64 r.la, .slice plA r.l.length qlA, .int .i64 r.c, .slice poA r.ok.length qoA, .slice pcA r.ch.length qcA, .slice ptA r.te.length qtA] 26))) := (show Hid _ from Liv.box (Bx.new _ _ _))
  have BB : Hid (Below w.heap.size w (w.alloc (.cells #[.int .i64 r.id, .int .i64 r.p, .int .i64 r.v, .bool r.n, .int .i64 r.la, .slice plA r.l.length qlA, .int .i64 r.c, .slice poA r.ok.length qoA, .slice pcA r.ch.length qcA, .slice ptA r.te.length qtA] 26))) := (Below.refl _ w).alloc (Nat.le_refl _) _
  have zA : (w.alloc (.cells #[.int .i64 r.id, .int .i64 r.p, .int .i64 r.v, .bool r.n, .int .i64 r.la, .slice plA r.l.length qlA, .int .i64 r.c, .slice poA r.ok.length qoA, .slice pcA r.ch.length qcA, .slice ptA r.te.length qtA] 26)).heap.size = w.heap.size + 1 := by simp
  generalize hw1 : (w.alloc (.cells #[.int .i64 r.id, .int .i64 r.p, .int .i64 r.v, .bool r.n, .int .i64 r.la, .slice plA r.l.length qlA, .int .i64 r.c, .slice poA r.ok.length qoA, .slice pcA r.ch.length qcA, .slice ptA r.te.length qtA] 26)) = w1 at BB zA AA
  have Z1 : Hid (w1.heap.size = w.heap.size + 1) := zA
  clear zA
  go_enter Try.func5, Try.ntmps5
  have AA_0 := AA.out.now.cell 0
  have AA_1 := AA.out.now.cell 1
  have AA_2 := AA.out.now.cell 2
  have AA_3 := AA.out.now.cell 3
  have AA_4 := AA.out.now.cell 4
  have AA_5 := AA.out.now.cell 5
  have AA_6 := AA.out.now.cell 6
  have AA_7 := AA.out.now.cell 7
  have AA_8 := AA.out.now.cell 8
  have AA_9 := AA.out.now.cell 9
  go_wp2_with fail
  clear hw1
  clear AA_0 AA_1 AA_2 AA_3 AA_4 AA_5 AA_6 AA_7 AA_8 AA_9
  refine (hsz _ (HI.out.kept BB.out)).mono ?_
  rintro e w2 ⟨⟨z, rfl, q1, q2, q3⟩, hb⟩
  replace AA : Hid (Liv w.heap.size (w.heap.size + 1) (fun W => Bx W (w.heap.size) 26 #[.int .i64 r.id, .int .i64 r.p, .int .i64 r.v, .bool r.n, .int .i64 r.la, .slice plA r.l.length qlA, .int .i64 r.c, .slice poA r.ok.length qoA, .slice pcA r.ch.length qcA, .slice ptA r.te.length qtA]) w2) := AA.out.kept hb
  have Z2 : Hid (w1.heap.size ≤ w2.heap.size) := hb.size
  replace BB : Hid (Below w.heap.size w w2) := (show Hid _ from BB.out.trans (hb.mono BB.out.size))
  clear hb
  have AA_0 := AA.out.now.cell 0
  have AA_1 := AA.out.now.cell 1
  have AA_2 := AA.out.now.cell 2
  have AA_3 := AA.out.now.cell 3
  have AA_4 := AA.out.now.cell 4
  have AA_5 := AA.out.now.cell 5
  have AA_6 := AA.out.now.cell 6
  have AA_7 := AA.out.now.cell 7
  have AA_8 := AA.out.now.cell 8
  have AA_9 := AA.out.now.cell 9
  by_cases hV : z < 0
  · go_wp2
    go_ret
    exact ⟨rfl, BB.out⟩
  have hf : Fit r := (q3 (by omega)).1
  have HF : Hid (Fit r) := hf
  have hcr : 1 + cR r ≤ 50000000 := by
    have h1 := (q3 (by omega)).2
    have h2 := hf.te.1
    unfold cR
    omega
  replace hto := hto hf; replace hsp := hsp hf; replace him := him hf; replace hkl := hkl hf hcr; replace hFw := hFw hf
  have HL : Hid (Few L) := hFw
  clear q1 q2 q3 hf hcr hFw
  go_wp2_with fail
  clear AA_0 AA_1 AA_2 AA_3 AA_4 AA_5 AA_6 AA_7 AA_8 AA_9
  refine (hto _ (HI.out.kept BB.out)).mono ?_
  rintro e w3 ⟨pl2, ql2, po2, qo2, pc2, qc2, pt2, qt2, M2, rfl, ho, _, hb⟩
  replace AA : Hid (Liv w.heap.size (w.heap.size + 1) (fun W => Bx W (w.heap.size) 26 #[.int .i64 r.id, .int .i64 r.p, .int .i64 r.v, .bool r.n, .int .i64 r.la, .slice plA r.l.length qlA, .int .i64 r.c, .slice poA r.ok.length qoA, .slice pcA r.ch.length qcA, .slice ptA r.te.length qtA]) w3) := AA.out.kept hb
  have U : Hid (Liv w2.heap.size w3.heap.size (RpF w2.heap.size w3.heap.size ⟨.slice pl2 r.l.length ql2, .slice po2 r.ok.length qo2, .slice pc2 r.ch.length qc2, .slice pt2 r.te.length qt2, M2⟩ r) w3) := (show Hid _ from Liv.newRp ho)
  have Z3 : Hid (w2.heap.size ≤ w3.heap.size) := hb.size
  replace BB : Hid (Below w.heap.size w w3) := (show Hid _ from BB.out.trans (hb.mono BB.out.size))
  clear hb ho
  have AA_0 := AA.out.now.cell 0
  have AA_1 := AA.out.now.cell 1
  have AA_2 := AA.out.now.cell 2
  have AA_3 := AA.out.now.cell 3
  have AA_4 := AA.out.now.cell 4
  have AA_5 := AA.out.now.cell 5
  have AA_6 := AA.out.now.cell 6
  have AA_7 := AA.out.now.cell 7
  have AA_8 := AA.out.now.cell 8
  have AA_9 := AA.out.now.cell 9
  go_wp2_with fail
  clear AA_0 AA_1 AA_2 AA_3 AA_4 AA_5 AA_6 AA_7 AA_8 AA_9
  refine (hsp _ _ U.out.now.1.got).mono ?_
  rintro e w4 ⟨vW, TW, rfl, ho, hb⟩
  have ITW : Hid (TW.map (·.m) = L) := ho.is
  replace AA : Hid (Liv w.heap.size (w.heap.size + 1) (fun W => Bx W (w.heap.size) 26 #[.int .i64 r.id, .int .i64 r.p, .int .i64 r.v, .bool r.n, .int .i64 r.la, .slice plA r.l.length qlA, .int .i64 r.c, .slice poA r.ok.length qoA, .slice pcA r.ch.length qcA, .slice ptA r.te.length qtA]) w4) := AA.out.kept hb
  clear U
  have R : Hid (Liv w3.heap.size w4.heap.size (MsF w3.heap.size w4.heap.size vW TW) w4) := (show Hid _ from Liv.newMs ho)
  have Z4 : Hid (w3.heap.size ≤ w4.heap.size) := hb.size
  replace BB : Hid (Below w.heap.size w w4) := (show Hid _ from BB.out.trans (hb.mono BB.out.size))
  clear hb ho
  have AA_0 := AA.out.now.cell 0
  have AA_1 := AA.out.now.cell 1
  have AA_2 := AA.out.now.cell 2
  have AA_3 := AA.out.now.cell 3
  have AA_4 := AA.out.now.cell 4
  have AA_5 := AA.out.now.cell 5
  have AA_6 := AA.out.now.cell 6
  have AA_7 := AA.out.now.cell 7
  have AA_8 := AA.out.now.cell 8
  have AA_9 := AA.out.now.cell 9
  go_wp2_with fail
  clear AA_0 AA_1 AA_2 AA_3 AA_4 AA_5 AA_6 AA_7 AA_8 AA_9
  refine (hto _ (HI.out.kept BB.out)).mono ?_
  rintro e w5 ⟨pl4, ql4, po4, qo4, pc4, qc4, pt4, qt4, M4, rfl, ho, ha, hb⟩
  have HA : Hid (RpAp ⟨.slice pl4 r.l.length ql4, .slice po4 r.ok.length qo4, .slice pc4 r.ch.length qc4, .slice pt4 r.te.length qt4, M4⟩) := ha
  clear ha
  replace AA : Hid (Liv w.heap.size (w.heap.size + 1) (fun W => Bx W (w.heap.size) 26 #[.int .i64 r.id, .int .i64 r.p, .int .i64 r.v, .bool r.n, .int .i64 r.la, .slice plA r.l.length qlA, .int .i64 r.c, .slice poA r.ok.length qoA, .slice pcA r.ch.length qcA, .slice ptA r.te.length qtA]) w5) := AA.out.kept hb
  replace R : Hid (Liv w3.heap.size w4.heap.size (MsF w3.heap.size w4.heap.size vW TW) w5) := R.out.kept hb
  have X : Hid (Liv w4.heap.size w5.heap.size (RpF w4.heap.size w5.heap.size ⟨.slice pl4 r.l.length ql4, .slice po4 r.ok.length qo4, .slice pc4 r.ch.length qc4, .slice pt4 r.te.length qt4, M4⟩ r) w5) := (show Hid _ from Liv.newRp ho)
  have Z5 : Hid (w4.heap.size ≤ w5.heap.size) := hb.size
  replace BB : Hid (Below w.heap.size w w5) := (show Hid _ from BB.out.trans (hb.mono BB.out.size))
  clear hb ho
  have hbA : Below w5.heap.size w5 (w5.alloc (.cells #[.int .i64 r.id, .int .i64 r.p, .int .i64 r.v, .bool r.n, .int .i64 r.la, .slice pl4 r.l.length ql4, .int .i64 r.c, .slice po4 r.ok.length qo4, .slice pc4 r.ch.length qc4, .slice pt4 r.te.length qt4] 31)) := (Below.refl _ _).alloc (Nat.le_refl _) _
  have zA : (w5.alloc (.cells #[.int .i64 r.id, .int .i64 r.p, .int .i64 r.v, .bool r.n, .int .i64 r.la, .slice pl4 r.l.length ql4, .int .i64 r.c, .slice po4 r.ok.length qo4, .slice pc4 r.ch.length qc4, .slice pt4 r.te.length qt4] 31)).heap.size = w5.heap.size + 1 := by simp
  replace AA : Hid (Liv w.heap.size (w.heap.size + 1) (fun W => Bx W (w.heap.size) 26 #[.int .i64 r.id, .int .i64 r.p, .int .i64 r.v, .bool r.n, .int .i64 r.la, .slice plA r.l.length qlA, .int .i64 r.c, .slice poA r.ok.length qoA, .slice pcA r.ch.length qcA, .slice ptA r.te.length qtA]) (w5.alloc (.cells #[.int .i64 r.id, .int .i64 r.p, .int .i64 r.v, .bool r.n, .int .i64 r.la, .slice pl4 r.l.length ql4, .int .i64 r.c, .slice po4 r.ok.length qo4, .slice pc4 r.ch.length qc4, .slice pt4 r.te.length qt4] 31))) := AA.out.kept hbA
  replace R : Hid (Liv w3.heap.size w4.heap.size (MsF w3.heap.size w4.heap.size vW TW) (w5.alloc (.cells #[.int .i64 r.id, .int .i64 r.p, .int .i64 r.v, .bool r.n, .int .i64 r.la, .slice pl4 r.l.length ql4, .int .i64 r.c, .slice po4 r.ok.length qo4, .slice pc4 r.ch.length qc4, .slice pt4 r.te.length qt4] 31))) := R.out.kept hbA
  replace X : Hid (Liv w4.heap.size w5.heap.size (RpF w4.heap.size w5.heap.size ⟨.slice pl4 r.l.length ql4, .slice po4 r.ok.length qo4, .slice pc4 r.ch.length qc4, .slice pt4 r.te.length qt4, M4⟩ r) (w5.alloc (.cells #[.int .i64 r.id, .int .i64 r.p, .int .i64 r.v, .bool r.n, .int .i64 r.la, .slice pl4 r.l.length ql4, .int .i64 r.c, .slice po4 r.ok.length qo4, .slice pc4 r.ch.length qc4, .slice pt4 r.te.length qt4] 31))) := X.out.kept hbA
  replace BB : Hid (Below w.heap.size w (w5.alloc (.cells #[.int .i64 r.id, .int .i64 r.p, .int .i64 r.v, .bool r.n, .int .i64 r.la, .slice pl4 r.l.length ql4, .int .i64 r.c, .slice po4 r.ok.length qo4, .slice pc4 r.ch.length qc4, .slice pt4 r.te.length qt4] 31))) := (show Hid _ from BB.out.trans (hbA.mono BB.out.size))
  have X0 : Hid (Liv w5.heap.size (w5.heap.size + 1) (fun W => Bx W (w5.heap.size) 31 #[.int .i64 r.id, .int .i64 r.p, .int .i64 r.v, .bool r.n, .int .i64 r.la, .slice pl4 r.l.length ql4, .int .i64 r.c, .slice po4 r.ok.length qo4, .slice pc4 r.ch.length qc4, .slice pt4 r.te.length qt4]) (w5.alloc (.cells #[.int .i64 r.id, .int .i64 r.p, .int .i64 r.v, .bool r.n, .int .i64 r.la, .slice pl4 r.l.length ql4, .int .i64 r.c, .slice po4 r.ok.length qo4, .slice pc4 r.ch.length qc4, .slice pt4 r.te.length qt4] 31))) := (show Hid _ from Liv.box (Bx.new _ _ _))
  clear hbA
  generalize hww6 : (w5.alloc (.cells #[.int .i64 r.id, .int .i64 r.p, .int .i64 r.v, .bool r.n, .int .i64 r.la, .slice pl4 r.l.length ql4, .int .i64 r.c, .slice po4 r.ok.length qo4, .slice pc4 r.ch.length qc4, .slice pt4 r.te.length qt4] 31)) = w6 at BB zA AA R X X0
  have Z6 : Hid (w6.heap.size = w5.heap.size + 1) := zA
  clear zA
  have AA_0 := AA.out.now.cell 0
  have AA_1 := AA.out.now.cell 1
  have AA_2 := AA.out.now.cell 2
  have AA_3 := AA.out.now.cell 3
  have AA_4 := AA.out.now.cell 4
  have AA_5 := AA.out.now.cell 5
  have AA_6 := AA.out.now.cell 6
  have AA_7 := AA.out.now.cell 7
  have AA_8 := AA.out.now.cell 8
  have AA_9 := AA.out.now.cell 9
  have X0_0 := X0.out.now.cell 0
  have X0_1 := X0.out.now.cell 1
  have X0_2 := X0.out.now.cell 2
  have X0_3 := X0.out.now.cell 3
  have X0_4 := X0.out.now.cell 4
  have X0_5 := X0.out.now.cell 5
  have X0_6 := X0.out.now.cell 6
  have X0_7 := X0.out.now.cell 7
  have X0_8 := X0.out.now.cell 8
  have X0_9 := X0.out.now.cell 9
  go_wp2_with fail
  clear hww6
  clear AA_0 AA_1 AA_2 AA_3 AA_4 AA_5 AA_6 AA_7 AA_8 AA_9 X0_0 X0_1 X0_2 X0_3 X0_4 X0_5 X0_6 X0_7 X0_8 X0_9
  refine (him _ _ X.out.now.1.got).mono ?_
  rintro e w7 ⟨vG, TG, rfl, ho, hb⟩
  have ITG : Hid (TG.map (·.m) = L) := ho.is
  replace AA : Hid (Liv w.heap.size (w.heap.size + 1) (fun W => Bx W (w.heap.size) 26 #[.int .i64 r.id, .int .i64 r.p, .int .i64 r.v, .bool r.n, .int .i64 r.la, .slice plA r.l.length qlA, .int .i64 r.c, .slice poA r.ok.length qoA, .slice pcA r.ch.length qcA, .slice ptA r.te.length qtA]) w7) := AA.out.kept hb
  replace R : Hid (Liv w3.heap.size w4.heap.size (MsF w3.heap.size w4.heap.size vW TW) w7) := R.out.kept hb
  replace X : Hid (Liv w4.heap.size w5.heap.size (RpF w4.heap.size w5.heap.size ⟨.slice pl4 r.l.length ql4, .slice po4 r.ok.length qo4, .slice pc4 r.ch.length qc4, .slice pt4 r.te.length qt4, M4⟩ r) w7) := X.out.kept hb
  replace X0 : Hid (Liv w5.heap.size (w5.heap.size + 1) (fun W => Bx W (w5.heap.size) 31 #[.int .i64 r.id, .int .i64 r.p, .int .i64 r.v, .bool r.n, .int .i64 r.la, .slice pl4 r.l.length ql4, .int .i64 r.c, .slice po4 r.ok.length qo4, .slice pc4 r.ch.length qc4, .slice pt4 r.te.length qt4]) w7) := X0.out.kept hb
  have G : Hid (Liv w6.heap.size w7.heap.size (MsF w6.heap.size w7.heap.size vG TG) w7) := (show Hid _ from Liv.newMs ho)
  have Z7 : Hid (w6.heap.size ≤ w7.heap.size) := hb.size
  replace BB : Hid (Below w.heap.size w w7) := (show Hid _ from BB.out.trans (hb.mono BB.out.size))
  clear hb ho
  have AA_0 := AA.out.now.cell 0
  have AA_1 := AA.out.now.cell 1
  have AA_2 := AA.out.now.cell 2
  have AA_3 := AA.out.now.cell 3
  have AA_4 := AA.out.now.cell 4
  have AA_5 := AA.out.now.cell 5
  have AA_6 := AA.out.now.cell 6
  have AA_7 := AA.out.now.cell 7
  have AA_8 := AA.out.now.cell 8
  have AA_9 := AA.out.now.cell 9
  have X0_0 := X0.out.now.cell 0
  have X0_1 := X0.out.now.cell 1
  have X0_2 := X0.out.now.cell 2
  have X0_3 := X0.out.now.cell 3
  have X0_4 := X0.out.now.cell 4
  have X0_5 := X0.out.now.cell 5
  have X0_6 := X0.out.now.cell 6
  have X0_7 := X0.out.now.cell 7
  have X0_8 := X0.out.now.cell 8
  have X0_9 := X0.out.now.cell 9
  go_wp2_with fail
  clear AA_0 AA_1 AA_2 AA_3 AA_4 AA_5 AA_6 AA_7 AA_8 AA_9 X0_0 X0_1 X0_2 X0_3 X0_4 X0_5 X0_6 X0_7 X0_8 X0_9
  refine (eqMs1 HL.out _ G.out.now R.out.now ITG.out ITW.out).mono ?_
  rintro e w8 ⟨rfl, hb⟩
  replace AA : Hid (Liv w.heap.size (w.heap.size + 1) (fun W => Bx W (w.heap.size) 26 #[.int .i64 r.id, .int .i64 r.p, .int .i64 r.v, .bool r.n, .int .i64 r.la, .slice plA r.l.length qlA, .int .i64 r.c, .slice poA r.ok.length qoA, .slice pcA r.ch.length qcA, .slice ptA r.te.length qtA]) w8) := AA.out.kept hb
  replace R : Hid (Liv w3.heap.size w4.heap.size (MsF w3.heap.size w4.heap.size vW TW) w8) := R.out.kept hb
  replace X : Hid (Liv w4.heap.size w5.heap.size (RpF w4.heap.size w5.heap.size ⟨.slice pl4 r.l.length ql4, .slice po4 r.ok.length qo4, .slice pc4 r.ch.length qc4, .slice pt4 r.te.length qt4, M4⟩ r) w8) := X.out.kept hb
  replace X0 : Hid (Liv w5.heap.size (w5.heap.size + 1) (fun W => Bx W (w5.heap.size) 31 #[.int .i64 r.id, .int .i64 r.p, .int .i64 r.v, .bool r.n, .int .i64 r.la, .slice pl4 r.l.length ql4, .int .i64 r.c, .slice po4 r.ok.length qo4, .slice pc4 r.ch.length qc4, .slice pt4 r.te.length qt4]) w8) := X0.out.kept hb
  replace G : Hid (Liv w6.heap.size w7.heap.size (MsF w6.heap.size w7.heap.size vG TG) w8) := G.out.kept hb
  have Z8 : Hid (w7.heap.size ≤ w8.heap.size) := hb.size
  replace BB : Hid (Below w.heap.size w w8) := (show Hid _ from BB.out.trans (hb.mono BB.out.size))
  clear hb
  have AA_0 := AA.out.now.cell 0
  have AA_1 := AA.out.now.cell 1
  have AA_2 := AA.out.now.cell 2
  have AA_3 := AA.out.now.cell 3
  have AA_4 := AA.out.now.cell 4
  have AA_5 := AA.out.now.cell 5
  have AA_6 := AA.out.now.cell 6
  have AA_7 := AA.out.now.cell 7
  have AA_8 := AA.out.now.cell 8
  have AA_9 := AA.out.now.cell 9
  have X0_0 := X0.out.now.cell 0
  have X0_1 := X0.out.now.cell 1
  have X0_2 := X0.out.now.cell 2
  have X0_3 := X0.out.now.cell 3
  have X0_4 := X0.out.now.cell 4
  have X0_5 := X0.out.now.cell 5
  have X0_6 := X0.out.now.cell 6
  have X0_7 := X0.out.now.cell 7
  have X0_8 := X0.out.now.cell 8
  have X0_9 := X0.out.now.cell 9
  go_upto_region 10 with fail
  clear AA_0 AA_1 AA_2 AA_3 AA_4 AA_5 AA_6 AA_7 AA_8 AA_9 X0_0 X0_1 X0_2 X0_3 X0_4 X0_5 X0_6 X0_7 X0_8 X0_9
  have helG := fun (x : World) p1 d1 p2 d2 p3 d3 p4 d4 (hb : Below w8.heap.size w8 x) (hg : GotM x r p1 d1 p2 d2 p3 d3 p4 d4) => (show Calls Try.prog 10 #[.agg #[.int .i64 r.id, .int .i64 r.p, .int .i64 r.v, .bool r.n, .int .i64 r.la, .slice pl4 r.l.length ql4, .int .i64 r.c, .slice po4 r.ok.length qo4, .slice pc4 r.ch.length qc4, .slice pt4 r.te.length qt4], .agg #[.int .i64 r.id, .int .i64 r.p, .int .i64 r.v, .bool r.n, .int .i64 r.la, .slice p1 r.l.length d1, .int .i64 r.c, .slice p2 r.ok.length d2, .slice p3 r.ch.length d3, .slice p4 r.te.length d4]] x (fun e w' => e = .returned (.bool true) ∧ Below x.heap.size x w') from by
    obtain ⟨M9, hM⟩ := hg
    exact hel r ⟨.slice pl4 r.l.length ql4, .slice po4 r.ok.length qo4, .slice pc4 r.ch.length qc4, .slice pt4 r.te.length qt4, M4⟩ ⟨.slice p1 r.l.length d1, .slice p2 r.ok.length d2, .slice p3 r.ch.length d3, .slice p4 r.te.length d4, M9⟩ x (X.out.kept hb).now.1.got hM HF.out)
  have S0 : Below w8.heap.size w8 w8.drew := ⟨rfl, rfl, rfl, Nat.le_refl _, fun _ _ => rfl⟩
  generalize hA : Act.mk _ _ = A
  obtain ⟨s, hs, s1_, s2_, s4_, s5_, s6_⟩ : ∃ s : Nat → Value, A = frRsp s (fun _ => undef) ∧ s 1 = .pointer (some ⟨w.heap.size, 0, none⟩) ∧ s 2 = .bool false ∧ s 4 = vW ∧ s 5 = .pointer (some ⟨w5.heap.size, 0, none⟩) ∧ s 6 = vG := by
    refine ⟨fun i => A.tmps.getD i undef, ?_, ?_, ?_, ?_, ?_, ?_⟩ <;> rw [← hA] <;> rfl
  rw [hs]
  clear hs hA
  refine region_heads 4 mixed (by decide) (by kernel_rfl) (by kernel_rfl) (by kernel_rfl) (by kernel_rfl) (frRsp s) dRsp (fun x => Below w8.heap.size w8 x) (GRsp r pl4 ql4 po4 qo4 pc4 qc4 pt4 qt4 plA qlA poA qoA pcA qcA ptA qtA) (fun i j hi hj h => by unfold dRsp; omega) ?put (fun _ => undef) rfl S0 ?step ?done
  case put =>
    intro i o hi ho t v
    rcases (show i = 0 ∨ i = 1 ∨ i = 2 ∨ i = 3 by omega) with rfl | rfl | rfl | rfl
    all_goals
      obtain rfl := Option.some.inj ho
      rfl
  case step =>
    intro i o hi ho t x hS hdep K hK
    rcases (show i = 0 ∨ i = 1 ∨ i = 2 ∨ i = 3 by omega) with rfl | rfl | rfl | rfl
    all_goals obtain rfl := Option.some.inj ho
    · have y0 := (X0.out.kept hS).now.cell 0
      have y1 := (X0.out.kept hS).now.cell 1
      have y2 := (X0.out.kept hS).now.cell 2
      have y3 := (X0.out.kept hS).now.cell 3
      have y4 := (X0.out.kept hS).now.cell 4
      have y5 := (X0.out.kept hS).now.cell 5
      have y6 := (X0.out.kept hS).now.cell 6
      have y7 := (X0.out.kept hS).now.cell 7
      have y8 := (X0.out.kept hS).now.cell 8
      have y9 := (X0.out.kept hS).now.cell 9
      have h2 := hK (.agg #[.int .i64 r.id, .int .i64 r.p, .int .i64 r.v, .bool r.n, .int .i64 r.la, .slice pl4 r.l.length ql4, .int .i64 r.c, .slice po4 r.ok.length qo4, .slice pc4 r.ch.length qc4, .slice pt4 r.te.length qt4]) x hS (fun j u hj hne h => h) rfl
      unfold frRsp at h2 ⊢
      clear hK
      go_simp
      simpa [Act.put, y0, y1, y2, y3, y4, y5, y6, y7, y8, y9, s1_, s2_, s4_, s5_, s6_] using h2
    · have y0 := (AA.out.kept hS).now.cell 0
      have y1 := (AA.out.kept hS).now.cell 1
      have y2 := (AA.out.kept hS).now.cell 2
      have y3 := (AA.out.kept hS).now.cell 3
      have y4 := (AA.out.kept hS).now.cell 4
      have y5 := (AA.out.kept hS).now.cell 5
      have y6 := (AA.out.kept hS).now.cell 6
      have y7 := (AA.out.kept hS).now.cell 7
      have y8 := (AA.out.kept hS).now.cell 8
      have y9 := (AA.out.kept hS).now.cell 9
      have h2 := hK (.agg #[.int .i64 r.id, .int .i64 r.p, .int .i64 r.v, .bool r.n, .int .i64 r.la, .slice plA r.l.length qlA, .int .i64 r.c, .slice poA r.ok.length qoA, .slice pcA r.ch.length qcA, .slice ptA r.te.length qtA]) x hS (fun j u hj hne h => h) rfl
      unfold frRsp at h2 ⊢
      clear hK
      go_simp
      simpa [Act.put, y0, y1, y2, y3, y4, y5, y6, y7, y8, y9, s1_, s2_, s4_, s5_, s6_] using h2
    · have e1 : t 28 = .agg #[.int .i64 r.id, .int .i64 r.p, .int .i64 r.v, .bool r.n, .int .i64 r.la, .slice plA r.l.length qlA, .int .i64 r.c, .slice poA r.ok.length qoA, .slice pcA r.ch.length qcA, .slice ptA r.te.length qtA] := hdep { on := 1, ground := Ground.data } (by simp) rfl
      refine callG1 (by rfl) 8 (.tmp 28) _ rfl (.agg #[.int .i64 r.id, .int .i64 r.p, .int .i64 r.v, .bool r.n, .int .i64 r.la, .slice plA r.l.length qlA, .int .i64 r.c, .slice poA r.ok.length qoA, .slice pcA r.ch.length qcA, .slice ptA r.te.length qtA]) e1 (Go.Proofs.enters_of Try.func8 (by kernel_rfl) rfl _) (fun v y => (∃ (p1 : Option Addr) (d1 : Nat) (p2 : Option Addr) (d2 : Nat) (p3 : Option Addr) (d3 : Nat) (p4 : Option Addr) (d4 : Nat), v = .agg #[.int .i64 r.id, .int .i64 r.p, .int .i64 r.v, .bool r.n, .int .i64 r.la, .slice p1 r.l.length d1, .int .i64 r.c, .slice p2 r.ok.length d2, .slice p3 r.ch.length d3, .slice p4 r.te.length d4] ∧ GotM y r p1 d1 p2 d2 p3 d3 p4 d4) ∧ Below x.heap.size x y) ((hto x (show RpGot x ⟨.slice plA r.l.length qlA, .slice poA r.ok.length qoA, .slice pcA r.ch.length qcA, .slice ptA r.te.length qtA, MA⟩ r from HI.out.kept (BB.out.trans (hS.mono BB.out.size)))).mono ?_) ?_
      · rintro e0 y0 ⟨pl0, ql0, po0, qo0, pc0, qc0, pt0, qt0, M0, h0, ho, _, hb9⟩
        exact ⟨_, h0, ⟨pl0, ql0, po0, qo0, pc0, qc0, pt0, qt0, rfl, ⟨M0, ho.got⟩⟩, hb9⟩
      · rintro v y ⟨h0, hb2⟩
        exact hK v y ((show Below w8.heap.size w8 y from hS.trans (hb2.mono hS.size))) (fun j u hj hne h => GRsp.keep hb2 j u hj h) h0
    · have e0 : t 27 = .agg #[.int .i64 r.id, .int .i64 r.p, .int .i64 r.v, .bool r.n, .int .i64 r.la, .slice pl4 r.l.length ql4, .int .i64 r.c, .slice po4 r.ok.length qo4, .slice pc4 r.ch.length qc4, .slice pt4 r.te.length qt4] := hdep { on := 0, ground := Ground.data } (by simp) rfl
      obtain ⟨p1_2, d1_2, p2_2, d2_2, p3_2, d3_2, p4_2, d4_2, e2, k2⟩ : ∃ (p1 : Option Addr) (d1 : Nat) (p2 : Option Addr) (d2 : Nat) (p3 : Option Addr) (d3 : Nat) (p4 : Option Addr) (d4 : Nat), t 29 = .agg #[.int .i64 r.id, .int .i64 r.p, .int .i64 r.v, .bool r.n, .int .i64 r.la, .slice p1 r.l.length d1, .int .i64 r.c, .slice p2 r.ok.length d2, .slice p3 r.ch.length d3, .slice p4 r.te.length d4] ∧ GotM x r p1 d1 p2 d2 p3 d3 p4 d4 := hdep { on := 2, ground := Ground.data } (by simp) rfl
      refine callG2 (by rfl) 10 (.tmp 27) (.tmp 29) _ rfl (.agg #[.int .i64 r.id, .int .i64 r.p, .int .i64 r.v, .bool r.n, .int .i64 r.la, .slice pl4 r.l.length ql4, .int .i64 r.c, .slice po4 r.ok.length qo4, .slice pc4 r.ch.length qc4, .slice pt4 r.te.length qt4]) (.agg #[.int .i64 r.id, .int .i64 r.p, .int .i64 r.v, .bool r.n, .int .i64 r.la, .slice p1_2 r.l.length d1_2, .int .i64 r.c, .slice p2_2 r.ok.length d2_2, .slice p3_2 r.ch.length d3_2, .slice p4_2 r.te.length d4_2]) e0 e2 (Go.Proofs.enters_of Try.func10 (by kernel_rfl) rfl _) (fun v y => (v = .bool true) ∧ Below x.heap.size x y) ((helG x _ _ _ _ _ _ _ _ hS k2).mono ?_) ?_
      · rintro e0 y0 ⟨h0, hb9⟩
        exact ⟨_, h0, rfl, hb9⟩
      · rintro v y ⟨h0, hb2⟩
        exact hK v y ((show Below w8.heap.size w8 y from hS.trans (hb2.mono hS.size))) (fun j u hj hne h => GRsp.keep hb2 j u hj h) h0
  case done =>
    intro t w9 hS hG
    have e3 : t 30 = .bool true := hG 3 (by decide)
    replace AA : Hid (Liv w.heap.size (w.heap.size + 1) (fun W => Bx W (w.heap.size) 26 #[.int .i64 r.id, .int .i64 r.p, .int .i64 r.v, .bool r.n, .int .i64 r.la, .slice plA r.l.length qlA, .int .i64 r.c, .slice poA r.ok.length qoA, .slice pcA r.ch.length qcA, .slice ptA r.te.length qtA]) w9) := AA.out.kept hS
    replace R : Hid (Liv w3.heap.size w4.heap.size (MsF w3.heap.size w4.heap.size vW TW) w9) := R.out.kept hS
    replace X : Hid (Liv w4.heap.size w5.heap.size (RpF w4.heap.size w5.heap.size ⟨.slice pl4 r.l.length ql4, .slice po4 r.ok.length qo4, .slice pc4 r.ch.length qc4, .slice pt4 r.te.length qt4, M4⟩ r) w9) := X.out.kept hS
    replace X0 : Hid (Liv w5.heap.size (w5.heap.size + 1) (fun W => Bx W (w5.heap.size) 31 #[.int .i64 r.id, .int .i64 r.p, .int .i64 r.v, .bool r.n, .int .i64 r.la, .slice pl4 r.l.length ql4, .int .i64 r.c, .slice po4 r.ok.length qo4, .slice pc4 r.ch.length qc4, .slice pt4 r.te.length qt4]) w9) := X0.out.kept hS
    replace G : Hid (Liv w6.heap.size w7.heap.size (MsF w6.heap.size w7.heap.size vG TG) w9) := G.out.kept hS
    have Z9 : Hid (w8.heap.size ≤ w9.heap.size) := hS.size
    replace BB : Hid (Below w.heap.size w w9) := (show Hid _ from BB.out.trans (hS.mono BB.out.size))
    clear hG hS S0 helG
    show wpList Try.prog _ _ [_] _ w9
    unfold frRsp
    simp only [e3, s1_, s2_, s4_, s5_, s6_]
    clear e3 s1_ s2_ s4_ s5_ s6_
    have AA_0 := AA.out.now.cell 0
    have AA_1 := AA.out.now.cell 1
    have AA_2 := AA.out.now.cell 2
    have AA_3 := AA.out.now.cell 3
    have AA_4 := AA.out.now.cell 4
    have AA_5 := AA.out.now.cell 5
    have AA_6 := AA.out.now.cell 6
    have AA_7 := AA.out.now.cell 7
    have AA_8 := AA.out.now.cell 8
    have AA_9 := AA.out.now.cell 9
    have X0_0 := X0.out.now.cell 0
    have X0_1 := X0.out.now.cell 1
    have X0_2 := X0.out.now.cell 2
    have X0_3 := X0.out.now.cell 3
    have X0_4 := X0.out.now.cell 4
    have X0_5 := X0.out.now.cell 5
    have X0_6 := X0.out.now.cell 6
    have X0_7 := X0.out.now.cell 7
    have X0_8 := X0.out.now.cell 8
    have X0_9 := X0.out.now.cell 9
    go_wp2_with fail
    clear AA_0 AA_1 AA_2 AA_3 AA_4 AA_5 AA_6 AA_7 AA_8 AA_9 X0_0 X0_1 X0_2 X0_3 X0_4 X0_5 X0_6 X0_7 X0_8 X0_9
    refine (hkl _ _ _ X.out.now.1 HA.out).mono ?_
    rintro e w10 ⟨rfl, hb⟩
    have hc : Chg w4.heap.size w5.heap.size w9 w10 := hb.chg (fun k ⟨v, hv, hk⟩ => ⟨X.out.now.1.from v hv k hk, X.out.now.2 v hv k hk⟩)
    clear X0
    replace AA : Hid (Liv w.heap.size (w.heap.size + 1) (fun W => Bx W (w.heap.size) 26 #[.int .i64 r.id, .int .i64 r.p, .int .i64 r.v, .bool r.n, .int .i64 r.la, .slice plA r.l.length qlA, .int .i64 r.c, .slice poA r.ok.length qoA, .slice pcA r.ch.length qcA, .slice ptA r.te.length qtA]) w10) := AA.out.off hc (by have := Z1.out; have := Z2.out; have := Z3.out; have := Z4.out; have := Z5.out; have := Z6.out; have := Z7.out; have := Z8.out; have := Z9.out; omega)
    replace R : Hid (Liv w3.heap.size w4.heap.size (MsF w3.heap.size w4.heap.size vW TW) w10) := R.out.off hc (by have := Z1.out; have := Z2.out; have := Z3.out; have := Z4.out; have := Z5.out; have := Z6.out; have := Z7.out; have := Z8.out; have := Z9.out; omega)
    replace G : Hid (Liv w6.heap.size w7.heap.size (MsF w6.heap.size w7.heap.size vG TG) w10) := G.out.off hc (by have := Z1.out; have := Z2.out; have := Z3.out; have := Z4.out; have := Z5.out; have := Z6.out; have := Z7.out; have := Z8.out; have := Z9.out; omega)
    clear X
    have Z10 : Hid (w9.heap.size ≤ w10.heap.size) := hc.size
    replace BB : Hid (Below w.heap.size w w10) := (show Hid _ from hc.below BB.out BB.out.size (by have := Z1.out; have := Z2.out; have := Z3.out; have := Z4.out; have := Z5.out; have := Z6.out; have := Z7.out; have := Z8.out; have := Z9.out; have := Z10.out; omega))
    clear hb hc
    have AA_0 := AA.out.now.cell 0
    have AA_1 := AA.out.now.cell 1
    have AA_2 := AA.out.now.cell 2
    have AA_3 := AA.out.now.cell 3
    have AA_4 := AA.out.now.cell 4
    have AA_5 := AA.out.now.cell 5
    have AA_6 := AA.out.now.cell 6
    have AA_7 := AA.out.now.cell 7
    have AA_8 := AA.out.now.cell 8
    have AA_9 := AA.out.now.cell 9
    go_wp2_with fail
    clear AA_0 AA_1 AA_2 AA_3 AA_4 AA_5 AA_6 AA_7 AA_8 AA_9
    refine (eqMs1 HL.out _ G.out.now R.out.now ITG.out ITW.out).mono ?_
    rintro e w11 ⟨rfl, hb⟩
    replace AA : Hid (Liv w.heap.size (w.heap.size + 1) (fun W => Bx W (w.heap.size) 26 #[.int .i64 r.id, .int .i64 r.p, .int .i64 r.v, .bool r.n, .int .i64 r.la, .slice plA r.l.length qlA, .int .i64 r.c, .slice poA r.ok.length qoA, .slice pcA r.ch.length qcA, .slice ptA r.te.length qtA]) w11) := AA.out.kept hb
    replace R : Hid (Liv w3.heap.size w4.heap.size (MsF w3.heap.size w4.heap.size vW TW) w11) := R.out.kept hb
    replace G : Hid (Liv w6.heap.size w7.heap.size (MsF w6.heap.size w7.heap.size vG TG) w11) := G.out.kept hb
    have Z11 : Hid (w10.heap.size ≤ w11.heap.size) := hb.size
    replace BB : Hid (Below w.heap.size w w11) := (show Hid _ from BB.out.trans (hb.mono BB.out.size))
    clear hb
    have AA_0 := AA.out.now.cell 0
    have AA_1 := AA.out.now.cell 1
    have AA_2 := AA.out.now.cell 2
    have AA_3 := AA.out.now.cell 3
    have AA_4 := AA.out.now.cell 4
    have AA_5 := AA.out.now.cell 5
    have AA_6 := AA.out.now.cell 6
    have AA_7 := AA.out.now.cell 7
    have AA_8 := AA.out.now.cell 8
    have AA_9 := AA.out.now.cell 9
    have hm0 : ¬ mkN TG < 0 := mkN_nn TG
    have dmm : (mkN TG != mkN TG) = false := by simp
    go_wp2_with fail
    clear AA_0 AA_1 AA_2 AA_3 AA_4 AA_5 AA_6 AA_7 AA_8 AA_9
    refine (markMs1 HL.out _ G.out.now ITG.out).mono ?_
    rintro e w12 ⟨rfl, hm, hb⟩
    have hc : Chg w6.heap.size w7.heap.size w11 w12 := hb
    replace AA : Hid (Liv w.heap.size (w.heap.size + 1) (fun W => Bx W (w.heap.size) 26 #[.int .i64 r.id, .int .i64 r.p, .int .i64 r.v, .bool r.n, .int .i64 r.la, .slice plA r.l.length qlA, .int .i64 r.c, .slice poA r.ok.length qoA, .slice pcA r.ch.length qcA, .slice ptA r.te.length qtA]) w12) := AA.out.off hc (by have := Z1.out; have := Z2.out; have := Z3.out; have := Z4.out; have := Z5.out; have := Z6.out; have := Z7.out; have := Z8.out; have := Z9.out; have := Z10.out; have := Z11.out; omega)
    replace R : Hid (Liv w3.heap.size w4.heap.size (MsF w3.heap.size w4.heap.size vW TW) w12) := R.out.off hc (by have := Z1.out; have := Z2.out; have := Z3.out; have := Z4.out; have := Z5.out; have := Z6.out; have := Z7.out; have := Z8.out; have := Z9.out; have := Z10.out; have := Z11.out; omega)
    replace G : Hid (Liv w6.heap.size w7.heap.size (MsF w6.heap.size w7.heap.size vG (mkTe 1 TG)) w12) := (show Hid _ from Liv.ms hm (Nat.le_trans G.out.top hb.size))
    have Z12 : Hid (w11.heap.size ≤ w12.heap.size) := hc.size
    replace BB : Hid (Below w.heap.size w w12) := (show Hid _ from hc.below BB.out BB.out.size (by have := Z1.out; have := Z2.out; have := Z3.out; have := Z4.out; have := Z5.out; have := Z6.out; have := Z7.out; have := Z8.out; have := Z9.out; have := Z10.out; have := Z11.out; have := Z12.out; omega))
    clear hb hc hm
    have AA_0 := AA.out.now.cell 0
    have AA_1 := AA.out.now.cell 1
    have AA_2 := AA.out.now.cell 2
    have AA_3 := AA.out.now.cell 3
    have AA_4 := AA.out.now.cell 4
    have AA_5 := AA.out.now.cell 5
    have AA_6 := AA.out.now.cell 6
    have AA_7 := AA.out.now.cell 7
    have AA_8 := AA.out.now.cell 8
    have AA_9 := AA.out.now.cell 9
    go_wp2_with fail
    clear AA_0 AA_1 AA_2 AA_3 AA_4 AA_5 AA_6 AA_7 AA_8 AA_9
    refine (heldMs1 HL.out _ G.out.now ITG.out).mono ?_
    rintro e w13 ⟨rfl, hb⟩
    replace AA : Hid (Liv w.heap.size (w.heap.size + 1) (fun W => Bx W (w.heap.size) 26 #[.int .i64 r.id, .int .i64 r.p, .int .i64 r.v, .bool r.n, .int .i64 r.la, .slice plA r.l.length qlA, .int .i64 r.c, .slice poA r.ok.length qoA, .slice pcA r.ch.length qcA, .slice ptA r.te.length qtA]) w13) := AA.out.kept hb
    replace R : Hid (Liv w3.heap.size w4.heap.size (MsF w3.heap.size w4.heap.size vW TW) w13) := R.out.kept hb
    replace G : Hid (Liv w6.heap.size w7.heap.size (MsF w6.heap.size w7.heap.size vG (mkTe 1 TG)) w13) := G.out.kept hb
    have Z13 : Hid (w12.heap.size ≤ w13.heap.size) := hb.size
    replace BB : Hid (Below w.heap.size w w13) := (show Hid _ from BB.out.trans (hb.mono BB.out.size))
    clear hb
    have AA_0 := AA.out.now.cell 0
    have AA_1 := AA.out.now.cell 1
    have AA_2 := AA.out.now.cell 2
    have AA_3 := AA.out.now.cell 3
    have AA_4 := AA.out.now.cell 4
    have AA_5 := AA.out.now.cell 5
    have AA_6 := AA.out.now.cell 6
    have AA_7 := AA.out.now.cell 7
    have AA_8 := AA.out.now.cell 8
    have AA_9 := AA.out.now.cell 9
    go_wp2_with fail
    clear AA_0 AA_1 AA_2 AA_3 AA_4 AA_5 AA_6 AA_7 AA_8 AA_9
    refine (hto _ (HI.out.kept BB.out)).mono ?_
    rintro e w14 ⟨pl6, ql6, po6, qo6, pc6, qc6, pt6, qt6, M6, rfl, ho, _, hb⟩
    replace AA : Hid (Liv w.heap.size (w.heap.size + 1) (fun W => Bx W (w.heap.size) 26 #[.int .i64 r.id, .int .i64 r.p, .int .i64 r.v, .bool r.n, .int .i64 r.la, .slice plA r.l.length qlA, .int .i64 r.c, .slice poA r.ok.length qoA, .slice pcA r.ch.length qcA, .slice ptA r.te.length qtA]) w14) := AA.out.kept hb
    replace R : Hid (Liv w3.heap.size w4.heap.size (MsF w3.heap.size w4.heap.size vW TW) w14) := R.out.kept hb
    replace G : Hid (Liv w6.heap.size w7.heap.size (MsF w6.heap.size w7.heap.size vG (mkTe 1 TG)) w14) := G.out.kept hb
    have U : Hid (Liv w13.heap.size w14.heap.size (RpF w13.heap.size w14.heap.size ⟨.slice pl6 r.l.length ql6, .slice po6 r.ok.length qo6, .slice pc6 r.ch.length qc6, .slice pt6 r.te.length qt6, M6⟩ r) w14) := (show Hid _ from Liv.newRp ho)
    have Z14 : Hid (w13.heap.size ≤ w14.heap.size) := hb.size
    replace BB : Hid (Below w.heap.size w w14) := (show Hid _ from BB.out.trans (hb.mono BB.out.size))
    clear hb ho
    have AA_0 := AA.out.now.cell 0
    have AA_1 := AA.out.now.cell 1
    have AA_2 := AA.out.now.cell 2
    have AA_3 := AA.out.now.cell 3
    have AA_4 := AA.out.now.cell 4
    have AA_5 := AA.out.now.cell 5
    have AA_6 := AA.out.now.cell 6
    have AA_7 := AA.out.now.cell 7
    have AA_8 := AA.out.now.cell 8
    have AA_9 := AA.out.now.cell 9
    go_wp2_with fail
    clear AA_0 AA_1 AA_2 AA_3 AA_4 AA_5 AA_6 AA_7 AA_8 AA_9
    refine (him _ _ U.out.now.1.got).mono ?_
    rintro e w15 ⟨vH, TH, rfl, ho, hb⟩
    have ITH : Hid (TH.map (·.m) = L) := ho.is
    replace AA : Hid (Liv w.heap.size (w.heap.size + 1) (fun W => Bx W (w.heap.size) 26 #[.int .i64 r.id, .int .i64 r.p, .int .i64 r.v, .bool r.n, .int .i64 r.la, .slice plA r.l.length qlA, .int .i64 r.c, .slice poA r.ok.length qoA, .slice pcA r.ch.length qcA, .slice ptA r.te.length qtA]) w15) := AA.out.kept hb
    replace R : Hid (Liv w3.heap.size w4.heap.size (MsF w3.heap.size w4.heap.size vW TW) w15) := R.out.kept hb
    replace G : Hid (Liv w6.heap.size w7.heap.size (MsF w6.heap.size w7.heap.size vG (mkTe 1 TG)) w15) := G.out.kept hb
    clear U
    have H : Hid (Liv w14.heap.size w15.heap.size (MsF w14.heap.size w15.heap.size vH TH) w15) := (show Hid _ from Liv.newMs ho)
    have Z15 : Hid (w14.heap.size ≤ w15.heap.size) := hb.size
    replace BB : Hid (Below w.heap.size w w15) := (show Hid _ from BB.out.trans (hb.mono BB.out.size))
    clear hb ho
    have AA_0 := AA.out.now.cell 0
    have AA_1 := AA.out.now.cell 1
    have AA_2 := AA.out.now.cell 2
    have AA_3 := AA.out.now.cell 3
    have AA_4 := AA.out.now.cell 4
    have AA_5 := AA.out.now.cell 5
    have AA_6 := AA.out.now.cell 6
    have AA_7 := AA.out.now.cell 7
    have AA_8 := AA.out.now.cell 8
    have AA_9 := AA.out.now.cell 9
    go_wp2_with fail
    clear AA_0 AA_1 AA_2 AA_3 AA_4 AA_5 AA_6 AA_7 AA_8 AA_9
    refine (eqMs1 HL.out _ H.out.now R.out.now ITH.out ITW.out).mono ?_
    rintro e w16 ⟨rfl, hb⟩
    replace AA : Hid (Liv w.heap.size (w.heap.size + 1) (fun W => Bx W (w.heap.size) 26 #[.int .i64 r.id, .int .i64 r.p, .int .i64 r.v, .bool r.n, .int .i64 r.la, .slice plA r.l.length qlA, .int .i64 r.c, .slice poA r.ok.length qoA, .slice pcA r.ch.length qcA, .slice ptA r.te.length qtA]) w16) := AA.out.kept hb
    replace R : Hid (Liv w3.heap.size w4.heap.size (MsF w3.heap.size w4.heap.size vW TW) w16) := R.out.kept hb
    replace G : Hid (Liv w6.heap.size w7.heap.size (MsF w6.heap.size w7.heap.size vG (mkTe 1 TG)) w16) := G.out.kept hb
    replace H : Hid (Liv w14.heap.size w15.heap.size (MsF w14.heap.size w15.heap.size vH TH) w16) := H.out.kept hb
    have Z16 : Hid (w15.heap.size ≤ w16.heap.size) := hb.size
    replace BB : Hid (Below w.heap.size w w16) := (show Hid _ from BB.out.trans (hb.mono BB.out.size))
    clear hb
    have AA_0 := AA.out.now.cell 0
    have AA_1 := AA.out.now.cell 1
    have AA_2 := AA.out.now.cell 2
    have AA_3 := AA.out.now.cell 3
    have AA_4 := AA.out.now.cell 4
    have AA_5 := AA.out.now.cell 5
    have AA_6 := AA.out.now.cell 6
    have AA_7 := AA.out.now.cell 7
    have AA_8 := AA.out.now.cell 8
    have AA_9 := AA.out.now.cell 9
    go_wp2_with fail
    clear AA_0 AA_1 AA_2 AA_3 AA_4 AA_5 AA_6 AA_7 AA_8 AA_9
    refine (heldMs1 HL.out _ G.out.now ITG.out).mono ?_
    rintro e w17 ⟨rfl, hb⟩
    replace AA : Hid (Liv w.heap.size (w.heap.size + 1) (fun W => Bx W (w.heap.size) 26 #[.int .i64 r.id, .int .i64 r.p, .int .i64 r.v, .bool r.n, .int .i64 r.la, .slice plA r.l.length qlA, .int .i64 r.c, .slice poA r.ok.length qoA, .slice pcA r.ch.length qcA, .slice ptA r.te.length qtA]) w17) := AA.out.kept hb
    replace R : Hid (Liv w3.heap.size w4.heap.size (MsF w3.heap.size w4.heap.size vW TW) w17) := R.out.kept hb
    replace G : Hid (Liv w6.heap.size w7.heap.size (MsF w6.heap.size w7.heap.size vG (mkTe 1 TG)) w17) := G.out.kept hb
    replace H : Hid (Liv w14.heap.size w15.heap.size (MsF w14.heap.size w15.heap.size vH TH) w17) := H.out.kept hb
    have Z17 : Hid (w16.heap.size ≤ w17.heap.size) := hb.size
    replace BB : Hid (Below w.heap.size w w17) := (show Hid _ from BB.out.trans (hb.mono BB.out.size))
    clear hb
    have AA_0 := AA.out.now.cell 0
    have AA_1 := AA.out.now.cell 1
    have AA_2 := AA.out.now.cell 2
    have AA_3 := AA.out.now.cell 3
    have AA_4 := AA.out.now.cell 4
    have AA_5 := AA.out.now.cell 5
    have AA_6 := AA.out.now.cell 6
    have AA_7 := AA.out.now.cell 7
    have AA_8 := AA.out.now.cell 8
    have AA_9 := AA.out.now.cell 9
    go_wp2
    go_ret
    exact ⟨rfl, BB.out⟩
end Go.Proofs.Ytdahfhkeeemdiaa.Rl
namespace Go.Proofs.Ytdahfhkeeemdiaa
open Go.RowKit Go.ChangeShapes Go.WideShapes Go.ChangeAt Go.Joins
set_option linter.unusedVariables false

theorem cell_ltO {w : World} {b o : Nat} {v : Value} (h : w.cell? ⟨b, o, Option.none⟩ = some v) : b < w.heap.size := by
  cases e : w.heap[b]? with
  | none => simp [World.cell?, e] at h
  | some x => exact (Array.getElem?_eq_some_iff.1 e).1
theorem open_nums {H : Type} {enc : TypeId × Value → H} {W : World} {base : Nat} {spare : Nat → Bool} {held : Bool} {fuel : Nat} {sa : Option Addr} {sl sc : Nat} {x : DataW H × List MemPlace}
    (h : DataW.trod enc Try.prog W base spare held fuel 23 (Value.cells (.slice sa sl sc)).toList = some x) :
    ∃ l : List Int, Sls intE W (.slice sa sl sc) l := by
  rcases open_ints Try.underlying23 Try.underlying2 (by kernel_rfl) h with ⟨hcs, _⟩ | ⟨a, l, c, zs, hcs, _, hl, hm, hz, _, hcell, hwz⟩
  · simp [Value.cells] at hcs
    obtain ⟨rfl, rfl, rfl⟩ := hcs
    exact ⟨[], Sls.nil (Nat.zero_le _)⟩
  · simp [Value.cells] at hcs
    obtain ⟨rfl, rfl, rfl⟩ := hcs
    have hlz : sl ≤ zs.length := by rw [hz]; split <;> omega
    have hlt : (zs.take sl).length = sl := by rw [List.length_take]; omega
    refine ⟨zs.take sl, some a, sc, by rw [hlt], by rw [hlt]; exact hl, hm, fun h0 => ?_⟩
    rw [hlt] at h0
    obtain ⟨b, o, sp⟩ := a
    have c0 := hcell 0 (by omega)
    have hsp : sp = Option.none := by
      have : W.cell? ⟨b, o, sp⟩ = some (.int .i64 (zs.getD 0 0)) := by simpa [Addr.add] using c0
      exact Go.Proofs.cell_spot this
    subst hsp
    have hb : b < W.heap.size := by
      rw [addr_add] at c0
      exact cell_ltO c0
    refine ⟨b, o, rfl, hb, fun j u hu => ?_⟩
    have hj : j < sl := by
      have := (List.getElem?_eq_some_iff.1 hu).1
      rw [cellsE_length, hlt] at this
      simpa [intE] using this
    rw [cellsN_at _ j (by rw [hlt]; exact hj)] at hu
    have c1 := hcell j (by omega)
    rw [addr_add] at c1
    rw [c1, ← hu]
    have hjz : j < zs.length := by omega
    simp [List.getD, hjz]
end Go.Proofs.Ytdahfhkeeemdiaa
namespace Go.Proofs.Ytdahfhkeeemdiaa
open Go.RowKit Go.ChangeShapes Go.WideShapes Go.ChangeAt Go.Joins Go.Sort

theorem Sls.ofP {w : World} {v : Value} {l : List ByteArray} (h : StrsP w v l) : Sls txtE w v l := by
  obtain ⟨a, cap, hv, h1, h2, h3⟩ := h
  refine ⟨a, cap, hv, h1, h2, fun h0 => ?_⟩
  obtain ⟨g, o, ha, hg, hc⟩ := h3 h0
  refine ⟨g, o, ha, hg, fun j u hu => ?_⟩
  have hj : j < l.length := by
    have := (List.getElem?_eq_some_iff.1 hu).1
    rw [cellsX_map] at this
    simpa using this
  rw [cellsX_at l j hj] at hu
  rw [hc j hj]
  exact hu
theorem open_txs {H : Type} {enc : TypeId × Value → H} {W : World} {base : Nat} {spare : Nat → Bool} {held : Bool} {fuel : Nat} {sa : Option Addr} {sl sc : Nat} {x : DataW H × List MemPlace}
    (h : DataW.trod enc Try.prog W base spare held fuel 22 (Value.cells (.slice sa sl sc)).toList = some x) :
    ∃ l : List ByteArray, Sls txtE W (.slice sa sl sc) l ∧ ∀ p ∈ l, p.size ≤ maxLen := by
  rcases open_strings Try.underlying22 Try.underlying9 (by kernel_rfl) h with ⟨hcs, _⟩ | ⟨a, len, cap, ss, hcs, hb, hl, hm, hlen, _, hcell, hz⟩
  · simp [Value.cells] at hcs
    obtain ⟨rfl, rfl, rfl⟩ := hcs
    exact ⟨[], Sls.ofP ⟨Option.none, 0, rfl, Nat.le_refl _, Nat.zero_le _, fun h => absurd h (by simp)⟩, fun f hf => by cases hf⟩
  · simp [Value.cells] at hcs
    obtain ⟨rfl, rfl, rfl⟩ := hcs
    have hls : sl ≤ ss.length := by rw [hlen]; split <;> omega
    have htl : (ss.take sl).length = sl := by rw [List.length_take]; omega
    refine ⟨ss.take sl, Sls.ofP ⟨some a, sc, by rw [htl], by omega, hm, fun h0 => ?_⟩, fun p hp => hz p (List.mem_of_mem_take hp)⟩
    have h0' : 0 < sl := by omega
    have c0 := hcell 0 (by omega)
    obtain ⟨b, o, sp⟩ := a
    have hsp : sp = Option.none := by
      have : W.cell? ⟨b, o, sp⟩ = some (.string (ss.getD 0 ByteArray.empty)) := by simpa [Addr.add] using c0
      exact Go.Proofs.cell_spot this
    subst hsp
    rw [addr_add] at c0
    refine ⟨b, o, rfl, World.block_lt_of_cell? W ⟨b, o + 0, Option.none⟩ c0, fun j hj => ?_⟩
    have hj' : j < ss.length := by omega
    have c1 := hcell j hj'
    rw [addr_add] at c1
    rw [c1]
    simp [hj']
end Go.Proofs.Ytdahfhkeeemdiaa
