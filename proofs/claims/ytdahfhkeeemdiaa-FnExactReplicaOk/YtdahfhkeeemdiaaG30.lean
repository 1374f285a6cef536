/-
  What a replica of a call lives in; the walk of FnExactReplicaOk, given the program's ReplicaOk.
  Rows of numbers that came in, opened.
  A slice of texts that came in, opened, as a row.
-/
import Derived.Test.YtdahfhkeeemdiaaG22
import Derived.Test.YtdahfhkeeemdiaaG29
import Derived.Test.YtdahfhkeeemdiaaG28
import Derived.Deep.RegionWith
import Derived.Deep.DeepCutAuto
import Derived.Deep.Cut
import Derived.Deep.CutRange
import Derived.Test.YtdahfhkeeemdiaaG17
import Derived.ChangeSlices
import Derived.ChangeArms
import Derived.ProofKit
import Derived.OpenShut
import Derived.ShutString
import Derived.Lib.SmallJoins
import Derived.Lib.LaidU8
import Derived.Test.YtdahfhkeeemdiaaG18
namespace Go.Proofs.Ytdahfhkeeemdiaa.Rl
open Go.RowKit Go.Sort
set_option linter.unusedVariables false
set_option linter.unusedSimpArgs false

/-- A replica whose rows lie in blocks from lo to hi. -/
def RpF (lo hi : Nat) (u : Rv) (r : Rp) (W : World) : Prop := RpHas W lo u r ∧ ∀ v ∈ u.rows, ∀ k, v.ownBlock = some k → k < hi
theorem Liv.rp {W : World} {lo hi : Nat} {u : Rv} {r : Rp} (h : RpHas W lo u r) (hu : ∀ v ∈ u.rows, ∀ k, v.ownBlock = some k → k < hi) (ht : hi ≤ W.heap.size) : Liv lo hi (RpF lo hi u r) W :=
  ⟨⟨h, hu⟩, ht, fun W' hW _ => ⟨h.off fun v hv k hk => hW k (h.from v hv k hk) (hu v hv k hk), hu⟩⟩
theorem Liv.newRp {W : World} {lo : Nat} {u : Rv} {r : Rp} (h : RpHas W lo u r) : Liv lo W.heap.size (RpF lo W.heap.size u r) W := Liv.rp h h.under (Nat.le_refl _)
theorem toRpS (r : Rp) (u : Rv) (w : World) (h : RpGot w u r) (hf : Fit r) :
    Calls Try.prog 8 #[rpA r u] w fun e w' => ∃ pl0 ql0 po0 qo0 pc0 qc0 pt0 qt0 M0, e = .returned (.agg #[.int .i64 r.id, .int .i64 r.p, .int .i64 r.v, .bool r.n, .int .i64 r.la, .slice pl0 r.l.length ql0, .int .i64 r.c, .slice po0 r.ok.length qo0, .slice pc0 r.ch.length qc0, .slice pt0 r.te.length qt0]) ∧ RpHas w' w.heap.size ⟨.slice pl0 r.l.length ql0, .slice po0 r.ok.length qo0, .slice pc0 r.ch.length qc0, .slice pt0 r.te.length qt0, M0⟩ r ∧ RpAp ⟨.slice pl0 r.l.length ql0, .slice po0 r.ok.length qo0, .slice pc0 r.ch.length qc0, .slice pt0 r.te.length qt0, M0⟩ ∧ Below w.heap.size w w' :=
  (toRp r u w h hf).mono fun e w' ⟨u', h1, h2, h3, h4⟩ => by
    obtain ⟨pl0, ql0, po0, qo0, pc0, qc0, pt0, qt0, M0, rfl⟩ := h2.got.form
    exact ⟨pl0, ql0, po0, qo0, pc0, qc0, pt0, qt0, M0, h1, h2, h3, h4⟩
/-- Rows that read as a replica's. -/
def GotM (x : World) (r : Rp) (p1 : Option Addr) (d1 : Nat) (p2 : Option Addr) (d2 : Nat) (p3 : Option Addr) (d3 : Nat) (p4 : Option Addr) (d4 : Nat) : Prop := ∃ M, RpGot x ⟨.slice p1 r.l.length d1, .slice p2 r.ok.length d2, .slice p3 r.ch.length d3, .slice p4 r.te.length d4, M⟩ r
theorem GotM.kept {x y : World} {r : Rp} {p1 : Option Addr} {d1 : Nat} {p2 : Option Addr} {d2 : Nat} {p3 : Option Addr} {d3 : Nat} {p4 : Option Addr} {d4 : Nat} (h : GotM x r p1 d1 p2 d2 p3 d3 p4 d4) (hb : Below x.heap.size x y) : GotM y r p1 d1 p2 d2 p3 d3 p4 d4 := by
  obtain ⟨M, h⟩ := h
  exact ⟨M, h.kept hb⟩
def frRok (s t : Nat → Value) : Act := { tmps := #[s 0, s 1, s 2, s 3, s 4, s 5, s 6, s 7, s 8, s 9, s 10, s 11, s 12, s 13, s 14, s 15, s 16, s 17, s 18, s 19, s 20, s 21, t 22, t 23, t 24, t 25, s 26], defers := [] }
def dRok (i : Nat) : Nat := i + 22
def GRok (r : Rp) (pl4 : Option Addr) (ql4 : Nat) (po4 : Option Addr) (qo4 : Nat) (pc4 : Option Addr) (qc4 : Nat) (pt4 : Option Addr) (qt4 : Nat) (plA : Option Addr) (qlA : Nat) (poA : Option Addr) (qoA : Nat) (pcA : Option Addr) (qcA : Nat) (ptA : Option Addr) (qtA : Nat) (i : Nat) (x : World) (v : Value) : Prop := match i with
  | 0 => v = .agg #[.int .i64 r.id, .int .i64 r.p, .int .i64 r.v, .bool r.n, .int .i64 r.la, .slice pl4 r.l.length ql4, .int .i64 r.c, .slice po4 r.ok.length qo4, .slice pc4 r.ch.length qc4, .slice pt4 r.te.length qt4]
  | 1 => v = .agg #[.int .i64 r.id, .int .i64 r.p, .int .i64 r.v, .bool r.n, .int .i64 r.la, .slice plA r.l.length qlA, .int .i64 r.c, .slice poA r.ok.length qoA, .slice pcA r.ch.length qcA, .slice ptA r.te.length qtA]
  | 2 => ∃ (p1 : Option Addr) (d1 : Nat) (p2 : Option Addr) (d2 : Nat) (p3 : Option Addr) (d3 : Nat) (p4 : Option Addr) (d4 : Nat), v = .agg #[.int .i64 r.id, .int .i64 r.p, .int .i64 r.v, .bool r.n, .int .i64 r.la, .slice p1 r.l.length d1, .int .i64 r.c, .slice p2 r.ok.length d2, .slice p3 r.ch.length d3, .slice p4 r.te.length d4] ∧ GotM x r p1 d1 p2 d2 p3 d3 p4 d4
  | 3 => v = .bool true
  | _ => True
theorem GRok.keep {r : Rp} {pl4 : Option Addr} {ql4 : Nat} {po4 : Option Addr} {qo4 : Nat} {pc4 : Option Addr} {qc4 : Nat} {pt4 : Option Addr} {qt4 : Nat} {plA : Option Addr} {qlA : Nat} {poA : Option Addr} {qoA : Nat} {pcA : Option Addr} {qcA : Nat} {ptA : Option Addr} {qtA : Nat} {x y : World} (hb : Below x.heap.size x y) (j : Nat) (v : Value) (hj : j < 4) (h : GRok r pl4 ql4 po4 qo4 pc4 qc4 pt4 qt4 plA qlA poA qoA pcA qcA ptA qtA j x v) : GRok r pl4 ql4 po4 qo4 pc4 qc4 pt4 qt4 plA qlA poA qoA pcA qcA ptA qtA j y v := by
  rcases (show j = 0 ∨ j = 1 ∨ j = 2 ∨ j = 3 by omega) with rfl | rfl | rfl | rfl
  · exact h
  · exact h
  · obtain ⟨p1, d1, p2, d2, p3, d3, p4, d4, h1, h2⟩ := h; exact ⟨p1, d1, p2, d2, p3, d3, p4, d4, h1, h2.kept hb⟩
  · exact h
set_option maxRecDepth 100000 in
set_option maxHeartbeats 8000000 in
theorem walkRok (r : Rp) (u : Rv) (w : World) (h : RpGot w u r) (hL : Lens r) :
    Calls Try.prog 3 #[rpA r u] w fun e w' => e = .returned (.bool true) ∧ Below w.heap.size w w' := by
  obtain ⟨plA, qlA, poA, qoA, pcA, qcA, ptA, qtA, MA, rfl⟩ := h.form
  have HI : Hid (RpGot w ⟨.slice plA r.l.length qlA, .slice poA r.ok.length qoA, .slice pcA r.ch.length qcA, .slice ptA r.te.length qtA, MA⟩ r) := h
  have hsz := fun W hW => szRp r ⟨.slice plA r.l.length qlA, .slice poA r.ok.length qoA, .slice pcA r.ch.length qcA, .slice ptA r.te.length qtA, MA⟩ 1048576 (by decide) (by decide) W hW hL
  have hto := fun (hf : Fit r) W hW => toRpS r ⟨.slice plA r.l.length qlA, .slice poA r.ok.length qoA, .slice pcA r.ch.length qcA, .slice ptA r.te.length qtA, MA⟩ W hW hf
  have hel := fun (r : Rp) ux uy W hx hy (hf : Fit r) => eqRp r ux uy W hx hy hf
  have hsp := fun (hf : Fit r) ux W hW => specRok r ux W hW hf
  have him := fun (hf : Fit r) ux W hW => implRok r ux W hW hf
  generalize dB (RpOk r) = T at hsp him
  have dT : (T != T) = false := by simp
  unfold rpA at *
  simp only at hsz hto ⊢
  clear h hL
  have AA : Hid (Liv w.heap.size (w.heap.size + 1) (fun W => Bx W (w.heap.size) 26 #[.int .i64 r.id, .int .i64 r.p, .int .i64 r.v, .bool r.n, .int .i64 r.la, .slice plA r.l.length qlA, .int .i64 r.c, .slice poA r.ok.length qoA, .slice pcA r.ch.length qcA, .slice ptA r.te.length qtA]) (w.alloc (.cells #[.int .i64 r.id, .int .i64 r.p, .int .i64 r.v, .bool r.n, .int .i64 r.la, .slice plA r.l.length qlA, .int .i64 r.c, .slice poA r.ok.length qoA, .slice pcA r.ch.length qcA, .slice ptA r.te.length qtA] 26))) := (show Hid _ from Liv.box (Bx.new _ _ _))
  have BB : Hid (Below w.heap.size w (w.alloc (.cells #[.int .i64 r.id, .int .i64 r.p, .int .i64 r.v, .bool r.n, .int .i64 r.la, .slice plA r.l.length qlA, .int .i64 r.c, .slice poA r.ok.length qoA, .slice pcA r.ch.length qcA, .slice ptA r.te.length qtA] 26))) := (Below.refl _ w).alloc (Nat.le_refl _) _
  have zA : (w.alloc (.cells #[.int .i64 r.id, .int .i64 r.p, .int .i64 r.v, .bool r.n, .int .i64 r.la, .slice plA r.l.length qlA, .int .i64 r.c, .slice poA r.ok.length qoA, .slice pcA r.ch.length qcA, .slice ptA r.te.length qtA] 26)).heap.size = w.heap.size + 1 := by simp
  generalize hw1 : (w.alloc (.cells #[.int .i64 r.id, .int .i64 r.p, .int .i64 r.v, .bool r.n, .int .i64 r.la, .slice plA r.l.length qlA, .int .i64 r.c, .slice poA r.ok.length qoA, .slice pcA r.ch.length qcA, .slice ptA r.te.length qtA] 26)) = w1 at BB zA AA
  have Z1 : Hid (w1.heap.size = w.heap.size + 1) := zA
  clear zA
  go_enter Try.func3, Try.ntmps3
  have AA_0 := AA.out.now.cell 0
  have AA_1 := AA.out.now.cell 1
  have AA_2 := AA.out.now.cell 2
  have AA_3 := AA.out.now.cell 3
  have AA_4 := AA.out.now.cell 4
  have AA_5 := AA.out.now.cell 5
  have AA_6 := AA.out.now.cell 6
  have AA_7 := AA.out.now.cell 7
  have AA_8 := AA.out.now.cell 8
  have AA_9 := AA.out.now.cell 9
  go_wp2_with fail
  clear hw1
  clear AA_0 AA_1 AA_2 AA_3 AA_4 AA_5 AA_6 AA_7 AA_8 AA_9
  refine (hsz _ (HI.out.kept BB.out)).mono ?_
  rintro e w2 ⟨⟨z, rfl, q1, q2, q3⟩, hb⟩
  replace AA : Hid (Liv w.heap.size (w.heap.size + 1) (fun W => Bx W (w.heap.size) 26 #[.int .i64 r.id, .int .i64 r.p, .int .i64 r.v, .bool r.n, .int .i64 r.la, .slice plA r.l.length qlA, .int .i64 r.c, .slice poA r.ok.length qoA, .slice pcA r.ch.length qcA, .slice ptA r.te.length qtA]) w2) := AA.out.kept hb
  have Z2 : Hid (w1.heap.size ≤ w2.heap.size) := hb.size
  replace BB : Hid (Below w.heap.size w w2) := (show Hid _ from BB.out.trans (hb.mono BB.out.size))
  clear hb
  have AA_0 := AA.out.now.cell 0
  have AA_1 := AA.out.now.cell 1
  have AA_2 := AA.out.now.cell 2
  have AA_3 := AA.out.now.cell 3
  have AA_4 := AA.out.now.cell 4
  have AA_5 := AA.out.now.cell 5
  have AA_6 := AA.out.now.cell 6
  have AA_7 := AA.out.now.cell 7
  have AA_8 := AA.out.now.cell 8
  have AA_9 := AA.out.now.cell 9
  by_cases hV : z < 0
  · go_wp2
    go_ret
    exact ⟨rfl, BB.out⟩
  have hf : Fit r := (q3 (by omega)).1
  have HF : Hid (Fit r) := hf
  replace hto := hto hf; replace hsp := hsp hf; replace him := him hf
  clear q1 q2 q3 hf
  go_wp2_with fail
  clear AA_0 AA_1 AA_2 AA_3 AA_4 AA_5 AA_6 AA_7 AA_8 AA_9
  refine (hto _ (HI.out.kept BB.out)).mono ?_
  rintro e w3 ⟨pl2, ql2, po2, qo2, pc2, qc2, pt2, qt2, M2, rfl, ho, _, hb⟩
  replace AA : Hid (Liv w.heap.size (w.heap.size + 1) (fun W => Bx W (w.heap.size) 26 #[.int .i64 r.id, .int .i64 r.p, .int .i64 r.v, .bool r.n, .int .i64 r.la, .slice plA r.l.length qlA, .int .i64 r.c, .slice poA r.ok.length qoA, .slice pcA r.ch.length qcA, .slice ptA r.te.length qtA]) w3) := AA.out.kept hb
  have U : Hid (Liv w2.heap.size w3.heap.size (RpF w2.heap.size w3.heap.size ⟨.slice pl2 r.l.length ql2, .slice po2 r.ok.length qo2, .slice pc2 r.ch.length qc2, .slice pt2 r.te.length qt2, M2⟩ r) w3) := (show Hid _ from Liv.newRp ho)
  have Z3 : Hid (w2.heap.size ≤ w3.heap.size) := hb.size
  replace BB : Hid (Below w.heap.size w w3) := (show Hid _ from BB.out.trans (hb.mono BB.out.size))
  clear hb ho
  have AA_0 := AA.out.now.cell 0
  have AA_1 := AA.out.now.cell 1
  have AA_2 := AA.out.now.cell 2
  have AA_3 := AA.out.now.cell 3
  have AA_4 := AA.out.now.cell 4
  have AA_5 := AA.out.now.cell 5
  have AA_6 := AA.out.now.cell 6
  have AA_7 := AA.out.now.cell 7
  have AA_8 := AA.out.now.cell 8
  have AA_9 := AA.out.now.cell 9
  go_wp2_with fail
  clear AA_0 AA_1 AA_2 AA_3 AA_4 AA_5 AA_6 AA_7 AA_8 AA_9
  refine (hsp _ _ U.out.now.1.got).mono ?_
  rintro e w4 ⟨rfl, hb⟩
  replace AA : Hid (Liv w.heap.size (w.heap.size + 1) (fun W => Bx W (w.heap.size) 26 #[.int .i64 r.id, .int .i64 r.p, .int .i64 r.v, .bool r.n, .int .i64 r.la, .slice plA r.l.length qlA, .int .i64 r.c, .slice poA r.ok.length qoA, .slice pcA r.ch.length qcA, .slice ptA r.te.length qtA]) w4) := AA.out.kept hb
  clear U
  have Z4 : Hid (w3.heap.size ≤ w4.heap.size) := hb.size
  replace BB : Hid (Below w.heap.size w w4) := (show Hid _ from BB.out.trans (hb.mono BB.out.size))
  clear hb
  have AA_0 := AA.out.now.cell 0
  have AA_1 := AA.out.now.cell 1
  have AA_2 := AA.out.now.cell 2
  have AA_3 := AA.out.now.cell 3
  have AA_4 := AA.out.now.cell 4
  have AA_5 := AA.out.now.cell 5
  have AA_6 := AA.out.now.cell 6
  have AA_7 := AA.out.now.cell 7
  have AA_8 := AA.out.now.cell 8
  have AA_9 := AA.out.now.cell 9
  go_wp2_with fail
  clear AA_0 AA_1 AA_2 AA_3 AA_4 AA_5 AA_6 AA_7 AA_8 AA_9
  refine (hto _ (HI.out.kept BB.out)).mono ?_
  rintro e w5 ⟨pl4, ql4, po4, qo4, pc4, qc4, pt4, qt4, M4, rfl, ho, _, hb⟩
  replace AA : Hid (Liv w.heap.size (w.heap.size + 1) (fun W => Bx W (w.heap.size) 26 #[.int .i64 r.id, .int .i64 r.p, .int .i64 r.v, .bool r.n, .int .i64 r.la, .slice plA r.l.length qlA, .int .i64 r.c, .slice poA r.ok.length qoA, .slice pcA r.ch.length qcA, .slice ptA r.te.length qtA]) w5) := AA.out.kept hb
  have X : Hid (Liv w4.heap.size w5.heap.size (RpF w4.heap.size w5.heap.size ⟨.slice pl4 r.l.length ql4, .slice po4 r.ok.length qo4, .slice pc4 r.ch.length qc4, .slice pt4 r.te.length qt4, M4⟩ r) w5) := (show Hid _ from Liv.newRp ho)
  have Z5 : Hid (w4.heap.size ≤ w5.heap.size) := hb.size
  replace BB : Hid (Below w.heap.size w w5) := (show Hid _ from BB.out.trans (hb.mono BB.out.size))
  clear hb ho
  have hbA : Below w5.heap.size w5 (w5.alloc (.cells #[.int .i64 r.id, .int .i64 r.p, .int .i64 r.v, .bool r.n, .int .i64 r.la, .slice pl4 r.l.length ql4, .int .i64 r.c, .slice po4 r.ok.length qo4, .slice pc4 r.ch.length qc4, .slice pt4 r.te.length qt4] 31)) := (Below.refl _ _).alloc (Nat.le_refl _) _
  have zA : (w5.alloc (.cells #[.int .i64 r.id, .int .i64 r.p, .int .i64 r.v, .bool r.n, .int .i64 r.la, .slice pl4 r.l.length ql4, .int .i64 r.c, .slice po4 r.ok.length qo4, .slice pc4 r.ch.length qc4, .slice pt4 r.te.length qt4] 31)).heap.size = w5.heap.size + 1 := by simp
  replace AA : Hid (Liv w.heap.size (w.heap.size + 1) (fun W => Bx W (w.heap.size) 26 #[.int .i64 r.id, .int .i64 r.p, .int .i64 r.v, .bool r.n, .int .i64 r.la, .slice plA r.l.length qlA, .int .i64 r.c, .slice poA r.ok.length qoA, .slice pcA r.ch.length qcA, .slice ptA r.te.length qtA]) (w5.alloc (.cells #[.int .i64 r.id, .int .i64 r.p, .int .i64 r.v, .bool r.n, .int .i64 r.la, .slice pl4 r.l.length ql4, .int .i64 r.c, .slice po4 r.ok.length qo4, .slice pc4 r.ch.length qc4, .slice pt4 r.te.length qt4] 31))) := AA.out.kept hbA
  replace X : Hid (Liv w4.heap.size w5.heap.size (RpF w4.heap.size w5.heap.size ⟨.slice pl4 r.l.length ql4, .slice po4 r.ok.length qo4, .slice pc4 r.ch.length qc4, .slice pt4 r.te.length qt4, M4⟩ r) (w5.alloc (.cells #[.int .i64 r.id, .int .i64 r.p, .int .i64 r.v, .bool r.n, .int .i64 r.la, .slice pl4 r.l.length ql4, .int .i64 r.c, .slice po4 r.ok.length qo4, .slice pc4 r.ch.length qc4, .slice pt4 r.te.length qt4] 31))) := X.out.kept hbA
  replace BB : Hid (Below w.heap.size w (w5.alloc (.cells #[.int .i64 r.id, .int .i64 r.p, .int .i64 r.v, .bool r.n, .int .i64 r.la, .slice pl4 r.l.length ql4, .int .i64 r.c, .slice po4 r.ok.length qo4, .slice pc4 r.ch.length qc4, .slice pt4 r.te.length qt4] 31))) := (show Hid _ from BB.out.trans (hbA.mono BB.out.size))
  have X0 : Hid (Liv w5.heap.size (w5.heap.size + 1) (fun W => Bx W (w5.heap.size) 31 #[.int .i64 r.id, .int .i64 r.p, .int .i64 r.v, .bool r.n, .int .i64 r.la, .slice pl4 r.l.length ql4, .int .i64 r.c, .slice po4 r.ok.length qo4, .slice pc4 r.ch.length qc4, .slice pt4 r.te.length qt4]) (w5.alloc (.cells #[.int .i64 r.id, .int .i64 r.p, .int .i64 r.v, .bool r.n, .int .i64 r.la, .slice pl4 r.l.length ql4, .int .i64 r.c, .slice po4 r.ok.length qo4, .slice pc4 r.ch.length qc4, .slice pt4 r.te.length qt4] 31))) := (show Hid _ from Liv.box (Bx.new _ _ _))
  clear hbA
  generalize hww6 : (w5.alloc (.cells #[.int .i64 r.id, .int .i64 r.p, .int .i64 r.v, .bool r.n, .int .i64 r.la, .slice pl4 r.l.length ql4, .int .i64 r.c, .slice po4 r.ok.length qo4, .slice pc4 r.ch.length qc4, .slice pt4 r.te.length qt4] 31)) = w6 at BB zA AA X X0
  have Z6 : Hid (w6.heap.size = w5.heap.size + 1) := zA
  clear zA
  have AA_0 := AA.out.now.cell 0
  have AA_1 := AA.out.now.cell 1
  have AA_2 := AA.out.now.cell 2
  have AA_3 := AA.out.now.cell 3
  have AA_4 := AA.out.now.cell 4
  have AA_5 := AA.out.now.cell 5
  have AA_6 := AA.out.now.cell 6
  have AA_7 := AA.out.now.cell 7
  have AA_8 := AA.out.now.cell 8
  have AA_9 := AA.out.now.cell 9
  have X0_0 := X0.out.now.cell 0
  have X0_1 := X0.out.now.cell 1
  have X0_2 := X0.out.now.cell 2
  have X0_3 := X0.out.now.cell 3
  have X0_4 := X0.out.now.cell 4
  have X0_5 := X0.out.now.cell 5
  have X0_6 := X0.out.now.cell 6
  have X0_7 := X0.out.now.cell 7
  have X0_8 := X0.out.now.cell 8
  have X0_9 := X0.out.now.cell 9
  go_wp2_with fail
  clear hww6
  clear AA_0 AA_1 AA_2 AA_3 AA_4 AA_5 AA_6 AA_7 AA_8 AA_9 X0_0 X0_1 X0_2 X0_3 X0_4 X0_5 X0_6 X0_7 X0_8 X0_9
  refine (him _ _ X.out.now.1.got).mono ?_
  rintro e w7 ⟨rfl, hb⟩
  replace AA : Hid (Liv w.heap.size (w.heap.size + 1) (fun W => Bx W (w.heap.size) 26 #[.int .i64 r.id, .int .i64 r.p, .int .i64 r.v, .bool r.n, .int .i64 r.la, .slice plA r.l.length qlA, .int .i64 r.c, .slice poA r.ok.length qoA, .slice pcA r.ch.length qcA, .slice ptA r.te.length qtA]) w7) := AA.out.kept hb
  replace X : Hid (Liv w4.heap.size w5.heap.size (RpF w4.heap.size w5.heap.size ⟨.slice pl4 r.l.length ql4, .slice po4 r.ok.length qo4, .slice pc4 r.ch.length qc4, .slice pt4 r.te.length qt4, M4⟩ r) w7) := X.out.kept hb
  replace X0 : Hid (Liv w5.heap.size (w5.heap.size + 1) (fun W => Bx W (w5.heap.size) 31 #[.int .i64 r.id, .int .i64 r.p, .int .i64 r.v, .bool r.n, .int .i64 r.la, .slice pl4 r.l.length ql4, .int .i64 r.c, .slice po4 r.ok.length qo4, .slice pc4 r.ch.length qc4, .slice pt4 r.te.length qt4]) w7) := X0.out.kept hb
  have Z7 : Hid (w6.heap.size ≤ w7.heap.size) := hb.size
  replace BB : Hid (Below w.heap.size w w7) := (show Hid _ from BB.out.trans (hb.mono BB.out.size))
  clear hb
  have AA_0 := AA.out.now.cell 0
  have AA_1 := AA.out.now.cell 1
  have AA_2 := AA.out.now.cell 2
  have AA_3 := AA.out.now.cell 3
  have AA_4 := AA.out.now.cell 4
  have AA_5 := AA.out.now.cell 5
  have AA_6 := AA.out.now.cell 6
  have AA_7 := AA.out.now.cell 7
  have AA_8 := AA.out.now.cell 8
  have AA_9 := AA.out.now.cell 9
  have X0_0 := X0.out.now.cell 0
  have X0_1 := X0.out.now.cell 1
  have X0_2 := X0.out.now.cell 2
  have X0_3 := X0.out.now.cell 3
  have X0_4 := X0.out.now.cell 4
  have X0_5 := X0.out.now.cell 5
  have X0_6 := X0.out.now.cell 6
  have X0_7 := X0.out.now.cell 7
  have X0_8 := X0.out.now.cell 8
  have X0_9 := X0.out.now.cell 9
  go_upto_region 10 with fail
  clear AA_0 AA_1 AA_2 AA_3 AA_4 AA_5 AA_6 AA_7 AA_8 AA_9 X0_0 X0_1 X0_2 X0_3 X0_4 X0_5 X0_6 X0_7 X0_8 X0_9
  have helG := fun (x : World) p1 d1 p2 d2 p3 d3 p4 d4 (hb : Below w7.heap.size w7 x) (hg : GotM x r p1 d1 p2 d2 p3 d3 p4 d4) => (show Calls Try.prog 10 #[.agg #[.int .i64 r.id, .int .i64 r.p, .int .i64 r.v, .bool r.n, .int .i64 r.la, .slice pl4 r.l.length ql4, .int .i64 r.c, .slice po4 r.ok.length qo4, .slice pc4 r.ch.length qc4, .slice pt4 r.te.length qt4], .agg #[.int .i64 r.id, .int .i64 r.p, .int .i64 r.v, .bool r.n, .int .i64 r.la, .slice p1 r.l.length d1, .int .i64 r.c, .slice p2 r.ok.length d2, .slice p3 r.ch.length d3, .slice p4 r.te.length d4]] x (fun e w' => e = .returned (.bool true) ∧ Below x.heap.size x w') from by
    obtain ⟨M9, hM⟩ := hg
    exact hel r ⟨.slice pl4 r.l.length ql4, .slice po4 r.ok.length qo4, .slice pc4 r.ch.length qc4, .slice pt4 r.te.length qt4, M4⟩ ⟨.slice p1 r.l.length d1, .slice p2 r.ok.length d2, .slice p3 r.ch.length d3, .slice p4 r.te.length d4, M9⟩ x (X.out.kept hb).now.1.got hM HF.out)
  have S0 : Below w7.heap.size w7 w7.drew := ⟨rfl, rfl, rfl, Nat.le_refl _, fun _ _ => rfl⟩
  generalize hA : Act.mk _ _ = A
  obtain ⟨s, hs, s1_, s2_, s5_⟩ : ∃ s : Nat → Value, A = frRok s (fun _ => undef) ∧ s 1 = .pointer (some ⟨w.heap.size, 0, none⟩) ∧ s 2 = .bool false ∧ s 5 = .pointer (some ⟨w5.heap.size, 0, none⟩) := by
    refine ⟨fun i => A.tmps.getD i undef, ?_, ?_, ?_, ?_⟩ <;> rw [← hA] <;> rfl
  rw [hs]
  clear hs hA
  refine region_heads 4 mixed (by decide) (by kernel_rfl) (by kernel_rfl) (by kernel_rfl) (by kernel_rfl) (frRok s) dRok (fun x => Below w7.heap.size w7 x) (GRok r pl4 ql4 po4 qo4 pc4 qc4 pt4 qt4 plA qlA poA qoA pcA qcA ptA qtA) (fun i j hi hj h => by unfold dRok; omega) ?put (fun _ => undef) rfl S0 ?step ?done
  case put =>
    intro i o hi ho t v
    rcases (show i = 0 ∨ i = 1 ∨ i = 2 ∨ i = 3 by omega) with rfl | rfl | rfl | rfl
    all_goals
      obtain rfl := Option.some.inj ho
      rfl
  case step =>
    intro i o hi ho t x hS hdep K hK
    rcases (show i = 0 ∨ i = 1 ∨ i = 2 ∨ i = 3 by omega) with rfl | rfl | rfl | rfl
    all_goals obtain rfl := Option.some.inj ho
    · have y0 := (X0.out.kept hS).now.cell 0
      have y1 := (X0.out.kept hS).now.cell 1
      have y2 := (X0.out.kept hS).now.cell 2
      have y3 := (X0.out.kept hS).now.cell 3
      have y4 := (X0.out.kept hS).now.cell 4
      have y5 := (X0.out.kept hS).now.cell 5
      have y6 := (X0.out.kept hS).now.cell 6
      have y7 := (X0.out.kept hS).now.cell 7
      have y8 := (X0.out.kept hS).now.cell 8
      have y9 := (X0.out.kept hS).now.cell 9
      have h2 := hK (.agg #[.int .i64 r.id, .int .i64 r.p, .int .i64 r.v, .bool r.n, .int .i64 r.la, .slice pl4 r.l.length ql4, .int .i64 r.c, .slice po4 r.ok.length qo4, .slice pc4 r.ch.length qc4, .slice pt4 r.te.length qt4]) x hS (fun j u hj hne h => h) rfl
      unfold frRok at h2 ⊢
      clear hK
      go_simp
      simpa [Act.put, y0, y1, y2, y3, y4, y5, y6, y7, y8, y9, s1_, s2_, s5_] using h2
    · have y0 := (AA.out.kept hS).now.cell 0
      have y1 := (AA.out.kept hS).now.cell 1
      have y2 := (AA.out.kept hS).now.cell 2
      have y3 := (AA.out.kept hS).now.cell 3
      have y4 := (AA.out.kept hS).now.cell 4
      have y5 := (AA.out.kept hS).now.cell 5
      have y6 := (AA.out.kept hS).now.cell 6
      have y7 := (AA.out.kept hS).now.cell 7
      have y8 := (AA.out.kept hS).now.cell 8
      have y9 := (AA.out.kept hS).now.cell 9
      have h2 := hK (.agg #[.int .i64 r.id, .int .i64 r.p, .int .i64 r.v, .bool r.n, .int .i64 r.la, .slice plA r.l.length qlA, .int .i64 r.c, .slice poA r.ok.length qoA, .slice pcA r.ch.length qcA, .slice ptA r.te.length qtA]) x hS (fun j u hj hne h => h) rfl
      unfold frRok at h2 ⊢
      clear hK
      go_simp
      simpa [Act.put, y0, y1, y2, y3, y4, y5, y6, y7, y8, y9, s1_, s2_, s5_] using h2
    · have e1 : t 23 = .agg #[.int .i64 r.id, .int .i64 r.p, .int .i64 r.v, .bool r.n, .int .i64 r.la, .slice plA r.l.length qlA, .int .i64 r.c, .slice poA r.ok.length qoA, .slice pcA r.ch.length qcA, .slice ptA r.te.length qtA] := hdep { on := 1, ground := Ground.data } (by simp) rfl
      refine callG1 (by rfl) 8 (.tmp 23) _ rfl (.agg #[.int .i64 r.id, .int .i64 r.p, .int .i64 r.v, .bool r.n, .int .i64 r.la, .slice plA r.l.length qlA, .int .i64 r.c, .slice poA r.ok.length qoA, .slice pcA r.ch.length qcA, .slice ptA r.te.length qtA]) e1 (Go.Proofs.enters_of Try.func8 (by kernel_rfl) rfl _) (fun v y => (∃ (p1 : Option Addr) (d1 : Nat) (p2 : Option Addr) (d2 : Nat) (p3 : Option Addr) (d3 : Nat) (p4 : Option Addr) (d4 : Nat), v = .agg #[.int .i64 r.id, .int .i64 r.p, .int .i64 r.v, .bool r.n, .int .i64 r.la, .slice p1 r.l.length d1, .int .i64 r.c, .slice p2 r.ok.length d2, .slice p3 r.ch.length d3, .slice p4 r.te.length d4] ∧ GotM y r p1 d1 p2 d2 p3 d3 p4 d4) ∧ Below x.heap.size x y) ((hto x (show RpGot x ⟨.slice plA r.l.length qlA, .slice poA r.ok.length qoA, .slice pcA r.ch.length qcA, .slice ptA r.te.length qtA, MA⟩ r from HI.out.kept (BB.out.trans (hS.mono BB.out.size)))).mono ?_) ?_
      · rintro e0 y0 ⟨pl0, ql0, po0, qo0, pc0, qc0, pt0, qt0, M0, h0, ho, _, hb9⟩
        exact ⟨_, h0, ⟨pl0, ql0, po0, qo0, pc0, qc0, pt0, qt0, rfl, ⟨M0, ho.got⟩⟩, hb9⟩
      · rintro v y ⟨h0, hb2⟩
        exact hK v y ((show Below w7.heap.size w7 y from hS.trans (hb2.mono hS.size))) (fun j u hj hne h => GRok.keep hb2 j u hj h) h0
    · have e0 : t 22 = .agg #[.int .i64 r.id, .int .i64 r.p, .int .i64 r.v, .bool r.n, .int .i64 r.la, .slice pl4 r.l.length ql4, .int .i64 r.c, .slice po4 r.ok.length qo4, .slice pc4 r.ch.length qc4, .slice pt4 r.te.length qt4] := hdep { on := 0, ground := Ground.data } (by simp) rfl
      obtain ⟨p1_2, d1_2, p2_2, d2_2, p3_2, d3_2, p4_2, d4_2, e2, k2⟩ : ∃ (p1 : Option Addr) (d1 : Nat) (p2 : Option Addr) (d2 : Nat) (p3 : Option Addr) (d3 : Nat) (p4 : Option Addr) (d4 : Nat), t 24 = .agg #[.int .i64 r.id, .int .i64 r.p, .int .i64 r.v, .bool r.n, .int .i64 r.la, .slice p1 r.l.length d1, .int .i64 r.c, .slice p2 r.ok.length d2, .slice p3 r.ch.length d3, .slice p4 r.te.length d4] ∧ GotM x r p1 d1 p2 d2 p3 d3 p4 d4 := hdep { on := 2, ground := Ground.data } (by simp) rfl
      refine callG2 (by rfl) 10 (.tmp 22) (.tmp 24) _ rfl (.agg #[.int .i64 r.id, .int .i64 r.p, .int .i64 r.v, .bool r.n, .int .i64 r.la, .slice pl4 r.l.length ql4, .int .i64 r.c, .slice po4 r.ok.length qo4, .slice pc4 r.ch.length qc4, .slice pt4 r.te.length qt4]) (.agg #[.int .i64 r.id, .int .i64 r.p, .int .i64 r.v, .bool r.n, .int .i64 r.la, .slice p1_2 r.l.length d1_2, .int .i64 r.c, .slice p2_2 r.ok.length d2_2, .slice p3_2 r.ch.length d3_2, .slice p4_2 r.te.length d4_2]) e0 e2 (Go.Proofs.enters_of Try.func10 (by kernel_rfl) rfl _) (fun v y => (v = .bool true) ∧ Below x.heap.size x y) ((helG x _ _ _ _ _ _ _ _ hS k2).mono ?_) ?_
      · rintro e0 y0 ⟨h0, hb9⟩
        exact ⟨_, h0, rfl, hb9⟩
      · rintro v y ⟨h0, hb2⟩
        exact hK v y ((show Below w7.heap.size w7 y from hS.trans (hb2.mono hS.size))) (fun j u hj hne h => GRok.keep hb2 j u hj h) h0
  case done =>
    intro t w8 hS hG
    have e3 : t 25 = .bool true := hG 3 (by decide)
    replace AA : Hid (Liv w.heap.size (w.heap.size + 1) (fun W => Bx W (w.heap.size) 26 #[.int .i64 r.id, .int .i64 r.p, .int .i64 r.v, .bool r.n, .int .i64 r.la, .slice plA r.l.length qlA, .int .i64 r.c, .slice poA r.ok.length qoA, .slice pcA r.ch.length qcA, .slice ptA r.te.length qtA]) w8) := AA.out.kept hS
    replace X : Hid (Liv w4.heap.size w5.heap.size (RpF w4.heap.size w5.heap.size ⟨.slice pl4 r.l.length ql4, .slice po4 r.ok.length qo4, .slice pc4 r.ch.length qc4, .slice pt4 r.te.length qt4, M4⟩ r) w8) := X.out.kept hS
    replace X0 : Hid (Liv w5.heap.size (w5.heap.size + 1) (fun W => Bx W (w5.heap.size) 31 #[.int .i64 r.id, .int .i64 r.p, .int .i64 r.v, .bool r.n, .int .i64 r.la, .slice pl4 r.l.length ql4, .int .i64 r.c, .slice po4 r.ok.length qo4, .slice pc4 r.ch.length qc4, .slice pt4 r.te.length qt4]) w8) := X0.out.kept hS
    have Z8 : Hid (w7.heap.size ≤ w8.heap.size) := hS.size
    replace BB : Hid (Below w.heap.size w w8) := (show Hid _ from BB.out.trans (hS.mono BB.out.size))
    clear hG hS S0 helG
    show wpList Try.prog _ _ [_] _ w8
    unfold frRok
    simp only [e3, s1_, s2_, s5_]
    clear e3 s1_ s2_ s5_
    have AA_0 := AA.out.now.cell 0
    have AA_1 := AA.out.now.cell 1
    have AA_2 := AA.out.now.cell 2
    have AA_3 := AA.out.now.cell 3
    have AA_4 := AA.out.now.cell 4
    have AA_5 := AA.out.now.cell 5
    have AA_6 := AA.out.now.cell 6
    have AA_7 := AA.out.now.cell 7
    have AA_8 := AA.out.now.cell 8
    have AA_9 := AA.out.now.cell 9
    have X0_0 := X0.out.now.cell 0
    have X0_1 := X0.out.now.cell 1
    have X0_2 := X0.out.now.cell 2
    have X0_3 := X0.out.now.cell 3
    have X0_4 := X0.out.now.cell 4
    have X0_5 := X0.out.now.cell 5
    have X0_6 := X0.out.now.cell 6
    have X0_7 := X0.out.now.cell 7
    have X0_8 := X0.out.now.cell 8
    have X0_9 := X0.out.now.cell 9
    go_wp2
    go_ret
    exact ⟨rfl, BB.out⟩
end Go.Proofs.Ytdahfhkeeemdiaa.Rl
namespace Go.Proofs.Ytdahfhkeeemdiaa
open Go.RowKit Go.ChangeShapes Go.WideShapes Go.ChangeAt Go.Joins
set_option linter.unusedVariables false

theorem cell_ltO {w : World} {b o : Nat} {v : Value} (h : w.cell? ⟨b, o, Option.none⟩ = some v) : b < w.heap.size := by
  cases e : w.heap[b]? with
  | none => simp [World.cell?, e] at h
  | some x => exact (Array.getElem?_eq_some_iff.1 e).1
theorem open_nums {H : Type} {enc : TypeId × Value → H} {W : World} {base : Nat} {spare : Nat → Bool} {held : Bool} {fuel : Nat} {sa : Option Addr} {sl sc : Nat} {x : DataW H × List MemPlace}
    (h : DataW.trod enc Try.prog W base spare held fuel 23 (Value.cells (.slice sa sl sc)).toList = some x) :
    ∃ l : List Int, Sls intE W (.slice sa sl sc) l := by
  rcases open_ints Try.underlying23 Try.underlying2 (by kernel_rfl) h with ⟨hcs, _⟩ | ⟨a, l, c, zs, hcs, _, hl, hm, hz, _, hcell, hwz⟩
  · simp [Value.cells] at hcs
    obtain ⟨rfl, rfl, rfl⟩ := hcs
    exact ⟨[], Sls.nil (Nat.zero_le _)⟩
  · simp [Value.cells] at hcs
    obtain ⟨rfl, rfl, rfl⟩ := hcs
    have hlz : sl ≤ zs.length := by rw [hz]; split <;> omega
    have hlt : (zs.take sl).length = sl := by rw [List.length_take]; omega
    refine ⟨zs.take sl, some a, sc, by rw [hlt], by rw [hlt]; exact hl, hm, fun h0 => ?_⟩
    rw [hlt] at h0
    obtain ⟨b, o, sp⟩ := a
    have c0 := hcell 0 (by omega)
    have hsp : sp = Option.none := by
      have : W.cell? ⟨b, o, sp⟩ = some (.int .i64 (zs.getD 0 0)) := by simpa [Addr.add] using c0
      exact Go.Proofs.cell_spot this
    subst hsp
    have hb : b < W.heap.size := by
      rw [addr_add] at c0
      exact cell_ltO c0
    refine ⟨b, o, rfl, hb, fun j u hu => ?_⟩
    have hj : j < sl := by
      have := (List.getElem?_eq_some_iff.1 hu).1
      rw [cellsE_length, hlt] at this
      simpa [intE] using this
    rw [cellsN_at _ j (by rw [hlt]; exact hj)] at hu
    have c1 := hcell j (by omega)
    rw [addr_add] at c1
    rw [c1, ← hu]
    have hjz : j < zs.length := by omega
    simp [List.getD, hjz]
end Go.Proofs.Ytdahfhkeeemdiaa
namespace Go.Proofs.Ytdahfhkeeemdiaa
open Go.RowKit Go.ChangeShapes Go.WideShapes Go.ChangeAt Go.Joins Go.Sort

theorem Sls.ofP {w : World} {v : Value} {l : List ByteArray} (h : StrsP w v l) : Sls txtE w v l := by
  obtain ⟨a, cap, hv, h1, h2, h3⟩ := h
  refine ⟨a, cap, hv, h1, h2, fun h0 => ?_⟩
  obtain ⟨g, o, ha, hg, hc⟩ := h3 h0
  refine ⟨g, o, ha, hg, fun j u hu => ?_⟩
  have hj : j < l.length := by
    have := (List.getElem?_eq_some_iff.1 hu).1
    rw [cellsX_map] at this
    simpa using this
  rw [cellsX_at l j hj] at hu
  rw [hc j hj]
  exact hu
theorem open_txs {H : Type} {enc : TypeId × Value → H} {W : World} {base : Nat} {spare : Nat → Bool} {held : Bool} {fuel : Nat} {sa : Option Addr} {sl sc : Nat} {x : DataW H × List MemPlace}
    (h : DataW.trod enc Try.prog W base spare held fuel 22 (Value.cells (.slice sa sl sc)).toList = some x) :
    ∃ l : List ByteArray, Sls txtE W (.slice sa sl sc) l ∧ ∀ p ∈ l, p.size ≤ maxLen := by
  rcases open_strings Try.underlying22 Try.underlying9 (by kernel_rfl) h with ⟨hcs, _⟩ | ⟨a, len, cap, ss, hcs, hb, hl, hm, hlen, _, hcell, hz⟩
  · simp [Value.cells] at hcs
    obtain ⟨rfl, rfl, rfl⟩ := hcs
    exact ⟨[], Sls.ofP ⟨Option.none, 0, rfl, Nat.le_refl _, Nat.zero_le _, fun h => absurd h (by simp)⟩, fun f hf => by cases hf⟩
  · simp [Value.cells] at hcs
    obtain ⟨rfl, rfl, rfl⟩ := hcs
    have hls : sl ≤ ss.length := by rw [hlen]; split <;> omega
    have htl : (ss.take sl).length = sl := by rw [List.length_take]; omega
    refine ⟨ss.take sl, Sls.ofP ⟨some a, sc, by rw [htl], by omega, hm, fun h0 => ?_⟩, fun p hp => hz p (List.mem_of_mem_take hp)⟩
    have h0' : 0 < sl := by omega
    have c0 := hcell 0 (by omega)
    obtain ⟨b, o, sp⟩ := a
    have hsp : sp = Option.none := by
      have : W.cell? ⟨b, o, sp⟩ = some (.string (ss.getD 0 ByteArray.empty)) := by simpa [Addr.add] using c0
      exact Go.Proofs.cell_spot this
    subst hsp
    rw [addr_add] at c0
    refine ⟨b, o, rfl, World.block_lt_of_cell? W ⟨b, o + 0, Option.none⟩ c0, fun j hj => ?_⟩
    have hj' : j < ss.length := by omega
    have c1 := hcell j hj'
    rw [addr_add] at c1
    rw [c1]
    simp [hj']
end Go.Proofs.Ytdahfhkeeemdiaa
