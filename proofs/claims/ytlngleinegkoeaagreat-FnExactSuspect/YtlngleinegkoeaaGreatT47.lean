/-
  The program's settle, given its putTell.
  Where one stands among rising ones; the library's Insert of one message at the end; a row of Tells that grew.
  The program's putTell, where none of this sender is there yet.
-/
import Derived.Test.YtlngleinegkoeaaGreatT45
import Derived.Test.YtlngleinegkoeaaGreatT46
import Derived.Test.YtlngleinegkoeaaGreatT32
import Derived.Test.YtlngleinegkoeaaGreatT44
import Derived.Test.YtlngleinegkoeaaGreatT41
import Derived.Test.YtlngleinegkoeaaGreatT40
namespace Go.Proofs.YtlngleinegkoeaaGreat.Rl
open Go.RowKit Go.Sort Go.Shelf
set_option linter.unusedVariables false
set_option linter.unusedSimpArgs false

/-- What putTell does with all that it has. -/
def PutsT (r : Rp) (B b : Nat) (m : Ms) : Prop := ∀ (W : World) (u' : Rv) (v : Value), RpAt W B b u' r → HasX W B v m.l → (∀ x ∈ u'.rows, ap x v) →
    Calls Tryz.prog 202 #[.pointer (some ⟨b, 0, none⟩), msA m v] W fun e W' => e = .returned (.tuple #[]) ∧ ∃ u'', RpAt W' B b u'' { r with te := putM m r.te } ∧ Below B W W'
theorem stdM_tell {r : Rp} (h : mine r) : stdM r 4 = tellM r r.id := by
  unfold mine at h
  unfold stdM tellM
  rw [h]
theorem anew_leads {r : Rp} (h : leads r) : anew r = cntd { r with ok := List.replicate r.p.toNat 0 } := if_pos h
def frSta (s t : Nat → Value) : Act := { tmps := #[s 0, s 1, s 2, s 3, s 4, s 5, s 6, s 7, s 8, s 9, s 10, s 11, s 12, s 13, s 14, s 15, s 16, s 17, s 18, s 19, s 20, s 21, s 22, s 23, s 24, s 25, s 26, s 27, s 28, s 29, s 30, t 31, t 32, t 33, t 34, t 35, t 36, t 37, t 38, t 39, t 40, t 41, t 42, t 43, t 44, t 45, s 46, s 47, s 48, s 49, s 50, s 51, s 52, s 53, s 54, s 55, s 56, s 57, s 58, s 59, s 60, s 61, s 62, s 63, s 64, s 65], defers := [] }
def LSta : List Nat := [31, 32, 33, 34, 35, 36, 37, 38, 39, 40, 41, 42, 43, 44, 45]
def dSta (i : Nat) : Nat := LSta.getD i (i + 5000)
theorem dSta_ne {i j : Nat} (hi : i < 15) (hj : j < 15) (h : j ≠ i) : dSta j ≠ dSta i := slotsNe (L := LSta) (by decide) rfl hi hj h
def GSta (b g nT nx : Nat) (ta pl : Option Addr) (tc cl : Nat) (i : Nat) (x : World) (v : Value) : Prop := match i with
  | 0 => v = .pointer (some ⟨b, 0, none⟩)
  | 1 => v = .pointer (some ⟨b, 0, none⟩)
  | 2 => v = .pointer (some ⟨b, 0, none⟩)
  | 3 => v = .pointer (some ⟨b, 9, none⟩)
  | 4 => v = .slice ta nT tc
  | 5 => v = .int .i64 (nT : Int)
  | 6 => v = .bool false
  | 7 => v = .bool true
  | 8 => v = .bool true
  | 9 => v = undef
  | 10 => v = undef
  | 11 => v = undef
  | 12 => v = undef
  | 13 => v = undef
  | 14 => v = undef
  | _ => True
theorem GSta.keep {b g nT nx : Nat} {ta pl : Option Addr} {tc cl : Nat} {x y : World} (hb : Below x.heap.size x y) (j : Nat) (v : Value) (hj : j < 15) (h : GSta b g nT nx ta pl tc cl j x v) : GSta b g nT nx ta pl tc cl j y v := by
  rcases (show j = 0 ∨ j = 1 ∨ j = 2 ∨ j = 3 ∨ j = 4 ∨ j = 5 ∨ j = 6 ∨ j = 7 ∨ j = 8 ∨ j = 9 ∨ j = 10 ∨ j = 11 ∨ j = 12 ∨ j = 13 ∨ j = 14 by omega) with rfl | rfl | rfl | rfl | rfl | rfl | rfl | rfl | rfl | rfl | rfl | rfl | rfl | rfl | rfl
  · exact h
  · exact h
  · exact h
  · exact h
  · exact h
  · exact h
  · exact h
  · exact h
  · exact h
  · exact h
  · exact h
  · exact h
  · exact h
  · exact h
  · exact h
def frStb (s t : Nat → Value) : Act := { tmps := #[s 0, s 1, s 2, s 3, s 4, s 5, s 6, s 7, s 8, s 9, s 10, s 11, s 12, s 13, s 14, s 15, s 16, s 17, s 18, s 19, s 20, s 21, s 22, s 23, s 24, s 25, s 26, s 27, s 28, s 29, s 30, t 31, t 32, t 33, t 34, t 35, t 36, t 37, t 38, t 39, t 40, t 41, t 42, t 43, t 44, t 45, s 46, s 47, s 48, s 49, s 50, s 51, s 52, s 53, s 54, s 55, s 56, s 57, s 58, s 59, s 60, s 61, s 62, s 63, s 64, s 65], defers := [] }
def LStb : List Nat := [31, 32, 33, 34, 35, 36, 37, 38, 39, 40, 41, 42, 43, 44, 45]
def dStb (i : Nat) : Nat := LStb.getD i (i + 5000)
theorem dStb_ne {i j : Nat} (hi : i < 15) (hj : j < 15) (h : j ≠ i) : dStb j ≠ dStb i := slotsNe (L := LStb) (by decide) rfl hi hj h
def GStb (b g nT nx cN lc : Nat) (la ta pl : Option Addr) (tc cl : Nat) (D : Bool) (i : Nat) (x : World) (v : Value) : Prop := match i with
  | 0 => v = .pointer (some ⟨b, 0, none⟩)
  | 1 => v = .pointer (some ⟨b, 0, none⟩)
  | 2 => v = .pointer (some ⟨b, 0, none⟩)
  | 3 => v = .pointer (some ⟨b, 9, none⟩)
  | 4 => v = .slice ta nT tc
  | 5 => v = .int .i64 (nT : Int)
  | 6 => v = .bool true
  | 7 => v = .bool false
  | 8 => v = .bool false
  | 9 => v = .pointer (some ⟨g, 5, none⟩)
  | 10 => v = .slice pl nx cl
  | 11 => v = .pointer (some ⟨b, 0, none⟩)
  | 12 => v = .slice la cN lc
  | 13 => v = .bool D
  | 14 => v = .bool !D
  | _ => True
theorem GStb.keep {b g nT nx cN lc : Nat} {la ta pl : Option Addr} {tc cl : Nat} {D : Bool} {x y : World} (hb : Below x.heap.size x y) (j : Nat) (v : Value) (hj : j < 15) (h : GStb b g nT nx cN lc la ta pl tc cl D j x v) : GStb b g nT nx cN lc la ta pl tc cl D j y v := by
  rcases (show j = 0 ∨ j = 1 ∨ j = 2 ∨ j = 3 ∨ j = 4 ∨ j = 5 ∨ j = 6 ∨ j = 7 ∨ j = 8 ∨ j = 9 ∨ j = 10 ∨ j = 11 ∨ j = 12 ∨ j = 13 ∨ j = 14 by omega) with rfl | rfl | rfl | rfl | rfl | rfl | rfl | rfl | rfl | rfl | rfl | rfl | rfl | rfl | rfl
  · exact h
  · exact h
  · exact h
  · exact h
  · exact h
  · exact h
  · exact h
  · exact h
  · exact h
  · exact h
  · exact h
  · exact h
  · exact h
  · exact h
  · exact h
def frStc (s t : Nat → Value) : Act := { tmps := #[s 0, s 1, s 2, s 3, s 4, s 5, s 6, s 7, s 8, s 9, s 10, s 11, s 12, s 13, s 14, s 15, s 16, s 17, s 18, s 19, s 20, s 21, s 22, s 23, s 24, s 25, s 26, s 27, s 28, s 29, s 30, s 31, s 32, s 33, s 34, s 35, s 36, s 37, s 38, s 39, s 40, s 41, s 42, s 43, s 44, s 45, s 46, t 47, t 48, t 49, t 50, t 51, t 52, t 53, t 54, t 55, t 56, t 57, t 58, s 59, s 60, s 61, s 62, s 63, s 64, s 65], defers := [] }
def LStc : List Nat := [47, 48, 49, 50, 51, 52, 53, 54, 55, 56, 57, 58]
def dStc (i : Nat) : Nat := LStc.getD i (i + 5000)
theorem dStc_ne {i j : Nat} (hi : i < 12) (hj : j < 12) (h : j ≠ i) : dStc j ≠ dStc i := slotsNe (L := LStc) (by decide) rfl hi hj h
def GStc (b g nT nx : Nat) (ta pl : Option Addr) (tc cl : Nat) (M : Int) (i : Nat) (x : World) (v : Value) : Prop := match i with
  | 0 => v = .pointer (some ⟨b, 0, none⟩)
  | 1 => v = .pointer (some ⟨b, 0, none⟩)
  | 2 => v = .pointer (some ⟨b, 0, none⟩)
  | 3 => v = .pointer (some ⟨b, 9, none⟩)
  | 4 => v = .slice ta nT tc
  | 5 => v = .int .i64 M
  | 6 => v = .pointer (some ⟨g, 5, none⟩)
  | 7 => v = .slice pl nx cl
  | 8 => v = .int .i64 (nx : Int)
  | 9 => v = .int .i64 (min M (nx : Int))
  | 10 => v = .pointer (some ⟨b, 0, none⟩)
  | 11 => v = .pointer (some ⟨b, 6, none⟩)
  | _ => True
theorem GStc.keep {b g nT nx : Nat} {ta pl : Option Addr} {tc cl : Nat} {M : Int} {x y : World} (hb : Below x.heap.size x y) (j : Nat) (v : Value) (hj : j < 12) (h : GStc b g nT nx ta pl tc cl M j x v) : GStc b g nT nx ta pl tc cl M j y v := by
  rcases (show j = 0 ∨ j = 1 ∨ j = 2 ∨ j = 3 ∨ j = 4 ∨ j = 5 ∨ j = 6 ∨ j = 7 ∨ j = 8 ∨ j = 9 ∨ j = 10 ∨ j = 11 by omega) with rfl | rfl | rfl | rfl | rfl | rfl | rfl | rfl | rfl | rfl | rfl | rfl
  · exact h
  · exact h
  · exact h
  · exact h
  · exact h
  · exact h
  · exact h
  · exact h
  · exact h
  · exact h
  · exact h
  · exact h
open Classical in
set_option maxRecDepth 100000 in
set_option maxHeartbeats 8000000 in
theorem implSet (r : Rp) (u : Rv) (B b : Nat) (w : World) (h : RpAt w B b u r) (hr : RpOk r) (jP : r.n = false → mine r → PutsT r B b (stdM r 4)) :
    Calls Tryz.prog 175 #[.pointer (some ⟨b, 0, none⟩)] w fun e w' => e = .returned (.tuple #[]) ∧ ∃ u', RpAt w' B b u' (told r) ∧ Below B w w' := by
  obtain ⟨la0, lc0, oa, oc, ca, cc, ta0, tc0, M0, rfl⟩ := h.got.form
  have H0 : Hid (RpAt w B b ⟨.slice la0 r.l.length lc0, .slice oa r.ok.length oc, .slice ca r.ch.length cc, .slice ta0 r.te.length tc0, M0⟩ r) := h
  have HR : Hid (RpOk r) := hr
  have c3 := h.c.cells.2.2.2.1
  cases hn : r.n with
  | true =>
    have HE : Hid (told r = r) := (show _ = _ by unfold told; exact if_pos (.inl hn))
    rw [hn] at c3
    clear h hr jP hn
    go_enter Tryz.func175, Tryz.ntmps175
    go_wp2
    (try simp only [Exit.inBlock, Exit.then])
    refine bodyPost_ret (results_none rfl _ _ _) rfl ?_
    rw [HE.out]
    first | exact ⟨rfl, _, H0.out, Below.refl _ _⟩ | exact ⟨rfl, ⟨_, H0.out⟩, Below.refl _ _⟩
  | false =>
    have jx := fun W hW => implNx r ⟨.slice la0 r.l.length lc0, .slice oa r.ok.length oc, .slice ca r.ch.length cc, .slice ta0 r.te.length tc0, M0⟩ b W hW ⟨hr.v.1, by have := hr.v; omega⟩ hr.p
    have jm := fun W hW => implMaj r.ch.length r ⟨.slice la0 r.l.length lc0, .slice oa r.ok.length oc, .slice ca r.ch.length cc, .slice ta0 r.te.length tc0, M0⟩ b W hW (by have := hr.ch5; omega)
    rw [hn] at c3
    cases hm : dB (mine r) with
    | false =>
      have HE : Hid (told r = r) := (show _ = _ by unfold told; exact if_pos (.inr (.inr (dB_not hm))))
      rw [hm] at jx
      clear h hr jP hn
      go_enter Tryz.func175, Tryz.ntmps175
      go_wp2_with fail
      refine (jx _ H0.out.c).mono ?_
      rintro e w1 ⟨rfl, hb1⟩
      go_wp2
      (try simp only [Exit.inBlock, Exit.then])
      refine bodyPost_ret (results_none rfl _ _ _) rfl ?_
      rw [HE.out]
      first | exact ⟨rfl, _, H0.out.kept hb1, hb1.mono H0.out.le⟩ | exact ⟨rfl, ⟨_, H0.out.kept hb1⟩, hb1.mono H0.out.le⟩
    | true =>
      have HM : Hid (mine r) := dB_is hm
      rw [hm] at jx
      cases hj : dB (maj r.ch.length r.p) with
      | false =>
        have HE : Hid (told r = r) := (show _ = _ by unfold told; exact if_pos (.inr (.inl (dB_not hj))))
        rw [hj] at jm
        clear h hr jP hn
        go_enter Tryz.func175, Tryz.ntmps175
        go_wp2_with fail
        refine (jx _ H0.out.c).mono ?_
        rintro e w1 ⟨rfl, hb1⟩
        have c8 := (H0.out.kept hb1).c.cells.2.2.2.2.2.2.2.2.1
        go_wp2_with fail
        refine (jm _ (H0.out.kept hb1).c).mono ?_
        rintro e _ ⟨rfl, rfl⟩
        go_wp2
        (try simp only [Exit.inBlock, Exit.then])
        refine bodyPost_ret (results_none rfl _ _ _) rfl ?_
        rw [HE.out]
        first | exact ⟨rfl, _, H0.out.kept hb1, hb1.mono H0.out.le⟩ | exact ⟨rfl, ⟨_, H0.out.kept hb1⟩, hb1.mono H0.out.le⟩
      | true =>
        have HJ : Hid (maj r.ch.length r.p) := dB_is hj
        have HN : Hid (r.n = false) := hn
        have JP : Hid (PutsT r B b (stdM r 4)) := (show Hid _ from jP hn HM.out)
        have js := fun W hW hl => implStd r ⟨.slice la0 r.l.length lc0, .slice oa r.ok.length oc, .slice ca r.ch.length cc, .slice ta0 r.te.length tc0, M0⟩ b 4 W hW ⟨hr.v.1, by have := hr.v; omega⟩ hr.p hl (by have := (logB_sm hr.l).1; omega) (fun x hx => by have := (logB_sm hr.l).2 x hx; omega)
        rw [hj] at jm
        clear h hr jP hn
        go_enter Tryz.func175, Tryz.ntmps175
        go_wp2_with fail
        refine (jx _ H0.out.c).mono ?_
        rintro e w1 ⟨rfl, hb1⟩
        have c8 := (H0.out.kept hb1).c.cells.2.2.2.2.2.2.2.2.1
        go_wp2_with fail
        refine (jm _ (H0.out.kept hb1).c).mono ?_
        rintro e w1' ⟨rfl, rfl⟩
        have H1 : Hid (RpAt w1 B b ⟨.slice la0 r.l.length lc0, .slice oa r.ok.length oc, .slice ca r.ch.length cc, .slice ta0 r.te.length tc0, M0⟩ r) := (show Hid _ from H0.out.kept hb1)
        have B1 : Hid (Below B w w1) := (show Hid _ from hb1.mono H0.out.le)
        clear c3 c8 hb1 H0 jx jm
        go_wp2_with fail
        refine (js _ H1.out.c H1.out.got.l).mono ?_
        rintro e w2 ⟨v, rfl, hv, hb2⟩
        have H2 : Hid (RpAt w2 B b ⟨.slice la0 r.l.length lc0, .slice oa r.ok.length oc, .slice ca r.ch.length cc, .slice ta0 r.te.length tc0, M0⟩ r) := (show Hid _ from H1.out.kept hb2)
        have B2 : Hid (Below B w w2) := (show Hid _ from B1.out.trans (hb2.mono H1.out.le))
        have jp := JP.out w2 ⟨.slice la0 r.l.length lc0, .slice oa r.ok.length oc, .slice ca r.ch.length cc, .slice ta0 r.te.length tc0, M0⟩ v H2.out (hv.has.low H1.out.le) (fun x hx k h1 h2 => by
          have h3 := H1.out.under x hx k h1
          have h4 := hv.has.from k h2
          omega)
        clear hv hb2 H1 B1 js JP
        unfold msA at jp ⊢
        go_wp2_with fail
        refine jp.mono ?_
        rintro e w3 ⟨rfl, u3, h3, b3⟩
        obtain ⟨r1, hr1⟩ : ∃ r1 : Rp, r1 = { r with te := putM (stdM r 4) r.te } := ⟨_, rfl⟩
        rw [← hr1] at h3
        have HR1 : Hid (r1 = { r with te := putM (tellM r r.id) r.te }) := (show _ = _ from by rw [hr1, stdM_tell HM.out])
        have HOK1 : Hid (RpOk r1) := (show RpOk _ from by
          rw [HR1.out]
          exact (te_kp HR.out HN.out HM.out (tell_ok HR.out)).ok)
        have HT1 : Hid (0 < r1.te.length) := (show _ < _ from by
          rw [HR1.out]
          exact List.length_pos_of_mem (putM_has _ _))
        obtain ⟨la, lc, oa1, oc1, ca1, cc1, ta, tc, T, rfl⟩ := h3.got.form
        have H3 : Hid (RpAt w3 B b ⟨.slice la r1.l.length lc, .slice oa1 r1.ok.length oc1, .slice ca1 r1.ch.length cc1, .slice ta r1.te.length tc, T⟩ r1) := h3
        have B3 : Hid (Below B w w3) := (show Hid _ from B2.out.trans b3)
        clear h3 b3 H2 B2 jp hr1
        have HTL : Hid (T.length = r1.te.length ∧ T.map (·.m) = r1.te) := (show _ ∧ _ from ⟨by rw [← H3.out.o.t, List.length_map], H3.out.o.t⟩)
        have c9 := H3.out.c.cells.2.2.2.2.2.2.2.2.2
        have jq := implMaxF _ T w3 H3.out.got.te.1 (by rw [HTL.out.1]; exact HT1.out) (by rw [HTL.out.1]; have := HOK1.out.te5; omega)
        rw [HTL.out.2] at jq
        simp only at c9 jq
        go_wp2_with fail
        refine jq.mono ?_
        rintro e w4 ⟨X, hX, rfl, hXm, hb4⟩
        clear c9 jq
        go_upto_region 3 with (refine wpList_stM rfl rfl (.tmp 2) (.tmp 30) rfl w4.heap.size (mxV X) rfl rfl (Bx.new _ _ _) rfl rfl (by simp [mxV, Value.oneCell']) ?_; intro w5 hz5 hc5)
        obtain ⟨g, hg⟩ : ∃ g, g = w4.heap.size := ⟨_, rfl⟩
        have BL : Below w4.heap.size w4 w5 := hc5.below ((Below.refl _ w4).alloc (Nat.le_refl _) _) (by simp) (fun k hk => by omega)
        have X5 : Hid (Bx w5 g 30 (mxV X)) := (show Hid _ from by rw [hg]; exact hz5)
        have H5 : Hid (RpAt w5 B b ⟨.slice la r1.l.length lc, .slice oa1 r1.ok.length oc1, .slice ca1 r1.ch.length cc1, .slice ta r1.te.length tc, T⟩ r1) := (show Hid _ from (H3.out.kept hb4).kept BL)
        have B5 : Hid (Below B w w5) := (show Hid _ from B3.out.trans ((hb4.trans (BL.mono hb4.size)).mono H3.out.le))
        have HBG : Hid (b < g) := (show _ < _ from by rw [hg]; exact (H3.out.kept hb4).lt)
        have HX : Hid (X ∈ T ∧ X.m = besM r1.te) := (show _ ∧ _ from ⟨hX, hXm⟩)
        rw [← hg]
        clear hz5 hc5 hg BL hb4 hX hXm H3 B3
        obtain ⟨nT, hnT⟩ : ∃ nT, nT = r1.te.length := ⟨_, rfl⟩
        obtain ⟨nx, hnx⟩ : ∃ nx, nx = X.m.l.length := ⟨_, rfl⟩
        obtain ⟨pl, cl, hpc⟩ : ∃ pl cl, X.u = .slice pl nx cl := ⟨X.pl, X.cl, by unfold Mx.u; rw [hnx]⟩
        have CB := fun x (hS : Below w5.heap.size w5 x) => (show x.cell? ⟨b, 9, none⟩ = some (.slice ta nT tc) from by rw [hnT]; exact (H5.out.kept hS).c.cells.2.2.2.2.2.2.2.2.2)
        have CX := fun x (hS : Below w5.heap.size w5 x) => (show x.cell? ⟨g, 5, none⟩ = some (.slice pl nx cl) from by rw [← hpc]; exact (Bx.kept X5.out hS).cell 5)
        have jM := fun x (hS : Below w5.heap.size w5 x) => implMaj nT r1 _ b x (H5.out.kept hS).c (by rw [hnT]; have := HOK1.out.te5; omega)
        have HNT : Hid (nT = r1.te.length) := hnT
        have HNX : Hid (nx = X.m.l.length ∧ X.u = .slice pl nx cl) := (show _ ∧ _ from ⟨hnx, hpc⟩)
        have S0 : Below w5.heap.size w5 w5.drew := ⟨rfl, rfl, rfl, Nat.le_refl _, fun _ _ => rfl⟩
        have HA : Hid (told r = if ¬ maj r1.te.length r1.p then r1 else if ¬ r1.l.take r1.c.toNat <+: (besM r1.te).l then r1 else cntd { r1 with l := (besM r1.te).l, c := min (cmtM r1.te) ((besM r1.te).l.length : Int), n := true, la := r1.v, ch := [], te := [], ok := List.replicate r1.p.toNat 0 }) := (show _ = _ from by
          have e1 := HR1.out
          subst e1
          unfold told
          rw [if_neg (fun hh => by
            rcases hh with hh | hh | hh
            · rw [HN.out] at hh; cases hh
            · exact hh HJ.out
            · exact hh HM.out)])
        have HMI : Hid (mine r1) := (show mine _ from by rw [HR1.out]; exact HM.out)
        clear hnT hnx hpc
        cases hq : dB (maj nT r1.p) with
        | false =>
          have HE : Hid (told r = r1) := (show _ = _ from by rw [HA.out, ← HNT.out]; exact if_pos (dB_not hq))
          rw [hq] at jM
          clear hq
          generalize hA : Act.mk _ _ = A
          obtain ⟨s, hs, s0_, s2_⟩ : ∃ s : Nat → Value, A = frSta s s ∧ s 0 = .pointer (some ⟨b, 0, none⟩) ∧ s 2 = .pointer (some ⟨g, 0, none⟩) := by
            refine ⟨fun i => A.tmps.getD i undef, ?_, ?_, ?_⟩ <;> rw [← hA] <;> rfl
          rw [hs]
          clear hs hA
          refine region_heads 15 mixed (by decide) (by kernel_rfl) (by kernel_rfl) (by kernel_rfl) (by kernel_rfl) (frSta s) dSta (fun x => Below w5.heap.size w5 x) (GSta b g nT nx ta pl tc cl) (fun i j hi hj h => dSta_ne hi hj h) ?put s rfl S0 ?step ?done
          case put =>
            intro i o hi ho t v
            rcases (show i = 0 ∨ i = 1 ∨ i = 2 ∨ i = 3 ∨ i = 4 ∨ i = 5 ∨ i = 6 ∨ i = 7 ∨ i = 8 ∨ i = 9 ∨ i = 10 ∨ i = 11 ∨ i = 12 ∨ i = 13 ∨ i = 14 by omega) with rfl | rfl | rfl | rfl | rfl | rfl | rfl | rfl | rfl | rfl | rfl | rfl | rfl | rfl | rfl
            all_goals
              obtain rfl := Option.some.inj ho
              rfl
          case step =>
            intro i o hi ho t x hS hdep K hK
            rcases (show i = 0 ∨ i = 1 ∨ i = 2 ∨ i = 3 ∨ i = 4 ∨ i = 5 ∨ i = 6 ∨ i = 7 ∨ i = 8 ∨ i = 9 ∨ i = 10 ∨ i = 11 ∨ i = 12 ∨ i = 13 ∨ i = 14 by omega) with rfl | rfl | rfl | rfl | rfl | rfl | rfl | rfl | rfl | rfl | rfl | rfl | rfl | rfl | rfl
            all_goals obtain rfl := Option.some.inj ho
            · have h2 := hK (.pointer (some ⟨b, 0, none⟩)) x hS (fun j u hj hne h => h) rfl
              unfold frSta at h2 ⊢
              clear hK
              go_simp
              simpa [Act.put, s0_, s2_] using h2
            · have h2 := hK (.pointer (some ⟨b, 0, none⟩)) x hS (fun j u hj hne h => h) rfl
              unfold frSta at h2 ⊢
              clear hK
              go_simp
              simpa [Act.put, s0_, s2_] using h2
            · have e1 : t 32 = .pointer (some ⟨b, 0, none⟩) := hdep { on := 1, ground := Ground.data } (by simp) rfl
              have h2 := hK (.pointer (some ⟨b, 0, none⟩)) x hS (fun j u hj hne h => h) rfl
              unfold frSta at h2 ⊢
              clear hK
              go_simp
              simpa [Act.put, e1, s0_, s2_] using h2
            · have e2 : t 33 = .pointer (some ⟨b, 0, none⟩) := hdep { on := 2, ground := Ground.data } (by simp) rfl
              have h2 := hK (.pointer (some ⟨b, 9, none⟩)) x hS (fun j u hj hne h => h) rfl
              unfold frSta at h2 ⊢
              clear hK
              go_simp
              simpa [Act.put, e2, s0_, s2_] using h2
            · have e3 : t 34 = .pointer (some ⟨b, 9, none⟩) := hdep { on := 3, ground := Ground.data } (by simp) rfl
              have y0 := (CB x hS)
              have h2 := hK (.slice ta nT tc) x hS (fun j u hj hne h => h) rfl
              unfold frSta at h2 ⊢
              clear hK
              go_simp
              simpa [Act.put, e3, y0, s0_, s2_] using h2
            · have e4 : t 35 = .slice ta nT tc := hdep { on := 4, ground := Ground.data } (by simp) rfl
              have h2 := hK (.int .i64 (nT : Int)) x hS (fun j u hj hne h => h) rfl
              unfold frSta at h2 ⊢
              clear hK
              go_simp
              simpa [Act.put, e4, s0_, s2_] using h2
            · have e0 : t 31 = .pointer (some ⟨b, 0, none⟩) := hdep { on := 0, ground := Ground.data } (by simp) rfl
              have e5 : t 36 = .int .i64 (nT : Int) := hdep { on := 5, ground := Ground.data } (by simp) rfl
              refine callG2 (by rfl) 181 (.tmp 31) (.tmp 36) _ rfl (.pointer (some ⟨b, 0, none⟩)) (.int .i64 (nT : Int)) e0 e5 (Go.Proofs.enters_of Tryz.func181 (by kernel_rfl) rfl _) (fun v y => (v = .bool false) ∧ Below x.heap.size x y) ((jM x hS).mono ?_) ?_
              · rintro e0 y0 ⟨h0, rfl⟩
                exact ⟨_, h0, rfl, Below.refl _ _⟩
              · rintro v y ⟨h0, hb2⟩
                exact hK v y (hS.trans (hb2.mono hS.size)) (fun j u hj hne h => GSta.keep hb2 j u hj h) h0
            · have e6 : t 37 = .bool false := hdep { on := 6, ground := Ground.data } (by simp) rfl
              have h2 := hK (.bool true) x hS (fun j u hj hne h => h) rfl
              unfold frSta at h2 ⊢
              clear hK
              go_simp
              simpa [Act.put, e6, s0_, s2_] using h2
            · have e7 : t 38 = .bool true := hdep { on := 7, ground := Ground.data } (by simp) rfl
              have h2 := hK (.bool true) x hS (fun j u hj hne h => h) rfl
              unfold frSta at h2 ⊢
              clear hK
              go_simp
              simpa [Act.put, e7, s0_, s2_] using h2
            · have e8 : t 39 = .bool true := hdep { on := 8, ground := Ground.guard } (by simp) rfl
              refine skipG 8 false rfl _ rfl 39 rfl true (congrArg some e8) (by decide) ?_
              exact hK undef x hS (fun j u hj hne h => h) rfl
            · have e8 : t 39 = .bool true := hdep { on := 8, ground := Ground.guard } (by simp) rfl
              refine skipG 8 false rfl _ rfl 39 rfl true (congrArg some e8) (by decide) ?_
              exact hK undef x hS (fun j u hj hne h => h) rfl
            · have e8 : t 39 = .bool true := hdep { on := 8, ground := Ground.guard } (by simp) rfl
              refine skipG 8 false rfl _ rfl 39 rfl true (congrArg some e8) (by decide) ?_
              exact hK undef x hS (fun j u hj hne h => h) rfl
            · have e8 : t 39 = .bool true := hdep { on := 8, ground := Ground.guard } (by simp) rfl
              refine skipG 8 false rfl _ rfl 39 rfl true (congrArg some e8) (by decide) ?_
              exact hK undef x hS (fun j u hj hne h => h) rfl
            · have e8 : t 39 = .bool true := hdep { on := 8, ground := Ground.guard } (by simp) rfl
              refine skipG 8 false rfl _ rfl 39 rfl true (congrArg some e8) (by decide) ?_
              exact hK undef x hS (fun j u hj hne h => h) rfl
            · have e8 : t 39 = .bool true := hdep { on := 8, ground := Ground.guard } (by simp) rfl
              refine skipG 8 false rfl _ rfl 39 rfl true (congrArg some e8) (by decide) ?_
              exact hK undef x hS (fun j u hj hne h => h) rfl
          case done =>
            intro tt x hS hG
            have e15 : tt 39 = .bool true := hG 8 (by decide)
            have H6 : Hid (RpAt x B b _ r1) := (show Hid _ from H5.out.kept hS)
            have B6 : Hid (Below B w x) := (show Hid _ from B5.out.trans (hS.mono H5.out.le))
            clear jM CB CX hG hS S0
            show wpList Tryz.prog _ _ [_] _ x
            unfold frSta
            simp only [e15, s0_, s2_]
            clear e15 s0_ s2_
            go_wp2
            (try simp only [Exit.inBlock, Exit.then])
            refine bodyPost_ret (results_none rfl _ _ _) rfl ?_
            rw [HE.out]
            first | exact ⟨rfl, _, H6.out, B6.out⟩ | exact ⟨rfl, ⟨_, H6.out⟩, B6.out⟩
        | true =>
          rw [hq] at jM
          have HQ : Hid (maj r1.te.length r1.p) := (show maj _ _ from by rw [← HNT.out]; exact dB_is hq)
          clear hq
          obtain ⟨cN, hcN⟩ : ∃ cN, cN = r1.c.toNat := ⟨_, rfl⟩
          have hc1 := HOK1.out.c
          have jA := fun x (hS : Below w5.heap.size w5 x) => implAgr r1 _ b cN lc la x (H5.out.kept hS).c rfl (H5.out.kept hS).got.l (by omega) (by omega)
          have jB := fun x (hS : Below w5.heap.size w5 x) => implBegL (.slice pl nx cl) (.slice la cN lc) X.m.l (r1.l.take cN) x (by rw [← HNX.out.2]; exact (H5.out.kept hS).got.te.2 X HX.out.1) (Sls.take (H5.out.kept hS).got.l (by omega)) (by rw [HX.out.2]; exact Nat.le_trans (HOK1.out.te5.2 _ (besM_mem (fun e => by have := HT1.out; rw [e] at this; exact absurd this (by decide)))).1 (by decide)) (by rw [List.length_take]; have := (logB_sm HOK1.out.l).1; omega)
          have HCN : Hid (cN = r1.c.toNat) := hcN
          clear hcN hc1
          obtain ⟨D, hD⟩ : ∃ D, D = dB (r1.l.take cN <+: X.m.l) := ⟨_, rfl⟩
          have HD : Hid (D = dB (r1.l.take cN <+: X.m.l)) := hD
          rw [← hD] at jB
          clear hD
          generalize hA : Act.mk _ _ = A
          obtain ⟨s, hs, s0_, s2_⟩ : ∃ s : Nat → Value, A = frStb s s ∧ s 0 = .pointer (some ⟨b, 0, none⟩) ∧ s 2 = .pointer (some ⟨g, 0, none⟩) := by
            refine ⟨fun i => A.tmps.getD i undef, ?_, ?_, ?_⟩ <;> rw [← hA] <;> rfl
          rw [hs]
          clear hs hA
          refine region_heads 15 mixed (by decide) (by kernel_rfl) (by kernel_rfl) (by kernel_rfl) (by kernel_rfl) (frStb s) dStb (fun x => Below w5.heap.size w5 x) (GStb b g nT nx cN lc la ta pl tc cl D) (fun i j hi hj h => dStb_ne hi hj h) ?put s rfl S0 ?step ?done
          case put =>
            intro i o hi ho t v
            rcases (show i = 0 ∨ i = 1 ∨ i = 2 ∨ i = 3 ∨ i = 4 ∨ i = 5 ∨ i = 6 ∨ i = 7 ∨ i = 8 ∨ i = 9 ∨ i = 10 ∨ i = 11 ∨ i = 12 ∨ i = 13 ∨ i = 14 by omega) with rfl | rfl | rfl | rfl | rfl | rfl | rfl | rfl | rfl | rfl | rfl | rfl | rfl | rfl | rfl
            all_goals
              obtain rfl := Option.some.inj ho
              rfl
          case step =>
            intro i o hi ho t x hS hdep K hK
            rcases (show i = 0 ∨ i = 1 ∨ i = 2 ∨ i = 3 ∨ i = 4 ∨ i = 5 ∨ i = 6 ∨ i = 7 ∨ i = 8 ∨ i = 9 ∨ i = 10 ∨ i = 11 ∨ i = 12 ∨ i = 13 ∨ i = 14 by omega) with rfl | rfl | rfl | rfl | rfl | rfl | rfl | rfl | rfl | rfl | rfl | rfl | rfl | rfl | rfl
            all_goals obtain rfl := Option.some.inj ho
            · have h2 := hK (.pointer (some ⟨b, 0, none⟩)) x hS (fun j u hj hne h => h) rfl
              unfold frStb at h2 ⊢
              clear hK
              go_simp
              simpa [Act.put, s0_, s2_] using h2
            · have h2 := hK (.pointer (some ⟨b, 0, none⟩)) x hS (fun j u hj hne h => h) rfl
              unfold frStb at h2 ⊢
              clear hK
              go_simp
              simpa [Act.put, s0_, s2_] using h2
            · have e1 : t 32 = .pointer (some ⟨b, 0, none⟩) := hdep { on := 1, ground := Ground.data } (by simp) rfl
              have h2 := hK (.pointer (some ⟨b, 0, none⟩)) x hS (fun j u hj hne h => h) rfl
              unfold frStb at h2 ⊢
              clear hK
              go_simp
              simpa [Act.put, e1, s0_, s2_] using h2
            · have e2 : t 33 = .pointer (some ⟨b, 0, none⟩) := hdep { on := 2, ground := Ground.data } (by simp) rfl
              have h2 := hK (.pointer (some ⟨b, 9, none⟩)) x hS (fun j u hj hne h => h) rfl
              unfold frStb at h2 ⊢
              clear hK
              go_simp
              simpa [Act.put, e2, s0_, s2_] using h2
            · have e3 : t 34 = .pointer (some ⟨b, 9, none⟩) := hdep { on := 3, ground := Ground.data } (by simp) rfl
              have y0 := (CB x hS)
              have h2 := hK (.slice ta nT tc) x hS (fun j u hj hne h => h) rfl
              unfold frStb at h2 ⊢
              clear hK
              go_simp
              simpa [Act.put, e3, y0, s0_, s2_] using h2
            · have e4 : t 35 = .slice ta nT tc := hdep { on := 4, ground := Ground.data } (by simp) rfl
              have h2 := hK (.int .i64 (nT : Int)) x hS (fun j u hj hne h => h) rfl
              unfold frStb at h2 ⊢
              clear hK
              go_simp
              simpa [Act.put, e4, s0_, s2_] using h2
            · have e0 : t 31 = .pointer (some ⟨b, 0, none⟩) := hdep { on := 0, ground := Ground.data } (by simp) rfl
              have e5 : t 36 = .int .i64 (nT : Int) := hdep { on := 5, ground := Ground.data } (by simp) rfl
              refine callG2 (by rfl) 181 (.tmp 31) (.tmp 36) _ rfl (.pointer (some ⟨b, 0, none⟩)) (.int .i64 (nT : Int)) e0 e5 (Go.Proofs.enters_of Tryz.func181 (by kernel_rfl) rfl _) (fun v y => (v = .bool true) ∧ Below x.heap.size x y) ((jM x hS).mono ?_) ?_
              · rintro e0 y0 ⟨h0, rfl⟩
                exact ⟨_, h0, rfl, Below.refl _ _⟩
              · rintro v y ⟨h0, hb2⟩
                exact hK v y (hS.trans (hb2.mono hS.size)) (fun j u hj hne h => GStb.keep hb2 j u hj h) h0
            · have e6 : t 37 = .bool true := hdep { on := 6, ground := Ground.data } (by simp) rfl
              have h2 := hK (.bool false) x hS (fun j u hj hne h => h) rfl
              unfold frStb at h2 ⊢
              clear hK
              go_simp
              simpa [Act.put, e6, s0_, s2_] using h2
            · have e7 : t 38 = .bool false := hdep { on := 7, ground := Ground.data } (by simp) rfl
              have h2 := hK (.bool false) x hS (fun j u hj hne h => h) rfl
              unfold frStb at h2 ⊢
              clear hK
              go_simp
              simpa [Act.put, e7, s0_, s2_] using h2
            · have e8 : t 39 = .bool false := hdep { on := 8, ground := Ground.guard } (by simp) rfl
              have h2 := hK (.pointer (some ⟨g, 5, none⟩)) x hS (fun j u hj hne h => h) rfl
              unfold frStb at h2 ⊢
              clear hK
              go_simp
              simpa [Act.put, e8, s0_, s2_] using h2
            · have e9 : t 40 = .pointer (some ⟨g, 5, none⟩) := hdep { on := 9, ground := Ground.data } (by simp) rfl
              have e8 : t 39 = .bool false := hdep { on := 8, ground := Ground.guard } (by simp) rfl
              have y0 := (CX x hS)
              have h2 := hK (.slice pl nx cl) x hS (fun j u hj hne h => h) rfl
              unfold frStb at h2 ⊢
              clear hK
              go_simp
              simpa [Act.put, e9, e8, y0, s0_, s2_] using h2
            · have e8 : t 39 = .bool false := hdep { on := 8, ground := Ground.guard } (by simp) rfl
              have h2 := hK (.pointer (some ⟨b, 0, none⟩)) x hS (fun j u hj hne h => h) rfl
              unfold frStb at h2 ⊢
              clear hK
              go_simp
              simpa [Act.put, e8, s0_, s2_] using h2
            · have e11 : t 42 = .pointer (some ⟨b, 0, none⟩) := hdep { on := 11, ground := Ground.data } (by simp) rfl
              have e8 : t 39 = .bool false := hdep { on := 8, ground := Ground.guard } (by simp) rfl
              refine callG1 (wantG 8 false rfl _ rfl 39 rfl (congrArg some e8)) 192 (.tmp 42) _ rfl (.pointer (some ⟨b, 0, none⟩)) e11 (Go.Proofs.enters_of Tryz.func192 (by kernel_rfl) rfl _) (fun v y => (v = .slice la cN lc) ∧ Below x.heap.size x y) ((jA x hS).mono ?_) ?_
              · rintro e0 y0 ⟨h0, h1, h2⟩
                exact ⟨_, h0, rfl, h2⟩
              · rintro v y ⟨h0, hb2⟩
                exact hK v y (hS.trans (hb2.mono hS.size)) (fun j u hj hne h => GStb.keep hb2 j u hj h) h0
            · have e10 : t 41 = .slice pl nx cl := hdep { on := 10, ground := Ground.data } (by simp) rfl
              have e12 : t 43 = .slice la cN lc := hdep { on := 12, ground := Ground.data } (by simp) rfl
              have e8 : t 39 = .bool false := hdep { on := 8, ground := Ground.guard } (by simp) rfl
              refine callG2 (wantG 8 false rfl _ rfl 39 rfl (congrArg some e8)) 131 (.tmp 41) (.tmp 43) _ rfl (.slice pl nx cl) (.slice la cN lc) e10 e12 (Go.Proofs.enters_of Tryz.func131 (by kernel_rfl) rfl _) (fun v y => (v = .bool D) ∧ Below x.heap.size x y) ((jB x hS).mono ?_) ?_
              · rintro e0 y0 ⟨h0, h2⟩
                exact ⟨_, h0, rfl, h2⟩
              · rintro v y ⟨h0, hb2⟩
                exact hK v y (hS.trans (hb2.mono hS.size)) (fun j u hj hne h => GStb.keep hb2 j u hj h) h0
            · have e13 : t 44 = .bool D := hdep { on := 13, ground := Ground.data } (by simp) rfl
              have e8 : t 39 = .bool false := hdep { on := 8, ground := Ground.guard } (by simp) rfl
              have h2 := hK (.bool !D) x hS (fun j u hj hne h => h) rfl
              unfold frStb at h2 ⊢
              clear hK
              go_simp
              simpa [Act.put, e13, e8, s0_, s2_] using h2
          case done =>
            intro tt x hS hG
            have e15 : tt 45 = .bool !D := hG 14 (by decide)
            have e8 : tt 39 = .bool false := hG 8 (by decide)
            have H6 : Hid (RpAt x B b ⟨.slice la r1.l.length lc, .slice oa1 r1.ok.length oc1, .slice ca1 r1.ch.length cc1, .slice ta r1.te.length tc, T⟩ r1) := (show Hid _ from H5.out.kept hS)
            have B6 : Hid (Below B w x) := (show Hid _ from B5.out.trans (hS.mono H5.out.le))
            have X6 : Hid (Bx x g 30 (mxV X)) := (show Hid _ from Bx.kept X5.out hS)
            clear jM jA jB CB CX hG hS S0 H5 B5 X5
            show wpList Tryz.prog _ _ [_] _ x
            unfold frStb
            simp only [e15, e8, s0_, s2_]
            clear e15 e8 s0_ s2_
            cases D with
            | false =>
              have HE : Hid (told r = r1) := (show _ = _ from by
                rw [HA.out, if_neg (fun hh => hh HQ.out), if_pos]
                rw [← HX.out.2, ← HCN.out]
                exact dB_not HD.out.symm)
              simp only [Bool.not_false]
              go_wp2
              (try simp only [Exit.inBlock, Exit.then])
              refine bodyPost_ret (results_none rfl _ _ _) rfl ?_
              rw [HE.out]
              first | exact ⟨rfl, _, H6.out, B6.out⟩ | exact ⟨rfl, ⟨_, H6.out⟩, B6.out⟩
            | true =>
              have HE : Hid (told r = cntd { r1 with l := X.m.l, c := min (cmtM r1.te) (nx : Int), n := true, la := r1.v, ch := [], te := [], ok := List.replicate r1.p.toNat 0 }) := (show _ = _ from by
                rw [HA.out, if_neg (fun hh => hh HQ.out), if_neg, HNX.out.1, HX.out.2]
                rw [← HX.out.2, ← HCN.out]
                exact fun hh => hh (dB_is HD.out.symm))
              clear HA HD HCN HQ
              simp only [Bool.not_true]
              go_upto_region 4 with fail
              have CB := fun y (hS : Below x.heap.size x y) => (show y.cell? ⟨b, 9, none⟩ = some (.slice ta nT tc) from by rw [HNT.out]; exact (H6.out.kept hS).c.cells.2.2.2.2.2.2.2.2.2)
              have CX := fun y (hS : Below x.heap.size x y) => (show y.cell? ⟨g, 5, none⟩ = some (.slice pl nx cl) from by rw [← HNX.out.2]; exact (Bx.kept X6.out hS).cell 5)
              have jC := fun y (hS : Below x.heap.size x y) => implMost (.slice ta nT tc) T y (by rw [HNT.out]; exact (H6.out.kept hS).got.te.1) (by rw [HTL.out.1]; have := HOK1.out.te5; omega)
              rw [HTL.out.2] at jC
              obtain ⟨M, hM⟩ : ∃ M, M = cmtM r1.te := ⟨_, rfl⟩
              have HMM : Hid (M = cmtM r1.te ∧ 0 ≤ M) := (show _ ∧ _ from ⟨hM, by rw [hM]; exact (cmt_ge _ 0).1⟩)
              rw [← hM] at jC
              clear hM
              have S0 : Below x.heap.size x x.drew := ⟨rfl, rfl, rfl, Nat.le_refl _, fun _ _ => rfl⟩
              generalize hx7 : x = w7 at H6 B6 X6 CB CX jC S0 ⊢
              clear hx7
              generalize hA : Act.mk _ _ = A
              obtain ⟨s, hs, s0_, s2_⟩ : ∃ s : Nat → Value, A = frStc s s ∧ s 0 = .pointer (some ⟨b, 0, none⟩) ∧ s 2 = .pointer (some ⟨g, 0, none⟩) := by
                refine ⟨fun i => A.tmps.getD i undef, ?_, ?_, ?_⟩ <;> rw [← hA] <;> rfl
              rw [hs]
              clear hs hA
              refine region_heads 12 mixed (by decide) (by kernel_rfl) (by kernel_rfl) (by kernel_rfl) (by kernel_rfl) (frStc s) dStc (fun x => Below w7.heap.size w7 x) (GStc b g nT nx ta pl tc cl M) (fun i j hi hj h => dStc_ne hi hj h) ?put s rfl S0 ?step ?done
              case put =>
                intro i o hi ho t v
                rcases (show i = 0 ∨ i = 1 ∨ i = 2 ∨ i = 3 ∨ i = 4 ∨ i = 5 ∨ i = 6 ∨ i = 7 ∨ i = 8 ∨ i = 9 ∨ i = 10 ∨ i = 11 by omega) with rfl | rfl | rfl | rfl | rfl | rfl | rfl | rfl | rfl | rfl | rfl | rfl
                all_goals
                  obtain rfl := Option.some.inj ho
                  rfl
              case step =>
                intro i o hi ho t x hS hdep K hK
                rcases (show i = 0 ∨ i = 1 ∨ i = 2 ∨ i = 3 ∨ i = 4 ∨ i = 5 ∨ i = 6 ∨ i = 7 ∨ i = 8 ∨ i = 9 ∨ i = 10 ∨ i = 11 by omega) with rfl | rfl | rfl | rfl | rfl | rfl | rfl | rfl | rfl | rfl | rfl | rfl
                all_goals obtain rfl := Option.some.inj ho
                · have h2 := hK (.pointer (some ⟨b, 0, none⟩)) x hS (fun j u hj hne h => h) rfl
                  unfold frStc at h2 ⊢
                  clear hK
                  go_simp
                  simpa [Act.put, s0_, s2_] using h2
                · have h2 := hK (.pointer (some ⟨b, 0, none⟩)) x hS (fun j u hj hne h => h) rfl
                  unfold frStc at h2 ⊢
                  clear hK
                  go_simp
                  simpa [Act.put, s0_, s2_] using h2
                · have e1 : t 48 = .pointer (some ⟨b, 0, none⟩) := hdep { on := 1, ground := Ground.data } (by simp) rfl
                  have h2 := hK (.pointer (some ⟨b, 0, none⟩)) x hS (fun j u hj hne h => h) rfl
                  unfold frStc at h2 ⊢
                  clear hK
                  go_simp
                  simpa [Act.put, e1, s0_, s2_] using h2
                · have e2 : t 49 = .pointer (some ⟨b, 0, none⟩) := hdep { on := 2, ground := Ground.data } (by simp) rfl
                  have h2 := hK (.pointer (some ⟨b, 9, none⟩)) x hS (fun j u hj hne h => h) rfl
                  unfold frStc at h2 ⊢
                  clear hK
                  go_simp
                  simpa [Act.put, e2, s0_, s2_] using h2
                · have e3 : t 50 = .pointer (some ⟨b, 9, none⟩) := hdep { on := 3, ground := Ground.data } (by simp) rfl
                  have y0 := (CB x hS)
                  have h2 := hK (.slice ta nT tc) x hS (fun j u hj hne h => h) rfl
                  unfold frStc at h2 ⊢
                  clear hK
                  go_simp
                  simpa [Act.put, e3, y0, s0_, s2_] using h2
                · have e4 : t 51 = .slice ta nT tc := hdep { on := 4, ground := Ground.data } (by simp) rfl
                  refine callG1 (by rfl) 213 (.tmp 51) _ rfl (.slice ta nT tc) e4 (Go.Proofs.enters_of Tryz.func213 (by kernel_rfl) rfl _) (fun v y => (v = .int .i64 M) ∧ Below x.heap.size x y) ((jC x hS).mono ?_) ?_
                  · rintro e0 y0 ⟨h0, h2⟩
                    exact ⟨_, h0, rfl, h2⟩
                  · rintro v y ⟨h0, hb2⟩
                    exact hK v y (hS.trans (hb2.mono hS.size)) (fun j u hj hne h => GStc.keep hb2 j u hj h) h0
                · have h2 := hK (.pointer (some ⟨g, 5, none⟩)) x hS (fun j u hj hne h => h) rfl
                  unfold frStc at h2 ⊢
                  clear hK
                  go_simp
                  simpa [Act.put, s0_, s2_] using h2
                · have e6 : t 53 = .pointer (some ⟨g, 5, none⟩) := hdep { on := 6, ground := Ground.data } (by simp) rfl
                  have y0 := (CX x hS)
                  have h2 := hK (.slice pl nx cl) x hS (fun j u hj hne h => h) rfl
                  unfold frStc at h2 ⊢
                  clear hK
                  go_simp
                  simpa [Act.put, e6, y0, s0_, s2_] using h2
                · have e7 : t 54 = .slice pl nx cl := hdep { on := 7, ground := Ground.data } (by simp) rfl
                  have h2 := hK (.int .i64 (nx : Int)) x hS (fun j u hj hne h => h) rfl
                  unfold frStc at h2 ⊢
                  clear hK
                  go_simp
                  simpa [Act.put, e7, s0_, s2_] using h2
                · have e5 : t 52 = .int .i64 M := hdep { on := 5, ground := Ground.data } (by simp) rfl
                  have e8 : t 55 = .int .i64 (nx : Int) := hdep { on := 8, ground := Ground.data } (by simp) rfl
                  have h2 := hK (.int .i64 (min M (nx : Int))) x hS (fun j u hj hne h => h) rfl
                  unfold frStc at h2 ⊢
                  clear hK
                  go_simp
                  simpa [Act.put, e5, e8, s0_, s2_] using h2
                · have e0 : t 47 = .pointer (some ⟨b, 0, none⟩) := hdep { on := 0, ground := Ground.data } (by simp) rfl
                  have h2 := hK (.pointer (some ⟨b, 0, none⟩)) x hS (fun j u hj hne h => h) rfl
                  unfold frStc at h2 ⊢
                  clear hK
                  go_simp
                  simpa [Act.put, e0, s0_, s2_] using h2
                · have e10 : t 57 = .pointer (some ⟨b, 0, none⟩) := hdep { on := 10, ground := Ground.data } (by simp) rfl
                  have h2 := hK (.pointer (some ⟨b, 6, none⟩)) x hS (fun j u hj hne h => h) rfl
                  unfold frStc at h2 ⊢
                  clear hK
                  go_simp
                  simpa [Act.put, e10, s0_, s2_] using h2
              case done =>
                intro tt x hS hG
                have e9 : tt 56 = .int .i64 (min M (nx : Int)) := hG 9 (by decide)
                have e11 : tt 58 = .pointer (some ⟨b, 6, none⟩) := hG 11 (by decide)
                have H8 : Hid (RpAt x B b ⟨.slice la r1.l.length lc, .slice oa1 r1.ok.length oc1, .slice ca1 r1.ch.length cc1, .slice ta r1.te.length tc, T⟩ r1) := (show Hid _ from H6.out.kept hS)
                have B8 : Hid (Below B w x) := (show Hid _ from B6.out.trans (hS.mono H6.out.le))
                have X8 : Hid (Bx x g 30 (mxV X)) := (show Hid _ from Bx.kept X6.out hS)
                have HLT : Hid (g < x.heap.size) := Bx.lt X8.out
                clear jC CB CX hG hS S0 H6 B6 X6
                show wpList Tryz.prog _ _ [_] _ x
                unfold frStc
                simp only [e9, e11, s0_, s2_]
                clear e9 e11 s0_ s2_
                refine wpList_put1 rfl rfl 2 (.tmp 58) (.tmp 56) rfl b 6 (.int .i64 (min M (nx : Int))) rfl rfl Tryz.rsz2 rfl H8.out.c (show 6 < (rpC r1 _).size by rw [rpC_size]; decide) ?_
                have h9 := H8.out.setC (min M (nx : Int))
                have x9 := Bx.other (g := b) X8.out 6 (.int .i64 (min M (nx : Int))) (by have := HBG.out; omega)
                have b9 := (Below.refl B x).setCell (p := ⟨b, 6, none⟩) H8.out.hb (.int .i64 (min M (nx : Int)))
                generalize x.setCell ⟨b, 6, none⟩ (.int .i64 (min M (nx : Int))) = w9 at h9 x9 b9 ⊢
                have H9 : Hid (RpAt w9 B b ⟨.slice la r1.l.length lc, .slice oa1 r1.ok.length oc1, .slice ca1 r1.ch.length cc1, .slice ta r1.te.length tc, T⟩ { r1 with c := min M (nx : Int) }) := h9
                have B9 : Hid (Below B w w9) := (show Hid _ from B8.out.trans b9)
                have X9 : Hid (Bx w9 g 30 (mxV X)) := x9
                have c5 : w9.cell? ⟨g, 5, none⟩ = some (.slice pl nx cl) := by rw [← HNX.out.2]; exact x9.cell 5
                clear h9 b9 x9 H8 B8 X8 HLT
                go_upto_region 6 with (refine wpList_put1 rfl rfl 24 (.tmp 63) (.tmp 61) rfl b 5 (.slice pl nx cl) rfl rfl Tryz.rszS rfl H9.out.c (show 5 < (rpC _ _).size by rw [rpC_size]; decide) ?_)
                have hx10 := H9.out.toX HX.out.1
                rw [HNX.out.2] at hx10
                have b10 := (Below.refl B w9).setCell (p := ⟨b, 5, none⟩) H9.out.hb (.slice pl nx cl)
                generalize w9.setCell ⟨b, 5, none⟩ (.slice pl nx cl) = w10 at hx10 b10 ⊢
                have B10 : Hid (Below B w w10) := (show Hid _ from B9.out.trans b10)
                have HX10 : Hid (RpX w10 B b _ _ { r1 with c := min M (nx : Int), l := X.m.l, te := [] }) := hx10
                clear hx10 b10 c5 H9 B9 X9
                have jn := implBeNX _ _ B b _ w10 HX10.out rfl rfl HOK1.out.p HOK1.out.id ⟨HOK1.out.v.1, by have := HOK1.out.v; show r1.v ≤ _; omega⟩ (show 0 ≤ min M (nx : Int) by have := HMM.out.2; omega) (show X.m.l.length ≤ 1048576 by rw [HX.out.2]; exact Nat.le_trans (HOK1.out.te5.2 _ (besM_mem (fun e => by have := HT1.out; rw [e] at this; exact absurd this (by decide)))).1 (by decide))
                go_wp2_with fail
                refine jn.mono ?_
                rintro e w11 ⟨rfl, u11, h11, b11⟩
                have HF : Hid (beN { r1 with c := min M (nx : Int), l := X.m.l, te := [] } = told r) := (show _ = _ from by
                  rw [HE.out, HMM.out.1]
                  exact anew_leads (r := { r1 with c := min (cmtM r1.te) (nx : Int), l := X.m.l, n := true, la := r1.v, ch := [], te := [] }) ⟨rfl, HMI.out⟩)
                rw [HF.out] at h11
                have H11 : Hid (RpAt w11 B b u11 (told r)) := h11
                have B11 : Hid (Below B w w11) := (show Hid _ from B10.out.trans b11)
                clear h11 b11 jn
                go_wp2
                go_end0
                first | exact ⟨rfl, _, H11.out, B11.out⟩ | exact ⟨rfl, ⟨_, H11.out⟩, B11.out⟩
end Go.Proofs.YtlngleinegkoeaaGreat.Rl
namespace Go.Proofs.YtlngleinegkoeaaGreat
open Go.RowKit Go.Sort
set_option linter.unusedVariables false

theorem callG3 {ops : Array Oper} {o : Oper} {a : Act} {w : World} {K : Act → World → Prop} {Q : Exit → Act → World → Prop} {E : Prop} (hw : Region.wanted o (yielded ops a.tmps) = true) (f : FuncId) (x0 x1 x2 : Operand) (ts : Array TypeId)
    (ho : o.op = .call { callee := .value (.func f), args := #[x0, x1, x2], argTypes := ts }) (v0 v1 v2 : Value) (h0 : a.eval x0 = v0) (h1 : a.eval x1 = v1) (h2 : a.eval x2 = v2) (hent : ∀ w, (callFunc f #[v0, v1, v2]).run Tryz.prog w = .ok (.enter f #[v0, v1, v2]) w) (R : Value → World → Prop)
    (hc : Calls Tryz.prog f #[v0, v1, v2] w fun e w' => ∃ v, e = .returned v ∧ R v w') (h : ∀ v w', R v w' → K (a.put o.dst v) w') :
    if Region.wanted o (yielded ops a.tmps) = true then Oper.wp Tryz.prog o a w K Q else E :=
  callG hw f #[x0, x1, x2] ts ho #[v0, v1, v2] (by simp [h0, h1, h2]) hent R hc h
end Go.Proofs.YtlngleinegkoeaaGreat
namespace Go.Proofs.YtlngleinegkoeaaGreat.Rl
open Go.RowKit Go.Sort Go.Shelf
set_option linter.unusedVariables false
set_option linter.unusedSimpArgs false

theorem SrcAt.one {l : List Int} {z : Int} {k k' : Nat} {D D' : Bool} (h : SrcAt l z k D) (h' : SrcAt l z k' D') : k = k' ∧ D = D' := by
  have ge : ∀ {k : Nat} {D : Bool}, SrcAt l z k D → ∀ (hk : k < l.length), z ≤ l[k] := fun {k D} h hk => by
    cases D with
    | true => obtain ⟨_, e⟩ := h.yes rfl; omega
    | false => exact Int.le_of_lt (h.no rfl hk)
  have e : k = k' := by
    rcases Nat.lt_trichotomy k k' with hlt | e | hlt
    · have h1 := h'.le
      have h2 := ge h (by omega)
      have h3 := h'.lo k (by omega) hlt
      omega
    · exact e
    · have h1 := h.le
      have h2 := ge h' (by omega)
      have h3 := h.lo k' (by omega) hlt
      omega
  subst e
  refine ⟨rfl, ?_⟩
  cases D <;> cases D'
  · rfl
  · obtain ⟨h1, h2⟩ := h'.yes rfl
    have := h.no rfl h1
    omega
  · obtain ⟨h1, h2⟩ := h.yes rfl
    have := h'.no rfl h1
    omega
  · rfl
theorem SrcAt.is : ∀ (l : List Int) (z : Int), ∃ k D, SrcAt l z k D
  | [], z => ⟨0, false, Nat.le_refl _, fun i h => absurd h (Nat.not_lt_zero _), fun h => (by cases h), fun _ h => absurd h (Nat.not_lt_zero _)⟩
  | x :: t, z => by
    by_cases h1 : x < z
    · obtain ⟨k, D, h⟩ := SrcAt.is t z
      refine ⟨k + 1, D, by simpa using h.le, fun i hi hk => ?_, fun e => ?_, fun e hk => ?_⟩
      · cases i with
        | zero => exact h1
        | succ i => exact h.lo i (by simpa using hi) (by omega)
      · obtain ⟨a, b⟩ := h.yes e
        exact ⟨by simpa using a, by simpa using b⟩
      · have := h.no e (by simpa using hk)
        simpa using this
    · by_cases h2 : x = z
      · exact ⟨0, true, Nat.zero_le _, fun i _ hk => absurd hk (Nat.not_lt_zero _), fun _ => ⟨by simp, h2⟩, fun e => (by cases e)⟩
      · exact ⟨0, false, Nat.zero_le _, fun i _ hk => absurd hk (Nat.not_lt_zero _), fun e => (by cases e), fun _ _ => (by show z < x; omega)⟩
/-- What is searched is found where it stands. -/
theorem implBsA (v : Value) (T : List Mx) (z : Int) (k : Nat) (D : Bool) (w : World) (h : Sls mxE w v T) (hl : T.length ≤ 1000) (hr : (T.map (·.m.f)).Pairwise (· < ·)) (hs : SrcAt (T.map (·.m.f)) z k D) :
    Calls Tryz.prog 237 #[v, .int .i64 z, .func (.func 238) #[] #[]] w fun e w' => e = .returned (.tuple #[.int .i64 (k : Int), .bool D]) ∧ Below w.heap.size w w' :=
  (implBsf v T z w h hl hr).mono fun e w' ⟨k', D', h1, h2, h3⟩ => by
    obtain ⟨rfl, rfl⟩ := hs.one h2
    exact ⟨h1, h3⟩
/-- One message inserted: the row that it makes, where it lies. -/
structure InsP (w w' : World) (B : Nat) (te v : Value) (T : List Mx) (k : Nat) (x : Mx) : Prop where
  row : OwnsM w' B v (T.take k ++ x :: T.drop k)
  grown : w.grownBy w' te.ownBlock
  blk : v.ownBlock = te.ownBlock ∨ ∃ n, v.ownBlock = some n ∧ w.heap.size ≤ n
set_option maxRecDepth 100000 in
set_option maxHeartbeats 8000000 in
theorem implInsE (te : Value) (T : List Mx) (x : Mx) (B g : Nat) (w : World) (h : OwnsM w B te T) (hg : Bx w g 30 (mxV x)) (hl : T.length ≤ 1000) (hB : B ≤ w.heap.size) :
    Calls Tryz.prog 240 #[te, .int .i64 (T.length : Int), .slice (some ⟨g, 0, none⟩) 1 1] w fun e w' => ∃ v, e = .returned v ∧ InsP w w' B te v T T.length x := by
  have H : Hid (OwnsM w B te T) := h
  have HG : Hid (Bx w g 30 (mxV x)) := hg
  obtain ⟨a, c, rfl, h1, h2⟩ := h.form
  unfold maxLen at h2
  have HL : Hid (T.length ≤ 1000 ∧ B ≤ w.heap.size) := (show _ ∧ _ from ⟨hl, hB⟩)
  clear hg
  by_cases hcc : T.length = c
  · subst hcc
    go_enter Tryz.func240, Tryz.ntmps240
    go_upto_region 8 with (refine wpList_rowE_at (E := mxE) _ rfl (.tmp 23) (.tmp 24) 26 30 _ 72 Tryz.underlying26 Tryz.infoMSV rfl rfl B (.slice a T.length T.length) T rfl H.out ⟨g, 0, none⟩ 1 [x] rfl (fun j q hq => by
        rw [cellsE_single] at hq
        rw [addr_add, Nat.zero_add, HG.out.cell j]
        simpa [mxE, mxC, mxV, Mx.u] using hq) (by have := HL.out; unfold maxLen; simp only [List.length_singleton]; omega) (by have := HL.out; simp only [List.length_singleton]; omega) HL.out.2 ?_; intro v w' k1 k2 _ k4)
    have K1 : Hid (OwnsM w' B v (T ++ [x])) := k1
    have K2 : Hid (w.grownBy w' (Value.slice a T.length T.length).ownBlock ∧ (v.ownBlock = (Value.slice a T.length T.length).ownBlock ∨ v.ownBlock = some w.heap.size)) := (show _ ∧ _ from ⟨k2, k4⟩)
    clear k1 k2 k4 h1 h2 h
    go_wp2
    go_ret
    refine ⟨_, rfl, ⟨?_, K2.out.1, ?_⟩⟩
    · rw [List.take_length, List.drop_length]
      exact K1.out
    · rcases K2.out.2 with e | e
      · exact .inl e
      · exact .inr ⟨_, e, Nat.le_refl _⟩
  · have hcc2 : ¬ (c : Int) = (T.length : Int) := by omega
    have hcc3 : ¬ c - T.length = 0 := by omega
    go_enter Tryz.func240, Tryz.ntmps240
    go_upto_region 8 with (refine wpList_rowE_at (E := mxE) _ rfl (.tmp 23) (.tmp 24) 26 30 _ 72 Tryz.underlying26 Tryz.infoMSV rfl rfl B (.slice a T.length c) T rfl H.out ⟨g, 0, none⟩ 1 [x] rfl (fun j q hq => by
        rw [cellsE_single] at hq
        rw [addr_add, Nat.zero_add, HG.out.cell j]
        simpa [mxE, mxC, mxV, Mx.u] using hq) (by have := HL.out; unfold maxLen; simp only [List.length_singleton]; omega) (by have := HL.out; simp only [List.length_singleton]; omega) HL.out.2 ?_; intro v w' k1 k2 _ k4)
    have K1 : Hid (OwnsM w' B v (T ++ [x])) := k1
    have K2 : Hid (w.grownBy w' (Value.slice a T.length c).ownBlock ∧ (v.ownBlock = (Value.slice a T.length c).ownBlock ∨ v.ownBlock = some w.heap.size)) := (show _ ∧ _ from ⟨k2, k4⟩)
    clear k1 k2 k4 h1 h2 h
    go_wp2
    go_ret
    refine ⟨_, rfl, ⟨?_, K2.out.1, ?_⟩⟩
    · rw [List.take_length, List.drop_length]
      exact K1.out
    · rcases K2.out.2 with e | e
      · exact .inl e
      · exact .inr ⟨_, e, Nat.le_refl _⟩
/-- The Tells grew, where they lie or anew: the rest of the replica is as it was. -/
theorem RpAt.grownTe {w w1 w2 : World} {B b : Nat} {u : Rv} {r : Rp} (h : RpAt w B b u r) (hb : Below w.heap.size w w1) {v : Value} {x : Mx} {k q : Nat} (hkq : k ≤ q) (ho : OwnsM w2 B v (u.T.take k ++ x :: u.T.drop q)) (hg : w1.grownBy w2 u.te.ownBlock) (hv : v.ownBlock = u.te.ownBlock ∨ ∃ n, v.ownBlock = some n ∧ w1.heap.size ≤ n)
    (hx : HasX w B x.u x.m.l) (hxa : ∀ y ∈ u.rows, ap y x.u) :
    RpAt (w2.setCell ⟨b, 9, none⟩ v) B b { u with te := v, T := u.T.take k ++ x :: u.T.drop q } { r with te := r.te.take k ++ x.m :: r.te.drop q } ∧ Below B w (w2.setCell ⟨b, 9, none⟩ v) ∧ RpB w2 b r u := by
  have h1 := h.kept hb
  have hx1 := hx.kept hb
  obtain ⟨a1, a2, a3, a4, a5⟩ := RpAp.iff.1 h.apt
  have hlb : u.te.ownBlock ≠ some b := fun e => h.o.ne h.c _ (rows_te u) b e rfl
  have hoff : ∀ y, y ∈ u.rows → ap u.te y → ∀ k, y.ownBlock = some k → w2.heap[k]? = w1.heap[k]? := fun y hy ha k hk => hg.block k (h1.under y hy k hk) (fun e => ha k e.symm hk)
  have hc2 : RpB w2 b r u := (hg.block b h1.lt (fun e => hlb e.symm)).trans h1.c
  have hxu : x.u.ownBlock = none ∨ ∃ n, x.u.ownBlock = some n ∧ n < w.heap.size := by
    cases e : x.u.ownBlock with
    | none => exact .inl rfl
    | some n => exact .inr ⟨n, rfl, hx.under n e⟩
  have hx2 : HasX w2 B x.u x.m.l := hx1.off (fun k hk => hg.block k (hx1.under k hk) (fun e => hxa u.te (rows_te u) k e.symm hk))
  have hm : ∀ y ∈ u.T.take k ++ x :: u.T.drop q, y ∈ u.T ∨ y = x := fun y hy => by
    rcases List.mem_append.1 hy with hy | hy
    · exact .inl (List.mem_of_mem_take hy)
    · rcases List.mem_cons.1 hy with rfl | hy
      · exact .inr rfl
      · exact .inl (List.mem_of_mem_drop hy)
  have hl : ∀ y ∈ u.T.take k ++ x :: u.T.drop q, HasX w2 B y.u y.m.l := fun y hy => by
    rcases hm y hy with hy | rfl
    · exact (h1.o.tl y hy).off (hoff _ (rows_T (List.mem_map_of_mem hy)) (a4 _ (List.mem_map_of_mem hy)))
    · exact hx2
  have tl : ap u.te u.l := (a1 _ (by simp)).comm
  have tok : ap u.te u.ok := (a2 _ (by simp)).comm
  have tch : ap u.te u.ch := (a3 _ (by simp)).comm
  have hO : RpOw w2 B { u with te := v, T := u.T.take k ++ x :: u.T.drop q } { r with te := r.te.take k ++ x.m :: r.te.drop q } := ⟨h1.o.l.off (hoff _ (rows_l u) tl), h1.o.ok.off (hoff _ (rows_ok u) tok), OwnsE.off h1.o.ch (hoff _ (rows_ch u) tch), by rw [← h.o.t]; simp [List.map_take, List.map_drop], ho, hl⟩
  have hvx : ∀ y, y ∈ u.rows → ap u.te y → ap v y := fun y hy ha k hk hk' => by
    rcases hv with e | ⟨n, e, hn⟩
    · exact ha k (e.symm.trans hk) hk'
    · have := h1.under y hy k hk'
      rw [e] at hk
      injection hk with hk
      omega
  have hA : RpAp { u with te := v, T := u.T.take k ++ x :: u.T.drop q } := by
    refine RpAp.iff.2 ⟨fun y hy => ?_, fun y hy => ?_, fun y hy => ?_, fun y hy => ?_, ?_⟩
    · simp only [List.mem_cons, List.mem_map] at hy
      rcases hy with rfl | rfl | rfl | ⟨z, hz, rfl⟩
      · exact a1 _ (by simp)
      · exact a1 _ (by simp)
      · exact (hvx _ (rows_l u) tl).comm
      · rcases hm z hz with hz | rfl
        · exact a1 _ (by simp only [List.mem_cons]; exact .inr (.inr (.inr (List.mem_map_of_mem hz))))
        · exact hxa _ (rows_l u)
    · simp only [List.mem_cons, List.mem_map] at hy
      rcases hy with rfl | rfl | ⟨z, hz, rfl⟩
      · exact a2 _ (by simp)
      · exact (hvx _ (rows_ok u) tok).comm
      · rcases hm z hz with hz | rfl
        · exact a2 _ (by simp only [List.mem_cons]; exact .inr (.inr (List.mem_map_of_mem hz)))
        · exact hxa _ (rows_ok u)
    · simp only [List.mem_cons, List.mem_map] at hy
      rcases hy with rfl | ⟨z, hz, rfl⟩
      · exact (hvx _ (rows_ch u) tch).comm
      · rcases hm z hz with hz | rfl
        · exact a3 _ (by simp only [List.mem_cons]; exact .inr (List.mem_map_of_mem hz))
        · exact hxa _ (rows_ch u)
    · obtain ⟨z, hz, rfl⟩ := List.mem_map.1 hy
      exact apTy ho (hl z hz)
    · have hT : ∀ y ∈ u.T, ap y.u x.u ∧ ap x.u y.u := fun y hy => ⟨hxa _ (rows_T (List.mem_map_of_mem hy)), (hxa _ (rows_T (List.mem_map_of_mem hy))).comm⟩
      show ((u.T.take k ++ x :: u.T.drop q).map Mx.u).Pairwise ap
      rw [List.map_append, List.map_cons, List.pairwise_append, List.pairwise_cons]
      have hp : ((u.T.map Mx.u).take k ++ (u.T.map Mx.u).drop q).Pairwise ap := by
        refine List.Pairwise.sublist ?_ a5
        have : (u.T.map Mx.u).take k ++ (u.T.map Mx.u).drop k = u.T.map Mx.u := List.take_append_drop k _
        conv => rhs; rw [← this]
        refine List.Sublist.append (List.Sublist.refl _) ?_
        obtain ⟨d, rfl⟩ : ∃ d, q = k + d := ⟨q - k, by omega⟩
        rw [← List.drop_drop]
        exact List.drop_sublist _ _
      rw [List.pairwise_append] at hp
      rw [List.map_take, List.map_drop]
      refine ⟨hp.1, ⟨fun z hz => ?_, hp.2.1⟩, fun y hy z hz => ?_⟩
      · obtain ⟨a, ha, rfl⟩ := List.mem_map.1 (List.mem_of_mem_drop hz)
        exact (hT a ha).2
      · rcases List.mem_cons.1 hz with rfl | hz
        · obtain ⟨a, ha, rfl⟩ := List.mem_map.1 (List.mem_of_mem_take hy)
          exact (hT a ha).1
        · exact hp.2.2 y hy z hz
  have hne := hO.ne hc2
  refine ⟨⟨?_, hO.off fun y hy k hk => Below.heap_setCell _ _ _ _ (hne y hy k hk), hA, h.hb⟩, ?_, hc2⟩
  · exact Bx.put hc2 9 v
  · have hle := h.le
    exact (belowE (hb.mono hle) hg (Nat.le_trans hle hb.size) (fun k hk => h1.o.te.from k hk)).setCell (p := ⟨b, 9, none⟩) h.hb _
theorem wpList_rpGrTe {ops : Array Oper} {rest : List Oper} {o : Oper} {a : Act} {Q : Exit → Act → World → Prop} {w w1 w2 : World} {B b : Nat} {u : Rv} {r : Rp} (h : RpAt w B b u r) (hb : Below w.heap.size w w1) {v : Value} {z : Mx} {k : Nat} (hi : InsP w1 w2 B u.te v u.T k z) (hz : HasX w B z.u z.m.l) (hza : ∀ y ∈ u.rows, ap y z.u)
    (hgd : o.guard = none) (hd : o.dst = none) (x y : Operand) (ho : o.op = .store 26 x y) (hx : a.eval x = .pointer (some ⟨b, 9, none⟩)) (hy : a.eval y = v)
    (hh : ∀ W, RpAt W B b { u with te := v, T := u.T.take k ++ z :: u.T.drop k } { r with te := r.te.take k ++ z.m :: r.te.drop k } → Below B w W → wpList Tryz.prog ops Q rest a W) : wpList Tryz.prog ops Q (o :: rest) a w2 := by
  obtain ⟨k1, k2, k3⟩ := h.grownTe hb (Nat.le_refl k) hi.row hi.grown hi.blk hz hza
  exact wpList_put1 hgd hd 26 x y ho b 9 _ hx hy Tryz.rszM (by obtain ⟨_, _, e, _⟩ := hi.row.form; rw [e]; rfl) k3 (show 9 < (rpC r u).size by rw [rpC_size]; decide) (hh _ k1 k2)
end Go.Proofs.YtlngleinegkoeaaGreat.Rl
namespace Go.Proofs.YtlngleinegkoeaaGreat.Rl
open Go.RowKit Go.Sort Go.Shelf
set_option linter.unusedVariables false
set_option linter.unusedSimpArgs false

def frPta (s t : Nat → Value) : Act := { tmps := #[s 0, s 1, s 2, s 3, t 4, s 5, t 6, t 7, t 8, t 9, t 10, t 11, t 12, t 13, t 14, t 15, s 16, s 17, s 18, s 19, s 20, s 21, s 22, s 23, s 24, s 25, s 26, s 27, s 28, s 29, s 30, s 31, s 32, s 33, s 34], defers := [] }
def LPta : List Nat := [7, 8, 9, 10, 11, 12, 13, 6, 14, 15, 4]
def dPta (i : Nat) : Nat := LPta.getD i (i + 5000)
theorem dPta_ne {i j : Nat} (hi : i < 11) (hj : j < 11) (h : j ≠ i) : dPta j ≠ dPta i := slotsNe (L := LPta) (by decide) rfl hi hj h
def GPta (b g nT k tc : Nat) (ta : Option Addr) (x0 : Mx) (D : Bool) (i : Nat) (x : World) (v : Value) : Prop := match i with
  | 0 => v = .pointer (some ⟨b, 0, none⟩)
  | 1 => v = .pointer (some ⟨b, 0, none⟩)
  | 2 => v = .pointer (some ⟨b, 9, none⟩)
  | 3 => v = .slice ta nT tc
  | 4 => v = .pointer (some ⟨g, 1, none⟩)
  | 5 => v = .int .i64 x0.m.f
  | 6 => v = .tuple #[.int .i64 (k : Int), .bool D]
  | 7 => v = .tuple #[.int .i64 (k : Int), .bool D]
  | 8 => v = .int .i64 (k : Int)
  | 9 => v = .bool D
  | 10 => v = .int .i64 (k : Int)
  | _ => True
theorem GPta.keep {b g nT k tc : Nat} {ta : Option Addr} {x0 : Mx} {D : Bool} {x y : World} (hb : Below x.heap.size x y) (j : Nat) (v : Value) (hj : j < 11) (h : GPta b g nT k tc ta x0 D j x v) : GPta b g nT k tc ta x0 D j y v := by
  rcases (show j = 0 ∨ j = 1 ∨ j = 2 ∨ j = 3 ∨ j = 4 ∨ j = 5 ∨ j = 6 ∨ j = 7 ∨ j = 8 ∨ j = 9 ∨ j = 10 by omega) with rfl | rfl | rfl | rfl | rfl | rfl | rfl | rfl | rfl | rfl | rfl
  · exact h
  · exact h
  · exact h
  · exact h
  · exact h
  · exact h
  · exact h
  · exact h
  · exact h
  · exact h
  · exact h
def frPtb (s t : Nat → Value) : Act := { tmps := #[s 0, s 1, s 2, s 3, s 4, s 5, s 6, s 7, s 8, s 9, s 10, s 11, s 12, s 13, s 14, s 15, s 16, s 17, s 18, s 19, s 20, s 21, s 22, s 23, t 24, t 25, t 26, t 27, t 28, t 29, t 30, t 31, t 32, t 33, t 34], defers := [] }
def LPtb : List Nat := [24, 25, 26, 27, 28, 29, 30, 31, 32, 33, 34]
def dPtb (i : Nat) : Nat := LPtb.getD i (i + 5000)
theorem dPtb_ne {i j : Nat} (hi : i < 11) (hj : j < 11) (h : j ≠ i) : dPtb j ≠ dPtb i := slotsNe (L := LPtb) (by decide) rfl hi hj h
def GPtb (b g nT k tc lo : Nat) (ta : Option Addr) (x0 : Mx) (i : Nat) (x : World) (v : Value) : Prop := match i with
  | 0 => v = .pointer (some ⟨b, 0, none⟩)
  | 1 => v = .pointer (some ⟨b, 0, none⟩)
  | 2 => v = .pointer (some ⟨b, 0, none⟩)
  | 3 => v = .pointer (some ⟨b, 9, none⟩)
  | 4 => v = .slice ta nT tc
  | 5 => v = .int .i64 (k : Int)
  | 6 => v = .agg (mxV x0)
  | 7 => ∃ (gb : Nat), v = .slice (some ⟨gb, 0, none⟩) 1 1 ∧ (lo ≤ gb ∧ Bx x gb 30 (mxV x0))
  | 8 => True
  | 9 => v = .pointer (some ⟨b, 0, none⟩)
  | 10 => v = .pointer (some ⟨b, 9, none⟩)
  | _ => True
theorem GPtb.keep {b g nT k tc lo : Nat} {ta : Option Addr} {x0 : Mx} {x y : World} (hb : Below x.heap.size x y) (j : Nat) (v : Value) (hj : j < 11) (h : GPtb b g nT k tc lo ta x0 j x v) : GPtb b g nT k tc lo ta x0 j y v := by
  rcases (show j = 0 ∨ j = 1 ∨ j = 2 ∨ j = 3 ∨ j = 4 ∨ j = 5 ∨ j = 6 ∨ j = 7 ∨ j = 8 ∨ j = 9 ∨ j = 10 by omega) with rfl | rfl | rfl | rfl | rfl | rfl | rfl | rfl | rfl | rfl | rfl
  · exact h
  · exact h
  · exact h
  · exact h
  · exact h
  · exact h
  · exact h
  · obtain ⟨gb, h1, h2⟩ := h; exact ⟨gb, h1, h2.1, h2.2.kept hb⟩
  · trivial
  · exact h
  · exact h
theorem GPtb.keepM {b g nT k tc lo : Nat} {ta : Option Addr} {x0 : Mx} {x y : World} (hlo : ∀ k, (Value.slice ta nT tc).ownBlock = some k → k < lo) (hg : x.grownBy y (Value.slice ta nT tc).ownBlock) (j : Nat) (v : Value) (hj : j < 11) (hne : j ≠ 8) (h : GPtb b g nT k tc lo ta x0 j x v) : GPtb b g nT k tc lo ta x0 j y v := by
  rcases (show j = 0 ∨ j = 1 ∨ j = 2 ∨ j = 3 ∨ j = 4 ∨ j = 5 ∨ j = 6 ∨ j = 7 ∨ j = 8 ∨ j = 9 ∨ j = 10 by omega) with rfl | rfl | rfl | rfl | rfl | rfl | rfl | rfl | rfl | rfl | rfl
  · exact h
  · exact h
  · exact h
  · exact h
  · exact h
  · exact h
  · exact h
  · obtain ⟨gb, h1, h2⟩ := h; exact ⟨gb, h1, h2.1, (hg.block gb (Bx.lt h2.2) (fun e => by have := hlo gb e.symm; have := h2.1; omega)).trans h2.2⟩
  · exact absurd rfl hne
  · exact h
  · exact h
set_option maxRecDepth 100000 in
set_option maxHeartbeats 16000000 in
theorem implPutN (r : Rp) (u : Rv) (B b k : Nat) (x0 : Mx) (w : World) (h : RpAt w B b u r) (hx : HasX w B x0.u x0.m.l) (hxa : ∀ y ∈ u.rows, ap y x0.u) (hl : r.te.length ≤ 1000) (hr : (r.te.map (·.f)).Pairwise (· < ·)) (hs : SrcAt (r.te.map (·.f)) x0.m.f k false)
    (jI : ∀ (W : World) (te : Value) (T : List Mx) (g : Nat), OwnsM W B te T → Bx W g 30 (mxV x0) → te.ownBlock ≠ some g → T.length = r.te.length → B ≤ W.heap.size → Calls Tryz.prog 240 #[te, .int .i64 (k : Int), .slice (some ⟨g, 0, none⟩) 1 1] W fun e w' => ∃ v, e = .returned v ∧ InsP W w' B te v T k x0) :
    Calls Tryz.prog 202 #[.pointer (some ⟨b, 0, none⟩), .agg (mxV x0)] w fun e w' => e = .returned (.tuple #[]) ∧ ∃ u', RpAt w' B b u' { r with te := r.te.take k ++ x0.m :: r.te.drop k } ∧ Below B w w' := by
  obtain ⟨la, lc, oa, oc, ca, cc, ta, tc, T, rfl⟩ := h.got.form
  have HT : Hid (T.length = r.te.length ∧ T.map (·.m) = r.te) := (show _ ∧ _ from ⟨by rw [← h.o.t, List.length_map], h.o.t⟩)
  have HF : Hid (T.map (·.m.f) = r.te.map (·.f)) := (show _ = _ from by rw [← HT.out.2, List.map_map]; rfl)
  obtain ⟨w1, hw1⟩ : ∃ w1, w1 = w.alloc (.cells (mxV x0) 30) := ⟨_, rfl⟩
  obtain ⟨g, hg⟩ : ∃ g, g = w.heap.size := ⟨_, rfl⟩
  have X1 : Hid (Bx w1 g 30 (mxV x0)) := (show Hid _ from by rw [hw1, hg]; exact Bx.new _ _ _)
  have b1 : Below w.heap.size w w1 := by rw [hw1]; exact (Below.refl _ w).alloc (Nat.le_refl _) _
  have H1 : Hid (RpAt w1 B b ⟨.slice la r.l.length lc, .slice oa r.ok.length oc, .slice ca r.ch.length cc, .slice ta r.te.length tc, T⟩ r) := (show Hid _ from h.kept b1)
  have HX1 : Hid (HasX w1 B x0.u x0.m.l) := (show Hid _ from hx.kept b1)
  have HXA : Hid (∀ y ∈ Rv.rows ⟨.slice la r.l.length lc, .slice oa r.ok.length oc, .slice ca r.ch.length cc, .slice ta r.te.length tc, T⟩, ap y x0.u) := (show ∀ _ _, _ from hxa)
  have B1 : Hid (Below B w w1) := (show Hid _ from b1.mono h.le)
  obtain ⟨nT, hnT⟩ : ∃ nT, nT = r.te.length := ⟨_, rfl⟩
  obtain ⟨D, hD⟩ : ∃ D : Bool, D = false := ⟨_, rfl⟩
  rw [← hD] at hs
  have HD : Hid (D = false) := hD
  have HN : Hid (nT = r.te.length) := hnT
  have CB := fun x (hS : Below w1.heap.size w1 x) => (show x.cell? ⟨b, 9, none⟩ = some (.slice ta nT tc) from by rw [hnT]; exact (H1.out.kept hS).c.cells.2.2.2.2.2.2.2.2.2)
  have CX := fun x (hS : Below w1.heap.size w1 x) => (show x.cell? ⟨g, 1, none⟩ = some (.int .i64 x0.m.f) from (Bx.kept X1.out hS).cell 1)
  have jS := fun x (hS : Below w1.heap.size w1 x) => implBsA (.slice ta nT tc) T x0.m.f k D x (by rw [hnT]; exact (H1.out.kept hS).got.te.1) (by rw [HT.out.1]; exact hl) (by rw [HF.out]; exact hr) (by rw [HF.out]; exact hs)
  have JI : Hid (∀ (W : World) (te : Value) (T : List Mx) (g : Nat), OwnsM W B te T → Bx W g 30 (mxV x0) → te.ownBlock ≠ some g → T.length = r.te.length → B ≤ W.heap.size → Calls Tryz.prog 240 #[te, .int .i64 (k : Int), .slice (some ⟨g, 0, none⟩) 1 1] W fun e w' => ∃ v, e = .returned v ∧ InsP W w' B te v T k x0) := (show ∀ _, _ from jI)
  clear h hx hxa hl hr hs jI b1 hnT hD
  unfold mxV at hw1 ⊢
  go_enter Tryz.func202, Tryz.ntmps202
  go_upto_region 1 with fail
  rw [← hg, ← hw1]
  clear hw1 hg
  have S0 : Below w1.heap.size w1 w1.drew := ⟨rfl, rfl, rfl, Nat.le_refl _, fun _ _ => rfl⟩
  generalize hA : Act.mk _ _ = A
  obtain ⟨s, hs, s0_, s3_⟩ : ∃ s : Nat → Value, A = frPta s s ∧ s 0 = .pointer (some ⟨b, 0, none⟩) ∧ s 3 = .pointer (some ⟨g, 0, none⟩) := by
    refine ⟨fun i => A.tmps.getD i undef, ?_, ?_, ?_⟩ <;> rw [← hA] <;> rfl
  rw [hs]
  clear hs hA
  refine region_heads 11 mixed (by decide) (by kernel_rfl) (by kernel_rfl) (by kernel_rfl) (by kernel_rfl) (frPta s) dPta (fun x => Below w1.heap.size w1 x) (GPta b g nT k tc ta x0 D) (fun i j hi hj h => dPta_ne hi hj h) ?put s rfl S0 ?step ?done
  case put =>
    intro i o hi ho t v
    rcases (show i = 0 ∨ i = 1 ∨ i = 2 ∨ i = 3 ∨ i = 4 ∨ i = 5 ∨ i = 6 ∨ i = 7 ∨ i = 8 ∨ i = 9 ∨ i = 10 by omega) with rfl | rfl | rfl | rfl | rfl | rfl | rfl | rfl | rfl | rfl | rfl
    all_goals
      obtain rfl := Option.some.inj ho
      rfl
  case step =>
    intro i o hi ho t x hS hdep K hK
    rcases (show i = 0 ∨ i = 1 ∨ i = 2 ∨ i = 3 ∨ i = 4 ∨ i = 5 ∨ i = 6 ∨ i = 7 ∨ i = 8 ∨ i = 9 ∨ i = 10 by omega) with rfl | rfl | rfl | rfl | rfl | rfl | rfl | rfl | rfl | rfl | rfl
    all_goals obtain rfl := Option.some.inj ho
    · have h2 := hK (.pointer (some ⟨b, 0, none⟩)) x hS (fun j u hj hne h => h) rfl
      unfold frPta at h2 ⊢
      clear hK
      go_simp
      simpa [Act.put, s0_, s3_] using h2
    · have e0 : t 7 = .pointer (some ⟨b, 0, none⟩) := hdep { on := 0, ground := Ground.data } (by simp) rfl
      have h2 := hK (.pointer (some ⟨b, 0, none⟩)) x hS (fun j u hj hne h => h) rfl
      unfold frPta at h2 ⊢
      clear hK
      go_simp
      simpa [Act.put, e0, s0_, s3_] using h2
    · have e1 : t 8 = .pointer (some ⟨b, 0, none⟩) := hdep { on := 1, ground := Ground.data } (by simp) rfl
      have h2 := hK (.pointer (some ⟨b, 9, none⟩)) x hS (fun j u hj hne h => h) rfl
      unfold frPta at h2 ⊢
      clear hK
      go_simp
      simpa [Act.put, e1, s0_, s3_] using h2
    · have e2 : t 9 = .pointer (some ⟨b, 9, none⟩) := hdep { on := 2, ground := Ground.data } (by simp) rfl
      have y0 := (CB x hS)
      have h2 := hK (.slice ta nT tc) x hS (fun j u hj hne h => h) rfl
      unfold frPta at h2 ⊢
      clear hK
      go_simp
      simpa [Act.put, e2, y0, s0_, s3_] using h2
    · have h2 := hK (.pointer (some ⟨g, 1, none⟩)) x hS (fun j u hj hne h => h) rfl
      unfold frPta at h2 ⊢
      clear hK
      go_simp
      simpa [Act.put, s0_, s3_] using h2
    · have e4 : t 11 = .pointer (some ⟨g, 1, none⟩) := hdep { on := 4, ground := Ground.data } (by simp) rfl
      have y0 := (CX x hS)
      have h2 := hK (.int .i64 x0.m.f) x hS (fun j u hj hne h => h) rfl
      unfold frPta at h2 ⊢
      clear hK
      go_simp
      simpa [Act.put, e4, y0, s0_, s3_] using h2
    · have e3 : t 10 = .slice ta nT tc := hdep { on := 3, ground := Ground.data } (by simp) rfl
      have e5 : t 12 = .int .i64 x0.m.f := hdep { on := 5, ground := Ground.data } (by simp) rfl
      refine callG3 (by rfl) 237 (.tmp 10) (.tmp 12) (.func 238) _ rfl (.slice ta nT tc) (.int .i64 x0.m.f) (.func (.func 238) #[] #[]) e3 e5 rfl (Go.Proofs.enters_of Tryz.func237 (by kernel_rfl) rfl _) (fun v y => v = .tuple #[.int .i64 (k : Int), .bool D] ∧ Below x.heap.size x y) ((jS x hS).mono ?_) ?_
      · rintro e0 y0 ⟨h0, h1⟩
        exact ⟨_, h0, rfl, h1⟩
      · rintro v y ⟨h0, hb2⟩
        exact hK v y (hS.trans (hb2.mono hS.size)) (fun j u hj hne h => GPta.keep hb2 j u hj h) h0
    · have e6 : t 13 = .tuple #[.int .i64 (k : Int), .bool D] := hdep { on := 6, ground := Ground.data } (by simp) rfl
      have h2 := hK (.tuple #[.int .i64 (k : Int), .bool D]) x hS (fun j u hj hne h => h) rfl
      unfold frPta at h2 ⊢
      clear hK
      go_simp
      simpa [Act.put, e6, s0_, s3_] using h2
    · have e7 : t 6 = .tuple #[.int .i64 (k : Int), .bool D] := hdep { on := 7, ground := Ground.data } (by simp) rfl
      have h2 := hK (.int .i64 (k : Int)) x hS (fun j u hj hne h => h) rfl
      unfold frPta at h2 ⊢
      clear hK
      go_simp
      simpa [Act.put, e7, s0_, s3_] using h2
    · have e7 : t 6 = .tuple #[.int .i64 (k : Int), .bool D] := hdep { on := 7, ground := Ground.data } (by simp) rfl
      have h2 := hK (.bool D) x hS (fun j u hj hne h => h) rfl
      unfold frPta at h2 ⊢
      clear hK
      go_simp
      simpa [Act.put, e7, s0_, s3_] using h2
    · have e8 : t 14 = .int .i64 (k : Int) := hdep { on := 8, ground := Ground.data } (by simp) rfl
      have h2 := hK (.int .i64 (k : Int)) x hS (fun j u hj hne h => h) rfl
      unfold frPta at h2 ⊢
      clear hK
      go_simp
      simpa [Act.put, e8, s0_, s3_] using h2
  case done =>
    intro tt w2 hS hG
    have e10 : tt 4 = .int .i64 (k : Int) := hG 10 (by decide)
    have e11 : tt 15 = .bool D := hG 9 (by decide)
    rw [HD.out] at e11
    have H2 : Hid (RpAt w2 B b ⟨.slice la r.l.length lc, .slice oa r.ok.length oc, .slice ca r.ch.length cc, .slice ta r.te.length tc, T⟩ r) := (show Hid _ from H1.out.kept hS)
    have B2 : Hid (Below B w w2) := (show Hid _ from B1.out.trans (hS.mono H1.out.le))
    have X2 : Hid (Bx w2 g 30 (mxV x0)) := (show Hid _ from Bx.kept X1.out hS)
    have HX2 : Hid (HasX w2 B x0.u x0.m.l) := (show Hid _ from HX1.out.kept hS)
    clear jS CB CX hG hS S0 H1 B1 X1 HX1
    show wpList Tryz.prog _ _ [_] _ w2
    unfold frPta
    simp only [e10, e11, s0_, s3_]
    clear e10 e11 s0_ s3_
    go_upto_region 4 with fail
    have HX := X2
    have CB := fun x (hS : Below w2.heap.size w2 x) => (show x.cell? ⟨b, 9, none⟩ = some (.slice ta nT tc) from by rw [HN.out]; exact (H2.out.kept hS).c.cells.2.2.2.2.2.2.2.2.2)
    have HL : Hid (∀ k, (Value.slice ta nT tc).ownBlock = some k → k < w2.heap.size) := (show ∀ _ _, _ from fun k hk => H2.out.under (.slice ta r.te.length tc) (rows_te _) k (by rw [← HN.out]; exact hk))
    have jI := fun x gb (hS : Below w2.heap.size w2 x) (hlo : w2.heap.size ≤ gb) (hgb : Bx x gb 30 (mxV x0)) => JI.out x (.slice ta nT tc) T gb (by rw [HN.out]; exact (H2.out.kept hS).o.te) hgb (fun e => by have := HL.out gb e; omega) HT.out.1 (Nat.le_trans H2.out.le hS.size)
    have S0 : Below w2.heap.size w2 w2.drew := ⟨rfl, rfl, rfl, Nat.le_refl _, fun _ _ => rfl⟩
    obtain ⟨lo, hlo⟩ : ∃ lo, lo = w2.heap.size := ⟨_, rfl⟩
    generalize hA : Act.mk _ _ = A
    obtain ⟨s, hs, s0_, s3_, s4_⟩ : ∃ s : Nat → Value, A = frPtb s s ∧ s 0 = .pointer (some ⟨b, 0, none⟩) ∧ s 3 = .pointer (some ⟨g, 0, none⟩) ∧ s 4 = .int .i64 (k : Int) := by
      refine ⟨fun i => A.tmps.getD i undef, ?_, ?_, ?_, ?_⟩ <;> rw [← hA] <;> rfl
    rw [hs]
    clear hs hA
    refine region_headsL 11 mixed (by decide) (by kernel_rfl) (by kernel_rfl) (by kernel_rfl) (by kernel_rfl) (frPtb s) dPtb (StepM 8 32 (fun x => Below w2.heap.size w2 x) (fun v y => ∃ w4, Below w2.heap.size w2 w4 ∧ InsP w4 y B (.slice ta nT tc) v T k x0)) (GPtb b g nT k tc lo ta x0) (fun i j hi hj h => dPtb_ne hi hj h) ?put s rfl ⟨fun _ => S0, fun h => by cases h⟩ ?step ?done
    case put =>
      intro i o hi ho t v
      rcases (show i = 0 ∨ i = 1 ∨ i = 2 ∨ i = 3 ∨ i = 4 ∨ i = 5 ∨ i = 6 ∨ i = 7 ∨ i = 8 ∨ i = 9 ∨ i = 10 by omega) with rfl | rfl | rfl | rfl | rfl | rfl | rfl | rfl | rfl | rfl | rfl
      all_goals
        obtain rfl := Option.some.inj ho
        rfl
    case step =>
      intro i o hi ho listed hnl hcl hls t x hS hdep K hK
      rcases (show i = 0 ∨ i = 1 ∨ i = 2 ∨ i = 3 ∨ i = 4 ∨ i = 5 ∨ i = 6 ∨ i = 7 ∨ i = 8 ∨ i = 9 ∨ i = 10 by omega) with rfl | rfl | rfl | rfl | rfl | rfl | rfl | rfl | rfl | rfl | rfl
      all_goals obtain rfl := Option.some.inj ho
      · have hS9 := fun v => hS.free (v := v) (i := 0) (d := 24) (by decide) (by decide)
        have h2 := hK (.pointer (some ⟨b, 0, none⟩)) x (hS9 _) (fun j u hj hne h => h) rfl
        unfold frPtb at h2 ⊢
        clear hK
        go_simp
        simpa [Act.put, s0_, s3_, s4_] using h2
      · have h8 : listed.getD 8 false = false := by
          cases hq : listed.getD 8 false with
          | false => rfl
          | true =>
            have a0 := hcl 8 _ rfl hq { on := 4, ground := Ground.data } (by simp) rfl
            have a1 := hcl 4 _ rfl a0 { on := 3, ground := Ground.data } (by simp) rfl
            have a2 := hcl 3 _ rfl a1 { on := 2, ground := Ground.data } (by simp) rfl
            have a3 := hcl 2 _ rfl a2 { on := 1, ground := Ground.data } (by simp) rfl
            rw [hnl] at a3
            cases a3
        replace hS := hS.1 h8
        have hK0 := hK
        clear hK
        have hK : ∀ v y, (fun x => Below w2.heap.size w2 x) y → (∀ j u, j < 11 → j ≠ 1 → GPtb b g nT k tc lo ta x0 j x u → GPtb b g nT k tc lo ta x0 j y u) → GPtb b g nT k tc lo ta x0 1 y v → K ((frPtb s t).put _ v) y := fun v y hy h1 h2 => hK0 v y (StepM.before h8 (by decide) hy) h1 h2
        clear hK0
        have h2 := hK (.pointer (some ⟨b, 0, none⟩)) x hS (fun j u hj hne h => h) rfl
        unfold frPtb at h2 ⊢
        clear hK
        go_simp
        simpa [Act.put, s0_, s3_, s4_] using h2
      · have h8 : listed.getD 8 false = false := by
          cases hq : listed.getD 8 false with
          | false => rfl
          | true =>
            have a0 := hcl 8 _ rfl hq { on := 4, ground := Ground.data } (by simp) rfl
            have a1 := hcl 4 _ rfl a0 { on := 3, ground := Ground.data } (by simp) rfl
            have a2 := hcl 3 _ rfl a1 { on := 2, ground := Ground.data } (by simp) rfl
            rw [hnl] at a2
            cases a2
        replace hS := hS.1 h8
        have hK0 := hK
        clear hK
        have hK : ∀ v y, (fun x => Below w2.heap.size w2 x) y → (∀ j u, j < 11 → j ≠ 2 → GPtb b g nT k tc lo ta x0 j x u → GPtb b g nT k tc lo ta x0 j y u) → GPtb b g nT k tc lo ta x0 2 y v → K ((frPtb s t).put _ v) y := fun v y hy h1 h2 => hK0 v y (StepM.before h8 (by decide) hy) h1 h2
        clear hK0
        have e1 : t 25 = .pointer (some ⟨b, 0, none⟩) := hdep { on := 1, ground := Ground.data } (by simp) rfl
        have h2 := hK (.pointer (some ⟨b, 0, none⟩)) x hS (fun j u hj hne h => h) rfl
        unfold frPtb at h2 ⊢
        clear hK
        go_simp
        simpa [Act.put, e1, s0_, s3_, s4_] using h2
      · have h8 : listed.getD 8 false = false := by
          cases hq : listed.getD 8 false with
          | false => rfl
          | true =>
            have a0 := hcl 8 _ rfl hq { on := 4, ground := Ground.data } (by simp) rfl
            have a1 := hcl 4 _ rfl a0 { on := 3, ground := Ground.data } (by simp) rfl
            rw [hnl] at a1
            cases a1
        replace hS := hS.1 h8
        have hK0 := hK
        clear hK
        have hK : ∀ v y, (fun x => Below w2.heap.size w2 x) y → (∀ j u, j < 11 → j ≠ 3 → GPtb b g nT k tc lo ta x0 j x u → GPtb b g nT k tc lo ta x0 j y u) → GPtb b g nT k tc lo ta x0 3 y v → K ((frPtb s t).put _ v) y := fun v y hy h1 h2 => hK0 v y (StepM.before h8 (by decide) hy) h1 h2
        clear hK0
        have e2 : t 26 = .pointer (some ⟨b, 0, none⟩) := hdep { on := 2, ground := Ground.data } (by simp) rfl
        have h2 := hK (.pointer (some ⟨b, 9, none⟩)) x hS (fun j u hj hne h => h) rfl
        unfold frPtb at h2 ⊢
        clear hK
        go_simp
        simpa [Act.put, e2, s0_, s3_, s4_] using h2
      · have h8 : listed.getD 8 false = false := by
          cases hq : listed.getD 8 false with
          | false => rfl
          | true =>
            have a0 := hcl 8 _ rfl hq { on := 4, ground := Ground.data } (by simp) rfl
            rw [hnl] at a0
            cases a0
        replace hS := hS.1 h8
        have hK0 := hK
        clear hK
        have hK : ∀ v y, (fun x => Below w2.heap.size w2 x) y → (∀ j u, j < 11 → j ≠ 4 → GPtb b g nT k tc lo ta x0 j x u → GPtb b g nT k tc lo ta x0 j y u) → GPtb b g nT k tc lo ta x0 4 y v → K ((frPtb s t).put _ v) y := fun v y hy h1 h2 => hK0 v y (StepM.before h8 (by decide) hy) h1 h2
        clear hK0
        have e3 : t 27 = .pointer (some ⟨b, 9, none⟩) := hdep { on := 3, ground := Ground.data } (by simp) rfl
        have y0 := (CB x hS)
        have h2 := hK (.slice ta nT tc) x hS (fun j u hj hne h => h) rfl
        unfold frPtb at h2 ⊢
        clear hK
        go_simp
        simpa [Act.put, e3, y0, s0_, s3_, s4_] using h2
      · have h8 : listed.getD 8 false = false := by
          cases hq : listed.getD 8 false with
          | false => rfl
          | true =>
            have a0 := hcl 8 _ rfl hq { on := 5, ground := Ground.data } (by simp) rfl
            rw [hnl] at a0
            cases a0
        replace hS := hS.1 h8
        have hK0 := hK
        clear hK
        have hK : ∀ v y, (fun x => Below w2.heap.size w2 x) y → (∀ j u, j < 11 → j ≠ 5 → GPtb b g nT k tc lo ta x0 j x u → GPtb b g nT k tc lo ta x0 j y u) → GPtb b g nT k tc lo ta x0 5 y v → K ((frPtb s t).put _ v) y := fun v y hy h1 h2 => hK0 v y (StepM.before h8 (by decide) hy) h1 h2
        clear hK0
        have h2 := hK (.int .i64 (k : Int)) x hS (fun j u hj hne h => h) rfl
        unfold frPtb at h2 ⊢
        clear hK
        go_simp
        simpa [Act.put, s0_, s3_, s4_] using h2
      · have h8 : listed.getD 8 false = false := by
          cases hq : listed.getD 8 false with
          | false => rfl
          | true =>
            have a0 := hcl 8 _ rfl hq { on := 7, ground := Ground.data } (by simp) rfl
            have a1 := hcl 7 _ rfl a0 { on := 6, ground := Ground.data } (by simp) rfl
            rw [hnl] at a1
            cases a1
        replace hS := hS.1 h8
        have hK0 := hK
        clear hK
        have hK : ∀ v y, (fun x => Below w2.heap.size w2 x) y → (∀ j u, j < 11 → j ≠ 6 → GPtb b g nT k tc lo ta x0 j x u → GPtb b g nT k tc lo ta x0 j y u) → GPtb b g nT k tc lo ta x0 6 y v → K ((frPtb s t).put _ v) y := fun v y hy h1 h2 => hK0 v y (StepM.before h8 (by decide) hy) h1 h2
        clear hK0
        have h2 := hK (.agg (mxV x0)) x hS (fun j u hj hne h => h) rfl
        refine ldGM (by rfl) (.tmp 3) rfl g (by show (frPtb s t).eval (.tmp 3) = _; unfold frPtb; simp [Act.eval, s3_]) (HX.out.kept hS) rfl ?_
        exact h2
      · have h8 : listed.getD 8 false = false := by
          cases hq : listed.getD 8 false with
          | false => rfl
          | true =>
            have a0 := hcl 8 _ rfl hq { on := 7, ground := Ground.data } (by simp) rfl
            rw [hnl] at a0
            cases a0
        replace hS := hS.1 h8
        have hK0 := hK
        clear hK
        have hK : ∀ v y, (fun x => Below w2.heap.size w2 x) y → (∀ j u, j < 11 → j ≠ 7 → GPtb b g nT k tc lo ta x0 j x u → GPtb b g nT k tc lo ta x0 j y u) → GPtb b g nT k tc lo ta x0 7 y v → K ((frPtb s t).put _ v) y := fun v y hy h1 h2 => hK0 v y (StepM.before h8 (by decide) hy) h1 h2
        clear hK0
        have e6 : t 30 = .agg (mxV x0) := hdep { on := 6, ground := Ground.data } (by simp) rfl
        have hba := (Below.refl x.heap.size x).alloc (Nat.le_refl _) (.cells (mxV x0) 30)
        have h2 := hK (.slice (some ⟨x.heap.size, 0, none⟩) 1 1) (x.alloc (.cells (mxV x0) 30)) (hS.trans (hba.mono hS.size)) (fun j u hj hne h => GPtb.keep hba j u hj h) ⟨x.heap.size, rfl, by rw [hlo]; exact hS.size, Bx.new _ _ _⟩
        unfold frPtb mxV at h2
        unfold frPtb
        unfold mxV at e6
        clear hK
        go_simp
        simpa [Act.put, e6, s0_, s3_, s4_] using h2
      · replace hS := hS.1 hnl
        have hm : 8 < listed.size := by rw [hls]; decide
        have e4 : t 28 = .slice ta nT tc := hdep { on := 4, ground := Ground.data } (by simp) rfl
        have e5 : t 29 = .int .i64 (k : Int) := hdep { on := 5, ground := Ground.data } (by simp) rfl
        obtain ⟨gb_7, e7, k7⟩ : ∃ (gb : Nat), t 31 = .slice (some ⟨gb, 0, none⟩) 1 1 ∧ (lo ≤ gb ∧ Bx x gb 30 (mxV x0)) := hdep { on := 7, ground := Ground.data } (by simp) rfl
        refine callG3 (by rfl) 240 (.tmp 28) (.tmp 29) (.tmp 31) _ rfl (.slice ta nT tc) (.int .i64 (k : Int)) (.slice (some ⟨gb_7, 0, none⟩) 1 1) e4 e5 e7 (Go.Proofs.enters_of Tryz.func240 (by kernel_rfl) rfl _) (fun v y => InsP x y B (.slice ta nT tc) v T k x0) ((jI x gb_7 hS (by rw [← hlo]; exact k7.1) k7.2).mono ?_) ?_
        · rintro e0 y0 ⟨v0, h0, h1⟩
          exact ⟨_, h0, h1⟩
        · intro v y hi
          exact hK v y (StepM.at hm ⟨x, hS, hi⟩) (fun j u hj hne h => GPtb.keepM (fun k hk => by rw [hlo]; exact HL.out k hk) hi.grown j u hj hne h) trivial
      · have hS9 := fun v => hS.free (v := v) (i := 9) (d := 33) (by decide) (by decide)
        have e0 : t 24 = .pointer (some ⟨b, 0, none⟩) := hdep { on := 0, ground := Ground.data } (by simp) rfl
        have h2 := hK (.pointer (some ⟨b, 0, none⟩)) x (hS9 _) (fun j u hj hne h => h) rfl
        unfold frPtb at h2 ⊢
        clear hK
        go_simp
        simpa [Act.put, e0, s0_, s3_, s4_] using h2
      · have hS9 := fun v => hS.free (v := v) (i := 10) (d := 34) (by decide) (by decide)
        have e9 : t 33 = .pointer (some ⟨b, 0, none⟩) := hdep { on := 9, ground := Ground.data } (by simp) rfl
        have h2 := hK (.pointer (some ⟨b, 9, none⟩)) x (hS9 _) (fun j u hj hne h => h) rfl
        unfold frPtb at h2 ⊢
        clear hK
        go_simp
        simpa [Act.put, e9, s0_, s3_, s4_] using h2
    case done =>
      intro listed tt x hall hS hG
      obtain ⟨w4, hb4, hi⟩ := hS.2 (hall 8 (by decide))
      have e10 : tt 34 = .pointer (some ⟨b, 9, none⟩) := hG 10 (by decide)
      change InsP w4 x B (.slice ta nT tc) (tt 32) T k x0 at hi
      obtain ⟨v, hv⟩ : ∃ v, tt 32 = v := ⟨_, rfl⟩
      rw [hv, HN.out] at hi
      clear jI CB S0 hlo hall hS hG
      show wpList Tryz.prog _ _ [_] _ x
      unfold frPtb
      simp only [e10, hv, s0_, s3_, s4_]
      clear e10 hv s0_ s3_ s4_
      refine wpList_rpGrTe H2.out hb4 hi HX2.out HXA.out rfl rfl (.tmp 34) (.tmp 32) rfl rfl rfl ?_
      intro w9 h9 b9
      have H9 : Hid (RpAt w9 B b _ { r with te := r.te.take k ++ x0.m :: r.te.drop k }) := (show Hid _ from h9)
      have B9 : Hid (Below B w w9) := (show Hid _ from B2.out.trans b9)
      clear h9 b9 hi hb4 H2 B2 X2 HX2 HX
      go_wp2
      go_end0
      first | exact ⟨rfl, _, H9.out, B9.out⟩ | exact ⟨rfl, ⟨_, H9.out⟩, B9.out⟩
/-- Of an empty row: the message alone. -/
theorem implPut0 (r : Rp) (B b : Nat) (m : Ms) (ht : r.te = []) : PutsT r B b m := by
  intro W u v h hv ha
  obtain ⟨a, c, e, h1, h2⟩ := hv.form
  subst e
  have j := implPutN r u B b 0 ⟨m, a, c⟩ W h hv ha (by rw [ht]; decide) (by rw [ht]; exact List.Pairwise.nil) (by rw [ht]; exact ⟨Nat.le_refl _, fun i h => absurd h (Nat.not_lt_zero _), fun h => (by cases h), fun _ h => absurd h (Nat.not_lt_zero _)⟩) (fun W' te T g h1 h2 h3 h4 h5 => by
    have e : T = [] := List.length_eq_zero_iff.1 (by rw [h4, ht]; rfl)
    subst e
    exact implInsE te [] ⟨m, a, c⟩ B g W' h1 h2 (by decide) h5)
  refine j.mono ?_
  rintro e w' ⟨h1, u', h2, h3⟩
  refine ⟨h1, u', ?_, h3⟩
  rw [ht] at h2 ⊢
  exact h2
end Go.Proofs.YtlngleinegkoeaaGreat.Rl
