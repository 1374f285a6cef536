/-
  The program's settle, given its putTell, beside blocks that stay.
  The Tells grew, beside blocks that stay.
  The program's putTell, where none of this sender is there, beside blocks that stay.
  The library's Insert of one number wherever it goes; of one message, too; a row of Changes that grew.
  What the program's handlers do; its takeOk.
  The program's isNews.
-/
import Derived.Test.YtdkhdjickkcaiaaGreatRVS
import Derived.Test.YtdkhdjickkcaiaaGreatRV31
import Derived.Test.YtdkhdjickkcaiaaGreatRV25
import Derived.Test.YtdkhdjickkcaiaaGreatRV19
import Derived.Test.YtdkhdjickkcaiaaGreatRV26
import Derived.Test.YtdkhdjickkcaiaaGreatRV30
import Derived.Test.YtdkhdjickkcaiaaGreatRV21
set_option linter.unusedVariables false
set_option linter.unusedSimpArgs false
set_option maxRecDepth 100000
set_option maxHeartbeats 64000000
namespace Go.Proofs.YtdkhdjickkcaiaaGreat.Rl.Fr
open Go.RowKit Go.Sort Go.Shelf
variable {F : Frm}

def PutsT (F : Frm) (r : Rp) (B b : Nat) (m : Ms) : Prop := ∀ (W : World) (u' : Rv) (v : Value), RpAt F W B b u' r → HasX W B v m.l → (∀ x ∈ u'.rows, ap x v) → (∀ y ∈ F, v.ownBlock ≠ some y.1) →
  Calls Tryz.prog 141 #[.pointer (some ⟨b, 0, none⟩), msA m v] W fun e W' => e = .returned (.tuple #[]) ∧ ∃ u'', RpAt F W' B b u'' { r with te := putM m r.te } ∧ Below B W W'
theorem stdM_tell {r : Rp} (h : mine r) : stdM r 4 = tellM r r.id := by
 unfold mine at h
 unfold stdM tellM
 rw [h]
theorem anew_leads {r : Rp} (h : leads r) : anew r = cntd { r with ok := List.replicate r.p.toNat 0 } := if_pos h
def frSta (s t : Nat → Value) : Act := { tmps := #[s 0, s 1, s 2, s 3, s 4, s 5, s 6, s 7, s 8, s 9, s 10, s 11, s 12, s 13, s 14, s 15, s 16, s 17, s 18, s 19, s 20, s 21, s 22, s 23, s 24, s 25, s 26, s 27, s 28, s 29, s 30, t 31, t 32, t 33, t 34, t 35, t 36, t 37, t 38, t 39, t 40, t 41, t 42, t 43, t 44, t 45, s 46, s 47, s 48, s 49, s 50, s 51, s 52, s 53, s 54, s 55, s 56, s 57, s 58, s 59, s 60, s 61, s 62, s 63, s 64, s 65], defers := [] }
def LSta : List Nat := [31, 32, 33, 34, 35, 36, 37, 38, 39, 40, 41, 42, 43, 44, 45]
def dSta (i : Nat) : Nat := LSta.getD i (i + 5000)
theorem dSta_ne {i j : Nat} (hi : i < 15) (hj : j < 15) (h : j ≠ i) : dSta j ≠ dSta i := slotsNe (L := LSta) (by decide) rfl hi hj h
def GSta (b g nT nx : Nat) (ta pl : Option Addr) (tc cl : Nat) (i : Nat) (x : World) (v : Value) : Prop := match i with
 | 0 => v = .pointer (some ⟨b, 0, none⟩)
 | 1 => v = .pointer (some ⟨b, 0, none⟩)
 | 2 => v = .pointer (some ⟨b, 0, none⟩)
 | 3 => v = .pointer (some ⟨b, 9, none⟩)
 | 4 => v = .slice ta nT tc
 | 5 => v = .int .i64 (nT : Int)
 | 6 => v = .bool false
 | 7 => v = .bool true
 | 8 => v = .bool true
 | 9 => v = undef
 | 10 => v = undef
 | 11 => v = undef
 | 12 => v = undef
 | 13 => v = undef
 | 14 => v = undef
 | _ => True
theorem GSta.keep {b g nT nx : Nat} {ta pl : Option Addr} {tc cl : Nat} {x y : World} (hb : Below x.heap.size x y) (j : Nat) (v : Value) (hj : j < 15) (h : GSta b g nT nx ta pl tc cl j x v) : GSta b g nT nx ta pl tc cl j y v := h
def frStb (s t : Nat → Value) : Act := { tmps := #[s 0, s 1, s 2, s 3, s 4, s 5, s 6, s 7, s 8, s 9, s 10, s 11, s 12, s 13, s 14, s 15, s 16, s 17, s 18, s 19, s 20, s 21, s 22, s 23, s 24, s 25, s 26, s 27, s 28, s 29, s 30, t 31, t 32, t 33, t 34, t 35, t 36, t 37, t 38, t 39, t 40, t 41, t 42, t 43, t 44, t 45, s 46, s 47, s 48, s 49, s 50, s 51, s 52, s 53, s 54, s 55, s 56, s 57, s 58, s 59, s 60, s 61, s 62, s 63, s 64, s 65], defers := [] }
def LStb : List Nat := [31, 32, 33, 34, 35, 36, 37, 38, 39, 40, 41, 42, 43, 44, 45]
def dStb (i : Nat) : Nat := LStb.getD i (i + 5000)
theorem dStb_ne {i j : Nat} (hi : i < 15) (hj : j < 15) (h : j ≠ i) : dStb j ≠ dStb i := slotsNe (L := LStb) (by decide) rfl hi hj h
def GStb (b g nT nx cN lc : Nat) (la ta pl : Option Addr) (tc cl : Nat) (D : Bool) (i : Nat) (x : World) (v : Value) : Prop := match i with
 | 0 => v = .pointer (some ⟨b, 0, none⟩)
 | 1 => v = .pointer (some ⟨b, 0, none⟩)
 | 2 => v = .pointer (some ⟨b, 0, none⟩)
 | 3 => v = .pointer (some ⟨b, 9, none⟩)
 | 4 => v = .slice ta nT tc
 | 5 => v = .int .i64 (nT : Int)
 | 6 => v = .bool true
 | 7 => v = .bool false
 | 8 => v = .bool false
 | 9 => v = .pointer (some ⟨g, 5, none⟩)
 | 10 => v = .slice pl nx cl
 | 11 => v = .pointer (some ⟨b, 0, none⟩)
 | 12 => v = .slice la cN lc
 | 13 => v = .bool D
 | 14 => v = .bool !D
 | _ => True
theorem GStb.keep {b g nT nx cN lc : Nat} {la ta pl : Option Addr} {tc cl : Nat} {D : Bool} {x y : World} (hb : Below x.heap.size x y) (j : Nat) (v : Value) (hj : j < 15) (h : GStb b g nT nx cN lc la ta pl tc cl D j x v) : GStb b g nT nx cN lc la ta pl tc cl D j y v := h
def frStc (s t : Nat → Value) : Act := { tmps := #[s 0, s 1, s 2, s 3, s 4, s 5, s 6, s 7, s 8, s 9, s 10, s 11, s 12, s 13, s 14, s 15, s 16, s 17, s 18, s 19, s 20, s 21, s 22, s 23, s 24, s 25, s 26, s 27, s 28, s 29, s 30, s 31, s 32, s 33, s 34, s 35, s 36, s 37, s 38, s 39, s 40, s 41, s 42, s 43, s 44, s 45, s 46, t 47, t 48, t 49, t 50, t 51, t 52, t 53, t 54, t 55, t 56, t 57, t 58, s 59, s 60, s 61, s 62, s 63, s 64, s 65], defers := [] }
def LStc : List Nat := [47, 48, 49, 50, 51, 52, 53, 54, 55, 56, 57, 58]
def dStc (i : Nat) : Nat := LStc.getD i (i + 5000)
theorem dStc_ne {i j : Nat} (hi : i < 12) (hj : j < 12) (h : j ≠ i) : dStc j ≠ dStc i := slotsNe (L := LStc) (by decide) rfl hi hj h
def GStc (b g nT nx : Nat) (ta pl : Option Addr) (tc cl : Nat) (M : Int) (i : Nat) (x : World) (v : Value) : Prop := match i with
 | 0 => v = .pointer (some ⟨b, 0, none⟩)
 | 1 => v = .pointer (some ⟨b, 0, none⟩)
 | 2 => v = .pointer (some ⟨b, 0, none⟩)
 | 3 => v = .pointer (some ⟨b, 9, none⟩)
 | 4 => v = .slice ta nT tc
 | 5 => v = .int .i64 M
 | 6 => v = .pointer (some ⟨g, 5, none⟩)
 | 7 => v = .slice pl nx cl
 | 8 => v = .int .i64 (nx : Int)
 | 9 => v = .int .i64 (min M (nx : Int))
 | 10 => v = .pointer (some ⟨b, 0, none⟩)
 | 11 => v = .pointer (some ⟨b, 6, none⟩)
 | _ => True
theorem GStc.keep {b g nT nx : Nat} {ta pl : Option Addr} {tc cl : Nat} {M : Int} {x y : World} (hb : Below x.heap.size x y) (j : Nat) (v : Value) (hj : j < 12) (h : GStc b g nT nx ta pl tc cl M j x v) : GStc b g nT nx ta pl tc cl M j y v := h
open Classical in
theorem implSet (r : Rp) (u : Rv) (B b : Nat) (w : World) (h : RpAt F w B b u r) (hr : RpOk r) (jP : r.n = false → mine r → PutsT F r B b (stdM r 4)) :
  Calls Tryz.prog 122 #[.pointer (some ⟨b, 0, none⟩)] w fun e w' => e = .returned (.tuple #[]) ∧ ∃ u', RpAt F w' B b u' (told r) ∧ Below B w w' := by
 obtain ⟨la0, lc0, oa, oc, ca, cc, ta0, tc0, M0, rfl⟩ := h.got.form
 have H0 : Hid (RpAt F w B b ⟨.slice la0 r.l.length lc0, .slice oa r.ok.length oc, .slice ca r.ch.length cc, .slice ta0 r.te.length tc0, M0⟩ r) := h
 have HR : Hid (RpOk r) := hr
 have c3 := h.c.cells.2.2.2.1
 cases hn : r.n with
 | true =>
  have HE : Hid (told r = r) := (show _ = _ by unfold told; exact if_pos (.inl hn))
  rw [hn] at c3
  clear h hr jP hn
  go_enter Tryz.func122, Tryz.ntmps122
  go_wp2
  (try simp only [Exit.inBlock, Exit.then])
  refine bodyPost_ret (results_none rfl _ _ _) rfl ?_
  rw [HE.out]
  first | exact ⟨rfl, _, H0.out, Below.refl _ _⟩ | exact ⟨rfl, ⟨_, H0.out⟩, Below.refl _ _⟩
 | false =>
  have jx := fun W hW => implNx r ⟨.slice la0 r.l.length lc0, .slice oa r.ok.length oc, .slice ca r.ch.length cc, .slice ta0 r.te.length tc0, M0⟩ b W hW ⟨hr.v.1, by have := hr.v; omega⟩ hr.p
  have jm := fun W hW => implMaj r.ch.length r ⟨.slice la0 r.l.length lc0, .slice oa r.ok.length oc, .slice ca r.ch.length cc, .slice ta0 r.te.length tc0, M0⟩ b W hW (by have := hr.ch5; omega)
  rw [hn] at c3
  cases hm : dB (mine r) with
  | false =>
   have HE : Hid (told r = r) := (show _ = _ by unfold told; exact if_pos (.inr (.inr (dB_not hm))))
   rw [hm] at jx
   clear h hr jP hn
   go_enter Tryz.func122, Tryz.ntmps122
   go_wp2_with fail
   refine (jx _ H0.out.c).mono ?_
   rintro e w1 ⟨rfl, hb1⟩
   go_wp2
   (try simp only [Exit.inBlock, Exit.then])
   refine bodyPost_ret (results_none rfl _ _ _) rfl ?_
   rw [HE.out]
   first | exact ⟨rfl, _, H0.out.kept hb1, hb1.mono H0.out.le⟩ | exact ⟨rfl, ⟨_, H0.out.kept hb1⟩, hb1.mono H0.out.le⟩
  | true =>
   have HM : Hid (mine r) := dB_is hm
   rw [hm] at jx
   cases hj : dB (maj r.ch.length r.p) with
   | false =>
    have HE : Hid (told r = r) := (show _ = _ by unfold told; exact if_pos (.inr (.inl (dB_not hj))))
    rw [hj] at jm
    clear h hr jP hn
    go_enter Tryz.func122, Tryz.ntmps122
    go_wp2_with fail
    refine (jx _ H0.out.c).mono ?_
    rintro e w1 ⟨rfl, hb1⟩
    have c8 := (H0.out.kept hb1).c.cells.2.2.2.2.2.2.2.2.1
    go_wp2_with fail
    refine (jm _ (H0.out.kept hb1).c).mono ?_
    rintro e _ ⟨rfl, rfl⟩
    go_wp2
    (try simp only [Exit.inBlock, Exit.then])
    refine bodyPost_ret (results_none rfl _ _ _) rfl ?_
    rw [HE.out]
    first | exact ⟨rfl, _, H0.out.kept hb1, hb1.mono H0.out.le⟩ | exact ⟨rfl, ⟨_, H0.out.kept hb1⟩, hb1.mono H0.out.le⟩
   | true =>
    have HJ : Hid (maj r.ch.length r.p) := dB_is hj
    have HN : Hid (r.n = false) := hn
    have JP : Hid (PutsT F r B b (stdM r 4)) := hH_ (jP hn HM.out)
    have js := fun W hW hl => implStd r ⟨.slice la0 r.l.length lc0, .slice oa r.ok.length oc, .slice ca r.ch.length cc, .slice ta0 r.te.length tc0, M0⟩ b 4 W hW ⟨hr.v.1, by have := hr.v; omega⟩ hr.p hl (by have := (logB_sm hr.l).1; omega) (fun x hx => by have := (logB_sm hr.l).2 x hx; omega)
    rw [hj] at jm
    clear h hr jP hn
    go_enter Tryz.func122, Tryz.ntmps122
    go_wp2_with fail
    refine (jx _ H0.out.c).mono ?_
    rintro e w1 ⟨rfl, hb1⟩
    have c8 := (H0.out.kept hb1).c.cells.2.2.2.2.2.2.2.2.1
    go_wp2_with fail
    refine (jm _ (H0.out.kept hb1).c).mono ?_
    rintro e w1' ⟨rfl, rfl⟩
    have H1 := hH_ (H0.out.kept hb1)
    have B1 : Hid (Below B w w1) := hH_ (hb1.mono H0.out.le)
    clear c3 c8 hb1 H0 jx jm
    go_wp2_with fail
    refine (js _ H1.out.c H1.out.got.l).mono ?_
    rintro e w2 ⟨v, rfl, hv, hb2⟩
    have H2 := hH_ (H1.out.kept hb2)
    have B2 := hH_ (B1.out.trans (hb2.mono H1.out.le))
    have jp := JP.out w2 ⟨.slice la0 r.l.length lc0, .slice oa r.ok.length oc, .slice ca r.ch.length cc, .slice ta0 r.te.length tc0, M0⟩ v H2.out (hv.has.low H1.out.le) (fun x hx k h1 h2 => by
     have h3 := H1.out.under x hx k h1
     have h4 := hv.has.from k h2
     omega) (fun y hy e => by
     have h4 := hv.has.from _ e
     have h5 := Bx.lt (H1.out.fr.k y hy).1
     omega)
    clear hv hb2 H1 B1 js JP
    unfold msA at jp ⊢
    go_wp2_with fail
    refine jp.mono ?_
    rintro e w3 ⟨rfl, u3, h3, b3⟩
    obtain ⟨r1, hr1⟩ : ∃ r1 : Rp, r1 = { r with te := putM (stdM r 4) r.te } := ⟨_, rfl⟩
    rw [← hr1] at h3
    have HR1 : Hid (r1 = { r with te := putM (tellM r r.id) r.te }) := hH_ (by rw [hr1, stdM_tell HM.out])
    have HOK1 : Hid (RpOk r1) := (show RpOk _ from by
     rw [HR1.out]
     exact (te_kp HR.out HN.out HM.out (tell_ok HR.out)).ok)
    have HT1 : Hid (0 < r1.te.length) := (show _ < _ from by
     rw [HR1.out]
     exact List.length_pos_of_mem (putM_has _ _))
    obtain ⟨la, lc, oa1, oc1, ca1, cc1, ta, tc, T, rfl⟩ := h3.got.form
    have H3 : Hid (RpAt F w3 B b ⟨.slice la r1.l.length lc, .slice oa1 r1.ok.length oc1, .slice ca1 r1.ch.length cc1, .slice ta r1.te.length tc, T⟩ r1) := h3
    have B3 := hH_ (B2.out.trans b3)
    clear h3 b3 H2 B2 jp hr1
    have HTL : Hid (T.length = r1.te.length ∧ T.map (·.m) = r1.te) := hH_ (⟨by rw [← H3.out.o.t, List.length_map], H3.out.o.t⟩)
    have c9 := H3.out.c.cells.2.2.2.2.2.2.2.2.2
    have jq := implMaxF _ T w3 H3.out.got.te.1 (by rw [HTL.out.1]; exact HT1.out) (by rw [HTL.out.1]; have := HOK1.out.te5; omega)
    rw [HTL.out.2] at jq
    simp only at c9 jq
    go_wp2_with fail
    refine jq.mono ?_
    rintro e w4 ⟨X, hX, rfl, hXm, hb4⟩
    clear c9 jq
    go_upto_region 3 with (refine wpList_stM rfl rfl (.tmp 2) (.tmp 30) rfl w4.heap.size (mxV X) rfl rfl (Bx.new _ _ _) rfl rfl (by simp [mxV, Value.oneCell']) ?_; intro w5 hz5 hc5)
    obtain ⟨g, hg⟩ : ∃ g, g = w4.heap.size := ⟨_, rfl⟩
    have BL : Below w4.heap.size w4 w5 := hc5.below ((Below.refl _ w4).alloc (Nat.le_refl _) _) (by simp) (fun k hk => by omega)
    have X5 : Hid (Bx w5 g 30 (mxV X)) := hH_ (by rw [hg]; exact hz5)
    have H5 : Hid (RpAt F w5 B b ⟨.slice la r1.l.length lc, .slice oa1 r1.ok.length oc1, .slice ca1 r1.ch.length cc1, .slice ta r1.te.length tc, T⟩ r1) := hH_ ((H3.out.kept hb4).kept BL)
    have B5 := hH_ (B3.out.trans ((hb4.trans (BL.mono hb4.size)).mono H3.out.le))
    have HBG : Hid (b < g) := hH_ (by rw [hg]; exact (H3.out.kept hb4).lt)
    have HX : Hid (X ∈ T ∧ X.m = besM r1.te) := hH_ (⟨hX, hXm⟩)
    rw [← hg]
    clear hz5 hc5 hg BL hb4 hX hXm H3 B3
    obtain ⟨nT, hnT⟩ : ∃ nT, nT = r1.te.length := ⟨_, rfl⟩
    obtain ⟨nx, hnx⟩ : ∃ nx, nx = X.m.l.length := ⟨_, rfl⟩
    obtain ⟨pl, cl, hpc⟩ : ∃ pl cl, X.u = .slice pl nx cl := ⟨X.pl, X.cl, by unfold Mx.u; rw [hnx]⟩
    have CB := fun x (hS : Below w5.heap.size w5 x) => (show x.cell? ⟨b, 9, none⟩ = some (.slice ta nT tc) from by rw [hnT]; exact (H5.out.kept hS).c.cells.2.2.2.2.2.2.2.2.2)
    have CX := fun x (hS : Below w5.heap.size w5 x) => (show x.cell? ⟨g, 5, none⟩ = some (.slice pl nx cl) from by rw [← hpc]; exact (Bx.kept X5.out hS).cell 5)
    have jM := fun x (hS : Below w5.heap.size w5 x) => implMaj nT r1 _ b x (H5.out.kept hS).c (by rw [hnT]; have := HOK1.out.te5; omega)
    have HNT : Hid (nT = r1.te.length) := hnT
    have HNX : Hid (nx = X.m.l.length ∧ X.u = .slice pl nx cl) := hH_ (⟨hnx, hpc⟩)
    have S0 := dwB w5
    have HA : Hid (told r = if ¬ maj r1.te.length r1.p then r1 else if ¬ r1.l.take r1.c.toNat <+: (besM r1.te).l then r1 else cntd { r1 with l := (besM r1.te).l, c := min (cmtM r1.te) ((besM r1.te).l.length : Int), n := true, la := r1.v, ch := [], te := [], ok := List.replicate r1.p.toNat 0 }) := (show _ = _ from by
     have e1 := HR1.out
     subst e1
     unfold told
     rw [if_neg (fun hh => by
      rcases hh with hh | hh | hh
      ·
       rw [HN.out] at hh; cases hh
      ·
       exact hh HJ.out
      ·
       exact hh HM.out)])
    have HMI : Hid (mine r1) := (show mine _ from by rw [HR1.out]; exact HM.out)
    clear hnT hnx hpc
    cases hq : dB (maj nT r1.p) with
    | false =>
     have HE : Hid (told r = r1) := hH_ (by rw [HA.out, ← HNT.out]; exact if_pos (dB_not hq))
     rw [hq] at jM
     clear hq
     generalize hA : Act.mk _ _ = A
     obtain ⟨s, hs, s0_, s2_⟩ : ∃ s : Nat → Value, A = frSta s s ∧ s 0 = .pointer (some ⟨b, 0, none⟩) ∧ s 2 = .pointer (some ⟨g, 0, none⟩) := by
      refine ⟨fun i => A.tmps.getD i undef, ?_, ?_, ?_⟩ <;> rw [← hA] <;> rfl
     rw [hs]
     clear hs hA
     refine region_heads 15 mixed (by decide) (by kernel_rfl) (by kernel_rfl) (by kernel_rfl) (by kernel_rfl) (frSta s) dSta (fun x => Below w5.heap.size w5 x) (GSta b g nT nx ta pl tc cl) (fun i j hi hj h => dSta_ne hi hj h) ?put s rfl S0 ?step ?done
     case put =>
      intro i o hi ho t v
      iterate 15 rcases ltS hi with hi | rfl
      cases hi
      all_goals
       obtain rfl := Option.some.inj ho
       rfl
     case step =>
      intro i o hi ho t x hS hdep K hK
      iterate 15 rcases ltS hi with hi | rfl
      cases hi
      all_goals obtain rfl := Option.some.inj ho
      iterate 6
       ·
        have y0 := (CB x hS)
        have h2 := hK _ x hS kI_ rfl
        try simp [Region.binds, GSta, dSta, LSta] at hdep
        unfold frSta at h2 ⊢
        clear hK
        go_simp
        first | simpa [Act.put, hdep, y0, s0_, s2_] using h2 | simpa [Act.put, y0, s0_, s2_] using h2
      ·
       have e0 : t 31 = .pointer (some ⟨b, 0, none⟩) := hdep ⟨0, .data⟩ (by simp) rfl
       have e5 : t 36 = .int .i64 (nT : Int) := hdep ⟨5, .data⟩ (by simp) rfl
       refine callG2 (by rfl) 128 (.tmp 31) (.tmp 36) _ rfl (.pointer (some ⟨b, 0, none⟩)) (.int .i64 (nT : Int)) e0 e5 (Go.Proofs.enters_of Tryz.func128 (by kernel_rfl) rfl _) (fun v y => (v = .bool false) ∧ Below x.heap.size x y) ((jM x hS).mono ?_) ?_
       ·
        rintro e0 y0 ⟨h0, rfl⟩
        exact ⟨_, h0, rfl, Below.refl _ _⟩
       ·
        rintro v y ⟨h0, hb2⟩
        exact hK v y (hS.trans (hb2.mono hS.size)) (fun j u hj hne h => GSta.keep hb2 j u hj h) h0
      iterate 2
       ·
        have h2 := hK _ x hS kI_ rfl
        try simp [Region.binds, GSta, dSta, LSta] at hdep
        unfold frSta at h2 ⊢
        clear hK
        go_simp
        first | simpa [Act.put, hdep, s0_, s2_] using h2 | simpa [Act.put, s0_, s2_] using h2
      iterate 6
       ·
        refine skipG 8 false rfl _ rfl 39 rfl true (congrArg some (hdep ⟨8, .guard⟩ (by simp) rfl)) (by decide) ?_
        exact hK undef x hS kI_ rfl
     case done =>
      intro tt x hS hG
      have e15 : tt 39 = .bool true := hG 8 (by decide)
      have H6 := hH_ (H5.out.kept hS)
      have B6 := hH_ (B5.out.trans (hS.mono H5.out.le))
      clear jM CB CX hG hS S0
      show wpList Tryz.prog _ _ [_] _ x
      unfold frSta
      simp only [e15, s0_, s2_]
      clear e15 s0_ s2_
      go_wp2
      (try simp only [Exit.inBlock, Exit.then])
      refine bodyPost_ret (results_none rfl _ _ _) rfl ?_
      rw [HE.out]
      first | exact ⟨rfl, _, H6.out, B6.out⟩ | exact ⟨rfl, ⟨_, H6.out⟩, B6.out⟩
    | true =>
     rw [hq] at jM
     have HQ : Hid (maj r1.te.length r1.p) := (show maj _ _ from by rw [← HNT.out]; exact dB_is hq)
     clear hq
     obtain ⟨cN, hcN⟩ : ∃ cN, cN = r1.c.toNat := ⟨_, rfl⟩
     have hc1 := HOK1.out.c
     have jA := fun x (hS : Below w5.heap.size w5 x) => implAgr r1 _ b cN lc la x (H5.out.kept hS).c rfl (H5.out.kept hS).got.l (by omega) (by omega)
     have jB := fun x (hS : Below w5.heap.size w5 x) => implBegL (.slice pl nx cl) (.slice la cN lc) X.m.l (r1.l.take cN) x (by rw [← HNX.out.2]; exact (H5.out.kept hS).got.te.2 X HX.out.1) (Sls.take (H5.out.kept hS).got.l (by omega)) (by rw [HX.out.2]; exact Nat.le_trans (HOK1.out.te5.2 _ (besM_mem (fun e => by have:=HT1.out;rw [e] at this; exact absurd this (by decide)))).1 (by decide)) (by rw [List.length_take]; have := (logB_sm HOK1.out.l).1; omega)
     have HCN : Hid (cN = r1.c.toNat) := hcN
     clear hcN hc1
     obtain ⟨D, hD⟩ : ∃ D, D = dB (r1.l.take cN <+: X.m.l) := ⟨_, rfl⟩
     have HD : Hid (D = dB (r1.l.take cN <+: X.m.l)) := hD
     rw [← hD] at jB
     clear hD
     generalize hA : Act.mk _ _ = A
     obtain ⟨s, hs, s0_, s2_⟩ : ∃ s : Nat → Value, A = frStb s s ∧ s 0 = .pointer (some ⟨b, 0, none⟩) ∧ s 2 = .pointer (some ⟨g, 0, none⟩) := by
      refine ⟨fun i => A.tmps.getD i undef, ?_, ?_, ?_⟩ <;> rw [← hA] <;> rfl
     rw [hs]
     clear hs hA
     refine region_heads 15 mixed (by decide) (by kernel_rfl) (by kernel_rfl) (by kernel_rfl) (by kernel_rfl) (frStb s) dStb (fun x => Below w5.heap.size w5 x) (GStb b g nT nx cN lc la ta pl tc cl D) (fun i j hi hj h => dStb_ne hi hj h) ?put s rfl S0 ?step ?done
     case put =>
      intro i o hi ho t v
      iterate 15 rcases ltS hi with hi | rfl
      cases hi
      all_goals
       obtain rfl := Option.some.inj ho
       rfl
     case step =>
      intro i o hi ho t x hS hdep K hK
      iterate 15 rcases ltS hi with hi | rfl
      cases hi
      all_goals obtain rfl := Option.some.inj ho
      iterate 6
       ·
        have y0 := (CB x hS)
        have h2 := hK _ x hS kI_ rfl
        try simp [Region.binds, GStb, dStb, LStb] at hdep
        unfold frStb at h2 ⊢
        clear hK
        go_simp
        first | simpa [Act.put, hdep, y0, s0_, s2_] using h2 | simpa [Act.put, y0, s0_, s2_] using h2
      ·
       have e0 : t 31 = .pointer (some ⟨b, 0, none⟩) := hdep ⟨0, .data⟩ (by simp) rfl
       have e5 : t 36 = .int .i64 (nT : Int) := hdep ⟨5, .data⟩ (by simp) rfl
       refine callG2 (by rfl) 128 (.tmp 31) (.tmp 36) _ rfl (.pointer (some ⟨b, 0, none⟩)) (.int .i64 (nT : Int)) e0 e5 (Go.Proofs.enters_of Tryz.func128 (by kernel_rfl) rfl _) (fun v y => (v = .bool true) ∧ Below x.heap.size x y) ((jM x hS).mono ?_) ?_
       ·
        rintro e0 y0 ⟨h0, rfl⟩
        exact ⟨_, h0, rfl, Below.refl _ _⟩
       ·
        rintro v y ⟨h0, hb2⟩
        exact hK v y (hS.trans (hb2.mono hS.size)) (fun j u hj hne h => GStb.keep hb2 j u hj h) h0
      iterate 5
       ·
        have y0 := (CX x hS)
        have h2 := hK _ x hS kI_ rfl
        try simp [Region.binds, GStb, dStb, LStb] at hdep
        unfold frStb at h2 ⊢
        clear hK
        go_simp
        first | simpa [Act.put, hdep, y0, s0_, s2_] using h2 | simpa [Act.put, y0, s0_, s2_] using h2
      ·
       have e11 : t 42 = .pointer (some ⟨b, 0, none⟩) := hdep ⟨11, .data⟩ (by simp) rfl
       have e8 : t 39 = .bool false := hdep ⟨8, .guard⟩ (by simp) rfl
       refine callG1 (wantG 8 false rfl _ rfl 39 rfl (congrArg some e8)) 137 (.tmp 42) _ rfl (.pointer (some ⟨b, 0, none⟩)) e11 (Go.Proofs.enters_of Tryz.func137 (by kernel_rfl) rfl _) (fun v y => (v = .slice la cN lc) ∧ Below x.heap.size x y) ((jA x hS).mono ?_) ?_
       ·
        rintro e0 y0 ⟨h0, h1, h2⟩
        exact ⟨_, h0, rfl, h2⟩
       ·
        rintro v y ⟨h0, hb2⟩
        exact hK v y (hS.trans (hb2.mono hS.size)) (fun j u hj hne h => GStb.keep hb2 j u hj h) h0
      ·
       have e10 : t 41 = .slice pl nx cl := hdep ⟨10, .data⟩ (by simp) rfl
       have e12 : t 43 = .slice la cN lc := hdep ⟨12, .data⟩ (by simp) rfl
       have e8 : t 39 = .bool false := hdep ⟨8, .guard⟩ (by simp) rfl
       refine callG2 (wantG 8 false rfl _ rfl 39 rfl (congrArg some e8)) 136 (.tmp 41) (.tmp 43) _ rfl (.slice pl nx cl) (.slice la cN lc) e10 e12 (Go.Proofs.enters_of Tryz.func136 (by kernel_rfl) rfl _) (fun v y => (v = .bool D) ∧ Below x.heap.size x y) ((jB x hS).mono ?_) ?_
       ·
        rintro e0 y0 ⟨h0, h2⟩
        exact ⟨_, h0, rfl, h2⟩
       ·
        rintro v y ⟨h0, hb2⟩
        exact hK v y (hS.trans (hb2.mono hS.size)) (fun j u hj hne h => GStb.keep hb2 j u hj h) h0
      ·
       have e13 : t 44 = .bool D := hdep ⟨13, .data⟩ (by simp) rfl
       have e8 : t 39 = .bool false := hdep ⟨8, .guard⟩ (by simp) rfl
       have h2 := hK (.bool !D) x hS kI_ rfl
       unfold frStb at h2 ⊢
       clear hK
       go_simp
       simpa [Act.put, e13, e8, s0_, s2_] using h2
     case done =>
      intro tt x hS hG
      have e15 : tt 45 = .bool !D := hG 14 (by decide)
      have e8 : tt 39 = .bool false := hG 8 (by decide)
      have H6 := hH_ (H5.out.kept hS)
      have B6 := hH_ (B5.out.trans (hS.mono H5.out.le))
      have X6 : Hid (Bx x g 30 (mxV X)) := hH_ (Bx.kept X5.out hS)
      clear jM jA jB CB CX hG hS S0 H5 B5 X5
      show wpList Tryz.prog _ _ [_] _ x
      unfold frStb
      simp only [e15, e8, s0_, s2_]
      clear e15 e8 s0_ s2_
      cases D with
      | false =>
       have HE : Hid (told r = r1) := (show _ = _ from by
        rw [HA.out, if_neg (fun hh => hh HQ.out), if_pos]
        rw [← HX.out.2, ← HCN.out]
        exact dB_not HD.out.symm)
       simp only [Bool.not_false]
       go_wp2
       (try simp only [Exit.inBlock, Exit.then])
       refine bodyPost_ret (results_none rfl _ _ _) rfl ?_
       rw [HE.out]
       first | exact ⟨rfl, _, H6.out, B6.out⟩ | exact ⟨rfl, ⟨_, H6.out⟩, B6.out⟩
      | true =>
       have HE : Hid (told r = cntd { r1 with l := X.m.l, c := min (cmtM r1.te) (nx : Int), n := true, la := r1.v, ch := [], te := [], ok := List.replicate r1.p.toNat 0 }) := (show _ = _ from by
        rw [HA.out, if_neg (fun hh => hh HQ.out), if_neg, HNX.out.1, HX.out.2]
        rw [← HX.out.2, ← HCN.out]
        exact fun hh => hh (dB_is HD.out.symm))
       clear HA HD HCN HQ
       simp only [Bool.not_true]
       go_upto_region 4 with fail
       have CB := fun y (hS : Below x.heap.size x y) => (show y.cell? ⟨b, 9, none⟩ = some (.slice ta nT tc) from by rw [HNT.out]; exact (H6.out.kept hS).c.cells.2.2.2.2.2.2.2.2.2)
       have CX := fun y (hS : Below x.heap.size x y) => (show y.cell? ⟨g, 5, none⟩ = some (.slice pl nx cl) from by rw [← HNX.out.2]; exact (Bx.kept X6.out hS).cell 5)
       have jC := fun y (hS : Below x.heap.size x y) => implMost (.slice ta nT tc) T y (by rw [HNT.out]; exact (H6.out.kept hS).got.te.1) (by rw [HTL.out.1]; have := HOK1.out.te5; omega)
       rw [HTL.out.2] at jC
       obtain ⟨M, hM⟩ : ∃ M, M = cmtM r1.te := ⟨_, rfl⟩
       have HMM : Hid (M = cmtM r1.te ∧ 0 ≤ M) := hH_ (⟨hM, by rw [hM]; exact (cmt_ge _ 0).1⟩)
       rw [← hM] at jC
       clear hM
       have S0 := dwB x
       generalize hx7 : x = w7 at H6 B6 X6 CB CX jC S0 ⊢
       clear hx7
       generalize hA : Act.mk _ _ = A
       obtain ⟨s, hs, s0_, s2_⟩ : ∃ s : Nat → Value, A = frStc s s ∧ s 0 = .pointer (some ⟨b, 0, none⟩) ∧ s 2 = .pointer (some ⟨g, 0, none⟩) := by
        refine ⟨fun i => A.tmps.getD i undef, ?_, ?_, ?_⟩ <;> rw [← hA] <;> rfl
       rw [hs]
       clear hs hA
       refine region_heads 12 mixed (by decide) (by kernel_rfl) (by kernel_rfl) (by kernel_rfl) (by kernel_rfl) (frStc s) dStc (fun x => Below w7.heap.size w7 x) (GStc b g nT nx ta pl tc cl M) (fun i j hi hj h => dStc_ne hi hj h) ?put s rfl S0 ?step ?done
       case put =>
        intro i o hi ho t v
        iterate 12 rcases ltS hi with hi | rfl
        cases hi
        all_goals
         obtain rfl := Option.some.inj ho
         rfl
       case step =>
        intro i o hi ho t x hS hdep K hK
        iterate 12 rcases ltS hi with hi | rfl
        cases hi
        all_goals obtain rfl := Option.some.inj ho
        iterate 5
         ·
          have y0 := (CB x hS)
          have h2 := hK _ x hS kI_ rfl
          try simp [Region.binds, GStc, dStc, LStc] at hdep
          unfold frStc at h2 ⊢
          clear hK
          go_simp
          first | simpa [Act.put, hdep, y0, s0_, s2_] using h2 | simpa [Act.put, y0, s0_, s2_] using h2
        ·
         have e4 : t 51 = .slice ta nT tc := hdep ⟨4, .data⟩ (by simp) rfl
         refine callG1 (by rfl) 152 (.tmp 51) _ rfl (.slice ta nT tc) e4 (Go.Proofs.enters_of Tryz.func152 (by kernel_rfl) rfl _) (fun v y => (v = .int .i64 M) ∧ Below x.heap.size x y) ((jC x hS).mono ?_) ?_
         ·
          rintro e0 y0 ⟨h0, h2⟩
          exact ⟨_, h0, rfl, h2⟩
         ·
          rintro v y ⟨h0, hb2⟩
          exact hK v y (hS.trans (hb2.mono hS.size)) (fun j u hj hne h => GStc.keep hb2 j u hj h) h0
        iterate 6
         ·
          have y0 := (CX x hS)
          have h2 := hK _ x hS kI_ rfl
          try simp [Region.binds, GStc, dStc, LStc] at hdep
          unfold frStc at h2 ⊢
          clear hK
          go_simp
          first | simpa [Act.put, hdep, y0, s0_, s2_] using h2 | simpa [Act.put, y0, s0_, s2_] using h2
       case done =>
        intro tt x hS hG
        have e9 : tt 56 = .int .i64 (min M (nx : Int)) := hG 9 (by decide)
        have e11 : tt 58 = .pointer (some ⟨b, 6, none⟩) := hG 11 (by decide)
        have H8 := hH_ (H6.out.kept hS)
        have B8 := hH_ (B6.out.trans (hS.mono H6.out.le))
        have X8 : Hid (Bx x g 30 (mxV X)) := hH_ (Bx.kept X6.out hS)
        have HLT : Hid (g < x.heap.size) := Bx.lt X8.out
        clear jC CB CX hG hS S0 H6 B6 X6
        show wpList Tryz.prog _ _ [_] _ x
        unfold frStc
        simp only [e9, e11, s0_, s2_]
        clear e9 e11 s0_ s2_
        refine wpList_put1 rfl rfl 2 (.tmp 58) (.tmp 56) rfl b 6 (.int .i64 (min M (nx : Int))) rfl rfl Tryz.rsz2 rfl H8.out.c (show 6 < (rpC r1 _).size by rw [rpC_size]; decide) ?_
        have h9 := H8.out.setC (min M (nx : Int))
        have x9 := Bx.other (g := b) X8.out 6 (.int .i64 (min M (nx : Int))) (by have:=HBG.out;omega)
        have b9 := (Below.refl B x).setCell (p := ⟨b, 6, none⟩) H8.out.hb (.int .i64 (min M (nx : Int)))
        generalize x.setCell ⟨b, 6, none⟩ (.int .i64 (min M (nx : Int))) = w9 at h9 x9 b9 ⊢
        have H9 : Hid (RpAt F w9 B b ⟨.slice la r1.l.length lc, .slice oa1 r1.ok.length oc1, .slice ca1 r1.ch.length cc1, .slice ta r1.te.length tc, T⟩ { r1 with c := min M (nx : Int) }) := h9
        have B9 := hH_ (B8.out.trans b9)
        have X9 : Hid (Bx w9 g 30 (mxV X)) := x9
        have c5 : w9.cell? ⟨g, 5, none⟩ = some (.slice pl nx cl) := by rw [← HNX.out.2]; exact x9.cell 5
        clear h9 b9 x9 H8 B8 X8 HLT
        go_upto_region 6 with (refine wpList_put1 rfl rfl 24 (.tmp 63) (.tmp 61) rfl b 5 (.slice pl nx cl) rfl rfl Tryz.rszS rfl H9.out.c (show 5 < (rpC _ _).size by rw [rpC_size]; decide) ?_)
        have hx10 := H9.out.toX HX.out.1
        rw [HNX.out.2] at hx10
        have b10 := (Below.refl B w9).setCell (p := ⟨b, 5, none⟩) H9.out.hb (.slice pl nx cl)
        generalize w9.setCell ⟨b, 5, none⟩ (.slice pl nx cl) = w10 at hx10 b10 ⊢
        have B10 := hH_ (B9.out.trans b10)
        have HX10 : Hid (RpX F w10 B b _ _ { r1 with c := min M (nx : Int), l := X.m.l, te := [] }) := hx10
        clear hx10 b10 c5 H9 B9 X9
        have jn := implBeNX _ _ B b _ w10 HX10.out rfl rfl HOK1.out.p HOK1.out.id ⟨HOK1.out.v.1, by have := HOK1.out.v; show r1.v ≤ _; omega⟩ (show 0 ≤ min M (nx : Int) by have := HMM.out.2; omega) (show X.m.l.length ≤ 1048576 by rw [HX.out.2]; exact Nat.le_trans (HOK1.out.te5.2 _ (besM_mem (fun e => by have:=HT1.out;rw [e] at this; exact absurd this (by decide)))).1 (by decide))
        go_wp2_with fail
        refine jn.mono ?_
        rintro e w11 ⟨rfl, u11, h11, b11⟩
        have HF : Hid (beN { r1 with c := min M (nx : Int), l := X.m.l, te := [] } = told r) := (show _ = _ from by
         rw [HE.out, HMM.out.1]
         exact anew_leads (r := { r1 with c := min (cmtM r1.te) (nx : Int), l := X.m.l, n := true, la := r1.v, ch := [], te := [] }) ⟨rfl, HMI.out⟩)
        rw [HF.out] at h11
        have H11 : Hid (RpAt F w11 B b u11 (told r)) := h11
        have B11 := hH_ (B10.out.trans b11)
        clear h11 b11 jn
        go_wp2
        go_end0
        first | exact ⟨rfl, _, H11.out, B11.out⟩ | exact ⟨rfl, ⟨_, H11.out⟩, B11.out⟩
open Go.RowKit Go.Sort Go.Shelf
variable {F : Frm}

theorem RpAt.grownTe {w w1 w2 : World} {B b : Nat} {u : Rv} {r : Rp} (h : RpAt F w B b u r) (hb : Below w.heap.size w w1) {v : Value} {x : Mx} {k q : Nat} (hkq : k ≤ q) (ho : OwnsM w2 B v (u.T.take k ++ x :: u.T.drop q)) (hg : w1.grownBy w2 u.te.ownBlock) (hv : v.ownBlock = u.te.ownBlock ∨ ∃ n, v.ownBlock = some n ∧ w1.heap.size ≤ n)
  (hx : HasX w B x.u x.m.l) (hxa : ∀ y ∈ u.rows, ap y x.u) (hxF : ∀ y ∈ F, x.u.ownBlock ≠ some y.1) :
  RpAt F (w2.setCell ⟨b, 9, none⟩ v) B b { u with te := v, T := u.T.take k ++ x :: u.T.drop q } { r with te := r.te.take k ++ x.m :: r.te.drop q } ∧ Below B w (w2.setCell ⟨b, 9, none⟩ v) ∧ RpB w2 b r u := by
 have h1 := h.kept hb
 have hx1 := hx.kept hb
 obtain ⟨a1, a2, a3, a4, a5⟩ := RpAp.iff.1 h.apt
 have hlb : u.te.ownBlock ≠ some b := fun e => h.o.ne h.c _ (rows_te u) b e rfl
 have hoff : ∀ y, y ∈ u.rows → ap u.te y → ∀ k, y.ownBlock = some k → w2.heap[k]? = w1.heap[k]? := fun y hy ha k hk => hg.block k (h1.under y hy k hk) (fun e => ha k e.symm hk)
 have hc2 : RpB w2 b r u := (hg.block b h1.lt (fun e => hlb e.symm)).trans h1.c
 have hxu : x.u.ownBlock = none ∨ ∃ n, x.u.ownBlock = some n ∧ n < w.heap.size := by
  cases e : x.u.ownBlock with
  | none => exact .inl rfl
  | some n => exact .inr ⟨n, rfl, hx.under n e⟩
 have hx2 : HasX w2 B x.u x.m.l := hx1.off (fun k hk => hg.block k (hx1.under k hk) (fun e => hxa u.te (rows_te u) k e.symm hk))
 have hm : ∀ y ∈ u.T.take k ++ x :: u.T.drop q, y ∈ u.T ∨ y = x := fun y hy => by
  rcases List.mem_append.1 hy with hy | hy
  ·
   exact .inl (List.mem_of_mem_take hy)
  ·
   rcases List.mem_cons.1 hy with rfl | hy
   ·
    exact .inr rfl
   ·
    exact .inl (List.mem_of_mem_drop hy)
 have hl : ∀ y ∈ u.T.take k ++ x :: u.T.drop q, HasX w2 B y.u y.m.l := fun y hy => by
  rcases hm y hy with hy | rfl
  ·
   exact (h1.o.tl y hy).off (hoff _ (rows_T (List.mem_map_of_mem hy)) (a4 _ (List.mem_map_of_mem hy)))
  ·
   exact hx2
 have tl : ap u.te u.l := (a1 _ (by simp)).comm
 have tok : ap u.te u.ok := (a2 _ (by simp)).comm
 have tch : ap u.te u.ch := (a3 _ (by simp)).comm
 have hO : RpOw w2 B { u with te := v, T := u.T.take k ++ x :: u.T.drop q } { r with te := r.te.take k ++ x.m :: r.te.drop q } := ⟨h1.o.l.off (hoff _ (rows_l u) tl), h1.o.ok.off (hoff _ (rows_ok u) tok), OwnsE.off h1.o.ch (hoff _ (rows_ch u) tch), by rw [← h.o.t]; simp [List.map_take, List.map_drop], ho, hl⟩
 have hvx : ∀ y, y ∈ u.rows → ap u.te y → ap v y := fun y hy ha k hk hk' => by
  rcases hv with e | ⟨n, e, hn⟩
  ·
   exact ha k (e.symm.trans hk) hk'
  ·
   have := h1.under y hy k hk'
   rw [e] at hk
   injection hk with hk
   omega
 have hA : RpAp { u with te := v, T := u.T.take k ++ x :: u.T.drop q } := by
  refine RpAp.iff.2 ⟨fun y hy => ?_, fun y hy => ?_, fun y hy => ?_, fun y hy => ?_, ?_⟩
  ·
   simp only [List.mem_cons, List.mem_map] at hy
   rcases hy with rfl | rfl | rfl | ⟨z, hz, rfl⟩
   ·
    exact a1 _ (by simp)
   ·
    exact a1 _ (by simp)
   ·
    exact (hvx _ (rows_l u) tl).comm
   ·
    rcases hm z hz with hz | rfl
    ·
     exact a1 _ (by simp only [List.mem_cons]; exact .inr (.inr (.inr (List.mem_map_of_mem hz))))
    ·
     exact hxa _ (rows_l u)
  ·
   simp only [List.mem_cons, List.mem_map] at hy
   rcases hy with rfl | rfl | ⟨z, hz, rfl⟩
   ·
    exact a2 _ (by simp)
   ·
    exact (hvx _ (rows_ok u) tok).comm
   ·
    rcases hm z hz with hz | rfl
    ·
     exact a2 _ (by simp only [List.mem_cons]; exact .inr (.inr (List.mem_map_of_mem hz)))
    ·
     exact hxa _ (rows_ok u)
  ·
   simp only [List.mem_cons, List.mem_map] at hy
   rcases hy with rfl | ⟨z, hz, rfl⟩
   ·
    exact (hvx _ (rows_ch u) tch).comm
   ·
    rcases hm z hz with hz | rfl
    ·
     exact a3 _ (by simp only [List.mem_cons]; exact .inr (List.mem_map_of_mem hz))
    ·
     exact hxa _ (rows_ch u)
  ·
   obtain ⟨z, hz, rfl⟩ := List.mem_map.1 hy
   exact apTy ho (hl z hz)
  ·
   have hT : ∀ y ∈ u.T, ap y.u x.u ∧ ap x.u y.u := fun y hy => ⟨hxa _ (rows_T (List.mem_map_of_mem hy)), (hxa _ (rows_T (List.mem_map_of_mem hy))).comm⟩
   show ((u.T.take k ++ x :: u.T.drop q).map Mx.u).Pairwise ap
   rw [List.map_append, List.map_cons, List.pairwise_append, List.pairwise_cons]
   have hp : ((u.T.map Mx.u).take k ++ (u.T.map Mx.u).drop q).Pairwise ap := by
    refine List.Pairwise.sublist ?_ a5
    have : (u.T.map Mx.u).take k ++ (u.T.map Mx.u).drop k = u.T.map Mx.u := List.take_append_drop k _
    conv => rhs; rw [← this]
    refine List.Sublist.append (List.Sublist.refl _) ?_
    obtain ⟨d, rfl⟩ : ∃ d, q = k + d := ⟨q - k, by omega⟩
    rw [← List.drop_drop]
    exact List.drop_sublist _ _
   rw [List.pairwise_append] at hp
   rw [List.map_take, List.map_drop]
   refine ⟨hp.1, ⟨fun z hz => ?_, hp.2.1⟩, fun y hy z hz => ?_⟩
   ·
    obtain ⟨a, ha, rfl⟩ := List.mem_map.1 (List.mem_of_mem_drop hz)
    exact (hT a ha).2
   ·
    rcases List.mem_cons.1 hz with rfl | hz
    ·
     obtain ⟨a, ha, rfl⟩ := List.mem_map.1 (List.mem_of_mem_take hy)
     exact (hT a ha).1
    ·
     exact hp.2.2 y hy z hz
 have hne := hO.ne hc2
 refine ⟨⟨?_, hO.off fun y hy k hk => Below.heap_setCell _ _ _ _ (hne y hy k hk), hA, h.hb, h.fr.of (fun k hk hkb hr => (Below.heap_setCell _ _ _ _ hkb).trans ((hg.block k (Nat.lt_of_lt_of_le hk hb.size) (fun e => hr _ (rows_te u) e.symm)).trans (hb.block k hk))) (fun y hy => by
  simp only [Rv.rows, List.mem_cons, List.mem_map] at hy
  rcases hy with rfl | rfl | rfl | rfl | ⟨z, hz, rfl⟩
  ·
   exact .inl ⟨_, rows_l u, rfl⟩
  ·
   exact .inl ⟨_, rows_ok u, rfl⟩
  ·
   exact .inl ⟨_, rows_ch u, rfl⟩
  ·
   rcases hv with e | ⟨n, e, hn⟩
   ·
    exact .inl ⟨_, rows_te u, e⟩
   ·
    exact .inr (.inl fun k hk => by
     rw [e] at hk
     injection hk with hk
     have := hb.size
     omega)
  ·
   rcases hm z hz with hz | rfl
   ·
    exact .inl ⟨_, rows_T (List.mem_map_of_mem hz), rfl⟩
   ·
    exact .inr (.inr hxF))⟩, ?_, hc2⟩
 ·
  exact Bx.put hc2 9 v
 ·
  have hle := h.le
  exact (belowE (hb.mono hle) hg (Nat.le_trans hle hb.size) (fun k hk => h1.o.te.from k hk)).setCell (p := ⟨b, 9, none⟩) h.hb _
theorem wpList_rpGrTe {ops : Array Oper} {rest : List Oper} {o : Oper} {a : Act} {Q : Exit → Act → World → Prop} {w w1 w2 : World} {B b : Nat} {u : Rv} {r : Rp} (h : RpAt F w B b u r) (hb : Below w.heap.size w w1) {v : Value} {z : Mx} {k : Nat} (hi : InsP w1 w2 B u.te v u.T k z) (hz : HasX w B z.u z.m.l) (hza : ∀ y ∈ u.rows, ap y z.u) (hzF : ∀ y ∈ F, z.u.ownBlock ≠ some y.1)
  (hgd : o.guard = none) (hd : o.dst = none) (x y : Operand) (ho : o.op = .store 26 x y) (hx : a.eval x = .pointer (some ⟨b, 9, none⟩)) (hy : a.eval y = v)
  (hh : ∀ W, RpAt F W B b { u with te := v, T := u.T.take k ++ z :: u.T.drop k } { r with te := r.te.take k ++ z.m :: r.te.drop k } → Below B w W → wpList Tryz.prog ops Q rest a W) : wpList Tryz.prog ops Q (o :: rest) a w2 := by
 obtain ⟨k1, k2, k3⟩ := h.grownTe hb (Nat.le_refl k) hi.row hi.grown hi.blk hz hza hzF
 exact wpList_put1 hgd hd 26 x y ho b 9 _ hx hy Tryz.rszM (by obtain ⟨_, _, e, _⟩ := hi.row.form; rw [e]; rfl) k3 (show 9 < (rpC r u).size by rw [rpC_size]; decide) (hh _ k1 k2)
open Go.RowKit Go.Sort Go.Shelf
variable {F : Frm}

def frPta (s t : Nat → Value) : Act := { tmps := #[s 0, s 1, s 2, s 3, t 4, s 5, t 6, t 7, t 8, t 9, t 10, t 11, t 12, t 13, t 14, t 15, s 16, s 17, s 18, s 19, s 20, s 21, s 22, s 23, s 24, s 25, s 26, s 27, s 28, s 29, s 30, s 31, s 32, s 33, s 34], defers := [] }
def LPta : List Nat := [7, 8, 9, 10, 11, 12, 13, 6, 14, 15, 4]
def dPta (i : Nat) : Nat := LPta.getD i (i + 5000)
theorem dPta_ne {i j : Nat} (hi : i < 11) (hj : j < 11) (h : j ≠ i) : dPta j ≠ dPta i := slotsNe (L := LPta) (by decide) rfl hi hj h
def GPta (b g nT k tc : Nat) (ta : Option Addr) (x0 : Mx) (D : Bool) (i : Nat) (x : World) (v : Value) : Prop := match i with
 | 0 => v = .pointer (some ⟨b, 0, none⟩)
 | 1 => v = .pointer (some ⟨b, 0, none⟩)
 | 2 => v = .pointer (some ⟨b, 9, none⟩)
 | 3 => v = .slice ta nT tc
 | 4 => v = .pointer (some ⟨g, 1, none⟩)
 | 5 => v = .int .i64 x0.m.f
 | 6 => v = .tuple #[.int .i64 (k : Int), .bool D]
 | 7 => v = .tuple #[.int .i64 (k : Int), .bool D]
 | 8 => v = .int .i64 (k : Int)
 | 9 => v = .bool D
 | 10 => v = .int .i64 (k : Int)
 | _ => True
theorem GPta.keep {b g nT k tc : Nat} {ta : Option Addr} {x0 : Mx} {D : Bool} {x y : World} (hb : Below x.heap.size x y) (j : Nat) (v : Value) (hj : j < 11) (h : GPta b g nT k tc ta x0 D j x v) : GPta b g nT k tc ta x0 D j y v := h
def frPtb (s t : Nat → Value) : Act := { tmps := #[s 0, s 1, s 2, s 3, s 4, s 5, s 6, s 7, s 8, s 9, s 10, s 11, s 12, s 13, s 14, s 15, s 16, s 17, s 18, s 19, s 20, s 21, s 22, s 23, t 24, t 25, t 26, t 27, t 28, t 29, t 30, t 31, t 32, t 33, t 34], defers := [] }
def LPtb : List Nat := [24, 25, 26, 27, 28, 29, 30, 31, 32, 33, 34]
def dPtb (i : Nat) : Nat := LPtb.getD i (i + 5000)
theorem dPtb_ne {i j : Nat} (hi : i < 11) (hj : j < 11) (h : j ≠ i) : dPtb j ≠ dPtb i := slotsNe (L := LPtb) (by decide) rfl hi hj h
def GPtb (b g nT k tc lo : Nat) (ta : Option Addr) (x0 : Mx) (i : Nat) (x : World) (v : Value) : Prop := match i with
 | 0 => v = .pointer (some ⟨b, 0, none⟩)
 | 1 => v = .pointer (some ⟨b, 0, none⟩)
 | 2 => v = .pointer (some ⟨b, 0, none⟩)
 | 3 => v = .pointer (some ⟨b, 9, none⟩)
 | 4 => v = .slice ta nT tc
 | 5 => v = .int .i64 (k : Int)
 | 6 => v = .agg (mxV x0)
 | 7 => ∃ (gb : Nat), v = .slice (some ⟨gb, 0, none⟩) 1 1 ∧ (lo ≤ gb ∧ Bx x gb 30 (mxV x0))
 | 8 => True
 | 9 => v = .pointer (some ⟨b, 0, none⟩)
 | 10 => v = .pointer (some ⟨b, 9, none⟩)
 | _ => True
theorem GPtb.keep {b g nT k tc lo : Nat} {ta : Option Addr} {x0 : Mx} {x y : World} (hb : Below x.heap.size x y) (j : Nat) (v : Value) (hj : j < 11) (h : GPtb b g nT k tc lo ta x0 j x v) : GPtb b g nT k tc lo ta x0 j y v := by
 iterate 11 rcases ltS hj with hj | rfl
 cases hj
 ·
  exact h
 ·
  exact h
 ·
  exact h
 ·
  exact h
 ·
  exact h
 ·
  exact h
 ·
  exact h
 ·
  obtain ⟨gb, h1, h2⟩ := h; exact ⟨gb, h1, h2.1, h2.2.kept hb⟩
 ·
  trivial
 ·
  exact h
 ·
  exact h
theorem GPtb.keepM {b g nT k tc lo : Nat} {ta : Option Addr} {x0 : Mx} {x y : World} (hlo : ∀ k, (Value.slice ta nT tc).ownBlock = some k → k < lo) (hg : x.grownBy y (Value.slice ta nT tc).ownBlock) (j : Nat) (v : Value) (hj : j < 11) (hne : j ≠ 8) (h : GPtb b g nT k tc lo ta x0 j x v) : GPtb b g nT k tc lo ta x0 j y v := by
 iterate 11 rcases ltS hj with hj | rfl
 cases hj
 ·
  exact h
 ·
  exact h
 ·
  exact h
 ·
  exact h
 ·
  exact h
 ·
  exact h
 ·
  exact h
 ·
  obtain ⟨gb, h1, h2⟩ := h; exact ⟨gb, h1, h2.1, (hg.block gb (Bx.lt h2.2) (fun e => by have := hlo gb e.symm; have := h2.1; omega)).trans h2.2⟩
 ·
  exact absurd rfl hne
 ·
  exact h
 ·
  exact h
theorem implPutN (r : Rp) (u : Rv) (B b k : Nat) (x0 : Mx) (w : World) (h : RpAt F w B b u r) (hx : HasX w B x0.u x0.m.l) (hxa : ∀ y ∈ u.rows, ap y x0.u) (hxF : ∀ y ∈ F, x0.u.ownBlock ≠ some y.1) (hl : r.te.length ≤ 1000) (hr : (r.te.map (·.f)).Pairwise (· < ·)) (hs : SrcAt (r.te.map (·.f)) x0.m.f k false)
  (jI : ∀ (W : World) (te : Value) (T : List Mx) (g : Nat), OwnsM W B te T → Bx W g 30 (mxV x0) → te.ownBlock ≠ some g → T.length = r.te.length → B ≤ W.heap.size → Calls Tryz.prog 160 #[te, .int .i64 (k : Int), .slice (some ⟨g, 0, none⟩) 1 1] W fun e w' => ∃ v, e = .returned v ∧ InsP W w' B te v T k x0) :
  Calls Tryz.prog 141 #[.pointer (some ⟨b, 0, none⟩), .agg (mxV x0)] w fun e w' => e = .returned (.tuple #[]) ∧ ∃ u', RpAt F w' B b u' { r with te := r.te.take k ++ x0.m :: r.te.drop k } ∧ Below B w w' := by
 obtain ⟨la, lc, oa, oc, ca, cc, ta, tc, T, rfl⟩ := h.got.form
 have HT : Hid (T.length = r.te.length ∧ T.map (·.m) = r.te) := hH_ (⟨by rw [← h.o.t, List.length_map], h.o.t⟩)
 have HF : Hid (T.map (·.m.f) = r.te.map (·.f)) := hH_ (by rw [← HT.out.2, List.map_map]; rfl)
 obtain ⟨w1, hw1⟩ : ∃ w1, w1 = w.alloc (.cells (mxV x0) 30) := ⟨_, rfl⟩
 obtain ⟨g, hg⟩ : ∃ g, g = w.heap.size := ⟨_, rfl⟩
 have X1 : Hid (Bx w1 g 30 (mxV x0)) := hH_ (by rw [hw1, hg]; exact Bx.new _ _ _)
 have b1 : Below w.heap.size w w1 := by rw [hw1]; exact (Below.refl _ w).alloc (Nat.le_refl _) _
 have H1 : Hid (RpAt F w1 B b ⟨.slice la r.l.length lc, .slice oa r.ok.length oc, .slice ca r.ch.length cc, .slice ta r.te.length tc, T⟩ r) := hH_ (h.kept b1)
 have HX1 : Hid (HasX w1 B x0.u x0.m.l) := hH_ (hx.kept b1)
 have HXA : Hid (∀ y ∈ Rv.rows ⟨.slice la r.l.length lc, .slice oa r.ok.length oc, .slice ca r.ch.length cc, .slice ta r.te.length tc, T⟩, ap y x0.u) := hH_ (hxa)
 have B1 : Hid (Below B w w1) := hH_ (b1.mono h.le)
 obtain ⟨nT, hnT⟩ : ∃ nT, nT = r.te.length := ⟨_, rfl⟩
 obtain ⟨D, hD⟩ : ∃ D : Bool, D = false := ⟨_, rfl⟩
 rw [← hD] at hs
 have HD : Hid (D = false) := hD
 have HN : Hid (nT = r.te.length) := hnT
 have CB := fun x (hS : Below w1.heap.size w1 x) => (show x.cell? ⟨b, 9, none⟩ = some (.slice ta nT tc) from by rw [hnT]; exact (H1.out.kept hS).c.cells.2.2.2.2.2.2.2.2.2)
 have CX := fun x (hS : Below w1.heap.size w1 x) => (show x.cell? ⟨g, 1, none⟩ = some (.int .i64 x0.m.f) from (Bx.kept X1.out hS).cell 1)
 have jS := fun x (hS : Below w1.heap.size w1 x) => implBsA (.slice ta nT tc) T x0.m.f k D x (by rw [hnT]; exact (H1.out.kept hS).got.te.1) (by rw [HT.out.1]; exact hl) (by rw [HF.out]; exact hr) (by rw [HF.out]; exact hs)
 have JI : Hid (∀ (W : World) (te : Value) (T : List Mx) (g : Nat), OwnsM W B te T → Bx W g 30 (mxV x0) → te.ownBlock ≠ some g → T.length = r.te.length → B ≤ W.heap.size → Calls Tryz.prog 160 #[te, .int .i64 (k : Int), .slice (some ⟨g, 0, none⟩) 1 1] W fun e w' => ∃ v, e = .returned v ∧ InsP W w' B te v T k x0) := hH_ (jI)
 have HXF : Hid (∀ y ∈ F, x0.u.ownBlock ≠ some y.1) := hH_ (hxF)
 clear h hx hxa hxF hl hr hs jI b1 hnT hD
 unfold mxV at hw1 ⊢
 go_enter Tryz.func141, Tryz.ntmps141
 go_upto_region 1 with fail
 rw [← hg, ← hw1]
 clear hw1 hg
 have S0 := dwB w1
 generalize hA : Act.mk _ _ = A
 obtain ⟨s, hs, s0_, s3_⟩ : ∃ s : Nat → Value, A = frPta s s ∧ s 0 = .pointer (some ⟨b, 0, none⟩) ∧ s 3 = .pointer (some ⟨g, 0, none⟩) := by
  refine ⟨fun i => A.tmps.getD i undef, ?_, ?_, ?_⟩ <;> rw [← hA] <;> rfl
 rw [hs]
 clear hs hA
 refine region_heads 11 mixed (by decide) (by kernel_rfl) (by kernel_rfl) (by kernel_rfl) (by kernel_rfl) (frPta s) dPta (fun x => Below w1.heap.size w1 x) (GPta b g nT k tc ta x0 D) (fun i j hi hj h => dPta_ne hi hj h) ?put s rfl S0 ?step ?done
 case put =>
  intro i o hi ho t v
  iterate 11 rcases ltS hi with hi | rfl
  cases hi
  all_goals
   obtain rfl := Option.some.inj ho
   rfl
 case step =>
  intro i o hi ho t x hS hdep K hK
  iterate 11 rcases ltS hi with hi | rfl
  cases hi
  all_goals obtain rfl := Option.some.inj ho
  iterate 6
   ·
    have y0 := (CB x hS)
    have y1 := (CX x hS)
    have h2 := hK _ x hS kI_ rfl
    try simp [Region.binds, GPta, dPta, LPta] at hdep
    unfold frPta at h2 ⊢
    clear hK
    go_simp
    first | simpa [Act.put, hdep, y0, y1, s0_, s3_] using h2 | simpa [Act.put, y0, y1, s0_, s3_] using h2
  ·
   have e3 : t 10 = .slice ta nT tc := hdep ⟨3, .data⟩ (by simp) rfl
   have e5 : t 12 = .int .i64 x0.m.f := hdep ⟨5, .data⟩ (by simp) rfl
   refine callG3 (by rfl) 157 (.tmp 10) (.tmp 12) (.func 158) _ rfl (.slice ta nT tc) (.int .i64 x0.m.f) (.func (.func 158) #[] #[]) e3 e5 rfl (Go.Proofs.enters_of Tryz.func157 (by kernel_rfl) rfl _) (fun v y => v = .tuple #[.int .i64 (k : Int), .bool D] ∧ Below x.heap.size x y) ((jS x hS).mono ?_) ?_
   ·
    rintro e0 y0 ⟨h0, h1⟩
    exact ⟨_, h0, rfl, h1⟩
   ·
    rintro v y ⟨h0, hb2⟩
    exact hK v y (hS.trans (hb2.mono hS.size)) (fun j u hj hne h => GPta.keep hb2 j u hj h) h0
  iterate 4
   ·
    have h2 := hK _ x hS kI_ rfl
    try simp [Region.binds, GPta, dPta, LPta] at hdep
    unfold frPta at h2 ⊢
    clear hK
    go_simp
    first | simpa [Act.put, hdep, s0_, s3_] using h2 | simpa [Act.put, s0_, s3_] using h2
 case done =>
  intro tt w2 hS hG
  have e10 : tt 4 = .int .i64 (k : Int) := hG 10 (by decide)
  have e11 : tt 15 = .bool D := hG 9 (by decide)
  rw [HD.out] at e11
  have H2 := hH_ (H1.out.kept hS)
  have B2 := hH_ (B1.out.trans (hS.mono H1.out.le))
  have X2 : Hid (Bx w2 g 30 (mxV x0)) := hH_ (Bx.kept X1.out hS)
  have HX2 := hH_ (HX1.out.kept hS)
  clear jS CB CX hG hS S0 H1 B1 X1 HX1
  show wpList Tryz.prog _ _ [_] _ w2
  unfold frPta
  simp only [e10, e11, s0_, s3_]
  clear e10 e11 s0_ s3_
  go_upto_region 4 with fail
  have HX := X2
  have CB := fun x (hS : Below w2.heap.size w2 x) => (show x.cell? ⟨b, 9, none⟩ = some (.slice ta nT tc) from by rw [HN.out]; exact (H2.out.kept hS).c.cells.2.2.2.2.2.2.2.2.2)
  have HL : Hid (∀ k, (Value.slice ta nT tc).ownBlock = some k → k < w2.heap.size) := hH_ (fun k hk => H2.out.under (.slice ta r.te.length tc) (rows_te _) k (by rw [← HN.out]; exact hk))
  have jI := fun x gb (hS : Below w2.heap.size w2 x) (hlo : w2.heap.size ≤ gb) (hgb : Bx x gb 30 (mxV x0)) => JI.out x (.slice ta nT tc) T gb (by rw [HN.out]; exact (H2.out.kept hS).o.te) hgb (fun e => by have := HL.out gb e; omega) HT.out.1 (Nat.le_trans H2.out.le hS.size)
  have S0 := dwB w2
  obtain ⟨lo, hlo⟩ : ∃ lo, lo = w2.heap.size := ⟨_, rfl⟩
  generalize hA : Act.mk _ _ = A
  obtain ⟨s, hs, s0_, s3_, s4_⟩ : ∃ s : Nat → Value, A = frPtb s s ∧ s 0 = .pointer (some ⟨b, 0, none⟩) ∧ s 3 = .pointer (some ⟨g, 0, none⟩) ∧ s 4 = .int .i64 (k : Int) := by
   refine ⟨fun i => A.tmps.getD i undef, ?_, ?_, ?_, ?_⟩ <;> rw [← hA] <;> rfl
  rw [hs]
  clear hs hA
  refine region_headsL 11 mixed (by decide) (by kernel_rfl) (by kernel_rfl) (by kernel_rfl) (by kernel_rfl) (frPtb s) dPtb (StepM 8 32 (fun x => Below w2.heap.size w2 x) (fun v y => ∃ w4, Below w2.heap.size w2 w4 ∧ InsP w4 y B (.slice ta nT tc) v T k x0)) (GPtb b g nT k tc lo ta x0) (fun i j hi hj h => dPtb_ne hi hj h) ?put s rfl ⟨fun _ => S0, fun h => by cases h⟩ ?step ?done
  case put =>
   intro i o hi ho t v
   iterate 11 rcases ltS hi with hi | rfl
   cases hi
   all_goals
    obtain rfl := Option.some.inj ho
    rfl
  case step =>
   intro i o hi ho listed hnl hcl hls t x hS hdep K hK
   iterate 11 rcases ltS hi with hi | rfl
   cases hi
   all_goals obtain rfl := Option.some.inj ho
   ·
    have hS9 := fun v => hS.free (v := v) (i := 0) (d := 24) (by decide) (by decide)
    have h2 := hK (.pointer (some ⟨b, 0, none⟩)) x (hS9 _) kI_ rfl
    unfold frPtb at h2 ⊢
    clear hK
    go_simp
    simpa [Act.put, s0_, s3_, s4_] using h2
   ·
    have h8 : listed.getD 8 false = false := by
     cases hq : listed.getD 8 false with
     | false => rfl
     | true =>
      have a0 := hcl 8 _ rfl hq ⟨4, .data⟩ (by simp) rfl
      have a1 := hcl 4 _ rfl a0 ⟨3, .data⟩ (by simp) rfl
      have a2 := hcl 3 _ rfl a1 ⟨2, .data⟩ (by simp) rfl
      have a3 := hcl 2 _ rfl a2 ⟨1, .data⟩ (by simp) rfl
      rw [hnl] at a3
      cases a3
    replace hS := hS.1 h8
    have hK0 := hK
    clear hK
    have hK : ∀ v y, (fun x => Below w2.heap.size w2 x) y → (∀ j u, j < 11 → j ≠ 1 → GPtb b g nT k tc lo ta x0 j x u → GPtb b g nT k tc lo ta x0 j y u) → GPtb b g nT k tc lo ta x0 1 y v → K ((frPtb s t).put _ v) y := fun v y hy h1 h2 => hK0 v y (StepM.before h8 (by decide) hy) h1 h2
    clear hK0
    have h2 := hK (.pointer (some ⟨b, 0, none⟩)) x hS kI_ rfl
    unfold frPtb at h2 ⊢
    clear hK
    go_simp
    simpa [Act.put, s0_, s3_, s4_] using h2
   ·
    have h8 : listed.getD 8 false = false := by
     cases hq : listed.getD 8 false with
     | false => rfl
     | true =>
      have a0 := hcl 8 _ rfl hq ⟨4, .data⟩ (by simp) rfl
      have a1 := hcl 4 _ rfl a0 ⟨3, .data⟩ (by simp) rfl
      have a2 := hcl 3 _ rfl a1 ⟨2, .data⟩ (by simp) rfl
      rw [hnl] at a2
      cases a2
    replace hS := hS.1 h8
    have hK0 := hK
    clear hK
    have hK : ∀ v y, (fun x => Below w2.heap.size w2 x) y → (∀ j u, j < 11 → j ≠ 2 → GPtb b g nT k tc lo ta x0 j x u → GPtb b g nT k tc lo ta x0 j y u) → GPtb b g nT k tc lo ta x0 2 y v → K ((frPtb s t).put _ v) y := fun v y hy h1 h2 => hK0 v y (StepM.before h8 (by decide) hy) h1 h2
    clear hK0
    have e1 : t 25 = .pointer (some ⟨b, 0, none⟩) := hdep ⟨1, .data⟩ (by simp) rfl
    have h2 := hK (.pointer (some ⟨b, 0, none⟩)) x hS kI_ rfl
    unfold frPtb at h2 ⊢
    clear hK
    go_simp
    simpa [Act.put, e1, s0_, s3_, s4_] using h2
   ·
    have h8 : listed.getD 8 false = false := by
     cases hq : listed.getD 8 false with
     | false => rfl
     | true =>
      have a0 := hcl 8 _ rfl hq ⟨4, .data⟩ (by simp) rfl
      have a1 := hcl 4 _ rfl a0 ⟨3, .data⟩ (by simp) rfl
      rw [hnl] at a1
      cases a1
    replace hS := hS.1 h8
    have hK0 := hK
    clear hK
    have hK : ∀ v y, (fun x => Below w2.heap.size w2 x) y → (∀ j u, j < 11 → j ≠ 3 → GPtb b g nT k tc lo ta x0 j x u → GPtb b g nT k tc lo ta x0 j y u) → GPtb b g nT k tc lo ta x0 3 y v → K ((frPtb s t).put _ v) y := fun v y hy h1 h2 => hK0 v y (StepM.before h8 (by decide) hy) h1 h2
    clear hK0
    have e2 : t 26 = .pointer (some ⟨b, 0, none⟩) := hdep ⟨2, .data⟩ (by simp) rfl
    have h2 := hK (.pointer (some ⟨b, 9, none⟩)) x hS kI_ rfl
    unfold frPtb at h2 ⊢
    clear hK
    go_simp
    simpa [Act.put, e2, s0_, s3_, s4_] using h2
   ·
    have h8 : listed.getD 8 false = false := by
     cases hq : listed.getD 8 false with
     | false => rfl
     | true =>
      have a0 := hcl 8 _ rfl hq ⟨4, .data⟩ (by simp) rfl
      rw [hnl] at a0
      cases a0
    replace hS := hS.1 h8
    have hK0 := hK
    clear hK
    have hK : ∀ v y, (fun x => Below w2.heap.size w2 x) y → (∀ j u, j < 11 → j ≠ 4 → GPtb b g nT k tc lo ta x0 j x u → GPtb b g nT k tc lo ta x0 j y u) → GPtb b g nT k tc lo ta x0 4 y v → K ((frPtb s t).put _ v) y := fun v y hy h1 h2 => hK0 v y (StepM.before h8 (by decide) hy) h1 h2
    clear hK0
    have e3 : t 27 = .pointer (some ⟨b, 9, none⟩) := hdep ⟨3, .data⟩ (by simp) rfl
    have y0 := (CB x hS)
    have h2 := hK (.slice ta nT tc) x hS kI_ rfl
    unfold frPtb at h2 ⊢
    clear hK
    go_simp
    simpa [Act.put, e3, y0, s0_, s3_, s4_] using h2
   ·
    have h8 : listed.getD 8 false = false := by
     cases hq : listed.getD 8 false with
     | false => rfl
     | true =>
      have a0 := hcl 8 _ rfl hq ⟨5, .data⟩ (by simp) rfl
      rw [hnl] at a0
      cases a0
    replace hS := hS.1 h8
    have hK0 := hK
    clear hK
    have hK : ∀ v y, (fun x => Below w2.heap.size w2 x) y → (∀ j u, j < 11 → j ≠ 5 → GPtb b g nT k tc lo ta x0 j x u → GPtb b g nT k tc lo ta x0 j y u) → GPtb b g nT k tc lo ta x0 5 y v → K ((frPtb s t).put _ v) y := fun v y hy h1 h2 => hK0 v y (StepM.before h8 (by decide) hy) h1 h2
    clear hK0
    have h2 := hK (.int .i64 (k : Int)) x hS kI_ rfl
    unfold frPtb at h2 ⊢
    clear hK
    go_simp
    simpa [Act.put, s0_, s3_, s4_] using h2
   ·
    have h8 : listed.getD 8 false = false := by
     cases hq : listed.getD 8 false with
     | false => rfl
     | true =>
      have a0 := hcl 8 _ rfl hq ⟨7, .data⟩ (by simp) rfl
      have a1 := hcl 7 _ rfl a0 ⟨6, .data⟩ (by simp) rfl
      rw [hnl] at a1
      cases a1
    replace hS := hS.1 h8
    have hK0 := hK
    clear hK
    have hK : ∀ v y, (fun x => Below w2.heap.size w2 x) y → (∀ j u, j < 11 → j ≠ 6 → GPtb b g nT k tc lo ta x0 j x u → GPtb b g nT k tc lo ta x0 j y u) → GPtb b g nT k tc lo ta x0 6 y v → K ((frPtb s t).put _ v) y := fun v y hy h1 h2 => hK0 v y (StepM.before h8 (by decide) hy) h1 h2
    clear hK0
    have h2 := hK (.agg (mxV x0)) x hS kI_ rfl
    refine ldGM (by rfl) (.tmp 3) rfl g (by show (frPtb s t).eval (.tmp 3) = _; unfold frPtb; simp [Act.eval, s3_]) (HX.out.kept hS) rfl ?_
    exact h2
   ·
    have h8 : listed.getD 8 false = false := by
     cases hq : listed.getD 8 false with
     | false => rfl
     | true =>
      have a0 := hcl 8 _ rfl hq ⟨7, .data⟩ (by simp) rfl
      rw [hnl] at a0
      cases a0
    replace hS := hS.1 h8
    have hK0 := hK
    clear hK
    have hK : ∀ v y, (fun x => Below w2.heap.size w2 x) y → (∀ j u, j < 11 → j ≠ 7 → GPtb b g nT k tc lo ta x0 j x u → GPtb b g nT k tc lo ta x0 j y u) → GPtb b g nT k tc lo ta x0 7 y v → K ((frPtb s t).put _ v) y := fun v y hy h1 h2 => hK0 v y (StepM.before h8 (by decide) hy) h1 h2
    clear hK0
    have e6 : t 30 = .agg (mxV x0) := hdep ⟨6, .data⟩ (by simp) rfl
    have hba := (Below.refl x.heap.size x).alloc (Nat.le_refl _) (.cells (mxV x0) 30)
    have h2 := hK (.slice (some ⟨x.heap.size, 0, none⟩) 1 1) (x.alloc (.cells (mxV x0) 30)) (hS.trans (hba.mono hS.size)) (fun j u hj hne h => GPtb.keep hba j u hj h) ⟨x.heap.size, rfl, by rw [hlo]; exact hS.size, Bx.new _ _ _⟩
    unfold frPtb mxV at h2
    unfold frPtb
    unfold mxV at e6
    clear hK
    go_simp
    simpa [Act.put, e6, s0_, s3_, s4_] using h2
   ·
    replace hS := hS.1 hnl
    have hm : 8 < listed.size := by rw [hls]; decide
    have e4 : t 28 = .slice ta nT tc := hdep ⟨4, .data⟩ (by simp) rfl
    have e5 : t 29 = .int .i64 (k : Int) := hdep ⟨5, .data⟩ (by simp) rfl
    obtain ⟨gb_7, e7, k7⟩ : ∃ (gb : Nat), t 31 = .slice (some ⟨gb, 0, none⟩) 1 1 ∧ (lo ≤ gb ∧ Bx x gb 30 (mxV x0)) := hdep ⟨7, .data⟩ (by simp) rfl
    refine callG3 (by rfl) 160 (.tmp 28) (.tmp 29) (.tmp 31) _ rfl (.slice ta nT tc) (.int .i64 (k : Int)) (.slice (some ⟨gb_7, 0, none⟩) 1 1) e4 e5 e7 (Go.Proofs.enters_of Tryz.func160 (by kernel_rfl) rfl _) (fun v y => InsP x y B (.slice ta nT tc) v T k x0) ((jI x gb_7 hS (by rw [← hlo]; exact k7.1) k7.2).mono ?_) ?_
    ·
     rintro e0 y0 ⟨v0, h0, h1⟩
     exact ⟨_, h0, h1⟩
    ·
     intro v y hi
     exact hK v y (StepM.at hm ⟨x, hS, hi⟩) (fun j u hj hne h => GPtb.keepM (fun k hk => by rw [hlo]; exact HL.out k hk) hi.grown j u hj hne h) trivial
   ·
    have hS9 := fun v => hS.free (v := v) (i := 9) (d := 33) (by decide) (by decide)
    have e0 : t 24 = .pointer (some ⟨b, 0, none⟩) := hdep ⟨0, .data⟩ (by simp) rfl
    have h2 := hK (.pointer (some ⟨b, 0, none⟩)) x (hS9 _) kI_ rfl
    unfold frPtb at h2 ⊢
    clear hK
    go_simp
    simpa [Act.put, e0, s0_, s3_, s4_] using h2
   ·
    have hS9 := fun v => hS.free (v := v) (i := 10) (d := 34) (by decide) (by decide)
    have e9 : t 33 = .pointer (some ⟨b, 0, none⟩) := hdep ⟨9, .data⟩ (by simp) rfl
    have h2 := hK (.pointer (some ⟨b, 9, none⟩)) x (hS9 _) kI_ rfl
    unfold frPtb at h2 ⊢
    clear hK
    go_simp
    simpa [Act.put, e9, s0_, s3_, s4_] using h2
  case done =>
   intro listed tt x hall hS hG
   obtain ⟨w4, hb4, hi⟩ := hS.2 (hall 8 (by decide))
   have e10 : tt 34 = .pointer (some ⟨b, 9, none⟩) := hG 10 (by decide)
   change InsP w4 x B (.slice ta nT tc) (tt 32) T k x0 at hi
   obtain ⟨v, hv⟩ : ∃ v, tt 32 = v := ⟨_, rfl⟩
   rw [hv, HN.out] at hi
   clear jI CB S0 hlo hall hS hG
   show wpList Tryz.prog _ _ [_] _ x
   unfold frPtb
   simp only [e10, hv, s0_, s3_, s4_]
   clear e10 hv s0_ s3_ s4_
   refine wpList_rpGrTe H2.out hb4 hi HX2.out HXA.out HXF.out rfl rfl (.tmp 34) (.tmp 32) rfl rfl rfl ?_
   intro w9 h9 b9
   have H9 : Hid (RpAt F w9 B b _ { r with te := r.te.take k ++ x0.m :: r.te.drop k }) := hH_ (h9)
   have B9 := hH_ (B2.out.trans b9)
   clear h9 b9 hi hb4 H2 B2 X2 HX2 HX
   go_wp2
   go_end0
   first | exact ⟨rfl, _, H9.out, B9.out⟩ | exact ⟨rfl, ⟨_, H9.out⟩, B9.out⟩
end Go.Proofs.YtdkhdjickkcaiaaGreat.Rl.Fr
namespace Go.Proofs.YtdkhdjickkcaiaaGreat.Rl
open Go.RowKit Go.Sort Go.Shelf

theorem implInsEN (te : Value) (T : List Int) (x : Int) (B g : Nat) (w : World) (h : OwnsN w B te T) (hg : Bx w g 2 #[.int .i64 x]) (hl : T.length ≤ 1000) (hB : B ≤ w.heap.size) :
  Calls Tryz.prog 156 #[te, .int .i64 (T.length : Int), .slice (some ⟨g, 0, none⟩) 1 1] w fun e w' => ∃ v, e = .returned v ∧ InsG intE 2 w w' B te v T T.length x := by
 have H : Hid (OwnsN w B te T) := h
 have HG : Hid (Bx w g 2 #[.int .i64 x]) := hg
 obtain ⟨a, c, rfl, h1, h2, _⟩ := h.form
 unfold maxLen at h2
 have HL : Hid (T.length ≤ 1000 ∧ B ≤ w.heap.size) := hH_ (⟨hl, hB⟩)
 clear hg
 by_cases hcc : T.length = c
 ·
  subst hcc
  go_enter Tryz.func156, Tryz.ntmps156
  go_upto_region 8 with (refine wpList_rowE_at (E := intE) _ rfl (.tmp 23) (.tmp 24) 25 2 _ 8 Tryz.underlying25 Tryz.infoN2 rfl rfl B (.slice a T.length T.length) T rfl H.out ⟨g, 0, none⟩ 1 [x] rfl (fun j q hq => by
    rw [cellsE_single] at hq
    rw [addr_add, Nat.zero_add, HG.out.cell j]
    simpa [intE] using hq) (by have:=HL.out;unfold maxLen; simp only [List.length_singleton]; omega) (by have:=HL.out;simp only [List.length_singleton]; omega) HL.out.2 ?_; intro v w' k1 k2 _ k4)
  have K1 : Hid (OwnsN w' B v (T ++ [x])) := k1
  have K2 : Hid (w.grownBy w' (Value.slice a T.length T.length).ownBlock ∧ (v.ownBlock = (Value.slice a T.length T.length).ownBlock ∨ v.ownBlock = some w.heap.size)) := hH_ (⟨k2, k4⟩)
  clear k1 k2 k4 h1 h2 h
  go_wp2
  go_ret
  refine ⟨_, rfl, ⟨?_, K2.out.1, ?_⟩⟩
  ·
   rw [List.take_length, List.drop_length]
   exact K1.out
  ·
   rcases K2.out.2 with e | e
   ·
    exact .inl e
   ·
    exact .inr ⟨_, e, Nat.le_refl _⟩
 ·
  have hcc2 : ¬ (c : Int) = (T.length : Int) := by omega
  have hcc3 : ¬ c - T.length = 0 := by omega
  go_enter Tryz.func156, Tryz.ntmps156
  go_upto_region 8 with (refine wpList_rowE_at (E := intE) _ rfl (.tmp 23) (.tmp 24) 25 2 _ 8 Tryz.underlying25 Tryz.infoN2 rfl rfl B (.slice a T.length c) T rfl H.out ⟨g, 0, none⟩ 1 [x] rfl (fun j q hq => by
    rw [cellsE_single] at hq
    rw [addr_add, Nat.zero_add, HG.out.cell j]
    simpa [intE] using hq) (by have:=HL.out;unfold maxLen; simp only [List.length_singleton]; omega) (by have:=HL.out;simp only [List.length_singleton]; omega) HL.out.2 ?_; intro v w' k1 k2 _ k4)
  have K1 : Hid (OwnsN w' B v (T ++ [x])) := k1
  have K2 : Hid (w.grownBy w' (Value.slice a T.length c).ownBlock ∧ (v.ownBlock = (Value.slice a T.length c).ownBlock ∨ v.ownBlock = some w.heap.size)) := hH_ (⟨k2, k4⟩)
  clear k1 k2 k4 h1 h2 h
  go_wp2
  go_ret
  refine ⟨_, rfl, ⟨?_, K2.out.1, ?_⟩⟩
  ·
   rw [List.take_length, List.drop_length]
   exact K1.out
  ·
   rcases K2.out.2 with e | e
   ·
    exact .inl e
   ·
    exact .inr ⟨_, e, Nat.le_refl _⟩
theorem implInsNA (te : Value) (T : List Int) (x : Int) (B g k : Nat) (w : World) (h : OwnsN w B te T) (hg : Bx w g 2 #[.int .i64 x]) (hne : te.ownBlock ≠ some g) (hl : T.length ≤ 1000) (hk : k ≤ T.length) (hB : B ≤ w.heap.size) :
  Calls Tryz.prog 156 #[te, .int .i64 (k : Int), .slice (some ⟨g, 0, none⟩) 1 1] w fun e w' => ∃ v, e = .returned v ∧ InsG intE 2 w w' B te v T k x := by
 by_cases e : k < T.length
 ·
  exact implInsN te T x B g k w h hg hne hl e hB
 ·
  obtain rfl : k = T.length := by omega
  exact implInsEN te T x B g w h hg hl hB
theorem implInsMA (te : Value) (T : List Mx) (x : Mx) (B g k : Nat) (w : World) (h : OwnsM w B te T) (hg : Bx w g 30 (mxV x)) (hne : te.ownBlock ≠ some g) (hl : T.length ≤ 1000) (hk : k ≤ T.length) (hB : B ≤ w.heap.size) :
  Calls Tryz.prog 160 #[te, .int .i64 (k : Int), .slice (some ⟨g, 0, none⟩) 1 1] w fun e w' => ∃ v, e = .returned v ∧ InsP w w' B te v T k x := by
 by_cases e : k < T.length
 ·
  exact (implInsM te T x B g k w h hg hne hl e hB).mono fun e w' ⟨v, h1, h2⟩ => ⟨v, h1, ⟨h2.row, h2.grown, h2.blk⟩⟩
 ·
  obtain rfl : k = T.length := by omega
  exact implInsE te T x B g w h hg hl hB
end Go.Proofs.YtdkhdjickkcaiaaGreat.Rl
namespace Go.Proofs.YtdkhdjickkcaiaaGreat.Rl.Fr
open Go.RowKit Go.Sort Go.Shelf
variable {F : Frm}
theorem RpAt.grownCh {w w1 w2 : World} {B b : Nat} {u : Rv} {r : Rp} (h : RpAt F w B b u r) (hb : Below w.heap.size w w1) {v : Value} {l : List Int} (ho : OwnsN w2 B v l) (hg : w1.grownBy w2 u.ch.ownBlock) (hv : v.ownBlock = u.ch.ownBlock ∨ ∃ n, v.ownBlock = some n ∧ w1.heap.size ≤ n) :
  RpAt F (w2.setCell ⟨b, 8, none⟩ v) B b { u with ch := v } { r with ch := l } ∧ Below B w (w2.setCell ⟨b, 8, none⟩ v) ∧ RpB w2 b r u := by
 have h1 := h.kept hb
 obtain ⟨a1, a2, a3, a4, a5⟩ := RpAp.iff.1 h.apt
 have hlb : u.ch.ownBlock ≠ some b := fun e => h.o.ne h.c _ (rows_ch u) b e rfl
 have hoff : ∀ y, y ∈ u.rows → ap u.ch y → ∀ k, y.ownBlock = some k → w2.heap[k]? = w1.heap[k]? := fun y hy ha k hk => hg.block k (h1.under y hy k hk) (fun e => ha k e.symm hk)
 have hc2 : RpB w2 b r u := (hg.block b h1.lt (fun e => hlb e.symm)).trans h1.c
 have cl : ap u.ch u.l := (a1 _ (by simp)).comm
 have cok : ap u.ch u.ok := (a2 _ (by simp)).comm
 have cte : ap u.ch u.te := a3 _ (by simp)
 have cT : ∀ x ∈ u.T, ap u.ch x.u := fun x hx => a3 _ (by simp only [List.mem_cons]; exact .inr (List.mem_map_of_mem hx))
 have hO : RpOw w2 B { u with ch := v } { r with ch := l } := ⟨h1.o.l.off (hoff _ (rows_l u) cl), h1.o.ok.off (hoff _ (rows_ok u) cok), ho, h1.o.t, OwnsE.off h1.o.te (hoff _ (rows_te u) cte), fun x hx => (h1.o.tl x hx).off (hoff _ (rows_T (List.mem_map_of_mem hx)) (cT x hx))⟩
 have hvx : ∀ y, y ∈ u.rows → ap u.ch y → ap v y := fun y hy ha k hk hk' => by
  rcases hv with e | ⟨n, e, hn⟩
  ·
   exact ha k (e.symm.trans hk) hk'
  ·
   have := h1.under y hy k hk'
   rw [e] at hk
   injection hk with hk
   omega
 have hA : RpAp { u with ch := v } := by
  refine RpAp.iff.2 ⟨fun x hx => ?_, fun x hx => ?_, fun x hx => ?_, a4, a5⟩
  ·
   simp only [List.mem_cons] at hx
   rcases hx with rfl | rfl | hx
   ·
    exact a1 _ (by simp)
   ·
    exact (hvx _ (rows_l u) cl).comm
   ·
    exact a1 x (by simp only [List.mem_cons]; exact .inr (.inr hx))
  ·
   simp only [List.mem_cons] at hx
   rcases hx with rfl | hx
   ·
    exact (hvx _ (rows_ok u) cok).comm
   ·
    exact a2 x (by simp only [List.mem_cons]; exact .inr hx)
  ·
   refine hvx x ?_ (a3 x hx)
   simp only [List.mem_cons] at hx
   rcases hx with rfl | hx
   ·
    exact rows_te u
   ·
    exact rows_T hx
 have hne := hO.ne hc2
 refine ⟨⟨?_, hO.off fun y hy k hk => Below.heap_setCell _ _ _ _ (hne y hy k hk), hA, h.hb, h.fr.of (fun k hk hkb hr => (Below.heap_setCell _ _ _ _ hkb).trans ((hg.block k (Nat.lt_of_lt_of_le hk hb.size) (fun e => hr _ (rows_ch u) e.symm)).trans (hb.block k hk))) (fun y hy => by
  simp only [Rv.rows, List.mem_cons] at hy
  rcases hy with rfl | rfl | rfl | hy
  ·
   exact .inl ⟨_, rows_l u, rfl⟩
  ·
   exact .inl ⟨_, rows_ok u, rfl⟩
  ·
   rcases hv with e | ⟨n, e, hn⟩
   ·
    exact .inl ⟨_, rows_ch u, e⟩
   ·
    exact .inr (.inl fun k hk => by
     rw [e] at hk
     injection hk with hk
     have := hb.size
     omega)
  ·
   exact .inl ⟨y, by simp only [Rv.rows, List.mem_cons]; exact .inr (.inr (.inr hy)), rfl⟩)⟩, ?_, hc2⟩
 ·
  exact Bx.put hc2 8 v
 ·
  have hle := h.le
  exact (belowE (hb.mono hle) hg (Nat.le_trans hle hb.size) (fun k hk => h1.o.ch.from k hk)).setCell (p := ⟨b, 8, none⟩) h.hb _
theorem wpList_rpGrCh {ops : Array Oper} {rest : List Oper} {o : Oper} {a : Act} {Q : Exit → Act → World → Prop} {w w1 w2 : World} {B b : Nat} {u : Rv} {r : Rp} (h : RpAt F w B b u r) (hb : Below w.heap.size w w1) {v : Value} {z : Int} {k : Nat} (hi : InsG intE 2 w1 w2 B u.ch v r.ch k z)
  (hgd : o.guard = none) (hd : o.dst = none) (x y : Operand) (ho : o.op = .store 25 x y) (hx : a.eval x = .pointer (some ⟨b, 8, none⟩)) (hy : a.eval y = v)
  (hh : ∀ W, RpAt F W B b { u with ch := v } { r with ch := r.ch.take k ++ z :: r.ch.drop k } → Below B w W → wpList Tryz.prog ops Q rest a W) : wpList Tryz.prog ops Q (o :: rest) a w2 := by
 obtain ⟨k1, k2, k3⟩ := h.grownCh hb hi.row hi.grown hi.blk
 exact wpList_put1 hgd hd 25 x y ho b 8 _ hx hy Tryz.rszI (by obtain ⟨_, _, e, _⟩ := hi.row.form; rw [e]; rfl) k3 (show 8 < (rpC r u).size by rw [rpC_size]; decide) (hh _ k1 k2)
open Go.RowKit Go.Sort Go.Shelf Pg
structure RpMg (F : Frm) (R : Rp) (L : List Ms) (B b : Nat) (w w' : World) (u' : Rv) (v : Value) (T : List Mx) : Prop where
 at' : RpAt F w' B b u' R
 m : ∃ C, (∀ x ∈ u'.rows, ∀ k, x.ownBlock = some k → k < C) ∧ b < C ∧ w.heap.size ≤ C ∧ C ≤ w'.heap.size ∧ MsG w' C v T L
 bl : Below B w w'
variable {F : Frm}
theorem RpMg.no {R : Rp} {B b : Nat} {w w' : World} {u' : Rv} {p : Option Addr} (h : RpAt F w' B b u' R) (hb : Below B w w') : RpMg F R [] B b w w' u' (.slice p 0 0) [] :=
 ⟨h, ⟨w'.heap.size, h.under, h.lt, hb.size, Nat.le_refl _, .inr ⟨rfl, rfl, _, _, rfl, Nat.zero_le _⟩⟩, hb⟩
def Handles (F : Frm) (f : FuncId) (r : Rp) (P : Rp × List Ms) (B b : Nat) (X : Mx) (w : World) : Prop := Calls Tryz.prog f #[.pointer (some ⟨b, 0, none⟩), .agg (mxV X)] w fun e w' => ∃ u' v T, e = .returned v ∧ RpMg F P.1 P.2 B b w w' u' v T
def frRoa (s t : Nat → Value) : Act := { tmps := #[s 0, s 1, s 2, s 3, s 4, s 5, t 6, t 7, t 8, t 9, t 10, t 11, t 12, t 13, t 14, t 15, s 16, s 17, s 18, s 19, s 20, s 21, s 22, s 23, s 24, s 25, s 26, s 27, s 28, s 29, s 30, s 31, s 32, s 33, s 34, s 35, s 36, s 37, s 38, s 39, s 40, s 41, s 42, s 43, s 44], defers := [] }
def LRoa : List Nat := [6, 7, 8, 9, 10, 11, 12, 13, 14, 15]
def dRoa (i : Nat) : Nat := LRoa.getD i (i + 5000)
theorem dRoa_ne {i j : Nat} (hi : i < 10) (hj : j < 10) (h : j ≠ i) : dRoa j ≠ dRoa i := slotsNe (L := LRoa) (by decide) rfl hi hj h
def GRoa (r : Rp) (X : Mx) (b g nl lc : Nat) (la : Option Addr) (i : Nat) (x : World) (v : Value) : Prop := match i with
 | 0 => v = .pointer (some ⟨g, 3, none⟩)
 | 1 => v = .int .i64 X.m.v
 | 2 => v = .pointer (some ⟨b, 0, none⟩)
 | 3 => v = .pointer (some ⟨b, 0, none⟩)
 | 4 => v = .pointer (some ⟨b, 2, none⟩)
 | 5 => v = .int .i64 r.v
 | 6 => v = .bool false
 | 7 => v = .bool false
 | 8 => v = undef
 | 9 => v = undef
 | _ => True
def frRob (s t : Nat → Value) : Act := { tmps := #[s 0, s 1, s 2, s 3, s 4, s 5, t 6, t 7, t 8, t 9, t 10, t 11, t 12, t 13, t 14, t 15, s 16, s 17, s 18, s 19, s 20, s 21, s 22, s 23, s 24, s 25, s 26, s 27, s 28, s 29, s 30, s 31, s 32, s 33, s 34, s 35, s 36, s 37, s 38, s 39, s 40, s 41, s 42, s 43, s 44], defers := [] }
def LRob : List Nat := [6, 7, 8, 9, 10, 11, 12, 13, 14, 15]
def dRob (i : Nat) : Nat := LRob.getD i (i + 5000)
theorem dRob_ne {i j : Nat} (hi : i < 10) (hj : j < 10) (h : j ≠ i) : dRob j ≠ dRob i := slotsNe (L := LRob) (by decide) rfl hi hj h
def GRob (r : Rp) (X : Mx) (b g nl lc : Nat) (la : Option Addr) (D : Bool) (i : Nat) (x : World) (v : Value) : Prop := match i with
 | 0 => v = .pointer (some ⟨g, 3, none⟩)
 | 1 => v = .int .i64 X.m.v
 | 2 => v = .pointer (some ⟨b, 0, none⟩)
 | 3 => v = .pointer (some ⟨b, 0, none⟩)
 | 4 => v = .pointer (some ⟨b, 2, none⟩)
 | 5 => v = .int .i64 r.v
 | 6 => v = .bool true
 | 7 => v = .bool true
 | 8 => v = .pointer (some ⟨b, 0, none⟩)
 | 9 => v = .bool D
 | _ => True
theorem GRob.keep {r : Rp} {X : Mx} {b g nl lc : Nat} {la : Option Addr} {D : Bool} {x y : World} (hb : Below x.heap.size x y) (j : Nat) (v : Value) (hj : j < 10) (h : GRob r X b g nl lc la D j x v) : GRob r X b g nl lc la D j y v := h
def frRoc (s t : Nat → Value) : Act := { tmps := #[s 0, s 1, s 2, s 3, s 4, s 5, s 6, s 7, s 8, s 9, s 10, s 11, s 12, s 13, s 14, s 15, s 16, t 17, t 18, t 19, t 20, t 21, t 22, t 23, t 24, s 25, s 26, s 27, s 28, s 29, s 30, s 31, s 32, s 33, s 34, s 35, s 36, s 37, s 38, s 39, s 40, s 41, s 42, s 43, s 44], defers := [] }
def LRoc : List Nat := [17, 18, 19, 20, 21, 22, 23, 24]
def dRoc (i : Nat) : Nat := LRoc.getD i (i + 5000)
theorem dRoc_ne {i j : Nat} (hi : i < 8) (hj : j < 8) (h : j ≠ i) : dRoc j ≠ dRoc i := slotsNe (L := LRoc) (by decide) rfl hi hj h
def GRoc (r : Rp) (X : Mx) (b g nl lc : Nat) (la : Option Addr) (i : Nat) (x : World) (v : Value) : Prop := match i with
 | 0 => v = .pointer (some ⟨g, 6, none⟩)
 | 1 => v = .int .i64 X.m.c
 | 2 => v = .pointer (some ⟨b, 0, none⟩)
 | 3 => v = .pointer (some ⟨b, 0, none⟩)
 | 4 => v = .pointer (some ⟨b, 5, none⟩)
 | 5 => v = .slice la nl lc
 | 6 => v = .int .i64 (nl : Int)
 | 7 => v = .int .i64 (min X.m.c (nl : Int))
 | _ => True
def frRod (s t : Nat → Value) : Act := { tmps := #[s 0, s 1, s 2, s 3, s 4, s 5, s 6, s 7, s 8, s 9, s 10, s 11, s 12, s 13, s 14, s 15, s 16, s 17, s 18, s 19, s 20, s 21, s 22, s 23, s 24, t 25, t 26, t 27, t 28, t 29, t 30, t 31, t 32, t 33, t 34, t 35, t 36, t 37, t 38, t 39, t 40, t 41, s 42, s 43, s 44], defers := [] }
def LRod : List Nat := [25, 26, 27, 28, 29, 30, 31, 32, 33, 34, 35, 36, 37, 38, 39, 40, 41]
def dRod (i : Nat) : Nat := LRod.getD i (i + 5000)
theorem dRod_ne {i j : Nat} (hi : i < 17) (hj : j < 17) (h : j ≠ i) : dRod j ≠ dRod i := slotsNe (L := LRod) (by decide) rfl hi hj h
def GRod (X : Mx) (b g go fi no oc : Nat) (ov en : Int) (i : Nat) (x : World) (v : Value) : Prop := match i with
 | 0 => v = .pointer (some ⟨b, 0, none⟩)
 | 1 => v = .pointer (some ⟨b, 0, none⟩)
 | 2 => v = .pointer (some ⟨b, 7, none⟩)
 | 3 => v = .slice (some ⟨go, 0, none⟩) no oc
 | 4 => v = .pointer (some ⟨g, 1, none⟩)
 | 5 => v = .int .i64 (fi : Int)
 | 6 => v = .pointer (some ⟨b, 0, none⟩)
 | 7 => v = .pointer (some ⟨b, 0, none⟩)
 | 8 => v = .pointer (some ⟨b, 7, none⟩)
 | 9 => v = .slice (some ⟨go, 0, none⟩) no oc
 | 10 => v = .pointer (some ⟨g, 1, none⟩)
 | 11 => v = .int .i64 (fi : Int)
 | 12 => v = .pointer (some ⟨go, fi, none⟩)
 | 13 => v = .int .i64 ov
 | 14 => v = .int .i64 en
 | 15 => v = .int .i64 (max ov en)
 | 16 => v = .pointer (some ⟨go, fi, none⟩)
 | _ => True
theorem implTkO (r : Rp) (u : Rv) (B b : Nat) (X : Mx) (w : World) (h : RpAt F w B b u r) (hr : RpOk r) (hm : MsOk X.m r.p) : Handles F 104 r (rcvO r X.m) B b X w := by
 unfold Handles
 obtain ⟨la, lc, oa, oc, ca, cc, ta, tc, T0, rfl⟩ := h.got.form
 obtain ⟨w1, hw1⟩ : ∃ w1, w1 = w.alloc (.cells #[.int .i64 X.m.k, .int .i64 X.m.f, .int .i64 X.m.t, .int .i64 X.m.v, .int .i64 X.m.la, .slice X.pl X.m.l.length X.cl, .int .i64 X.m.c] 30) := ⟨_, rfl⟩
 obtain ⟨g, hg⟩ : ∃ g, g = w.heap.size := ⟨_, rfl⟩
 have bw1 : Below w.heap.size w w1 := by rw [hw1]; exact (Below.refl _ w).alloc (Nat.le_refl _) _
 have XM : Bx w1 g 30 (mxV X) := by rw [hw1, hg]; exact Bx.new _ _ _
 have H1 : Hid (RpAt ((g, 30, mxV X) :: F) w1 B b ⟨.slice la r.l.length lc, .slice oa r.ok.length oc, .slice ca r.ch.length cc, .slice ta r.te.length tc, T0⟩ r) := (show RpAt _ _ _ _ _ _ from (h.kept bw1).beside (k := g) XM (by have := h.lt; omega) (fun v hv e => by have := h.under v hv _ e; omega))
 have B1 : Hid (Below B w w1) := hH_ (bw1.mono h.le)
 have HB : Hid (g = w.heap.size ∧ b < g) := hH_ (⟨hg, by have := h.lt; omega⟩)
 have HR : Hid (RpOk r) := hr
 have HM : Hid (MsOk X.m r.p) := hm
 clear hm
 clear h hr bw1 XM
 unfold mxV
 go_enter Tryz.func104, Tryz.ntmps104
 go_upto_region 1 with fail
 rw [← hg, ← hw1]
 clear hw1 hg
 obtain ⟨nl, hnl⟩ : ∃ nl, nl = r.l.length := ⟨_, rfl⟩
 have HNL : Hid (nl = r.l.length) := hnl
 have CC := fun x (hS : Below w1.heap.size w1 x) => (show x.cell? ⟨g, 3, none⟩ = some (.int .i64 X.m.v) ∧ x.cell? ⟨g, 6, none⟩ = some (.int .i64 X.m.c) ∧ x.cell? ⟨b, 2, none⟩ = some (.int .i64 r.v) ∧ x.cell? ⟨b, 5, none⟩ = some (.slice la nl lc) from ⟨((H1.out.kept hS).box (k := g) (ty := 30) (vs := mxV X) (by simp)).cell 3, ((H1.out.kept hS).box (k := g) (ty := 30) (vs := mxV X) (by simp)).cell 6, (H1.out.kept hS).c.cell 2, by rw [hnl]; exact (H1.out.kept hS).c.cell 5⟩)
 have S0 := dwB w1
 by_cases heq : X.m.v = r.v
 case neg =>
  have beq : (X.m.v == r.v) = false := by simp [heq]
  have HE : Hid (rcvO r X.m = (r, [])) := hH_ (rcvO_no (fun h => heq h.1))
  clear heq hnl
  generalize hA : Act.mk _ _ = A
  obtain ⟨s, hs, s0_, s3_⟩ : ∃ s : Nat → Value, A = frRoa s s ∧ s 0 = .pointer (some ⟨b, 0, none⟩) ∧ s 3 = .pointer (some ⟨g, 0, none⟩) := by
   refine ⟨fun i => A.tmps.getD i undef, ?_, ?_, ?_⟩ <;> rw [← hA] <;> rfl
  rw [hs]
  clear hs hA
  refine region_heads 10 mixed (by decide) (by kernel_rfl) (by kernel_rfl) (by kernel_rfl) (by kernel_rfl) (frRoa s) dRoa (fun x => Below w1.heap.size w1 x) (GRoa r X b g nl lc la) (fun i j hi hj h => dRoa_ne hi hj h) ?put s rfl S0 ?step ?done
  case put =>
   intro i o hi ho t v
   iterate 10 rcases ltS hi with hi | rfl
   cases hi
   all_goals
    obtain rfl := Option.some.inj ho
    rfl
  case step =>
   intro i o hi ho t x hS hdep K hK
   iterate 10 rcases ltS hi with hi | rfl
   cases hi
   all_goals obtain rfl := Option.some.inj ho
   iterate 8
    ·
     have y0 := (CC x hS).1
     have y1 := (CC x hS).2.2.1
     have h2 := hK _ x hS kI_ rfl
     try simp [Region.binds, GRoa, dRoa, LRoa] at hdep
     unfold frRoa at h2 ⊢
     clear hK
     go_simp
     first | simpa [Act.put, hdep, y0, y1, s0_, s3_, beq] using h2 | simpa [Act.put, y0, y1, s0_, s3_, beq] using h2
   iterate 2
    ·
     refine skipG 7 true rfl _ rfl 13 rfl false (congrArg some (hdep ⟨7, .guard⟩ (by simp) rfl)) (by decide) ?_
     exact hK undef x hS kI_ rfl
  case done =>
   intro tt w2 hS hG
   have e7 : tt 13 = .bool false := hG 7 (by decide)
   have e9 : tt 15 = undef := hG 9 (by decide)
   have H2 := hH_ (H1.out.kept hS)
   have B2 := hH_ (B1.out.trans (hS.mono H1.out.le))
   clear CC hG hS S0 H1 B1
   show wpList Tryz.prog _ _ [_] _ w2
   unfold frRoa
   simp only [e7, e9, s0_, s3_]
   clear e7 e9 s0_ s3_
   have hba : Below w2.heap.size w2 (w2.alloc (.cells #[] 30)) := (Below.refl _ w2).alloc (Nat.le_refl _) _
   go_wp2
   go_ret
   rw [HE.out]
   exact ⟨⟨.slice la r.l.length lc, .slice oa r.ok.length oc, .slice ca r.ch.length cc, .slice ta r.te.length tc, T0⟩, _, [], rfl, RpMg.no ((H2.out.kept hba).less) (B2.out.trans (hba.mono H2.out.le))⟩
 have beq : (X.m.v == r.v) = true := by simp [heq]
 have HEQ : Hid (X.m.v = r.v) := heq
 obtain ⟨D, hD⟩ : ∃ D, D = dB (leads r) := ⟨_, rfl⟩
 have HD : Hid (D = dB (leads r)) := hD
 have jl := fun x (hS : Below w1.heap.size w1 x) => implLeads r _ b x (H1.out.kept hS).c ⟨HR.out.v.1, by have := HR.out.v; omega⟩ HR.out.p
 rw [← hD] at jl
 clear heq hnl hD
 generalize hA : Act.mk _ _ = A
 obtain ⟨s, hs, s0_, s3_⟩ : ∃ s : Nat → Value, A = frRob s s ∧ s 0 = .pointer (some ⟨b, 0, none⟩) ∧ s 3 = .pointer (some ⟨g, 0, none⟩) := by
  refine ⟨fun i => A.tmps.getD i undef, ?_, ?_, ?_⟩ <;> rw [← hA] <;> rfl
 rw [hs]
 clear hs hA
 refine region_heads 10 mixed (by decide) (by kernel_rfl) (by kernel_rfl) (by kernel_rfl) (by kernel_rfl) (frRob s) dRob (fun x => Below w1.heap.size w1 x) (GRob r X b g nl lc la D) (fun i j hi hj h => dRob_ne hi hj h) ?put s rfl S0 ?step ?done
 case put =>
  intro i o hi ho t v
  iterate 10 rcases ltS hi with hi | rfl
  cases hi
  all_goals
   obtain rfl := Option.some.inj ho
   rfl
 case step =>
  intro i o hi ho t x hS hdep K hK
  iterate 10 rcases ltS hi with hi | rfl
  cases hi
  all_goals obtain rfl := Option.some.inj ho
  iterate 9
   ·
    have y0 := (CC x hS).1
    have y1 := (CC x hS).2.2.1
    have h2 := hK _ x hS kI_ rfl
    try simp [Region.binds, GRob, dRob, LRob] at hdep
    unfold frRob at h2 ⊢
    clear hK
    go_simp
    first | simpa [Act.put, hdep, y0, y1, s0_, s3_, beq] using h2 | simpa [Act.put, y0, y1, s0_, s3_, beq] using h2
  ·
   have e8 : t 14 = .pointer (some ⟨b, 0, none⟩) := hdep ⟨8, .data⟩ (by simp) rfl
   have e7 : t 13 = .bool true := hdep ⟨7, .guard⟩ (by simp) rfl
   refine callG1 (wantG 7 true rfl _ rfl 13 rfl (congrArg some e7)) 114 (.tmp 14) _ rfl (.pointer (some ⟨b, 0, none⟩)) e8 (Go.Proofs.enters_of Tryz.func114 (by kernel_rfl) rfl _) (fun v y => (v = .bool D) ∧ Below x.heap.size x y) ((jl x hS).mono ?_) ?_
   ·
    rintro e0 y0 ⟨h0, h2⟩
    exact ⟨_, h0, rfl, h2⟩
   ·
    rintro v y ⟨h0, hb2⟩
    exact hK v y (hS.trans (hb2.mono hS.size)) (fun j u hj hne h => GRob.keep hb2 j u hj h) h0
 case done =>
  intro tt w2 hS hG
  have e7 : tt 13 = .bool true := hG 7 (by decide)
  have e9 : tt 15 = .bool D := hG 9 (by decide)
  have H2 := hH_ (H1.out.kept hS)
  have B2 := hH_ (B1.out.trans (hS.mono H1.out.le))
  clear CC jl hG hS S0 H1 B1 beq
  show wpList Tryz.prog _ _ [_] _ w2
  unfold frRob
  simp only [e7, e9, s0_, s3_]
  clear e7 e9 s0_ s3_
  cases D with
  | false =>
   have HE : Hid (rcvO r X.m = (r, [])) := hH_ (rcvO_no (fun h => dB_not HD.out.symm h.2))
   have hba : Below w2.heap.size w2 (w2.alloc (.cells #[] 30)) := (Below.refl _ w2).alloc (Nat.le_refl _) _
   go_wp2
   go_ret
   rw [HE.out]
   exact ⟨⟨.slice la r.l.length lc, .slice oa r.ok.length oc, .slice ca r.ch.length cc, .slice ta r.te.length tc, T0⟩, _, [], rfl, RpMg.no ((H2.out.kept hba).less) (B2.out.trans (hba.mono H2.out.le))⟩
  | true =>
   have HLD : Hid (leads r) := dB_is HD.out.symm
   clear HD
   go_upto_region 2 with fail
   have hnl := HNL.out
   have CC := fun x (hS : Below w2.heap.size w2 x) => (show x.cell? ⟨g, 3, none⟩ = some (.int .i64 X.m.v) ∧ x.cell? ⟨g, 6, none⟩ = some (.int .i64 X.m.c) ∧ x.cell? ⟨b, 2, none⟩ = some (.int .i64 r.v) ∧ x.cell? ⟨b, 5, none⟩ = some (.slice la nl lc) from ⟨((H2.out.kept hS).box (k := g) (ty := 30) (vs := mxV X) (by simp)).cell 3, ((H2.out.kept hS).box (k := g) (ty := 30) (vs := mxV X) (by simp)).cell 6, (H2.out.kept hS).c.cell 2, by rw [hnl]; exact (H2.out.kept hS).c.cell 5⟩)
   have S0 := dwB w2
   clear hnl
   generalize hA : Act.mk _ _ = A
   obtain ⟨s, hs, s0_, s3_⟩ : ∃ s : Nat → Value, A = frRoc s s ∧ s 0 = .pointer (some ⟨b, 0, none⟩) ∧ s 3 = .pointer (some ⟨g, 0, none⟩) := by
    refine ⟨fun i => A.tmps.getD i undef, ?_, ?_, ?_⟩ <;> rw [← hA] <;> rfl
   rw [hs]
   clear hs hA
   refine region_heads 8 mixed (by decide) (by kernel_rfl) (by kernel_rfl) (by kernel_rfl) (by kernel_rfl) (frRoc s) dRoc (fun x => Below w2.heap.size w2 x) (GRoc r X b g nl lc la) (fun i j hi hj h => dRoc_ne hi hj h) ?put s rfl S0 ?step ?done
   case put =>
    intro i o hi ho t v
    iterate 8 rcases ltS hi with hi | rfl
    cases hi
    all_goals
     obtain rfl := Option.some.inj ho
     rfl
   case step =>
    intro i o hi ho t x hS hdep K hK
    iterate 8 rcases ltS hi with hi | rfl
    cases hi
    all_goals obtain rfl := Option.some.inj ho
    iterate 8
     ·
      have y0 := (CC x hS).2.1
      have y1 := (CC x hS).2.2.2
      have h2 := hK _ x hS kI_ rfl
      try simp [Region.binds, GRoc, dRoc, LRoc] at hdep
      unfold frRoc at h2 ⊢
      clear hK
      go_simp
      first | simpa [Act.put, hdep, y0, y1, s0_, s3_] using h2 | simpa [Act.put, y0, y1, s0_, s3_] using h2
   case done =>
    intro tt w3 hS hG
    have e7 : tt 24 = .int .i64 (min X.m.c (nl : Int)) := hG 7 (by decide)
    have H3 := hH_ (H2.out.kept hS)
    have B3 := hH_ (B2.out.trans (hS.mono H2.out.le))
    clear CC hG hS S0 H2 B2
    show wpList Tryz.prog _ _ [_] _ w3
    unfold frRoc
    simp only [e7, s0_, s3_]
    clear e7 s0_ s3_
    go_upto_region 3 with fail
    obtain ⟨en, hen⟩ : ∃ en, en = min X.m.c (nl : Int) := ⟨_, rfl⟩
    have HEN : Hid (en = min X.m.c (nl : Int)) := hen
    rw [← hen]
    clear hen
    have hok := HR.out.ok1 HLD.out.1 HLD.out.2
    have hf := HM.out.f
    obtain ⟨fi, hfi0⟩ : ∃ fi : Nat, (fi : Int) = X.m.f := ⟨X.m.f.toNat, by omega⟩
    have hfl : fi < r.ok.length := by have := hok.1; omega
    obtain ⟨go, hgo⟩ : ∃ go, oa = some ⟨go, 0, none⟩ := by
     rcases H3.out.o.ok with ⟨h1, h2⟩ | ⟨g, cap, cur, h1, _⟩
     ·
      rw [h2] at hfl
      exact absurd hfl (by simp)
     ·
      injection h1 with h1 _ _
      exact ⟨g, h1⟩
    subst hgo
    obtain ⟨no, hno0⟩ : ∃ no, no = r.ok.length := ⟨_, rfl⟩
    obtain ⟨ov, hov⟩ : ∃ ov, ov = r.ok[fi] := ⟨_, rfl⟩
    have hfn : (fi : Int) < (no : Int) := by omega
    have hfi : ¬ (fi : Int) < 0 := by omega
    have hno : fi < no := by omega
    have HFI : Hid ((fi : Int) = X.m.f ∧ fi < r.ok.length ∧ no = r.ok.length ∧ r.ok.getD fi 0 = ov) := hH_ (⟨hfi0, hfl, hno0, by rw [List.getD_eq_getElem?_getD, List.getElem?_eq_getElem hfl, hov]; rfl⟩)
    have CC := fun x (hS : Below w3.heap.size w3 x) => (show x.cell? ⟨g, 1, none⟩ = some (.int .i64 (fi : Int)) ∧ x.cell? ⟨b, 7, none⟩ = some (.slice (some ⟨go, 0, none⟩) no oc) ∧ x.cell? ⟨go, fi, none⟩ = some (.int .i64 ov) from ⟨by rw [hfi0]; exact ((H3.out.kept hS).box (k := g) (ty := 30) (vs := mxV X) (by simp)).cell 1, by rw [hno0]; exact (H3.out.kept hS).c.cell 7, by rw [hov]; exact hasN_at (H3.out.kept hS).o.ok fi hfl⟩)
    have S0 := dwB w3
    clear hok hf hfi0 hfl hno0 hov
    generalize hA : Act.mk _ _ = A
    obtain ⟨s, hs, s0_, s3_, s5_⟩ : ∃ s : Nat → Value, A = frRod s s ∧ s 0 = .pointer (some ⟨b, 0, none⟩) ∧ s 3 = .pointer (some ⟨g, 0, none⟩) ∧ s 5 = .int .i64 en := by
     refine ⟨fun i => A.tmps.getD i undef, ?_, ?_, ?_, ?_⟩ <;> rw [← hA] <;> rfl
    rw [hs]
    clear hs hA
    refine region_heads 17 mixed (by decide) (by kernel_rfl) (by kernel_rfl) (by kernel_rfl) (by kernel_rfl) (frRod s) dRod (fun x => Below w3.heap.size w3 x) (GRod X b g go fi no oc ov en) (fun i j hi hj h => dRod_ne hi hj h) ?put s rfl S0 ?step ?done
    case put =>
     intro i o hi ho t v
     iterate 17 rcases ltS hi with hi | rfl
     cases hi
     all_goals
      obtain rfl := Option.some.inj ho
      rfl
    case step =>
     intro i o hi ho t x hS hdep K hK
     iterate 17 rcases ltS hi with hi | rfl
     cases hi
     all_goals obtain rfl := Option.some.inj ho
     iterate 17
      ·
       have y0 := (CC x hS).2.1
       have y1 := (CC x hS).1
       have h2 := hK _ x hS kI_ rfl
       try simp [Region.binds, GRod, dRod, LRod] at hdep
       unfold frRod at h2 ⊢
       clear hK
       go_simp
       first | simpa [Act.put, hdep, y0, y1, s0_, s3_, s5_, hfi, hfn, hno] using h2 | simpa [Act.put, y0, y1, s0_, s3_, s5_, hfi, hfn, hno] using h2
    case done =>
     intro tt w5 hS hG
     have e15 : tt 40 = .int .i64 (max ov en) := hG 15 (by decide)
     have e16 : tt 41 = .pointer (some ⟨go, fi, none⟩) := hG 16 (by decide)
     have H5 := hH_ (H3.out.kept hS)
     have B5 := hH_ (B3.out.trans (hS.mono H3.out.le))
     clear CC hG hS S0 H3 B3 hfn hfi hno
     show wpList Tryz.prog _ _ [_] _ w5
     unfold frRod
     simp only [e15, e16, s0_, s3_, s5_]
     clear e15 e16 s0_ s3_ s5_
     have cf : w5.cell? ⟨go, fi, none⟩ = some (.int .i64 (r.ok[fi]'HFI.out.2.1)) := hasN_at H5.out.o.ok fi HFI.out.2.1
     have ff : w5.frozen? ⟨go, fi, none⟩ = false := HasE.free H5.out.o.ok fi
     go_upto_region 4 with fail
     obtain ⟨r1, hr1⟩ : ∃ r1 : Rp, r1 = { r with ok := r.ok.set fi (max ov en) } := ⟨_, rfl⟩
     have hs6 := H5.out.okSet (g := go) (c := oc) rfl HFI.out.2.1 (max ov en)
     rw [← hr1] at hs6
     obtain ⟨h6, b6⟩ := hs6
     have HE : Hid (rcvO r X.m = (cntd r1, [])) := (show _ = _ from by
      rw [rcvO_yes ⟨HEQ.out, HLD.out⟩, hr1, show X.m.f.toNat = fi from by have := HFI.out.1; omega, HFI.out.2.2.2, HEN.out, HNL.out])
     have hl1 : r1.ok.length = r.ok.length := by rw [hr1]; exact List.length_set
     have e5 : r1.l = r.l ∧ r1.p = r.p ∧ r1.id = r.id ∧ r1.c = r.c := by rw [hr1]; exact ⟨rfl, rfl, rfl, rfl⟩
     have hx9 : ∀ y ∈ r1.ok, y ≤ (r.l.length : Int) := fun y hy => by
      rw [hr1] at hy
      rcases List.mem_or_eq_of_mem_set hy with hy | hy
      ·
       exact ((HR.out.ok1 HLD.out.1 HLD.out.2).2.2 y hy).2
      ·
       rw [hy, HEN.out, HNL.out]
       have h2 := ((HR.out.ok1 HLD.out.1 HLD.out.2).2.2 ov (by
        have h3 := HFI.out.2.2.2
        rw [List.getD_eq_getElem?_getD, List.getElem?_eq_getElem HFI.out.2.1] at h3
        rw [← h3]
        exact List.getElem_mem _)).2
       omega
     generalize hw6 : w5.setCell ⟨go, fi, none⟩ (.int .i64 (max ov en)) = w6 at h6 b6 ⊢
     have H6 : Hid (RpAt ((g, 30, mxV X) :: F) w6 B b _ r1) := hH_ (h6)
     have B6 := hH_ (B5.out.trans b6)
     have hok := HR.out.ok1 HLD.out.1 HLD.out.2
     have jc := implCntAt r1 _ B b w6 H6.out (by rw [e5.2.1]; exact HR.out.p) (by rw [hl1, e5.2.1]; exact hok.1) (by rw [e5.2.2.1, e5.2.1]; exact HR.out.id) (by rw [e5.2.2.2]; exact HR.out.c.1) (fun y hy => by rw [e5.1]; exact hx9 y hy) (by rw [e5.1]; have := (logB_sm HR.out.l).1; omega)
     clear h6 b6 hw6 cf ff hl1 e5 hok hr1 hx9 H5 B5
     go_upto_region 5 with (go_at_call 120; refine jc.mono ?_; rintro e w7 ⟨rfl, h7, b7⟩)
     obtain ⟨R, hR⟩ : ∃ R, R = cntd r1 := ⟨_, rfl⟩
     rw [← hR] at h7 HE
     have H7 : Hid (RpAt ((g, 30, mxV X) :: F) w7 B b _ R) := hH_ (h7)
     have B7 := hH_ (B6.out.trans b7)
     clear h7 b7 jc H6 B6 hR
     have hba : Below w7.heap.size w7 (w7.alloc (.cells #[] 30)) := (Below.refl _ w7).alloc (Nat.le_refl _) _
     go_wp2
     go_ret
     rw [HE.out]
     exact ⟨_, _, [], rfl, RpMg.no ((H7.out.kept hba).less) (B7.out.trans (hba.mono H7.out.le))⟩
end Go.Proofs.YtdkhdjickkcaiaaGreat.Rl.Fr
namespace Go.Proofs.YtdkhdjickkcaiaaGreat.Rl
open Go.RowKit Go.Sort Go.Shelf

theorem implNws (r : Rp) (u : Rv) (b lc : Nat) (la : Option Addr) (mk mf mt mv ma mc : Int) (p : Option Addr) (n c : Nat) (w : World) (h : RpB w b r u) (hl : u.l = .slice la r.l.length lc) :
  Calls Tryz.prog 135 #[.pointer (some ⟨b, 0, none⟩), .agg #[.int .i64 mk, .int .i64 mf, .int .i64 mt, .int .i64 mv, .int .i64 ma, .slice p n c, .int .i64 mc]] w fun e w' => e = .returned (.bool (dB (r.v < mv ∨ (mv = r.v ∧ (r.n = false ∨ r.l.length ≤ n))))) ∧ Below w.heap.size w w' := by
 obtain ⟨D, hD⟩ : ∃ D, D = dB (r.v < mv ∨ (mv = r.v ∧ (r.n = false ∨ r.l.length ≤ n))) := ⟨_, rfl⟩
 rw [← hD]
 obtain ⟨g, hg⟩ : ∃ g, g = w.heap.size := ⟨_, rfl⟩
 obtain ⟨w1, hw1⟩ : ∃ w1, w1 = w.alloc (.cells #[.int .i64 mk, .int .i64 mf, .int .i64 mt, .int .i64 mv, .int .i64 ma, .slice p n c, .int .i64 mc] 30) := ⟨_, rfl⟩
 have X1 : Hid (Bx w1 g 30 #[.int .i64 mk, .int .i64 mf, .int .i64 mt, .int .i64 mv, .int .i64 ma, .slice p n c, .int .i64 mc]) := hH_ (by rw [hw1, hg]; exact Bx.new _ _ _)
 have B1 : Hid (Below w.heap.size w w1) := hH_ (by rw [hw1]; exact (Below.refl _ w).alloc (Nat.le_refl _) _)
 have H1 : Hid (RpB w1 b r u) := hH_ (Bx.kept h B1.out)
 have c3 : w1.cell? ⟨g, 3, none⟩ = some (.int .i64 mv) := X1.out.cell 3
 have c2 := H1.out.cells.2.2.1
 have Z1 : Hid (w.heap.size ≤ w1.heap.size) := B1.out.size
 clear h
 by_cases hv : mv = r.v
 ·
  have bv : (mv == r.v) = true := by simp [hv]
  have bn : (mv != r.v) = false := by simp [hv]
  cases hn : r.n with
  | false =>
   have HD : Hid (D = true) := hH_ (hD.trans (dB_yes (.inr ⟨hv, .inl hn⟩)))
   clear hv hD
   go_enter Tryz.func135, Tryz.ntmps135
   go_upto_region 1 with fail
   rw [← hg, ← hw1]
   clear hw1 hg
   go_quiet (fail)
   have BN := hH_ (dwNB w1 nq)
   generalize w1.drewN nq = wn at BN ⊢
   have q3 := (RpB.cells (show RpB wn b r u from Bx.kept H1.out BN.out)).2.2.2.1
   rw [hn] at q3
   clear c3 c2 hn
   go_upto_region 3 with fail
   go_quiet (fail)
   have BM := hH_ (dwNB wn nq)
   generalize wn.drewN nq = wm at BM ⊢
   clear q3
   go_wp2
   go_ret
   exact ⟨by rw [HD.out]; rfl, B1.out.trans ((BN.out.trans (BM.out.mono BN.out.size)).mono Z1.out)⟩
  | true =>
   have HD : Hid (D = decide ((r.l.length : Int) ≤ (n : Int))) := (show _ = _ from hD.trans (by
    by_cases h : r.l.length ≤ n
    ·
     rw [dB_yes (.inr ⟨hv, .inr h⟩), decide_eq_true (by omega)]
    ·
     rw [dB_no (by
      rintro (h1 | ⟨_, h1 | h1⟩)
      ·
       omega
      ·
       rw [hn] at h1; cases h1
      ·
       exact h h1), decide_eq_false (by omega)]))
   clear hv hD
   go_enter Tryz.func135, Tryz.ntmps135
   go_upto_region 1 with fail
   rw [← hg, ← hw1]
   clear hw1 hg
   go_quiet (fail)
   have BN := hH_ (dwNB w1 nq)
   generalize w1.drewN nq = wn at BN ⊢
   have q3 := (RpB.cells (show RpB wn b r u from Bx.kept H1.out BN.out)).2.2.2.1
   have q5 := (RpB.cells (show RpB wn b r u from Bx.kept H1.out BN.out)).2.2.2.2.2.1
   have x5 : wn.cell? ⟨g, 5, none⟩ = some (.slice p n c) := (Bx.kept X1.out BN.out).cell 5
   rw [hn] at q3
   rw [hl] at q5
   clear c3 c2 hn hl
   go_upto_region 3 with fail
   go_quiet (fail)
   have BM := hH_ (dwNB wn nq)
   generalize wn.drewN nq = wm at BM ⊢
   clear q3 q5 x5
   go_wp2
   go_ret
   exact ⟨by rw [HD.out]; simp, B1.out.trans ((BN.out.trans (BM.out.mono BN.out.size)).mono Z1.out)⟩
 ·
  have bv : (mv == r.v) = false := by simp [hv]
  have bn : (mv != r.v) = true := by simp [hv]
  have HD : Hid (D = decide (r.v < mv)) := (show _ = _ from hD.trans (by
   by_cases h : r.v < mv
   ·
    rw [dB_yes (.inl h), decide_eq_true h]
   ·
    rw [dB_no (by
     rintro (h1 | ⟨h1, _⟩)
     ·
      exact h h1
     ·
      exact hv h1), decide_eq_false h]))
  clear hv hD
  go_enter Tryz.func135, Tryz.ntmps135
  go_upto_region 1 with fail
  rw [← hg, ← hw1]
  clear hw1 hg
  go_quiet (fail)
  have BN := hH_ (dwNB w1 nq)
  generalize w1.drewN nq = wn at BN ⊢
  have q2 := (RpB.cells (show RpB wn b r u from Bx.kept H1.out BN.out)).2.2.1
  have x3 : wn.cell? ⟨g, 3, none⟩ = some (.int .i64 mv) := (Bx.kept X1.out BN.out).cell 3
  clear c3 c2
  go_upto_region 2 with fail
  go_quiet (fail)
  have BM := hH_ (dwNB wn nq)
  generalize wn.drewN nq = wm at BM ⊢
  clear q2 x3
  go_wp2
  go_ret
  exact ⟨by rw [HD.out]; simp, B1.out.trans ((BN.out.trans (BM.out.mono BN.out.size)).mono Z1.out)⟩
end Go.Proofs.YtdkhdjickkcaiaaGreat.Rl
