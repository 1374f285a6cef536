/-
  The walk of FnExactMoved, given what the program's Moved answers.
-/
import Derived.Test.YtdbeoloonoodkaaDoorG12
import Derived.Test.YtdbeoloonoodkaaDoorG13
import Derived.Test.YtdbeoloonoodkaaDoorG16
import Derived.Test.YtdbeoloonoodkaaDoorG17
import Derived.Test.YtdbeoloonoodkaaDoorG18
namespace Go.Proofs.YtdbeoloonoodkaaDoor
open Go.RowKit Go.Sort Ow
set_option linter.unusedVariables false
set_option linter.unusedSimpArgs false

theorem le_sumP {x : ByteArray} : ∀ {l : List ByteArray}, x ∈ l → x.size ≤ sumP l
  | [], h => by cases h
  | y :: t, h => by
    rw [sumP_cons]
    rcases List.mem_cons.1 h with rfl | h
    · omega
    · have := le_sumP h; omega
theorem szP_fit {l : List ByteArray} (h : ¬ szP l < 0) : l.length ≤ 1048576 ∧ ∀ x ∈ l, x.size ≤ 1048576 := by
  have hf : l.length + sumP l ≤ 1048576 := by
    refine Classical.byContradiction fun hn => h ?_
    rw [← szP_no hn]
    decide
  exact ⟨by omega, fun x hx => by have := le_sumP hx; omega⟩
set_option maxRecDepth 100000 in
set_option maxHeartbeats 8000000 in
theorem walkMov (hi : ∀ (v : Value) (l : List Int) (z : Int) (vk : Value) (keys : List ByteArray) (w : World), Sls intE w v l → l.length ≤ 1048576 → Sls txtE w vk keys → keys.length ≤ 1048576 → (∀ x ∈ keys, x.size ≤ 1048576) → Calls Tryd.prog 13 #[v, .int .i64 z, vk] w fun e w' => ∃ u, e = .returned u ∧ HasN w' w.heap.size u (movV l z keys) ∧ Below w.heap.size w w')
    (v : Value) (l : List Int) (z : Int) (vk : Value) (keys : List ByteArray) (w : World) (h : Sls intE w v l) (hk : Sls txtE w vk keys) (hks : ∀ p ∈ keys, p.size ≤ maxLen) :
    Calls Tryd.prog 7 #[v, .int .i64 z, vk] w fun e w' => e = .returned (.bool true) ∧ Below w.heap.size w w' := by
  obtain ⟨a, cap, hv, hc1, hc2, _⟩ := h.one
  obtain ⟨ak, ck, hvk, _⟩ := hk.txt
  subst hv hvk
  have HI : Hid (Sls intE w (.slice a l.length cap) l) := h
  have HK : Hid (Sls txtE w (.slice ak keys.length ck) keys) := hk
  by_cases hfit : l.length ≤ 1048576
  · have hsz := fun W hW => szTxt (.slice ak keys.length ck) keys W hW hks
    have hto := fun W hW => toNum (.slice a l.length cap) l W hW hfit
    have hVk := szP_fit (l := keys)
    have htx := fun (hf : keys.length ≤ 1048576 ∧ ∀ x ∈ keys, x.size ≤ 1048576) W hW => toTxt (.slice ak keys.length ck) keys W hW hf.1
    have hsp := fun (hf : keys.length ≤ 1048576 ∧ ∀ x ∈ keys, x.size ≤ 1048576) u t W hW hT => specMov u l z t keys W hW hfit hT hf.1 hf.2
    have him := fun (hf : keys.length ≤ 1048576 ∧ ∀ x ∈ keys, x.size ≤ 1048576) u t W hW hT => hi u l z t keys W hW hfit hT hf.1 hf.2
    have hml := movV_len l z keys
    have hel := fun u v W hu hv => (eqNum u v l W hu hv hfit).mono fun e w' (h : _ ∧ Grew W w') => (⟨h.1, h.2.low⟩ : e = .returned (.bool true) ∧ Below W.heap.size W w')
    have hem := fun u v W hu hv => (eqNum u v (movV l z keys) W hu hv (by omega)).mono fun e w' (h : _ ∧ Grew W w') => (⟨h.1, h.2.low⟩ : e = .returned (.bool true) ∧ Below W.heap.size W w')
    have hex := fun (hf : keys.length ≤ 1048576 ∧ ∀ x ∈ keys, x.size ≤ 1048576) u v W hu hv => (eqTxt u v keys W hu hv hf.1).mono fun e w' (h : _ ∧ Grew W w') => (⟨h.1, h.2.low⟩ : e = .returned (.bool true) ∧ Below W.heap.size W w')
    have hkl := fun u B W hu => markNum u l B W hu hfit
    have hkx := fun (hf : keys.length ≤ 1048576 ∧ ∀ x ∈ keys, x.size ≤ 1048576) u B W hu => markTxt (1 + l.length) (by omega) (by omega) u keys B W hu hf.1
    simp only [Int.natCast_add, Int.cast_ofNat_Int] at hkx
    have hkm := fun u B W hu => markNum u (movV l z keys) B W hu (by omega)
    have hhm := fun u W hu => heldNum u (movV l z keys).length W hu (by omega)
    generalize movV l z keys = M at hsp him hem hkm hhm hml
    generalize szP keys = V at hsz hVk
    have hk0 : ¬ ((1 : Int) + (l.length : Int) + (keys.length : Int)) < 0 := by omega
    generalize hmm : (1 + (M.length : Int)) = mm at hkm hhm
    have hm0 : ¬ mm < 0 := by omega
    have dmm : (mm != mm) = false := by simp
    clear hi h hk hmm
    go_enter Tryd.func7, Tryd.ntmps7
    go_wp2_with fail
    refine (hsz _ HK.out).mono ?_
    rintro e w1 ⟨rfl, hb⟩
    have Z1 : Hid (w.heap.size ≤ w1.heap.size) := hb.size
    have BB : Hid (Below w.heap.size w w1) := hb
    clear hb
    by_cases hV : V < 0
    · go_wp2
      go_ret
      exact ⟨rfl, BB.out⟩
    have hfk := hVk (by omega)
    replace htx := htx hfk; replace hsp := hsp hfk; replace him := him hfk; replace hex := hex hfk; replace hkx := hkx hfk
    go_wp2_with fail
    refine (hto _ (HI.out.kept BB.out)).mono ?_
    rintro e w2 ⟨u1, rfl, ho, hb⟩
    have U : Hid (Liv w1.heap.size w2.heap.size (RowF intE 2 w1.heap.size w2.heap.size u1 l) w2) := (show Hid _ from Liv.new ho.has)
    have Z2 : Hid (w1.heap.size ≤ w2.heap.size) := hb.size
    replace BB : Hid (Below w.heap.size w w2) := (show Hid _ from BB.out.trans (hb.mono BB.out.size))
    clear hb
    clear ho
    go_wp2_with fail
    refine (htx _ (HK.out.kept BB.out)).mono ?_
    rintro e w3 ⟨u2, rfl, ho, hb⟩
    replace U : Hid (Liv w1.heap.size w2.heap.size (RowF intE 2 w1.heap.size w2.heap.size u1 l) w3) := U.out.kept hb
    have T : Hid (Liv w2.heap.size w3.heap.size (RowF txtE 9 w2.heap.size w3.heap.size u2 keys) w3) := (show Hid _ from Liv.new ho.has)
    have Z3 : Hid (w2.heap.size ≤ w3.heap.size) := hb.size
    replace BB : Hid (Below w.heap.size w w3) := (show Hid _ from BB.out.trans (hb.mono BB.out.size))
    clear hb
    clear ho
    go_wp2_with fail
    refine (hsp _ _ _ U.out.now.sls T.out.now.sls).mono ?_
    rintro e w4 ⟨r0, rfl, ho, hb⟩
    clear U
    clear T
    have R : Hid (Liv w3.heap.size w4.heap.size (RowF intE 2 w3.heap.size w4.heap.size r0 M) w4) := (show Hid _ from Liv.new ho.has)
    have Z4 : Hid (w3.heap.size ≤ w4.heap.size) := hb.size
    replace BB : Hid (Below w.heap.size w w4) := (show Hid _ from BB.out.trans (hb.mono BB.out.size))
    clear hb
    clear ho
    go_wp2_with fail
    refine (hto _ (HI.out.kept BB.out)).mono ?_
    rintro e w5 ⟨x0, rfl, ho, hb⟩
    replace R : Hid (Liv w3.heap.size w4.heap.size (RowF intE 2 w3.heap.size w4.heap.size r0 M) w5) := R.out.kept hb
    have X : Hid (Liv w4.heap.size w5.heap.size (RowF intE 2 w4.heap.size w5.heap.size x0 l) w5) := (show Hid _ from Liv.new ho.has)
    have Z5 : Hid (w4.heap.size ≤ w5.heap.size) := hb.size
    replace BB : Hid (Below w.heap.size w w5) := (show Hid _ from BB.out.trans (hb.mono BB.out.size))
    clear hb
    clear ho
    go_wp2_with fail
    refine (htx _ (HK.out.kept BB.out)).mono ?_
    rintro e w6 ⟨x2, rfl, ho, hb⟩
    replace R : Hid (Liv w3.heap.size w4.heap.size (RowF intE 2 w3.heap.size w4.heap.size r0 M) w6) := R.out.kept hb
    replace X : Hid (Liv w4.heap.size w5.heap.size (RowF intE 2 w4.heap.size w5.heap.size x0 l) w6) := X.out.kept hb
    have Y : Hid (Liv w5.heap.size w6.heap.size (RowF txtE 9 w5.heap.size w6.heap.size x2 keys) w6) := (show Hid _ from Liv.new ho.has)
    have Z6 : Hid (w5.heap.size ≤ w6.heap.size) := hb.size
    replace BB : Hid (Below w.heap.size w w6) := (show Hid _ from BB.out.trans (hb.mono BB.out.size))
    clear hb
    clear ho
    go_wp2_with fail
    refine (him _ _ _ X.out.now.sls Y.out.now.sls).mono ?_
    rintro e w7 ⟨g0, rfl, ho, hb⟩
    replace R : Hid (Liv w3.heap.size w4.heap.size (RowF intE 2 w3.heap.size w4.heap.size r0 M) w7) := R.out.kept hb
    replace X : Hid (Liv w4.heap.size w5.heap.size (RowF intE 2 w4.heap.size w5.heap.size x0 l) w7) := X.out.kept hb
    replace Y : Hid (Liv w5.heap.size w6.heap.size (RowF txtE 9 w5.heap.size w6.heap.size x2 keys) w7) := Y.out.kept hb
    have G : Hid (Liv w6.heap.size w7.heap.size (RowF intE 2 w6.heap.size w7.heap.size g0 M) w7) := (show Hid _ from Liv.new ho)
    have Z7 : Hid (w6.heap.size ≤ w7.heap.size) := hb.size
    replace BB : Hid (Below w.heap.size w w7) := (show Hid _ from BB.out.trans (hb.mono BB.out.size))
    clear hb
    clear ho
    go_wp2_with fail
    refine (hem _ _ _ G.out.now.sls R.out.now.sls).mono ?_
    rintro e w8 ⟨rfl, hb⟩
    replace R : Hid (Liv w3.heap.size w4.heap.size (RowF intE 2 w3.heap.size w4.heap.size r0 M) w8) := R.out.kept hb
    replace X : Hid (Liv w4.heap.size w5.heap.size (RowF intE 2 w4.heap.size w5.heap.size x0 l) w8) := X.out.kept hb
    replace Y : Hid (Liv w5.heap.size w6.heap.size (RowF txtE 9 w5.heap.size w6.heap.size x2 keys) w8) := Y.out.kept hb
    replace G : Hid (Liv w6.heap.size w7.heap.size (RowF intE 2 w6.heap.size w7.heap.size g0 M) w8) := G.out.kept hb
    have Z8 : Hid (w7.heap.size ≤ w8.heap.size) := hb.size
    replace BB : Hid (Below w.heap.size w w8) := (show Hid _ from BB.out.trans (hb.mono BB.out.size))
    clear hb
    go_wp2_with fail
    refine (hto _ (HI.out.kept BB.out)).mono ?_
    rintro e w9 ⟨u9, rfl, ho, hb⟩
    replace R : Hid (Liv w3.heap.size w4.heap.size (RowF intE 2 w3.heap.size w4.heap.size r0 M) w9) := R.out.kept hb
    replace X : Hid (Liv w4.heap.size w5.heap.size (RowF intE 2 w4.heap.size w5.heap.size x0 l) w9) := X.out.kept hb
    replace Y : Hid (Liv w5.heap.size w6.heap.size (RowF txtE 9 w5.heap.size w6.heap.size x2 keys) w9) := Y.out.kept hb
    replace G : Hid (Liv w6.heap.size w7.heap.size (RowF intE 2 w6.heap.size w7.heap.size g0 M) w9) := G.out.kept hb
    have U : Hid (Liv w8.heap.size w9.heap.size (RowF intE 2 w8.heap.size w9.heap.size u9 l) w9) := (show Hid _ from Liv.new ho.has)
    have Z9 : Hid (w8.heap.size ≤ w9.heap.size) := hb.size
    replace BB : Hid (Below w.heap.size w w9) := (show Hid _ from BB.out.trans (hb.mono BB.out.size))
    clear hb
    clear ho
    go_wp2_with fail
    refine (hel _ _ _ X.out.now.sls U.out.now.sls).mono ?_
    rintro e w10 ⟨rfl, hb⟩
    replace R : Hid (Liv w3.heap.size w4.heap.size (RowF intE 2 w3.heap.size w4.heap.size r0 M) w10) := R.out.kept hb
    replace X : Hid (Liv w4.heap.size w5.heap.size (RowF intE 2 w4.heap.size w5.heap.size x0 l) w10) := X.out.kept hb
    replace Y : Hid (Liv w5.heap.size w6.heap.size (RowF txtE 9 w5.heap.size w6.heap.size x2 keys) w10) := Y.out.kept hb
    replace G : Hid (Liv w6.heap.size w7.heap.size (RowF intE 2 w6.heap.size w7.heap.size g0 M) w10) := G.out.kept hb
    clear U
    have Z10 : Hid (w9.heap.size ≤ w10.heap.size) := hb.size
    replace BB : Hid (Below w.heap.size w w10) := (show Hid _ from BB.out.trans (hb.mono BB.out.size))
    clear hb
    go_wp2_with fail
    refine (htx _ (HK.out.kept BB.out)).mono ?_
    rintro e w11 ⟨u11, rfl, ho, hb⟩
    replace R : Hid (Liv w3.heap.size w4.heap.size (RowF intE 2 w3.heap.size w4.heap.size r0 M) w11) := R.out.kept hb
    replace X : Hid (Liv w4.heap.size w5.heap.size (RowF intE 2 w4.heap.size w5.heap.size x0 l) w11) := X.out.kept hb
    replace Y : Hid (Liv w5.heap.size w6.heap.size (RowF txtE 9 w5.heap.size w6.heap.size x2 keys) w11) := Y.out.kept hb
    replace G : Hid (Liv w6.heap.size w7.heap.size (RowF intE 2 w6.heap.size w7.heap.size g0 M) w11) := G.out.kept hb
    have T : Hid (Liv w10.heap.size w11.heap.size (RowF txtE 9 w10.heap.size w11.heap.size u11 keys) w11) := (show Hid _ from Liv.new ho.has)
    have Z11 : Hid (w10.heap.size ≤ w11.heap.size) := hb.size
    replace BB : Hid (Below w.heap.size w w11) := (show Hid _ from BB.out.trans (hb.mono BB.out.size))
    clear hb
    clear ho
    go_wp2_with fail
    refine (hex _ _ _ Y.out.now.sls T.out.now.sls).mono ?_
    rintro e w12 ⟨rfl, hb⟩
    replace R : Hid (Liv w3.heap.size w4.heap.size (RowF intE 2 w3.heap.size w4.heap.size r0 M) w12) := R.out.kept hb
    replace X : Hid (Liv w4.heap.size w5.heap.size (RowF intE 2 w4.heap.size w5.heap.size x0 l) w12) := X.out.kept hb
    replace Y : Hid (Liv w5.heap.size w6.heap.size (RowF txtE 9 w5.heap.size w6.heap.size x2 keys) w12) := Y.out.kept hb
    replace G : Hid (Liv w6.heap.size w7.heap.size (RowF intE 2 w6.heap.size w7.heap.size g0 M) w12) := G.out.kept hb
    clear T
    have Z12 : Hid (w11.heap.size ≤ w12.heap.size) := hb.size
    replace BB : Hid (Below w.heap.size w w12) := (show Hid _ from BB.out.trans (hb.mono BB.out.size))
    clear hb
    go_wp2_with fail
    refine (hkl _ _ _ X.out.now.1).mono ?_
    rintro e w13 ⟨rfl, hm, hb⟩
    have hc : Chg w4.heap.size w5.heap.size w12 w13 := X.out.now.chg hb
    replace R : Hid (Liv w3.heap.size w4.heap.size (RowF intE 2 w3.heap.size w4.heap.size r0 M) w13) := R.out.off hc (by have := Z1.out; have := Z2.out; have := Z3.out; have := Z4.out; have := Z5.out; have := Z6.out; have := Z7.out; have := Z8.out; have := Z9.out; have := Z10.out; have := Z11.out; have := Z12.out; omega)
    replace X : Hid (Liv w4.heap.size w5.heap.size (RowF intE 2 w4.heap.size w5.heap.size x0 (marksN l.length)) w13) := (show Hid _ from X.out.marked hm hb)
    replace Y : Hid (Liv w5.heap.size w6.heap.size (RowF txtE 9 w5.heap.size w6.heap.size x2 keys) w13) := Y.out.off hc (by have := Z1.out; have := Z2.out; have := Z3.out; have := Z4.out; have := Z5.out; have := Z6.out; have := Z7.out; have := Z8.out; have := Z9.out; have := Z10.out; have := Z11.out; have := Z12.out; omega)
    replace G : Hid (Liv w6.heap.size w7.heap.size (RowF intE 2 w6.heap.size w7.heap.size g0 M) w13) := G.out.off hc (by have := Z1.out; have := Z2.out; have := Z3.out; have := Z4.out; have := Z5.out; have := Z6.out; have := Z7.out; have := Z8.out; have := Z9.out; have := Z10.out; have := Z11.out; have := Z12.out; omega)
    have Z13 : Hid (w12.heap.size ≤ w13.heap.size) := hc.size
    replace BB : Hid (Below w.heap.size w w13) := (show Hid _ from hc.below BB.out BB.out.size (by have := Z1.out; have := Z2.out; have := Z3.out; have := Z4.out; have := Z5.out; have := Z6.out; have := Z7.out; have := Z8.out; have := Z9.out; have := Z10.out; have := Z11.out; have := Z12.out; have := Z13.out; omega))
    clear hb hc
    clear hm
    go_wp2_with fail
    refine (hkx _ _ _ Y.out.now.1).mono ?_
    rintro e w14 ⟨rfl, hm, hb⟩
    have hc : Chg w5.heap.size w6.heap.size w13 w14 := Y.out.now.chg hb
    replace R : Hid (Liv w3.heap.size w4.heap.size (RowF intE 2 w3.heap.size w4.heap.size r0 M) w14) := R.out.off hc (by have := Z1.out; have := Z2.out; have := Z3.out; have := Z4.out; have := Z5.out; have := Z6.out; have := Z7.out; have := Z8.out; have := Z9.out; have := Z10.out; have := Z11.out; have := Z12.out; have := Z13.out; omega)
    replace Y : Hid (Liv w5.heap.size w6.heap.size (RowF txtE 9 w5.heap.size w6.heap.size x2 (marksX (1 + l.length) keys.length)) w14) := (show Hid _ from Y.out.marked hm hb)
    replace G : Hid (Liv w6.heap.size w7.heap.size (RowF intE 2 w6.heap.size w7.heap.size g0 M) w14) := G.out.off hc (by have := Z1.out; have := Z2.out; have := Z3.out; have := Z4.out; have := Z5.out; have := Z6.out; have := Z7.out; have := Z8.out; have := Z9.out; have := Z10.out; have := Z11.out; have := Z12.out; have := Z13.out; omega)
    clear X
    have Z14 : Hid (w13.heap.size ≤ w14.heap.size) := hc.size
    replace BB : Hid (Below w.heap.size w w14) := (show Hid _ from hc.below BB.out BB.out.size (by have := Z1.out; have := Z2.out; have := Z3.out; have := Z4.out; have := Z5.out; have := Z6.out; have := Z7.out; have := Z8.out; have := Z9.out; have := Z10.out; have := Z11.out; have := Z12.out; have := Z13.out; have := Z14.out; omega))
    clear hb hc
    clear hm
    go_wp2_with fail
    refine (hem _ _ _ G.out.now.sls R.out.now.sls).mono ?_
    rintro e w15 ⟨rfl, hb⟩
    replace R : Hid (Liv w3.heap.size w4.heap.size (RowF intE 2 w3.heap.size w4.heap.size r0 M) w15) := R.out.kept hb
    replace G : Hid (Liv w6.heap.size w7.heap.size (RowF intE 2 w6.heap.size w7.heap.size g0 M) w15) := G.out.kept hb
    clear Y
    have Z15 : Hid (w14.heap.size ≤ w15.heap.size) := hb.size
    replace BB : Hid (Below w.heap.size w w15) := (show Hid _ from BB.out.trans (hb.mono BB.out.size))
    clear hb
    go_wp2_with fail
    refine (hkm _ _ _ G.out.now.1).mono ?_
    rintro e w16 ⟨rfl, hm, hb⟩
    have hc : Chg w6.heap.size w7.heap.size w15 w16 := G.out.now.chg hb
    replace R : Hid (Liv w3.heap.size w4.heap.size (RowF intE 2 w3.heap.size w4.heap.size r0 M) w16) := R.out.off hc (by have := Z1.out; have := Z2.out; have := Z3.out; have := Z4.out; have := Z5.out; have := Z6.out; have := Z7.out; have := Z8.out; have := Z9.out; have := Z10.out; have := Z11.out; have := Z12.out; have := Z13.out; have := Z14.out; have := Z15.out; omega)
    replace G : Hid (Liv w6.heap.size w7.heap.size (RowF intE 2 w6.heap.size w7.heap.size g0 (marksN M.length)) w16) := (show Hid _ from G.out.marked hm hb)
    have Z16 : Hid (w15.heap.size ≤ w16.heap.size) := hc.size
    replace BB : Hid (Below w.heap.size w w16) := (show Hid _ from hc.below BB.out BB.out.size (by have := Z1.out; have := Z2.out; have := Z3.out; have := Z4.out; have := Z5.out; have := Z6.out; have := Z7.out; have := Z8.out; have := Z9.out; have := Z10.out; have := Z11.out; have := Z12.out; have := Z13.out; have := Z14.out; have := Z15.out; have := Z16.out; omega))
    clear hb hc
    clear hm
    go_wp2_with fail
    refine (hhm _ _ G.out.now.sls).mono ?_
    rintro e w17 ⟨rfl, rfl⟩
    go_wp2_with fail
    refine (hto _ (HI.out.kept BB.out)).mono ?_
    rintro e w17 ⟨u17, rfl, ho, hb⟩
    replace R : Hid (Liv w3.heap.size w4.heap.size (RowF intE 2 w3.heap.size w4.heap.size r0 M) w17) := R.out.kept hb
    replace G : Hid (Liv w6.heap.size w7.heap.size (RowF intE 2 w6.heap.size w7.heap.size g0 (marksN M.length)) w17) := G.out.kept hb
    have U : Hid (Liv w16.heap.size w17.heap.size (RowF intE 2 w16.heap.size w17.heap.size u17 l) w17) := (show Hid _ from Liv.new ho.has)
    have Z17 : Hid (w16.heap.size ≤ w17.heap.size) := hb.size
    replace BB : Hid (Below w.heap.size w w17) := (show Hid _ from BB.out.trans (hb.mono BB.out.size))
    clear hb
    clear ho
    go_wp2_with fail
    refine (htx _ (HK.out.kept BB.out)).mono ?_
    rintro e w18 ⟨u18, rfl, ho, hb⟩
    replace R : Hid (Liv w3.heap.size w4.heap.size (RowF intE 2 w3.heap.size w4.heap.size r0 M) w18) := R.out.kept hb
    replace G : Hid (Liv w6.heap.size w7.heap.size (RowF intE 2 w6.heap.size w7.heap.size g0 (marksN M.length)) w18) := G.out.kept hb
    replace U : Hid (Liv w16.heap.size w17.heap.size (RowF intE 2 w16.heap.size w17.heap.size u17 l) w18) := U.out.kept hb
    have T : Hid (Liv w17.heap.size w18.heap.size (RowF txtE 9 w17.heap.size w18.heap.size u18 keys) w18) := (show Hid _ from Liv.new ho.has)
    have Z18 : Hid (w17.heap.size ≤ w18.heap.size) := hb.size
    replace BB : Hid (Below w.heap.size w w18) := (show Hid _ from BB.out.trans (hb.mono BB.out.size))
    clear hb
    clear ho
    go_wp2_with fail
    refine (him _ _ _ U.out.now.sls T.out.now.sls).mono ?_
    rintro e w19 ⟨h0, rfl, ho, hb⟩
    replace R : Hid (Liv w3.heap.size w4.heap.size (RowF intE 2 w3.heap.size w4.heap.size r0 M) w19) := R.out.kept hb
    replace G : Hid (Liv w6.heap.size w7.heap.size (RowF intE 2 w6.heap.size w7.heap.size g0 (marksN M.length)) w19) := G.out.kept hb
    clear U
    clear T
    have H : Hid (Liv w18.heap.size w19.heap.size (RowF intE 2 w18.heap.size w19.heap.size h0 M) w19) := (show Hid _ from Liv.new ho)
    have Z19 : Hid (w18.heap.size ≤ w19.heap.size) := hb.size
    replace BB : Hid (Below w.heap.size w w19) := (show Hid _ from BB.out.trans (hb.mono BB.out.size))
    clear hb
    clear ho
    go_wp2_with fail
    refine (hem _ _ _ H.out.now.sls R.out.now.sls).mono ?_
    rintro e w20 ⟨rfl, hb⟩
    replace R : Hid (Liv w3.heap.size w4.heap.size (RowF intE 2 w3.heap.size w4.heap.size r0 M) w20) := R.out.kept hb
    replace G : Hid (Liv w6.heap.size w7.heap.size (RowF intE 2 w6.heap.size w7.heap.size g0 (marksN M.length)) w20) := G.out.kept hb
    clear H
    have Z20 : Hid (w19.heap.size ≤ w20.heap.size) := hb.size
    replace BB : Hid (Below w.heap.size w w20) := (show Hid _ from BB.out.trans (hb.mono BB.out.size))
    clear hb
    go_wp2_with fail
    refine (hhm _ _ G.out.now.sls).mono ?_
    rintro e w21 ⟨rfl, rfl⟩
    go_wp2
    go_ret
    exact ⟨rfl, BB.out⟩
  · clear hi
    have hf2 : (1048576 : Int) < (l.length : Int) := by omega
    go_enter Tryd.func7, Tryd.ntmps7
    go_wp2
    go_ret
    exact ⟨rfl, Below.refl _ _⟩
end Go.Proofs.YtdbeoloonoodkaaDoor
