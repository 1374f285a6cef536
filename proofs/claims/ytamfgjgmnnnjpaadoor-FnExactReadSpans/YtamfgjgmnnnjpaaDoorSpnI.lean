/-
  The walk of the exact law of ReadSpans, given what the program's own function answers.
-/
import Derived.Test.YtamfgjgmnnnjpaaDoorSpnH
namespace Go.Proofs.YtamfgjgmnnnjpaaDoor
open Go.RowKit Go.Sort
set_option linter.unusedVariables false

theorem past8r {w w1 w2 : World} (h : Below w.heap.size w w1) (hb : Below w1.heap.size w1 w2) : Below w.heap.size w w2 := h.trans (hb.mono h.size)
set_option maxHeartbeats 4000000 in
theorem walkRS (X : World → Prop) (hX : ∀ w w', X w → Below w.heap.size w w' → X w')
    (hi : ∀ (s : ByteArray) (n : Int) (w : World), X w → s.size ≤ 1048576 → -9223372036854775808 ≤ n → n ≤ 9223372036854775807 → Calls Tryd.prog 8 #[.string s, .int .i64 n] w fun e w' => ∃ u, e = .returned (.tuple #[u, .bool (decide (0 < (rdS s n).length))]) ∧ HasS8 w' w.heap.size u (rdS s n) ∧ Below w.heap.size w w')
    (s : ByteArray) (n : Int) (w : World) (hs : s.size ≤ maxLen) (hr0 : -9223372036854775808 ≤ n) (hr1 : n ≤ 9223372036854775807) (hx : X w) :
    Calls Tryd.prog 4 #[.string s, .int .i64 n] w fun e w' => e = .returned (.bool true) ∧ Below w.heap.size w w' := by
  have hm := hs
  unfold maxLen at hm
  by_cases hbig : 1048576 < s.size
  · go_enter Tryd.func4, Tryd.ntmps4
    go_wp2
    go_ret
    exact ⟨rfl, Below.refl _ _⟩
  · have hsp := fun W => specRS s n W hs hr0 hr1
    have him := fun W hW => hi s n W hW (by omega) hr0 hr1
    have hml := rdS_length s n
    have hem := fun u v W hu hv => eqSpS u v (rdS s n) W hu hv (by omega)
    have hkm := fun u B W hu => markSp u (rdS s n) B W hu (by omega)
    have hhm := fun u W hu => heldSp u (rdS s n).length W hu (by omega)
    have X0 : Hid (∀ W, Below w.heap.size w W → X W) := fun W hb => hX w W hx hb
    generalize rdS s n = M at hsp him hem hkm hhm hml
    generalize decide (0 < M.length) = b at hsp him
    have dbb : (b != b) = false := by simp
    have hm0 : ¬ (1 + 2 * (M.length : Int)) < 0 := by omega
    generalize hmm : (1 + 2 * (M.length : Int)) = mm at hkm hhm hm0
    have dmm : (mm != mm) = false := by simp
    clear hi hmm hX
    go_enter Tryd.func4, Tryd.ntmps4
    go_wp2_with fail
    refine (hsp _).mono ?_
    rintro e w1 ⟨r0, rfl, hr0, hb1⟩
    have B1 : Hid (Below w.heap.size w w1) := hb1
    have R1 : Hid (HasS8 w1 w.heap.size r0 M) := hr0.has
    have R1u : Hid (∀ k, r0.ownBlock = some k → k < w1.heap.size) := R1.out.under
    clear hb1 hr0
    go_wp2_with fail
    refine (him _ (X0.out _ B1.out)).mono ?_
    rintro e w2 ⟨g0, rfl, hg0, hb2⟩
    have B2 : Hid (Below w.heap.size w w2) := past8r B1.out hb2
    have Z1 : Hid (w.heap.size ≤ w1.heap.size) := B1.out.size
    have R2 : Hid (HasS8 w2 w.heap.size r0 M) := R1.out.kept hb2
    have G2 : Hid (HasS8 w2 w1.heap.size g0 M) := hg0
    clear hb2 hg0 B1 R1
    go_wp2_with fail
    refine (hem _ _ _ G2.out.sls R2.out.sls).mono ?_
    rintro e w3 ⟨rfl, hg3⟩
    have B3 : Hid (Below w.heap.size w w3) := past8r B2.out hg3.low
    have R3 : Hid (HasS8 w3 w.heap.size r0 M) := R2.out.kept hg3.low
    have G3 : Hid (HasS8 w3 w1.heap.size g0 M) := G2.out.kept hg3.low
    clear hg3 B2 R2 G2
    go_wp2_with fail
    refine (hkm _ _ _ G3.out).mono ?_
    rintro e wa ⟨rfl, hga, hgr⟩
    have BA : Hid (Below w.heap.size w wa) := belowE B3.out hgr B3.out.size (fun k hk => Nat.le_trans Z1.out (G3.out.from k hk))
    have RA : Hid (HasS8 wa w.heap.size r0 M) := R3.out.grown hgr (fun k hk e => by have := R1u.out k hk; have := G3.out.from k e; omega)
    have GA : Hid (HasS8 wa w1.heap.size g0 (marksS M.length)) := hga
    clear hga hgr B3 R3 G3
    go_wp2_with fail
    refine (hhm _ _ GA.out.sls).mono ?_
    rintro e wb ⟨rfl, rfl⟩
    go_wp2_with fail
    refine (him _ (X0.out _ BA.out)).mono ?_
    rintro e wd ⟨hh, rfl, hhd, hbd⟩
    have BD : Hid (Below w.heap.size w wd) := past8r BA.out hbd
    have RD : Hid (HasS8 wd w.heap.size r0 M) := RA.out.kept hbd
    have GD : Hid (HasS8 wd w1.heap.size g0 (marksS M.length)) := GA.out.kept hbd
    have HD : Hid (HasS8 wd wa.heap.size hh M) := hhd
    clear hhd hbd BA RA GA
    go_wp2_with fail
    refine (hem _ _ _ HD.out.sls RD.out.sls).mono ?_
    rintro e we ⟨rfl, hge⟩
    have BE : Hid (Below w.heap.size w we) := past8r BD.out hge.low
    have GE : Hid (HasS8 we w1.heap.size g0 (marksS M.length)) := GD.out.kept hge.low
    clear hge BD RD GD HD
    go_wp2_with fail
    refine (hhm _ _ GE.out.sls).mono ?_
    rintro e wf ⟨rfl, rfl⟩
    go_wp2
    go_ret
    exact ⟨rfl, BE.out⟩
end Go.Proofs.YtamfgjgmnnnjpaaDoor
