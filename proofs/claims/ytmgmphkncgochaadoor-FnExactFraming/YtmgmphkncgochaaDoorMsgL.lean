/-
  The walk of the exact law of Framing, given what the program's own function answers.
-/
import Derived.Test.YtmgmphkncgochaaDoorMsgK
namespace Go.Proofs.YtmgmphkncgochaaDoor
open Go.RowKit Go.Sort
set_option linter.unusedVariables false

set_option maxHeartbeats 2000000 in
theorem walkFrm (X : World → Prop) (hX : ∀ w w', X w → Below w.heap.size w w' → X w')
    (hi : ∀ (v : Value) (l : List Fl) (w : World), X w → Fits w v l → Calls Tryd.prog 21 #[v] w fun e w' => e = .returned (frmE (frm l)) ∧ Below w.heap.size w w')
    (v : Value) (l : List Fl) (w : World) (h : Fls w v l) (hz : ∀ f ∈ l, f.1.size ≤ maxLen ∧ f.2.size ≤ maxLen) (hs : Solid v) (hx : X w) :
    Calls Tryd.prog 5 #[v] w fun e w' => e = .returned (.bool true) ∧ Below w.heap.size w w' := by
  have hsz := szN v l 1048576 w (by omega) (by omega) h hz
  have hfs := h
  obtain ⟨a, cap, rfl, hcap⟩ := hfs
  clear hcap
  have F0 : Hid (Fls w (.slice a l.length cap) l) := h
  have X0 : Hid (X w) := hx
  have HX : Hid (∀ w w', X w → Below w.heap.size w w' → X w') := hX
  clear h hz hs hx hX
  go_enter Tryd.func5, Tryd.ntmps5
  go_wp2_with fail
  refine hsz.mono ?_
  rintro e w1 ⟨⟨x, rfl, hx⟩, hb1⟩
  have B1 : Hid (Below w.heap.size w w1) := hb1
  have F1 : Hid (Fls w1 (.slice a l.length cap) l) := F0.out.kept hb1
  have X1 : Hid (X w1) := HX.out _ _ X0.out hb1
  clear F0 X0 hb1 hsz
  rcases hx with rfl | ⟨hx0, hxs⟩
  · go_wp2
    go_ret
    exact ⟨rfl, B1.out⟩
  · have hxn : ¬ x < 0 := by omega
    have hlen : l.length ≤ 1048576 := by omega
    have hszl : szL l ≤ 1048576 := by omega
    have hto : Hid (∀ (W : World), Fls W (.slice a l.length cap) l → Calls Tryd.prog 20 #[.slice a l.length cap] W fun e w' => ∃ u, e = .returned u ∧ OwnsF w' W.heap.size u l ∧ Below W.heap.size W w') := fun W F => toFS _ l W F hlen
    have hsp : Hid (∀ (W : World) (u : Value), Fits W u l → Calls Tryd.prog 19 #[u] W fun e w' => e = .returned (frmE (frm l)) ∧ Below W.heap.size W w') := fun W u F => specFrm u l W F
    have him : Hid (∀ (W : World) (u : Value), X W → Fits W u l → Calls Tryd.prog 21 #[u] W fun e w' => e = .returned (frmE (frm l)) ∧ Below W.heap.size W w') := fun W u x F => hi u l W x F
    have heq : Hid (∀ (W : World) (u u' : Value), Fls W u l → Fls W u' l → Calls Tryd.prog 22 #[u, u'] W fun e w' => e = .returned (.bool true) ∧ Below W.heap.size W w') := fun W u u' F F' => (eqFS u u' l W F F' hlen).mono fun _ _ h => ⟨h.1, h.2.low⟩
    generalize frm l = fr at hsp him
    obtain ⟨f1, f2⟩ := fr
    unfold frmE at hsp him
    simp only at hsp him
    clear hx0 hxs hi
    go_wp2_with fail
    refine (hto.out _ F1.out).mono ?_
    rintro e w2 ⟨u2, rfl, ho2, hb2⟩
    have I2' := ho2.fits hszl hlen
    obtain ⟨A2, cap2, rfl, _⟩ := ho2.form
    have I2 : Hid (Fits w2 (.slice A2 l.length cap2) l) := I2'
    have B2 : Hid (Below w.heap.size w w2) := past6 B1.out hb2
    have F2 : Hid (Fls w2 (.slice a l.length cap) l) := F1.out.kept hb2
    have X2 : Hid (X w2) := HX.out _ _ X1.out hb2
    clear B1 F1 X1 hb2 ho2 I2'
    go_wp2_with fail
    refine (hsp.out _ _ I2.out).mono ?_
    rintro e w3 ⟨rfl, hb3⟩
    have B3 : Hid (Below w.heap.size w w3) := past6 B2.out hb3
    have F3 : Hid (Fls w3 (.slice a l.length cap) l) := F2.out.kept hb3
    have X3 : Hid (X w3) := HX.out _ _ X2.out hb3
    clear B2 F2 X2 hb3 I2 hsp
    go_wp2_with fail
    refine (hto.out _ F3.out).mono ?_
    rintro e w4 ⟨u4, rfl, ho4, hb4⟩
    have I4' := ho4.fits hszl hlen
    obtain ⟨A4, cap4, rfl, _⟩ := ho4.form
    have I4 : Hid (Fits w4 (.slice A4 l.length cap4) l) := I4'
    have B4 : Hid (Below w.heap.size w w4) := past6 B3.out hb4
    have F4 : Hid (Fls w4 (.slice a l.length cap) l) := F3.out.kept hb4
    have X4 : Hid (X w4) := HX.out _ _ X3.out hb4
    clear B3 F3 X3 hb4 ho4 I4'
    go_wp2_with fail
    refine (him.out _ _ X4.out I4.out).mono ?_
    rintro e w5 ⟨rfl, hb5⟩
    have B5 : Hid (Below w.heap.size w w5) := past6 B4.out hb5
    have F5 : Hid (Fls w5 (.slice a l.length cap) l) := F4.out.kept hb5
    have G5 : Hid (Fls w5 (.slice A4 l.length cap4) l) := I4.out.1.kept hb5
    clear B4 F4 X4 hb5 I4 him
    go_wp2_with fail
    refine (hto.out _ F5.out).mono ?_
    rintro e w6 ⟨u6, rfl, ho6, hb6⟩
    have H6' := ho6.fls
    obtain ⟨A6, cap6, rfl, _⟩ := ho6.form
    have H6 : Hid (Fls w6 (.slice A6 l.length cap6) l) := H6'
    have G6 : Hid (Fls w6 (.slice A4 l.length cap4) l) := G5.out.kept hb6
    have B6 : Hid (Below w.heap.size w w6) := past6 B5.out hb6
    clear B5 F5 G5 hb6 ho6 H6'
    go_wp2_with (go_at_call 22; refine (heq.out _ _ _ G6.out H6.out).mono ?_; rintro e w7 ⟨rfl, hb7⟩)
    go_ret
    exact ⟨rfl, past6 B6.out hb7⟩
end Go.Proofs.YtmgmphkncgochaaDoor
