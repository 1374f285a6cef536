/-
  The walks of FnExactMarks and FnExactNewSketch, given what the program's own functions answer.
-/
import Derived.Test.YtdoolnaekmffbaaSkG
namespace Go.Proofs.Ytdoolnaekmffbaa
open Go.RowKit Go.Sort Ow Sk
set_option linter.unusedVariables false
set_option linter.unusedSimpArgs false

set_option maxHeartbeats 4000000 in
theorem walkMks (hi : ∀ (n : Int) (key : ByteArray) (w : World), key.size ≤ 1048576 → Calls Try.prog 25 #[.int .i64 n, .string key] w fun e w' => ∃ u, e = .returned u ∧ HasN w' w.heap.size u (mksV n key) ∧ Below w.heap.size w w')
    (n : Int) (key : ByteArray) (w : World) :
    Calls Try.prog 6 #[.int .i64 n, .string key] w fun e w' => e = .returned (.bool true) ∧ Below w.heap.size w w' := by
  by_cases hkf : key.size ≤ 1048576
  · have hsp := fun W => specMks n key W hkf
    have him := fun W => hi n key W hkf
    have hml : (mksV n key).length ≤ 1048576 := Nat.le_trans (mksV_length n key) (by decide)
    have hem := fun u v W hu hv => (eqNum u v (mksV n key) W hu hv hml).mono (fun e w' (h : _ ∧ Grew W w') => (⟨h.1, h.2.low⟩ : e = .returned (.bool true) ∧ Below W.heap.size W w'))
    have hkm := fun u B W hu => markNu 1 (by decide) u (mksV n key) B W hu hml
    have hhm := fun u W hu => heldNu 1 (by decide) u (mksV n key).length W hu hml
    generalize mksV n key = M at hsp him hem hkm hhm hml
    generalize hmm : (((1 : Nat) : Int) + (M.length : Int)) = mm at hkm hhm
    have hm0 : ¬ mm < 0 := by omega
    have dmm : (mm != mm) = false := by simp
    clear hi hmm
    go_enter Try.func6, Try.ntmps6
    go_wp2_with fail
    refine (hsp _).mono ?_
    rintro e w1 ⟨a2, c2, rfl, ho, hb⟩
    have R : Hid (Liv w.heap.size w1.heap.size (RowF intE 2 w.heap.size w1.heap.size (.slice (some ⟨a2, 0, none⟩) M.length c2) M) w1) := (show Hid _ from Liv.new ho.has)
    have Z1 : Hid (w.heap.size ≤ w1.heap.size) := hb.size
    have BB : Hid (Below w.heap.size w w1) := hb
    clear hb ho
    go_wp2_with fail
    refine (him _).mono ?_
    rintro e w2 ⟨u3, rfl, ho, hb⟩
    obtain ⟨a3, c3, rfl, _⟩ := ho.form
    replace R : Hid (Liv w.heap.size w1.heap.size (RowF intE 2 w.heap.size w1.heap.size (.slice (some ⟨a2, 0, none⟩) M.length c2) M) w2) := R.out.kept hb
    have G : Hid (Liv w1.heap.size w2.heap.size (RowF intE 2 w1.heap.size w2.heap.size (.slice a3 M.length c3) M) w2) := (show Hid _ from Liv.new ho)
    have Z2 : Hid (w1.heap.size ≤ w2.heap.size) := hb.size
    replace BB : Hid (Below w.heap.size w w2) := (show Hid _ from BB.out.trans (hb.mono BB.out.size))
    clear hb ho
    go_wp2_with fail
    refine (hem _ _ _ G.out.now.sls R.out.now.sls).mono ?_
    rintro e w3 ⟨rfl, hb⟩
    replace R : Hid (Liv w.heap.size w1.heap.size (RowF intE 2 w.heap.size w1.heap.size (.slice (some ⟨a2, 0, none⟩) M.length c2) M) w3) := R.out.kept hb
    replace G : Hid (Liv w1.heap.size w2.heap.size (RowF intE 2 w1.heap.size w2.heap.size (.slice a3 M.length c3) M) w3) := G.out.kept hb
    have Z3 : Hid (w2.heap.size ≤ w3.heap.size) := hb.size
    replace BB : Hid (Below w.heap.size w w3) := (show Hid _ from BB.out.trans (hb.mono BB.out.size))
    clear hb
    go_wp2_with fail
    refine (hkm _ _ _ G.out.now.1).mono ?_
    rintro e w4 ⟨rfl, hm, hb⟩
    have hc : Chg w1.heap.size w2.heap.size w3 w4 := G.out.now.chg hb
    replace R : Hid (Liv w.heap.size w1.heap.size (RowF intE 2 w.heap.size w1.heap.size (.slice (some ⟨a2, 0, none⟩) M.length c2) M) w4) := R.out.off hc (by have := Z1.out; have := Z2.out; have := Z3.out; omega)
    replace G : Hid (Liv w1.heap.size w2.heap.size (RowF intE 2 w1.heap.size w2.heap.size (.slice a3 M.length c3) (marksU 1 M.length)) w4) := (show Hid _ from G.out.marked hm hb)
    have Z4 : Hid (w3.heap.size ≤ w4.heap.size) := hc.size
    replace BB : Hid (Below w.heap.size w w4) := (show Hid _ from hc.below BB.out BB.out.size (by have := Z1.out; have := Z2.out; have := Z3.out; have := Z4.out; omega))
    clear hb hc hm
    go_wp2_with fail
    refine (hhm _ _ G.out.now.sls).mono ?_
    rintro e wsame ⟨rfl, rfl⟩
    go_wp2_with fail
    refine (him _).mono ?_
    rintro e w5 ⟨u7, rfl, ho, hb⟩
    obtain ⟨a7, c7, rfl, _⟩ := ho.form
    replace R : Hid (Liv w.heap.size w1.heap.size (RowF intE 2 w.heap.size w1.heap.size (.slice (some ⟨a2, 0, none⟩) M.length c2) M) w5) := R.out.kept hb
    replace G : Hid (Liv w1.heap.size w2.heap.size (RowF intE 2 w1.heap.size w2.heap.size (.slice a3 M.length c3) (marksU 1 M.length)) w5) := G.out.kept hb
    have H : Hid (Liv w4.heap.size w5.heap.size (RowF intE 2 w4.heap.size w5.heap.size (.slice a7 M.length c7) M) w5) := (show Hid _ from Liv.new ho)
    have Z5 : Hid (w4.heap.size ≤ w5.heap.size) := hb.size
    replace BB : Hid (Below w.heap.size w w5) := (show Hid _ from BB.out.trans (hb.mono BB.out.size))
    clear hb ho
    go_wp2_with fail
    refine (hem _ _ _ H.out.now.sls R.out.now.sls).mono ?_
    rintro e w6 ⟨rfl, hb⟩
    replace R : Hid (Liv w.heap.size w1.heap.size (RowF intE 2 w.heap.size w1.heap.size (.slice (some ⟨a2, 0, none⟩) M.length c2) M) w6) := R.out.kept hb
    replace G : Hid (Liv w1.heap.size w2.heap.size (RowF intE 2 w1.heap.size w2.heap.size (.slice a3 M.length c3) (marksU 1 M.length)) w6) := G.out.kept hb
    replace H : Hid (Liv w4.heap.size w5.heap.size (RowF intE 2 w4.heap.size w5.heap.size (.slice a7 M.length c7) M) w6) := H.out.kept hb
    have Z6 : Hid (w5.heap.size ≤ w6.heap.size) := hb.size
    replace BB : Hid (Below w.heap.size w w6) := (show Hid _ from BB.out.trans (hb.mono BB.out.size))
    clear hb
    go_wp2_with fail
    refine (hhm _ _ G.out.now.sls).mono ?_
    rintro e wsame ⟨rfl, rfl⟩
    go_wp2
    go_ret
    exact ⟨rfl, BB.out⟩
  · clear hi
    have hf2 : (1048576 : Int) < (key.size : Int) := by omega
    go_enter Try.func6, Try.ntmps6
    go_wp2
    go_ret
    exact ⟨rfl, Below.refl _ _⟩
set_option maxRecDepth 100000 in
set_option maxHeartbeats 4000000 in
theorem walkNew (hi : ∀ (n : Int) (w : World), Calls Try.prog 18 #[.int .i64 n] w fun e w' => ∃ u, e = .returned (.tuple #[skV (if szOk n = true then n else 0) u, .bool (szOk n)]) ∧ HasN w' w.heap.size u [] ∧ Below w.heap.size w w')
    (n : Int) (w : World) :
    Calls Try.prog 5 #[.int .i64 n] w fun e w' => e = .returned (.bool true) ∧ Below w.heap.size w w' := by
    have hsp := fun W => specNew n W
    have him := fun W => hi n W
    have hem := fun Q u v W hu hv => (eqSk Q u v [] W hu hv (by decide)).mono (fun e w' (h : _ ∧ Grew W w') => (⟨h.1, h.2.low⟩ : e = .returned (.bool true) ∧ Below W.heap.size W w'))
    have hkm := fun Q u B W hu => markSk 1 (by decide) Q u [] B W hu (by decide)
    have hhm := fun Q u W hu => heldSk 1 (by decide) Q u 0 W hu (by decide)
    generalize (if szOk n = true then n else 0) = Q at hsp him
    generalize szOk n = b at hsp him
    have db : (b != b) = false := by simp
    unfold skV at *
    simp only [List.length_nil] at hkm hhm
    clear hi
    go_enter Try.func5, Try.ntmps5
    go_wp2_with fail
    refine (hsp _).mono ?_
    rintro e w1 ⟨rfl, hb⟩
    have Z1 : Hid (w.heap.size ≤ w1.heap.size) := hb.size
    have BB : Hid (Below w.heap.size w w1) := hb
    clear hb
    have hbA : Below w1.heap.size w1 (w1.alloc (.cells #[.int .i64 Q, .slice none 0 0] 26)) := (Below.refl _ _).alloc (Nat.le_refl _) _
    have zA : (w1.alloc (.cells #[.int .i64 Q, .slice none 0 0] 26)).heap.size = w1.heap.size + 1 := by simp
    replace BB : Hid (Below w.heap.size w (w1.alloc (.cells #[.int .i64 Q, .slice none 0 0] 26))) := (show Hid _ from BB.out.trans (hbA.mono BB.out.size))
    have W0 : Hid (Liv w1.heap.size (w1.heap.size + 1) (fun W => Bx W (w1.heap.size) 26 #[.int .i64 Q, .slice none 0 0]) (w1.alloc (.cells #[.int .i64 Q, .slice none 0 0] 26))) := (show Hid _ from Liv.box (Bx.new _ _ _))
    clear hbA
    go_wp2_with fail
    generalize (w1.alloc (.cells #[.int .i64 Q, .slice none 0 0] 26)) = w2 at BB zA W0 ⊢
    have Z2 : Hid (w2.heap.size = w1.heap.size + 1) := zA
    clear zA
    have W0_0 := W0.out.now.cell 0
    have W0_1 := W0.out.now.cell 1
    clear W0_0 W0_1
    refine (him _).mono ?_
    rintro e w3 ⟨u3, rfl, ho, hb⟩
    obtain ⟨a3, c3, rfl, _⟩ := ho.form
    simp only [List.length_nil] at ho
    replace W0 : Hid (Liv w1.heap.size (w1.heap.size + 1) (fun W => Bx W (w1.heap.size) 26 #[.int .i64 Q, .slice none 0 0]) w3) := W0.out.kept hb
    have G : Hid (Liv w2.heap.size w3.heap.size (RowF intE 2 w2.heap.size w3.heap.size (.slice a3 0 c3) []) w3) := (show Hid _ from Liv.new ho)
    have Z3 : Hid (w2.heap.size ≤ w3.heap.size) := hb.size
    replace BB : Hid (Below w.heap.size w w3) := (show Hid _ from BB.out.trans (hb.mono BB.out.size))
    clear hb ho
    have hbA : Below w3.heap.size w3 (w3.alloc (.cells #[.int .i64 Q, .slice a3 0 c3] 26)) := (Below.refl _ _).alloc (Nat.le_refl _) _
    have zA : (w3.alloc (.cells #[.int .i64 Q, .slice a3 0 c3] 26)).heap.size = w3.heap.size + 1 := by simp
    replace W0 : Hid (Liv w1.heap.size (w1.heap.size + 1) (fun W => Bx W (w1.heap.size) 26 #[.int .i64 Q, .slice none 0 0]) (w3.alloc (.cells #[.int .i64 Q, .slice a3 0 c3] 26))) := W0.out.kept hbA
    replace G : Hid (Liv w2.heap.size w3.heap.size (RowF intE 2 w2.heap.size w3.heap.size (.slice a3 0 c3) []) (w3.alloc (.cells #[.int .i64 Q, .slice a3 0 c3] 26))) := G.out.kept hbA
    replace BB : Hid (Below w.heap.size w (w3.alloc (.cells #[.int .i64 Q, .slice a3 0 c3] 26))) := (show Hid _ from BB.out.trans (hbA.mono BB.out.size))
    have G0 : Hid (Liv w3.heap.size (w3.heap.size + 1) (fun W => Bx W (w3.heap.size) 26 #[.int .i64 Q, .slice a3 0 c3]) (w3.alloc (.cells #[.int .i64 Q, .slice a3 0 c3] 26))) := (show Hid _ from Liv.box (Bx.new _ _ _))
    clear hbA
    generalize hww4 : (w3.alloc (.cells #[.int .i64 Q, .slice a3 0 c3] 26)) = w4 at BB zA W0 G G0
    have Z4 : Hid (w4.heap.size = w3.heap.size + 1) := zA
    clear zA
    have W0_0 := W0.out.now.cell 0
    have W0_1 := W0.out.now.cell 1
    have G0_0 := G0.out.now.cell 0
    have G0_1 := G0.out.now.cell 1
    go_wp2_with fail
    clear hww4
    clear W0_0 W0_1 G0_0 G0_1
    refine (hem Q _ _ _ G.out.now.sls (Sls.nil (Nat.zero_le _))).mono ?_
    rintro e w5 ⟨rfl, hb⟩
    replace W0 : Hid (Liv w1.heap.size (w1.heap.size + 1) (fun W => Bx W (w1.heap.size) 26 #[.int .i64 Q, .slice none 0 0]) w5) := W0.out.kept hb
    replace G : Hid (Liv w2.heap.size w3.heap.size (RowF intE 2 w2.heap.size w3.heap.size (.slice a3 0 c3) []) w5) := G.out.kept hb
    replace G0 : Hid (Liv w3.heap.size (w3.heap.size + 1) (fun W => Bx W (w3.heap.size) 26 #[.int .i64 Q, .slice a3 0 c3]) w5) := G0.out.kept hb
    have Z5 : Hid (w4.heap.size ≤ w5.heap.size) := hb.size
    replace BB : Hid (Below w.heap.size w w5) := (show Hid _ from BB.out.trans (hb.mono BB.out.size))
    clear hb
    have W0_0 := W0.out.now.cell 0
    have W0_1 := W0.out.now.cell 1
    have G0_0 := G0.out.now.cell 0
    have G0_1 := G0.out.now.cell 1
    go_wp2_with fail
    clear W0_0 W0_1 G0_0 G0_1
    refine (hkm Q _ _ _ G.out.now.1).mono ?_
    rintro e w6 ⟨rfl, hm, hb⟩
    have hc : Chg w2.heap.size w3.heap.size w5 w6 := G.out.now.chg hb
    replace W0 : Hid (Liv w1.heap.size (w1.heap.size + 1) (fun W => Bx W (w1.heap.size) 26 #[.int .i64 Q, .slice none 0 0]) w6) := W0.out.off hc (by have := Z1.out; have := Z2.out; have := Z3.out; have := Z4.out; have := Z5.out; omega)
    replace G : Hid (Liv w2.heap.size w3.heap.size (RowF intE 2 w2.heap.size w3.heap.size (.slice a3 0 c3) (marksU 1 0)) w6) := (show Hid _ from G.out.marked hm hb)
    replace G0 : Hid (Liv w3.heap.size (w3.heap.size + 1) (fun W => Bx W (w3.heap.size) 26 #[.int .i64 Q, .slice a3 0 c3]) w6) := G0.out.off hc (by have := Z1.out; have := Z2.out; have := Z3.out; have := Z4.out; have := Z5.out; omega)
    have Z6 : Hid (w5.heap.size ≤ w6.heap.size) := hc.size
    replace BB : Hid (Below w.heap.size w w6) := (show Hid _ from hc.below BB.out BB.out.size (by have := Z1.out; have := Z2.out; have := Z3.out; have := Z4.out; have := Z5.out; have := Z6.out; omega))
    clear hb hc hm
    have W0_0 := W0.out.now.cell 0
    have W0_1 := W0.out.now.cell 1
    have G0_0 := G0.out.now.cell 0
    have G0_1 := G0.out.now.cell 1
    go_wp2_with fail
    clear W0_0 W0_1 G0_0 G0_1
    refine (hhm Q _ _ G.out.now.sls).mono ?_
    rintro e w7 ⟨rfl, hb⟩
    replace W0 : Hid (Liv w1.heap.size (w1.heap.size + 1) (fun W => Bx W (w1.heap.size) 26 #[.int .i64 Q, .slice none 0 0]) w7) := W0.out.kept hb
    replace G : Hid (Liv w2.heap.size w3.heap.size (RowF intE 2 w2.heap.size w3.heap.size (.slice a3 0 c3) (marksU 1 0)) w7) := G.out.kept hb
    replace G0 : Hid (Liv w3.heap.size (w3.heap.size + 1) (fun W => Bx W (w3.heap.size) 26 #[.int .i64 Q, .slice a3 0 c3]) w7) := G0.out.kept hb
    have Z7 : Hid (w6.heap.size ≤ w7.heap.size) := hb.size
    replace BB : Hid (Below w.heap.size w w7) := (show Hid _ from BB.out.trans (hb.mono BB.out.size))
    clear hb
    have W0_0 := W0.out.now.cell 0
    have W0_1 := W0.out.now.cell 1
    have G0_0 := G0.out.now.cell 0
    have G0_1 := G0.out.now.cell 1
    go_wp2_with fail
    clear W0_0 W0_1 G0_0 G0_1
    refine (him _).mono ?_
    rintro e w8 ⟨u6, rfl, ho, hb⟩
    obtain ⟨a6, c6, rfl, _⟩ := ho.form
    simp only [List.length_nil] at ho
    replace W0 : Hid (Liv w1.heap.size (w1.heap.size + 1) (fun W => Bx W (w1.heap.size) 26 #[.int .i64 Q, .slice none 0 0]) w8) := W0.out.kept hb
    replace G : Hid (Liv w2.heap.size w3.heap.size (RowF intE 2 w2.heap.size w3.heap.size (.slice a3 0 c3) (marksU 1 0)) w8) := G.out.kept hb
    replace G0 : Hid (Liv w3.heap.size (w3.heap.size + 1) (fun W => Bx W (w3.heap.size) 26 #[.int .i64 Q, .slice a3 0 c3]) w8) := G0.out.kept hb
    have H : Hid (Liv w7.heap.size w8.heap.size (RowF intE 2 w7.heap.size w8.heap.size (.slice a6 0 c6) []) w8) := (show Hid _ from Liv.new ho)
    have Z8 : Hid (w7.heap.size ≤ w8.heap.size) := hb.size
    replace BB : Hid (Below w.heap.size w w8) := (show Hid _ from BB.out.trans (hb.mono BB.out.size))
    clear hb ho
    have hbA : Below w8.heap.size w8 (w8.alloc (.cells #[.int .i64 Q, .slice a6 0 c6] 26)) := (Below.refl _ _).alloc (Nat.le_refl _) _
    have zA : (w8.alloc (.cells #[.int .i64 Q, .slice a6 0 c6] 26)).heap.size = w8.heap.size + 1 := by simp
    replace W0 : Hid (Liv w1.heap.size (w1.heap.size + 1) (fun W => Bx W (w1.heap.size) 26 #[.int .i64 Q, .slice none 0 0]) (w8.alloc (.cells #[.int .i64 Q, .slice a6 0 c6] 26))) := W0.out.kept hbA
    replace G : Hid (Liv w2.heap.size w3.heap.size (RowF intE 2 w2.heap.size w3.heap.size (.slice a3 0 c3) (marksU 1 0)) (w8.alloc (.cells #[.int .i64 Q, .slice a6 0 c6] 26))) := G.out.kept hbA
    replace G0 : Hid (Liv w3.heap.size (w3.heap.size + 1) (fun W => Bx W (w3.heap.size) 26 #[.int .i64 Q, .slice a3 0 c3]) (w8.alloc (.cells #[.int .i64 Q, .slice a6 0 c6] 26))) := G0.out.kept hbA
    replace H : Hid (Liv w7.heap.size w8.heap.size (RowF intE 2 w7.heap.size w8.heap.size (.slice a6 0 c6) []) (w8.alloc (.cells #[.int .i64 Q, .slice a6 0 c6] 26))) := H.out.kept hbA
    replace BB : Hid (Below w.heap.size w (w8.alloc (.cells #[.int .i64 Q, .slice a6 0 c6] 26))) := (show Hid _ from BB.out.trans (hbA.mono BB.out.size))
    have H0 : Hid (Liv w8.heap.size (w8.heap.size + 1) (fun W => Bx W (w8.heap.size) 26 #[.int .i64 Q, .slice a6 0 c6]) (w8.alloc (.cells #[.int .i64 Q, .slice a6 0 c6] 26))) := (show Hid _ from Liv.box (Bx.new _ _ _))
    clear hbA
    generalize hww9 : (w8.alloc (.cells #[.int .i64 Q, .slice a6 0 c6] 26)) = w9 at BB zA W0 G G0 H H0
    have Z9 : Hid (w9.heap.size = w8.heap.size + 1) := zA
    clear zA
    have W0_0 := W0.out.now.cell 0
    have W0_1 := W0.out.now.cell 1
    have G0_0 := G0.out.now.cell 0
    have G0_1 := G0.out.now.cell 1
    have H0_0 := H0.out.now.cell 0
    have H0_1 := H0.out.now.cell 1
    go_wp2_with fail
    clear hww9
    clear W0_0 W0_1 G0_0 G0_1 H0_0 H0_1
    refine (hem Q _ _ _ H.out.now.sls (Sls.nil (Nat.zero_le _))).mono ?_
    rintro e w10 ⟨rfl, hb⟩
    replace W0 : Hid (Liv w1.heap.size (w1.heap.size + 1) (fun W => Bx W (w1.heap.size) 26 #[.int .i64 Q, .slice none 0 0]) w10) := W0.out.kept hb
    replace G : Hid (Liv w2.heap.size w3.heap.size (RowF intE 2 w2.heap.size w3.heap.size (.slice a3 0 c3) (marksU 1 0)) w10) := G.out.kept hb
    replace G0 : Hid (Liv w3.heap.size (w3.heap.size + 1) (fun W => Bx W (w3.heap.size) 26 #[.int .i64 Q, .slice a3 0 c3]) w10) := G0.out.kept hb
    replace H : Hid (Liv w7.heap.size w8.heap.size (RowF intE 2 w7.heap.size w8.heap.size (.slice a6 0 c6) []) w10) := H.out.kept hb
    replace H0 : Hid (Liv w8.heap.size (w8.heap.size + 1) (fun W => Bx W (w8.heap.size) 26 #[.int .i64 Q, .slice a6 0 c6]) w10) := H0.out.kept hb
    have Z10 : Hid (w9.heap.size ≤ w10.heap.size) := hb.size
    replace BB : Hid (Below w.heap.size w w10) := (show Hid _ from BB.out.trans (hb.mono BB.out.size))
    clear hb
    have W0_0 := W0.out.now.cell 0
    have W0_1 := W0.out.now.cell 1
    have G0_0 := G0.out.now.cell 0
    have G0_1 := G0.out.now.cell 1
    have H0_0 := H0.out.now.cell 0
    have H0_1 := H0.out.now.cell 1
    go_wp2_with fail
    clear W0_0 W0_1 G0_0 G0_1 H0_0 H0_1
    refine (hhm Q _ _ G.out.now.sls).mono ?_
    rintro e w11 ⟨rfl, hb⟩
    replace W0 : Hid (Liv w1.heap.size (w1.heap.size + 1) (fun W => Bx W (w1.heap.size) 26 #[.int .i64 Q, .slice none 0 0]) w11) := W0.out.kept hb
    replace G : Hid (Liv w2.heap.size w3.heap.size (RowF intE 2 w2.heap.size w3.heap.size (.slice a3 0 c3) (marksU 1 0)) w11) := G.out.kept hb
    replace G0 : Hid (Liv w3.heap.size (w3.heap.size + 1) (fun W => Bx W (w3.heap.size) 26 #[.int .i64 Q, .slice a3 0 c3]) w11) := G0.out.kept hb
    replace H : Hid (Liv w7.heap.size w8.heap.size (RowF intE 2 w7.heap.size w8.heap.size (.slice a6 0 c6) []) w11) := H.out.kept hb
    replace H0 : Hid (Liv w8.heap.size (w8.heap.size + 1) (fun W => Bx W (w8.heap.size) 26 #[.int .i64 Q, .slice a6 0 c6]) w11) := H0.out.kept hb
    have Z11 : Hid (w10.heap.size ≤ w11.heap.size) := hb.size
    replace BB : Hid (Below w.heap.size w w11) := (show Hid _ from BB.out.trans (hb.mono BB.out.size))
    clear hb
    have W0_0 := W0.out.now.cell 0
    have W0_1 := W0.out.now.cell 1
    have G0_0 := G0.out.now.cell 0
    have G0_1 := G0.out.now.cell 1
    have H0_0 := H0.out.now.cell 0
    have H0_1 := H0.out.now.cell 1
    go_wp2
    go_ret
    exact ⟨rfl, BB.out⟩
end Go.Proofs.Ytdoolnaekmffbaa
