/-
  The walk of FnExactMarked, given what the program's Marked answers.
-/
import Derived.Test.YtdoolnaekmffbaaSkG
namespace Go.Proofs.Ytdoolnaekmffbaa
open Go.RowKit Go.Sort Ow Sk
set_option linter.unusedVariables false
set_option linter.unusedSimpArgs false

set_option maxRecDepth 100000 in
set_option maxHeartbeats 8000000 in
theorem walkMrk (hi : ∀ (n : Int) (v : Value) (l : List Int) (key : ByteArray) (w : World), Sls intE w v l → l.length ≤ 1048576 → key.size ≤ 1048576 → Calls Try.prog 12 #[skV n v, .string key] w fun e w' => ∃ u, e = .returned (skV (mrkQ n l) u) ∧ HasN w' w.heap.size u (mrkL n l key) ∧ Below w.heap.size w w')
    (n : Int) (v : Value) (l : List Int) (key : ByteArray) (w : World) (h : Sls intE w v l) :
    Calls Try.prog 7 #[skV n v, .string key] w fun e w' => e = .returned (.bool true) ∧ Below w.heap.size w w' := by
  obtain ⟨a, cap, hv, _⟩ := h.one
  subst hv
  have HI : Hid (Sls intE w (.slice a l.length cap) l) := h
  by_cases hkf : key.size ≤ 1048576
  · have hsz := fun W hW => szSk n (.slice a l.length cap) l 1048576 (by decide) (by decide) W hW
    have hVf := szU_fit (left := 1048576) (l := l) (by decide)
    have hto := fun (hf : l.length ≤ 1048576) W hW => toSk n (.slice a l.length cap) l W hW hf
    have hel := fun (hf : l.length ≤ 1048576) u v W hu hv => (eqSk n u v l W hu hv hf).mono (fun e w' (h : _ ∧ Grew W w') => (⟨h.1, h.2.low⟩ : e = .returned (.bool true) ∧ Below W.heap.size W w'))
    have hsp := fun u W hW => specMrk n u l key W hW hkf
    have him := fun (hf : l.length ≤ 1048576) u W hW => hi n u l key W hW hf hkf
    have hml := mrkL_len n l key
    have hem := fun u v W hu hv => (eqSk (mrkQ n l) u v (mrkL n l key) W hu hv hml).mono (fun e w' (h : _ ∧ Grew W w') => (⟨h.1, h.2.low⟩ : e = .returned (.bool true) ∧ Below W.heap.size W w'))
    have hkl := fun (hf : l.length ≤ 1048576) u B W hu => markSk 1 (by decide) n u l B W hu hf
    have hkm := fun u B W hu => markSk 1 (by decide) (mrkQ n l) u (mrkL n l key) B W hu hml
    have hhm := fun u W hu => heldSk 1 (by decide) (mrkQ n l) u (mrkL n l key).length W hu hml
    generalize mrkQ n l = Q at hsp him hem hkm hhm
    generalize mrkL n l key = M at hsp him hem hkm hhm hml
    generalize szU 1048576 l = V at hsz hVf
    have hk0 : ¬ (((1 : Nat) : Int) + (l.length : Int)) < 0 := by omega
    generalize hkk : (((1 : Nat) : Int) + (l.length : Int)) = kk at hkl hk0
    generalize hmm : (((1 : Nat) : Int) + (M.length : Int)) = mm at hkm hhm
    have hm0 : ¬ mm < 0 := by omega
    have dmm : (mm != mm) = false := by simp
    unfold skV at *
    clear hi h hmm hkk
    have AA : Hid (Liv w.heap.size (w.heap.size + 1) (fun W => Bx W w.heap.size 44 #[.int .i64 n, .slice a l.length cap]) (w.alloc (.cells #[.int .i64 n, .slice a l.length cap] 44))) := (show Hid _ from Liv.box (Bx.new _ _ _))
    have BB : Hid (Below w.heap.size w (w.alloc (.cells #[.int .i64 n, .slice a l.length cap] 44))) := (Below.refl _ w).alloc (Nat.le_refl _) _
    have zA : (w.alloc (.cells #[.int .i64 n, .slice a l.length cap] 44)).heap.size = w.heap.size + 1 := by simp
    generalize hw1 : (w.alloc (.cells #[.int .i64 n, .slice a l.length cap] 44)) = w1 at BB zA AA
    have Z1 : Hid (w1.heap.size = w.heap.size + 1) := zA
    clear zA
    go_enter Try.func7, Try.ntmps7
    have AA_0 := AA.out.now.cell 0
    have AA_1 := AA.out.now.cell 1
    go_wp2_with fail
    clear hw1
    clear AA_0 AA_1
    refine (hsz _ (HI.out.kept BB.out)).mono ?_
    rintro e w2 ⟨rfl, hb⟩
    replace AA : Hid (Liv w.heap.size (w.heap.size + 1) (fun W => Bx W w.heap.size 44 #[.int .i64 n, .slice a l.length cap]) w2) := AA.out.kept hb
    have Z2 : Hid (w1.heap.size ≤ w2.heap.size) := hb.size
    replace BB : Hid (Below w.heap.size w w2) := (show Hid _ from BB.out.trans (hb.mono BB.out.size))
    clear hb
    have AA_0 := AA.out.now.cell 0
    have AA_1 := AA.out.now.cell 1
    by_cases hV : V < 0
    · go_wp2
      go_ret
      exact ⟨rfl, BB.out⟩
    obtain ⟨hf, _, _⟩ := hVf (by omega)
    replace hto := hto hf; replace him := him hf; replace hel := hel hf; replace hkl := hkl hf
    go_wp2_with fail
    clear AA_0 AA_1
    refine (hto _ (HI.out.kept BB.out)).mono ?_
    rintro e w3 ⟨u2, rfl, ho, hb⟩
    obtain ⟨a2, c2, rfl, _⟩ := ho.form
    replace AA : Hid (Liv w.heap.size (w.heap.size + 1) (fun W => Bx W w.heap.size 44 #[.int .i64 n, .slice a l.length cap]) w3) := AA.out.kept hb
    have U : Hid (Liv w2.heap.size w3.heap.size (RowF intE 2 w2.heap.size w3.heap.size (.slice a2 l.length c2) l) w3) := (show Hid _ from Liv.new ho.has)
    have Z3 : Hid (w2.heap.size ≤ w3.heap.size) := hb.size
    replace BB : Hid (Below w.heap.size w w3) := (show Hid _ from BB.out.trans (hb.mono BB.out.size))
    clear hb ho
    have AA_0 := AA.out.now.cell 0
    have AA_1 := AA.out.now.cell 1
    go_wp2_with fail
    clear AA_0 AA_1
    refine (hsp _ _ U.out.now.sls).mono ?_
    rintro e w4 ⟨u3, rfl, ho, hb⟩
    obtain ⟨a3, c3, rfl, _⟩ := ho.form
    replace AA : Hid (Liv w.heap.size (w.heap.size + 1) (fun W => Bx W w.heap.size 44 #[.int .i64 n, .slice a l.length cap]) w4) := AA.out.kept hb
    clear U
    have R : Hid (Liv w3.heap.size w4.heap.size (RowF intE 2 w3.heap.size w4.heap.size (.slice a3 M.length c3) M) w4) := (show Hid _ from Liv.new ho.has)
    have Z4 : Hid (w3.heap.size ≤ w4.heap.size) := hb.size
    replace BB : Hid (Below w.heap.size w w4) := (show Hid _ from BB.out.trans (hb.mono BB.out.size))
    clear hb ho
    have hbA : Below w4.heap.size w4 (w4.alloc (.cells #[.int .i64 Q, .slice a3 M.length c3] 26)) := (Below.refl _ _).alloc (Nat.le_refl _) _
    have zA : (w4.alloc (.cells #[.int .i64 Q, .slice a3 M.length c3] 26)).heap.size = w4.heap.size + 1 := by simp
    replace AA : Hid (Liv w.heap.size (w.heap.size + 1) (fun W => Bx W w.heap.size 44 #[.int .i64 n, .slice a l.length cap]) (w4.alloc (.cells #[.int .i64 Q, .slice a3 M.length c3] 26))) := AA.out.kept hbA
    replace R : Hid (Liv w3.heap.size w4.heap.size (RowF intE 2 w3.heap.size w4.heap.size (.slice a3 M.length c3) M) (w4.alloc (.cells #[.int .i64 Q, .slice a3 M.length c3] 26))) := R.out.kept hbA
    replace BB : Hid (Below w.heap.size w (w4.alloc (.cells #[.int .i64 Q, .slice a3 M.length c3] 26))) := (show Hid _ from BB.out.trans (hbA.mono BB.out.size))
    have W0 : Hid (Liv w4.heap.size (w4.heap.size + 1) (fun W => Bx W (w4.heap.size) 26 #[.int .i64 Q, .slice a3 M.length c3]) (w4.alloc (.cells #[.int .i64 Q, .slice a3 M.length c3] 26))) := (show Hid _ from Liv.box (Bx.new _ _ _))
    clear hbA
    generalize hww5 : (w4.alloc (.cells #[.int .i64 Q, .slice a3 M.length c3] 26)) = w5 at BB zA AA R W0
    have Z5 : Hid (w5.heap.size = w4.heap.size + 1) := zA
    clear zA
    have AA_0 := AA.out.now.cell 0
    have AA_1 := AA.out.now.cell 1
    have W0_0 := W0.out.now.cell 0
    have W0_1 := W0.out.now.cell 1
    go_wp2_with fail
    clear hww5
    clear AA_0 AA_1 W0_0 W0_1
    refine (hto _ (HI.out.kept BB.out)).mono ?_
    rintro e w6 ⟨u4, rfl, ho, hb⟩
    obtain ⟨a4, c4, rfl, _⟩ := ho.form
    replace AA : Hid (Liv w.heap.size (w.heap.size + 1) (fun W => Bx W w.heap.size 44 #[.int .i64 n, .slice a l.length cap]) w6) := AA.out.kept hb
    replace R : Hid (Liv w3.heap.size w4.heap.size (RowF intE 2 w3.heap.size w4.heap.size (.slice a3 M.length c3) M) w6) := R.out.kept hb
    replace W0 : Hid (Liv w4.heap.size (w4.heap.size + 1) (fun W => Bx W (w4.heap.size) 26 #[.int .i64 Q, .slice a3 M.length c3]) w6) := W0.out.kept hb
    have X : Hid (Liv w5.heap.size w6.heap.size (RowF intE 2 w5.heap.size w6.heap.size (.slice a4 l.length c4) l) w6) := (show Hid _ from Liv.new ho.has)
    have Z6 : Hid (w5.heap.size ≤ w6.heap.size) := hb.size
    replace BB : Hid (Below w.heap.size w w6) := (show Hid _ from BB.out.trans (hb.mono BB.out.size))
    clear hb ho
    have hbA : Below w6.heap.size w6 (w6.alloc (.cells #[.int .i64 n, .slice a4 l.length c4] 26)) := (Below.refl _ _).alloc (Nat.le_refl _) _
    have zA : (w6.alloc (.cells #[.int .i64 n, .slice a4 l.length c4] 26)).heap.size = w6.heap.size + 1 := by simp
    replace AA : Hid (Liv w.heap.size (w.heap.size + 1) (fun W => Bx W w.heap.size 44 #[.int .i64 n, .slice a l.length cap]) (w6.alloc (.cells #[.int .i64 n, .slice a4 l.length c4] 26))) := AA.out.kept hbA
    replace R : Hid (Liv w3.heap.size w4.heap.size (RowF intE 2 w3.heap.size w4.heap.size (.slice a3 M.length c3) M) (w6.alloc (.cells #[.int .i64 n, .slice a4 l.length c4] 26))) := R.out.kept hbA
    replace W0 : Hid (Liv w4.heap.size (w4.heap.size + 1) (fun W => Bx W (w4.heap.size) 26 #[.int .i64 Q, .slice a3 M.length c3]) (w6.alloc (.cells #[.int .i64 n, .slice a4 l.length c4] 26))) := W0.out.kept hbA
    replace X : Hid (Liv w5.heap.size w6.heap.size (RowF intE 2 w5.heap.size w6.heap.size (.slice a4 l.length c4) l) (w6.alloc (.cells #[.int .i64 n, .slice a4 l.length c4] 26))) := X.out.kept hbA
    replace BB : Hid (Below w.heap.size w (w6.alloc (.cells #[.int .i64 n, .slice a4 l.length c4] 26))) := (show Hid _ from BB.out.trans (hbA.mono BB.out.size))
    have X0 : Hid (Liv w6.heap.size (w6.heap.size + 1) (fun W => Bx W (w6.heap.size) 26 #[.int .i64 n, .slice a4 l.length c4]) (w6.alloc (.cells #[.int .i64 n, .slice a4 l.length c4] 26))) := (show Hid _ from Liv.box (Bx.new _ _ _))
    clear hbA
    generalize hww7 : (w6.alloc (.cells #[.int .i64 n, .slice a4 l.length c4] 26)) = w7 at BB zA AA R W0 X X0
    have Z7 : Hid (w7.heap.size = w6.heap.size + 1) := zA
    clear zA
    have AA_0 := AA.out.now.cell 0
    have AA_1 := AA.out.now.cell 1
    have W0_0 := W0.out.now.cell 0
    have W0_1 := W0.out.now.cell 1
    have X0_0 := X0.out.now.cell 0
    have X0_1 := X0.out.now.cell 1
    go_wp2_with fail
    clear hww7
    clear AA_0 AA_1 W0_0 W0_1 X0_0 X0_1
    refine (him _ _ X.out.now.sls).mono ?_
    rintro e w8 ⟨u5, rfl, ho, hb⟩
    obtain ⟨a5, c5, rfl, _⟩ := ho.form
    replace AA : Hid (Liv w.heap.size (w.heap.size + 1) (fun W => Bx W w.heap.size 44 #[.int .i64 n, .slice a l.length cap]) w8) := AA.out.kept hb
    replace R : Hid (Liv w3.heap.size w4.heap.size (RowF intE 2 w3.heap.size w4.heap.size (.slice a3 M.length c3) M) w8) := R.out.kept hb
    replace W0 : Hid (Liv w4.heap.size (w4.heap.size + 1) (fun W => Bx W (w4.heap.size) 26 #[.int .i64 Q, .slice a3 M.length c3]) w8) := W0.out.kept hb
    replace X : Hid (Liv w5.heap.size w6.heap.size (RowF intE 2 w5.heap.size w6.heap.size (.slice a4 l.length c4) l) w8) := X.out.kept hb
    replace X0 : Hid (Liv w6.heap.size (w6.heap.size + 1) (fun W => Bx W (w6.heap.size) 26 #[.int .i64 n, .slice a4 l.length c4]) w8) := X0.out.kept hb
    have G : Hid (Liv w7.heap.size w8.heap.size (RowF intE 2 w7.heap.size w8.heap.size (.slice a5 M.length c5) M) w8) := (show Hid _ from Liv.new ho)
    have Z8 : Hid (w7.heap.size ≤ w8.heap.size) := hb.size
    replace BB : Hid (Below w.heap.size w w8) := (show Hid _ from BB.out.trans (hb.mono BB.out.size))
    clear hb ho
    have hbA : Below w8.heap.size w8 (w8.alloc (.cells #[.int .i64 Q, .slice a5 M.length c5] 26)) := (Below.refl _ _).alloc (Nat.le_refl _) _
    have zA : (w8.alloc (.cells #[.int .i64 Q, .slice a5 M.length c5] 26)).heap.size = w8.heap.size + 1 := by simp
    replace AA : Hid (Liv w.heap.size (w.heap.size + 1) (fun W => Bx W w.heap.size 44 #[.int .i64 n, .slice a l.length cap]) (w8.alloc (.cells #[.int .i64 Q, .slice a5 M.length c5] 26))) := AA.out.kept hbA
    replace R : Hid (Liv w3.heap.size w4.heap.size (RowF intE 2 w3.heap.size w4.heap.size (.slice a3 M.length c3) M) (w8.alloc (.cells #[.int .i64 Q, .slice a5 M.length c5] 26))) := R.out.kept hbA
    replace W0 : Hid (Liv w4.heap.size (w4.heap.size + 1) (fun W => Bx W (w4.heap.size) 26 #[.int .i64 Q, .slice a3 M.length c3]) (w8.alloc (.cells #[.int .i64 Q, .slice a5 M.length c5] 26))) := W0.out.kept hbA
    replace X : Hid (Liv w5.heap.size w6.heap.size (RowF intE 2 w5.heap.size w6.heap.size (.slice a4 l.length c4) l) (w8.alloc (.cells #[.int .i64 Q, .slice a5 M.length c5] 26))) := X.out.kept hbA
    replace X0 : Hid (Liv w6.heap.size (w6.heap.size + 1) (fun W => Bx W (w6.heap.size) 26 #[.int .i64 n, .slice a4 l.length c4]) (w8.alloc (.cells #[.int .i64 Q, .slice a5 M.length c5] 26))) := X0.out.kept hbA
    replace G : Hid (Liv w7.heap.size w8.heap.size (RowF intE 2 w7.heap.size w8.heap.size (.slice a5 M.length c5) M) (w8.alloc (.cells #[.int .i64 Q, .slice a5 M.length c5] 26))) := G.out.kept hbA
    replace BB : Hid (Below w.heap.size w (w8.alloc (.cells #[.int .i64 Q, .slice a5 M.length c5] 26))) := (show Hid _ from BB.out.trans (hbA.mono BB.out.size))
    have G0 : Hid (Liv w8.heap.size (w8.heap.size + 1) (fun W => Bx W (w8.heap.size) 26 #[.int .i64 Q, .slice a5 M.length c5]) (w8.alloc (.cells #[.int .i64 Q, .slice a5 M.length c5] 26))) := (show Hid _ from Liv.box (Bx.new _ _ _))
    clear hbA
    generalize hww9 : (w8.alloc (.cells #[.int .i64 Q, .slice a5 M.length c5] 26)) = w9 at BB zA AA R W0 X X0 G G0
    have Z9 : Hid (w9.heap.size = w8.heap.size + 1) := zA
    clear zA
    have AA_0 := AA.out.now.cell 0
    have AA_1 := AA.out.now.cell 1
    have W0_0 := W0.out.now.cell 0
    have W0_1 := W0.out.now.cell 1
    have X0_0 := X0.out.now.cell 0
    have X0_1 := X0.out.now.cell 1
    have G0_0 := G0.out.now.cell 0
    have G0_1 := G0.out.now.cell 1
    go_wp2_with fail
    clear hww9
    clear AA_0 AA_1 W0_0 W0_1 X0_0 X0_1 G0_0 G0_1
    refine (hem _ _ _ G.out.now.sls R.out.now.sls).mono ?_
    rintro e w10 ⟨rfl, hb⟩
    replace AA : Hid (Liv w.heap.size (w.heap.size + 1) (fun W => Bx W w.heap.size 44 #[.int .i64 n, .slice a l.length cap]) w10) := AA.out.kept hb
    replace R : Hid (Liv w3.heap.size w4.heap.size (RowF intE 2 w3.heap.size w4.heap.size (.slice a3 M.length c3) M) w10) := R.out.kept hb
    replace W0 : Hid (Liv w4.heap.size (w4.heap.size + 1) (fun W => Bx W (w4.heap.size) 26 #[.int .i64 Q, .slice a3 M.length c3]) w10) := W0.out.kept hb
    replace X : Hid (Liv w5.heap.size w6.heap.size (RowF intE 2 w5.heap.size w6.heap.size (.slice a4 l.length c4) l) w10) := X.out.kept hb
    replace X0 : Hid (Liv w6.heap.size (w6.heap.size + 1) (fun W => Bx W (w6.heap.size) 26 #[.int .i64 n, .slice a4 l.length c4]) w10) := X0.out.kept hb
    replace G : Hid (Liv w7.heap.size w8.heap.size (RowF intE 2 w7.heap.size w8.heap.size (.slice a5 M.length c5) M) w10) := G.out.kept hb
    replace G0 : Hid (Liv w8.heap.size (w8.heap.size + 1) (fun W => Bx W (w8.heap.size) 26 #[.int .i64 Q, .slice a5 M.length c5]) w10) := G0.out.kept hb
    have Z10 : Hid (w9.heap.size ≤ w10.heap.size) := hb.size
    replace BB : Hid (Below w.heap.size w w10) := (show Hid _ from BB.out.trans (hb.mono BB.out.size))
    clear hb
    have AA_0 := AA.out.now.cell 0
    have AA_1 := AA.out.now.cell 1
    have W0_0 := W0.out.now.cell 0
    have W0_1 := W0.out.now.cell 1
    have X0_0 := X0.out.now.cell 0
    have X0_1 := X0.out.now.cell 1
    have G0_0 := G0.out.now.cell 0
    have G0_1 := G0.out.now.cell 1
    go_wp2_with fail
    go_cut [38] from 34 to 38 (fun s wx => s = .bool false ∧ Hid (Below w.heap.size w wx) ∧ Hid (Liv w.heap.size (w.heap.size + 1) (fun W => Bx W w.heap.size 44 #[.int .i64 n, .slice a l.length cap]) wx) ∧ Hid (Liv w3.heap.size w4.heap.size (RowF intE 2 w3.heap.size w4.heap.size (.slice a3 M.length c3) M) wx) ∧ Hid (Liv w4.heap.size (w4.heap.size + 1) (fun W => Bx W (w4.heap.size) 26 #[.int .i64 Q, .slice a3 M.length c3]) wx) ∧ Hid (Liv w5.heap.size w6.heap.size (RowF intE 2 w5.heap.size w6.heap.size (.slice a4 l.length c4) l) wx) ∧ Hid (Liv w6.heap.size (w6.heap.size + 1) (fun W => Bx W (w6.heap.size) 26 #[.int .i64 n, .slice a4 l.length c4]) wx) ∧ Hid (Liv w7.heap.size w8.heap.size (RowF intE 2 w7.heap.size w8.heap.size (.slice a5 M.length c5) M) wx) ∧ Hid (Liv w8.heap.size (w8.heap.size + 1) (fun W => Bx W (w8.heap.size) 26 #[.int .i64 Q, .slice a5 M.length c5]) wx) ∧ Hid (w10.heap.size ≤ wx.heap.size))
    case first =>
      have hD : Below w10.heap.size w10 w10.drew := ⟨rfl, rfl, rfl, Nat.le_refl _, fun _ _ => rfl⟩
      replace BB : Hid (Below w.heap.size w w10.drew) := (show Hid _ from BB.out.trans (hD.mono BB.out.size))
      replace AA : Hid (Liv w.heap.size (w.heap.size + 1) (fun W => Bx W w.heap.size 44 #[.int .i64 n, .slice a l.length cap]) w10.drew) := AA.out.kept hD
      replace R : Hid (Liv w3.heap.size w4.heap.size (RowF intE 2 w3.heap.size w4.heap.size (.slice a3 M.length c3) M) w10.drew) := R.out.kept hD
      replace W0 : Hid (Liv w4.heap.size (w4.heap.size + 1) (fun W => Bx W (w4.heap.size) 26 #[.int .i64 Q, .slice a3 M.length c3]) w10.drew) := W0.out.kept hD
      replace X : Hid (Liv w5.heap.size w6.heap.size (RowF intE 2 w5.heap.size w6.heap.size (.slice a4 l.length c4) l) w10.drew) := X.out.kept hD
      replace X0 : Hid (Liv w6.heap.size (w6.heap.size + 1) (fun W => Bx W (w6.heap.size) 26 #[.int .i64 n, .slice a4 l.length c4]) w10.drew) := X0.out.kept hD
      replace G : Hid (Liv w7.heap.size w8.heap.size (RowF intE 2 w7.heap.size w8.heap.size (.slice a5 M.length c5) M) w10.drew) := G.out.kept hD
      replace G0 : Hid (Liv w8.heap.size (w8.heap.size + 1) (fun W => Bx W (w8.heap.size) 26 #[.int .i64 Q, .slice a5 M.length c5]) w10.drew) := G0.out.kept hD
      clear hD
      go_region_with (first
        | (go_at_call 31; refine (hto _ (by exact HI.out.kept BB.out)).mono ?_; rintro e vT ⟨uT, rfl, ho, hb⟩; obtain ⟨aT, cT, rfl, _⟩ := ho.form; have UT : Hid (Sls intE vT (.slice aT l.length cT) l) := ho.sls; have AAT : Hid (Liv w.heap.size (w.heap.size + 1) (fun W => Bx W w.heap.size 44 #[.int .i64 n, .slice a l.length cap]) vT) := AA.out.kept hb; have RT : Hid (Liv w3.heap.size w4.heap.size (RowF intE 2 w3.heap.size w4.heap.size (.slice a3 M.length c3) M) vT) := R.out.kept hb; have W0T : Hid (Liv w4.heap.size (w4.heap.size + 1) (fun W => Bx W (w4.heap.size) 26 #[.int .i64 Q, .slice a3 M.length c3]) vT) := W0.out.kept hb; have XT : Hid (Liv w5.heap.size w6.heap.size (RowF intE 2 w5.heap.size w6.heap.size (.slice a4 l.length c4) l) vT) := X.out.kept hb; have X0T : Hid (Liv w6.heap.size (w6.heap.size + 1) (fun W => Bx W (w6.heap.size) 26 #[.int .i64 n, .slice a4 l.length c4]) vT) := X0.out.kept hb; have GT : Hid (Liv w7.heap.size w8.heap.size (RowF intE 2 w7.heap.size w8.heap.size (.slice a5 M.length c5) M) vT) := G.out.kept hb; have G0T : Hid (Liv w8.heap.size (w8.heap.size + 1) (fun W => Bx W (w8.heap.size) 26 #[.int .i64 Q, .slice a5 M.length c5]) vT) := G0.out.kept hb; have AAT_0 := AAT.out.now.cell 0; have AAT_1 := AAT.out.now.cell 1; have W0T_0 := W0T.out.now.cell 0; have W0T_1 := W0T.out.now.cell 1; have X0T_0 := X0T.out.now.cell 0; have X0T_1 := X0T.out.now.cell 1; have G0T_0 := G0T.out.now.cell 0; have G0T_1 := G0T.out.now.cell 1; have BBT : Hid (Below w.heap.size w vT) := (show Hid _ from BB.out.trans (hb.mono BB.out.size)); have ZT : Hid (w10.heap.size ≤ vT.heap.size) := hb.size; clear ho hb)
        | (go_at_call 32; refine (hel _ _ _ (by exact XT.out.now.sls) (by exact UT.out)).mono ?_; rintro e vE ⟨rfl, hb⟩; have AAE : Hid (Liv w.heap.size (w.heap.size + 1) (fun W => Bx W w.heap.size 44 #[.int .i64 n, .slice a l.length cap]) vE) := AAT.out.kept hb; have RE : Hid (Liv w3.heap.size w4.heap.size (RowF intE 2 w3.heap.size w4.heap.size (.slice a3 M.length c3) M) vE) := RT.out.kept hb; have W0E : Hid (Liv w4.heap.size (w4.heap.size + 1) (fun W => Bx W (w4.heap.size) 26 #[.int .i64 Q, .slice a3 M.length c3]) vE) := W0T.out.kept hb; have XE : Hid (Liv w5.heap.size w6.heap.size (RowF intE 2 w5.heap.size w6.heap.size (.slice a4 l.length c4) l) vE) := XT.out.kept hb; have X0E : Hid (Liv w6.heap.size (w6.heap.size + 1) (fun W => Bx W (w6.heap.size) 26 #[.int .i64 n, .slice a4 l.length c4]) vE) := X0T.out.kept hb; have GE : Hid (Liv w7.heap.size w8.heap.size (RowF intE 2 w7.heap.size w8.heap.size (.slice a5 M.length c5) M) vE) := GT.out.kept hb; have G0E : Hid (Liv w8.heap.size (w8.heap.size + 1) (fun W => Bx W (w8.heap.size) 26 #[.int .i64 Q, .slice a5 M.length c5]) vE) := G0T.out.kept hb; have BBE : Hid (Below w.heap.size w vE) := (show Hid _ from BBT.out.trans (hb.mono BBT.out.size)); have ZE : Hid (w10.heap.size ≤ vE.heap.size) := (show Hid _ from Nat.le_trans ZT.out hb.size); clear hb))
      all_goals (try go_wp2_with fail)
      all_goals go_meet
      all_goals exact ⟨rfl, BBE, AAE, RE, W0E, XE, X0E, GE, G0E, ZE⟩
    case rest =>
      clear AA_0 AA_1 W0_0 W0_1 X0_0 X0_1 G0_0 G0_1
      clear BB AA R W0 X X0 G G0
      obtain ⟨rfl, BB, AA, R, W0, X, X0, G, G0, Z11⟩ := hcut
      obtain ⟨w11, rfl⟩ : ∃ z, z = wc := ⟨wc, rfl⟩
      have AA_0 := AA.out.now.cell 0
      have AA_1 := AA.out.now.cell 1
      have W0_0 := W0.out.now.cell 0
      have W0_1 := W0.out.now.cell 1
      have X0_0 := X0.out.now.cell 0
      have X0_1 := X0.out.now.cell 1
      have G0_0 := G0.out.now.cell 0
      have G0_1 := G0.out.now.cell 1
      go_wp2_with fail
      clear AA_0 AA_1 W0_0 W0_1 X0_0 X0_1 G0_0 G0_1
      refine (hkl _ _ _ X.out.now.1).mono ?_
      rintro e w12 ⟨rfl, hm, hb⟩
      have hc : Chg w5.heap.size w6.heap.size w11 w12 := X.out.now.chg hb
      replace AA : Hid (Liv w.heap.size (w.heap.size + 1) (fun W => Bx W w.heap.size 44 #[.int .i64 n, .slice a l.length cap]) w12) := AA.out.off hc (by have := Z1.out; have := Z2.out; have := Z3.out; have := Z4.out; have := Z5.out; have := Z6.out; have := Z7.out; have := Z8.out; have := Z9.out; have := Z10.out; have := Z11.out; omega)
      replace R : Hid (Liv w3.heap.size w4.heap.size (RowF intE 2 w3.heap.size w4.heap.size (.slice a3 M.length c3) M) w12) := R.out.off hc (by have := Z1.out; have := Z2.out; have := Z3.out; have := Z4.out; have := Z5.out; have := Z6.out; have := Z7.out; have := Z8.out; have := Z9.out; have := Z10.out; have := Z11.out; omega)
      replace W0 : Hid (Liv w4.heap.size (w4.heap.size + 1) (fun W => Bx W (w4.heap.size) 26 #[.int .i64 Q, .slice a3 M.length c3]) w12) := W0.out.off hc (by have := Z1.out; have := Z2.out; have := Z3.out; have := Z4.out; have := Z5.out; have := Z6.out; have := Z7.out; have := Z8.out; have := Z9.out; have := Z10.out; have := Z11.out; omega)
      replace X : Hid (Liv w5.heap.size w6.heap.size (RowF intE 2 w5.heap.size w6.heap.size (.slice a4 l.length c4) (marksU 1 l.length)) w12) := (show Hid _ from X.out.marked hm hb)
      replace X0 : Hid (Liv w6.heap.size (w6.heap.size + 1) (fun W => Bx W (w6.heap.size) 26 #[.int .i64 n, .slice a4 l.length c4]) w12) := X0.out.off hc (by have := Z1.out; have := Z2.out; have := Z3.out; have := Z4.out; have := Z5.out; have := Z6.out; have := Z7.out; have := Z8.out; have := Z9.out; have := Z10.out; have := Z11.out; omega)
      replace G : Hid (Liv w7.heap.size w8.heap.size (RowF intE 2 w7.heap.size w8.heap.size (.slice a5 M.length c5) M) w12) := G.out.off hc (by have := Z1.out; have := Z2.out; have := Z3.out; have := Z4.out; have := Z5.out; have := Z6.out; have := Z7.out; have := Z8.out; have := Z9.out; have := Z10.out; have := Z11.out; omega)
      replace G0 : Hid (Liv w8.heap.size (w8.heap.size + 1) (fun W => Bx W (w8.heap.size) 26 #[.int .i64 Q, .slice a5 M.length c5]) w12) := G0.out.off hc (by have := Z1.out; have := Z2.out; have := Z3.out; have := Z4.out; have := Z5.out; have := Z6.out; have := Z7.out; have := Z8.out; have := Z9.out; have := Z10.out; have := Z11.out; omega)
      have Z12 : Hid (w11.heap.size ≤ w12.heap.size) := hc.size
      replace BB : Hid (Below w.heap.size w w12) := (show Hid _ from hc.below BB.out BB.out.size (by have := Z1.out; have := Z2.out; have := Z3.out; have := Z4.out; have := Z5.out; have := Z6.out; have := Z7.out; have := Z8.out; have := Z9.out; have := Z10.out; have := Z11.out; have := Z12.out; omega))
      clear hb hc hm
      have AA_0 := AA.out.now.cell 0
      have AA_1 := AA.out.now.cell 1
      have W0_0 := W0.out.now.cell 0
      have W0_1 := W0.out.now.cell 1
      have X0_0 := X0.out.now.cell 0
      have X0_1 := X0.out.now.cell 1
      have G0_0 := G0.out.now.cell 0
      have G0_1 := G0.out.now.cell 1
      go_wp2_with fail
      clear AA_0 AA_1 W0_0 W0_1 X0_0 X0_1 G0_0 G0_1
      refine (hem _ _ _ G.out.now.sls R.out.now.sls).mono ?_
      rintro e w13 ⟨rfl, hb⟩
      clear X0
      replace AA : Hid (Liv w.heap.size (w.heap.size + 1) (fun W => Bx W w.heap.size 44 #[.int .i64 n, .slice a l.length cap]) w13) := AA.out.kept hb
      replace R : Hid (Liv w3.heap.size w4.heap.size (RowF intE 2 w3.heap.size w4.heap.size (.slice a3 M.length c3) M) w13) := R.out.kept hb
      replace W0 : Hid (Liv w4.heap.size (w4.heap.size + 1) (fun W => Bx W (w4.heap.size) 26 #[.int .i64 Q, .slice a3 M.length c3]) w13) := W0.out.kept hb
      replace G : Hid (Liv w7.heap.size w8.heap.size (RowF intE 2 w7.heap.size w8.heap.size (.slice a5 M.length c5) M) w13) := G.out.kept hb
      replace G0 : Hid (Liv w8.heap.size (w8.heap.size + 1) (fun W => Bx W (w8.heap.size) 26 #[.int .i64 Q, .slice a5 M.length c5]) w13) := G0.out.kept hb
      clear X
      have Z13 : Hid (w12.heap.size ≤ w13.heap.size) := hb.size
      replace BB : Hid (Below w.heap.size w w13) := (show Hid _ from BB.out.trans (hb.mono BB.out.size))
      clear hb
      have AA_0 := AA.out.now.cell 0
      have AA_1 := AA.out.now.cell 1
      have W0_0 := W0.out.now.cell 0
      have W0_1 := W0.out.now.cell 1
      have G0_0 := G0.out.now.cell 0
      have G0_1 := G0.out.now.cell 1
      go_wp2_with fail
      clear AA_0 AA_1 W0_0 W0_1 G0_0 G0_1
      refine (hkm _ _ _ G.out.now.1).mono ?_
      rintro e w14 ⟨rfl, hm, hb⟩
      have hc : Chg w7.heap.size w8.heap.size w13 w14 := G.out.now.chg hb
      replace AA : Hid (Liv w.heap.size (w.heap.size + 1) (fun W => Bx W w.heap.size 44 #[.int .i64 n, .slice a l.length cap]) w14) := AA.out.off hc (by have := Z1.out; have := Z2.out; have := Z3.out; have := Z4.out; have := Z5.out; have := Z6.out; have := Z7.out; have := Z8.out; have := Z9.out; have := Z10.out; have := Z11.out; have := Z12.out; have := Z13.out; omega)
      replace R : Hid (Liv w3.heap.size w4.heap.size (RowF intE 2 w3.heap.size w4.heap.size (.slice a3 M.length c3) M) w14) := R.out.off hc (by have := Z1.out; have := Z2.out; have := Z3.out; have := Z4.out; have := Z5.out; have := Z6.out; have := Z7.out; have := Z8.out; have := Z9.out; have := Z10.out; have := Z11.out; have := Z12.out; have := Z13.out; omega)
      replace W0 : Hid (Liv w4.heap.size (w4.heap.size + 1) (fun W => Bx W (w4.heap.size) 26 #[.int .i64 Q, .slice a3 M.length c3]) w14) := W0.out.off hc (by have := Z1.out; have := Z2.out; have := Z3.out; have := Z4.out; have := Z5.out; have := Z6.out; have := Z7.out; have := Z8.out; have := Z9.out; have := Z10.out; have := Z11.out; have := Z12.out; have := Z13.out; omega)
      replace G : Hid (Liv w7.heap.size w8.heap.size (RowF intE 2 w7.heap.size w8.heap.size (.slice a5 M.length c5) (marksU 1 M.length)) w14) := (show Hid _ from G.out.marked hm hb)
      replace G0 : Hid (Liv w8.heap.size (w8.heap.size + 1) (fun W => Bx W (w8.heap.size) 26 #[.int .i64 Q, .slice a5 M.length c5]) w14) := G0.out.off hc (by have := Z1.out; have := Z2.out; have := Z3.out; have := Z4.out; have := Z5.out; have := Z6.out; have := Z7.out; have := Z8.out; have := Z9.out; have := Z10.out; have := Z11.out; have := Z12.out; have := Z13.out; omega)
      have Z14 : Hid (w13.heap.size ≤ w14.heap.size) := hc.size
      replace BB : Hid (Below w.heap.size w w14) := (show Hid _ from hc.below BB.out BB.out.size (by have := Z1.out; have := Z2.out; have := Z3.out; have := Z4.out; have := Z5.out; have := Z6.out; have := Z7.out; have := Z8.out; have := Z9.out; have := Z10.out; have := Z11.out; have := Z12.out; have := Z13.out; have := Z14.out; omega))
      clear hb hc hm
      have AA_0 := AA.out.now.cell 0
      have AA_1 := AA.out.now.cell 1
      have W0_0 := W0.out.now.cell 0
      have W0_1 := W0.out.now.cell 1
      have G0_0 := G0.out.now.cell 0
      have G0_1 := G0.out.now.cell 1
      go_wp2_with fail
      clear AA_0 AA_1 W0_0 W0_1 G0_0 G0_1
      refine (hhm _ _ G.out.now.sls).mono ?_
      rintro e w15 ⟨rfl, hb⟩
      replace AA : Hid (Liv w.heap.size (w.heap.size + 1) (fun W => Bx W w.heap.size 44 #[.int .i64 n, .slice a l.length cap]) w15) := AA.out.kept hb
      replace R : Hid (Liv w3.heap.size w4.heap.size (RowF intE 2 w3.heap.size w4.heap.size (.slice a3 M.length c3) M) w15) := R.out.kept hb
      replace W0 : Hid (Liv w4.heap.size (w4.heap.size + 1) (fun W => Bx W (w4.heap.size) 26 #[.int .i64 Q, .slice a3 M.length c3]) w15) := W0.out.kept hb
      replace G : Hid (Liv w7.heap.size w8.heap.size (RowF intE 2 w7.heap.size w8.heap.size (.slice a5 M.length c5) (marksU 1 M.length)) w15) := G.out.kept hb
      replace G0 : Hid (Liv w8.heap.size (w8.heap.size + 1) (fun W => Bx W (w8.heap.size) 26 #[.int .i64 Q, .slice a5 M.length c5]) w15) := G0.out.kept hb
      have Z15 : Hid (w14.heap.size ≤ w15.heap.size) := hb.size
      replace BB : Hid (Below w.heap.size w w15) := (show Hid _ from BB.out.trans (hb.mono BB.out.size))
      clear hb
      have AA_0 := AA.out.now.cell 0
      have AA_1 := AA.out.now.cell 1
      have W0_0 := W0.out.now.cell 0
      have W0_1 := W0.out.now.cell 1
      have G0_0 := G0.out.now.cell 0
      have G0_1 := G0.out.now.cell 1
      go_wp2_with fail
      clear AA_0 AA_1 W0_0 W0_1 G0_0 G0_1
      refine (hto _ (HI.out.kept BB.out)).mono ?_
      rintro e w16 ⟨u7, rfl, ho, hb⟩
      obtain ⟨a7, c7, rfl, _⟩ := ho.form
      replace AA : Hid (Liv w.heap.size (w.heap.size + 1) (fun W => Bx W w.heap.size 44 #[.int .i64 n, .slice a l.length cap]) w16) := AA.out.kept hb
      replace R : Hid (Liv w3.heap.size w4.heap.size (RowF intE 2 w3.heap.size w4.heap.size (.slice a3 M.length c3) M) w16) := R.out.kept hb
      replace W0 : Hid (Liv w4.heap.size (w4.heap.size + 1) (fun W => Bx W (w4.heap.size) 26 #[.int .i64 Q, .slice a3 M.length c3]) w16) := W0.out.kept hb
      replace G : Hid (Liv w7.heap.size w8.heap.size (RowF intE 2 w7.heap.size w8.heap.size (.slice a5 M.length c5) (marksU 1 M.length)) w16) := G.out.kept hb
      replace G0 : Hid (Liv w8.heap.size (w8.heap.size + 1) (fun W => Bx W (w8.heap.size) 26 #[.int .i64 Q, .slice a5 M.length c5]) w16) := G0.out.kept hb
      have U : Hid (Liv w15.heap.size w16.heap.size (RowF intE 2 w15.heap.size w16.heap.size (.slice a7 l.length c7) l) w16) := (show Hid _ from Liv.new ho.has)
      have Z16 : Hid (w15.heap.size ≤ w16.heap.size) := hb.size
      replace BB : Hid (Below w.heap.size w w16) := (show Hid _ from BB.out.trans (hb.mono BB.out.size))
      clear hb ho
      have AA_0 := AA.out.now.cell 0
      have AA_1 := AA.out.now.cell 1
      have W0_0 := W0.out.now.cell 0
      have W0_1 := W0.out.now.cell 1
      have G0_0 := G0.out.now.cell 0
      have G0_1 := G0.out.now.cell 1
      go_wp2_with fail
      clear AA_0 AA_1 W0_0 W0_1 G0_0 G0_1
      refine (him _ _ U.out.now.sls).mono ?_
      rintro e w17 ⟨u8, rfl, ho, hb⟩
      obtain ⟨a8, c8, rfl, _⟩ := ho.form
      replace AA : Hid (Liv w.heap.size (w.heap.size + 1) (fun W => Bx W w.heap.size 44 #[.int .i64 n, .slice a l.length cap]) w17) := AA.out.kept hb
      replace R : Hid (Liv w3.heap.size w4.heap.size (RowF intE 2 w3.heap.size w4.heap.size (.slice a3 M.length c3) M) w17) := R.out.kept hb
      replace W0 : Hid (Liv w4.heap.size (w4.heap.size + 1) (fun W => Bx W (w4.heap.size) 26 #[.int .i64 Q, .slice a3 M.length c3]) w17) := W0.out.kept hb
      replace G : Hid (Liv w7.heap.size w8.heap.size (RowF intE 2 w7.heap.size w8.heap.size (.slice a5 M.length c5) (marksU 1 M.length)) w17) := G.out.kept hb
      replace G0 : Hid (Liv w8.heap.size (w8.heap.size + 1) (fun W => Bx W (w8.heap.size) 26 #[.int .i64 Q, .slice a5 M.length c5]) w17) := G0.out.kept hb
      clear U
      have H : Hid (Liv w16.heap.size w17.heap.size (RowF intE 2 w16.heap.size w17.heap.size (.slice a8 M.length c8) M) w17) := (show Hid _ from Liv.new ho)
      have Z17 : Hid (w16.heap.size ≤ w17.heap.size) := hb.size
      replace BB : Hid (Below w.heap.size w w17) := (show Hid _ from BB.out.trans (hb.mono BB.out.size))
      clear hb ho
      have hbA : Below w17.heap.size w17 (w17.alloc (.cells #[.int .i64 Q, .slice a8 M.length c8] 26)) := (Below.refl _ _).alloc (Nat.le_refl _) _
      have zA : (w17.alloc (.cells #[.int .i64 Q, .slice a8 M.length c8] 26)).heap.size = w17.heap.size + 1 := by simp
      replace AA : Hid (Liv w.heap.size (w.heap.size + 1) (fun W => Bx W w.heap.size 44 #[.int .i64 n, .slice a l.length cap]) (w17.alloc (.cells #[.int .i64 Q, .slice a8 M.length c8] 26))) := AA.out.kept hbA
      replace R : Hid (Liv w3.heap.size w4.heap.size (RowF intE 2 w3.heap.size w4.heap.size (.slice a3 M.length c3) M) (w17.alloc (.cells #[.int .i64 Q, .slice a8 M.length c8] 26))) := R.out.kept hbA
      replace W0 : Hid (Liv w4.heap.size (w4.heap.size + 1) (fun W => Bx W (w4.heap.size) 26 #[.int .i64 Q, .slice a3 M.length c3]) (w17.alloc (.cells #[.int .i64 Q, .slice a8 M.length c8] 26))) := W0.out.kept hbA
      replace G : Hid (Liv w7.heap.size w8.heap.size (RowF intE 2 w7.heap.size w8.heap.size (.slice a5 M.length c5) (marksU 1 M.length)) (w17.alloc (.cells #[.int .i64 Q, .slice a8 M.length c8] 26))) := G.out.kept hbA
      replace G0 : Hid (Liv w8.heap.size (w8.heap.size + 1) (fun W => Bx W (w8.heap.size) 26 #[.int .i64 Q, .slice a5 M.length c5]) (w17.alloc (.cells #[.int .i64 Q, .slice a8 M.length c8] 26))) := G0.out.kept hbA
      replace H : Hid (Liv w16.heap.size w17.heap.size (RowF intE 2 w16.heap.size w17.heap.size (.slice a8 M.length c8) M) (w17.alloc (.cells #[.int .i64 Q, .slice a8 M.length c8] 26))) := H.out.kept hbA
      replace BB : Hid (Below w.heap.size w (w17.alloc (.cells #[.int .i64 Q, .slice a8 M.length c8] 26))) := (show Hid _ from BB.out.trans (hbA.mono BB.out.size))
      have H0 : Hid (Liv w17.heap.size (w17.heap.size + 1) (fun W => Bx W (w17.heap.size) 26 #[.int .i64 Q, .slice a8 M.length c8]) (w17.alloc (.cells #[.int .i64 Q, .slice a8 M.length c8] 26))) := (show Hid _ from Liv.box (Bx.new _ _ _))
      clear hbA
      generalize hww18 : (w17.alloc (.cells #[.int .i64 Q, .slice a8 M.length c8] 26)) = w18 at BB zA AA R W0 G G0 H H0
      have Z18 : Hid (w18.heap.size = w17.heap.size + 1) := zA
      clear zA
      have AA_0 := AA.out.now.cell 0
      have AA_1 := AA.out.now.cell 1
      have W0_0 := W0.out.now.cell 0
      have W0_1 := W0.out.now.cell 1
      have G0_0 := G0.out.now.cell 0
      have G0_1 := G0.out.now.cell 1
      have H0_0 := H0.out.now.cell 0
      have H0_1 := H0.out.now.cell 1
      go_wp2_with fail
      clear hww18
      clear AA_0 AA_1 W0_0 W0_1 G0_0 G0_1 H0_0 H0_1
      refine (hem _ _ _ H.out.now.sls R.out.now.sls).mono ?_
      rintro e w19 ⟨rfl, hb⟩
      replace AA : Hid (Liv w.heap.size (w.heap.size + 1) (fun W => Bx W w.heap.size 44 #[.int .i64 n, .slice a l.length cap]) w19) := AA.out.kept hb
      replace R : Hid (Liv w3.heap.size w4.heap.size (RowF intE 2 w3.heap.size w4.heap.size (.slice a3 M.length c3) M) w19) := R.out.kept hb
      replace W0 : Hid (Liv w4.heap.size (w4.heap.size + 1) (fun W => Bx W (w4.heap.size) 26 #[.int .i64 Q, .slice a3 M.length c3]) w19) := W0.out.kept hb
      replace G : Hid (Liv w7.heap.size w8.heap.size (RowF intE 2 w7.heap.size w8.heap.size (.slice a5 M.length c5) (marksU 1 M.length)) w19) := G.out.kept hb
      replace G0 : Hid (Liv w8.heap.size (w8.heap.size + 1) (fun W => Bx W (w8.heap.size) 26 #[.int .i64 Q, .slice a5 M.length c5]) w19) := G0.out.kept hb
      replace H : Hid (Liv w16.heap.size w17.heap.size (RowF intE 2 w16.heap.size w17.heap.size (.slice a8 M.length c8) M) w19) := H.out.kept hb
      replace H0 : Hid (Liv w17.heap.size (w17.heap.size + 1) (fun W => Bx W (w17.heap.size) 26 #[.int .i64 Q, .slice a8 M.length c8]) w19) := H0.out.kept hb
      have Z19 : Hid (w18.heap.size ≤ w19.heap.size) := hb.size
      replace BB : Hid (Below w.heap.size w w19) := (show Hid _ from BB.out.trans (hb.mono BB.out.size))
      clear hb
      have AA_0 := AA.out.now.cell 0
      have AA_1 := AA.out.now.cell 1
      have W0_0 := W0.out.now.cell 0
      have W0_1 := W0.out.now.cell 1
      have G0_0 := G0.out.now.cell 0
      have G0_1 := G0.out.now.cell 1
      have H0_0 := H0.out.now.cell 0
      have H0_1 := H0.out.now.cell 1
      go_wp2_with fail
      clear AA_0 AA_1 W0_0 W0_1 G0_0 G0_1 H0_0 H0_1
      refine (hhm _ _ G.out.now.sls).mono ?_
      rintro e w20 ⟨rfl, hb⟩
      replace AA : Hid (Liv w.heap.size (w.heap.size + 1) (fun W => Bx W w.heap.size 44 #[.int .i64 n, .slice a l.length cap]) w20) := AA.out.kept hb
      replace R : Hid (Liv w3.heap.size w4.heap.size (RowF intE 2 w3.heap.size w4.heap.size (.slice a3 M.length c3) M) w20) := R.out.kept hb
      replace W0 : Hid (Liv w4.heap.size (w4.heap.size + 1) (fun W => Bx W (w4.heap.size) 26 #[.int .i64 Q, .slice a3 M.length c3]) w20) := W0.out.kept hb
      replace G : Hid (Liv w7.heap.size w8.heap.size (RowF intE 2 w7.heap.size w8.heap.size (.slice a5 M.length c5) (marksU 1 M.length)) w20) := G.out.kept hb
      replace G0 : Hid (Liv w8.heap.size (w8.heap.size + 1) (fun W => Bx W (w8.heap.size) 26 #[.int .i64 Q, .slice a5 M.length c5]) w20) := G0.out.kept hb
      replace H : Hid (Liv w16.heap.size w17.heap.size (RowF intE 2 w16.heap.size w17.heap.size (.slice a8 M.length c8) M) w20) := H.out.kept hb
      replace H0 : Hid (Liv w17.heap.size (w17.heap.size + 1) (fun W => Bx W (w17.heap.size) 26 #[.int .i64 Q, .slice a8 M.length c8]) w20) := H0.out.kept hb
      have Z20 : Hid (w19.heap.size ≤ w20.heap.size) := hb.size
      replace BB : Hid (Below w.heap.size w w20) := (show Hid _ from BB.out.trans (hb.mono BB.out.size))
      clear hb
      have AA_0 := AA.out.now.cell 0
      have AA_1 := AA.out.now.cell 1
      have W0_0 := W0.out.now.cell 0
      have W0_1 := W0.out.now.cell 1
      have G0_0 := G0.out.now.cell 0
      have G0_1 := G0.out.now.cell 1
      have H0_0 := H0.out.now.cell 0
      have H0_1 := H0.out.now.cell 1
      go_wp2
      go_ret
      exact ⟨rfl, BB.out⟩
  · unfold skV
    clear hi
    have hf2 : (1048576 : Int) < (key.size : Int) := by omega
    go_enter Try.func7, Try.ntmps7
    go_wp2
    go_ret
    exact ⟨rfl, (Below.refl _ w).alloc (Nat.le_refl _) _⟩
end Go.Proofs.Ytdoolnaekmffbaa
