/-
  The walks of chapter 14's exact laws, given what the program's own functions answer.
-/
import Derived.Test.YtdoolnaekmffbaaSkE
import Derived.Test.YtdoolnaekmffbaaSkF
import Derived.Test.YtdoolnaekmffbaaLiv
import Derived.Deep.RegionWith
import Derived.Deep.DeepCutAuto
import Derived.Deep.Cut
import Derived.Deep.CutRange
namespace Go.Proofs.Ytdoolnaekmffbaa
open Go.RowKit Go.Sort Ow Sk
set_option linter.unusedVariables false
set_option linter.unusedSimpArgs false

theorem mrkL_len (n : Int) (l : List Int) (key : ByteArray) : (mrkL n l key).length ≤ 1048576 := by
  cases h : skOk n l with
  | true => have := (mrk_ok key h).few; omega
  | false => unfold mrkL; rw [h]; exact Nat.zero_le _
theorem bthL_len (n : Int) (l : List Int) (n2 : Int) (l2 : List Int) : (bthL n l n2 l2).length ≤ 1048576 := by
  cases h : bthB n l n2 l2 with
  | true => have := (bth_ok h).few; omega
  | false => unfold bthL; rw [h]; exact Nat.zero_le _
theorem szU_fit {left : Int} {l : List Int} (h1 : left ≤ 1048576) (h : ¬ szU left l < 0) : l.length ≤ 1048576 ∧ szU left l ≤ left ∧ 0 ≤ szU left l := by
  unfold szU at h ⊢
  split at h
  · rename_i hh; rw [if_pos hh]; omega
  · omega
set_option maxRecDepth 100000 in
set_option maxHeartbeats 8000000 in
theorem walkSko (hi : ∀ (n : Int) (v : Value) (l : List Int) (w : World), Sls intE w v l → l.length ≤ 1048576 → Calls Try.prog 27 #[skV n v] w fun e w' => e = .returned (.bool (skOk n l)) ∧ Below w.heap.size w w')
    (n : Int) (v : Value) (l : List Int) (w : World) (h : Sls intE w v l) :
    Calls Try.prog 4 #[skV n v] w fun e w' => e = .returned (.bool true) ∧ Below w.heap.size w w' := by
  obtain ⟨a, cap, hv, _⟩ := h.one
  subst hv
  have HI : Hid (Sls intE w (.slice a l.length cap) l) := h
  have hsz := fun W hW => szSk n (.slice a l.length cap) l 1048576 (by decide) (by decide) W hW
  have hVf := szU_fit (left := 1048576) (l := l) (by decide)
  have hto := fun (hf : l.length ≤ 1048576) W hW => toSk n (.slice a l.length cap) l W hW hf
  have hel := fun (hf : l.length ≤ 1048576) u v W hu hv => (eqSk n u v l W hu hv hf).mono (fun e w' (h : _ ∧ Grew W w') => (⟨h.1, h.2.low⟩ : e = .returned (.bool true) ∧ Below W.heap.size W w'))
  have hsp := fun u W hW => specSko n u l W hW
  have him := fun (hf : l.length ≤ 1048576) u W hW => hi n u l W hW hf
  generalize skOk n l = T at hsp him
  generalize szU 1048576 l = V at hsz hVf
  have dT : (T != T) = false := by simp
  unfold skV at *
  clear hi h
  have AA : Hid (Liv w.heap.size (w.heap.size + 1) (fun W => Bx W w.heap.size 44 #[.int .i64 n, .slice a l.length cap]) (w.alloc (.cells #[.int .i64 n, .slice a l.length cap] 44))) := (show Hid _ from Liv.box (Bx.new _ _ _))
  have BB : Hid (Below w.heap.size w (w.alloc (.cells #[.int .i64 n, .slice a l.length cap] 44))) := (Below.refl _ w).alloc (Nat.le_refl _) _
  have zA : (w.alloc (.cells #[.int .i64 n, .slice a l.length cap] 44)).heap.size = w.heap.size + 1 := by simp
  generalize hw1 : (w.alloc (.cells #[.int .i64 n, .slice a l.length cap] 44)) = w1 at BB zA AA
  have Z1 : Hid (w1.heap.size = w.heap.size + 1) := zA
  clear zA
  go_enter Try.func4, Try.ntmps4
  have AA_0 := AA.out.now.cell 0
  have AA_1 := AA.out.now.cell 1
  go_wp2_with fail
  clear hw1
  clear AA_0 AA_1
  refine (hsz _ (HI.out.kept BB.out)).mono ?_
  rintro e w2 ⟨rfl, hb⟩
  replace AA : Hid (Liv w.heap.size (w.heap.size + 1) (fun W => Bx W w.heap.size 44 #[.int .i64 n, .slice a l.length cap]) w2) := AA.out.kept hb
  have Z2 : Hid (w1.heap.size ≤ w2.heap.size) := hb.size
  replace BB : Hid (Below w.heap.size w w2) := (show Hid _ from BB.out.trans (hb.mono BB.out.size))
  clear hb
  have AA_0 := AA.out.now.cell 0
  have AA_1 := AA.out.now.cell 1
  by_cases hV : V < 0
  · go_wp2
    go_ret
    exact ⟨rfl, BB.out⟩
  obtain ⟨hf, _, _⟩ := hVf (by omega)
  replace hto := hto hf; replace him := him hf; replace hel := hel hf
  go_wp2_with fail
  clear AA_0 AA_1
  refine (hto _ (HI.out.kept BB.out)).mono ?_
  rintro e w3 ⟨u2, rfl, ho, hb⟩
  obtain ⟨a2, c2, rfl, _⟩ := ho.form
  replace AA : Hid (Liv w.heap.size (w.heap.size + 1) (fun W => Bx W w.heap.size 44 #[.int .i64 n, .slice a l.length cap]) w3) := AA.out.kept hb
  have U : Hid (Liv w2.heap.size w3.heap.size (RowF intE 2 w2.heap.size w3.heap.size (.slice a2 l.length c2) l) w3) := (show Hid _ from Liv.new ho.has)
  have Z3 : Hid (w2.heap.size ≤ w3.heap.size) := hb.size
  replace BB : Hid (Below w.heap.size w w3) := (show Hid _ from BB.out.trans (hb.mono BB.out.size))
  clear hb ho
  have AA_0 := AA.out.now.cell 0
  have AA_1 := AA.out.now.cell 1
  go_wp2_with fail
  clear AA_0 AA_1
  refine (hsp _ _ U.out.now.sls).mono ?_
  rintro e w4 ⟨rfl, hb⟩
  replace AA : Hid (Liv w.heap.size (w.heap.size + 1) (fun W => Bx W w.heap.size 44 #[.int .i64 n, .slice a l.length cap]) w4) := AA.out.kept hb
  clear U
  have Z4 : Hid (w3.heap.size ≤ w4.heap.size) := hb.size
  replace BB : Hid (Below w.heap.size w w4) := (show Hid _ from BB.out.trans (hb.mono BB.out.size))
  clear hb
  have AA_0 := AA.out.now.cell 0
  have AA_1 := AA.out.now.cell 1
  go_wp2_with fail
  clear AA_0 AA_1
  refine (hto _ (HI.out.kept BB.out)).mono ?_
  rintro e w5 ⟨u4, rfl, ho, hb⟩
  obtain ⟨a4, c4, rfl, _⟩ := ho.form
  replace AA : Hid (Liv w.heap.size (w.heap.size + 1) (fun W => Bx W w.heap.size 44 #[.int .i64 n, .slice a l.length cap]) w5) := AA.out.kept hb
  have X : Hid (Liv w4.heap.size w5.heap.size (RowF intE 2 w4.heap.size w5.heap.size (.slice a4 l.length c4) l) w5) := (show Hid _ from Liv.new ho.has)
  have Z5 : Hid (w4.heap.size ≤ w5.heap.size) := hb.size
  replace BB : Hid (Below w.heap.size w w5) := (show Hid _ from BB.out.trans (hb.mono BB.out.size))
  clear hb ho
  have hbA : Below w5.heap.size w5 (w5.alloc (.cells #[.int .i64 n, .slice a4 l.length c4] 26)) := (Below.refl _ _).alloc (Nat.le_refl _) _
  have zA : (w5.alloc (.cells #[.int .i64 n, .slice a4 l.length c4] 26)).heap.size = w5.heap.size + 1 := by simp
  replace AA : Hid (Liv w.heap.size (w.heap.size + 1) (fun W => Bx W w.heap.size 44 #[.int .i64 n, .slice a l.length cap]) (w5.alloc (.cells #[.int .i64 n, .slice a4 l.length c4] 26))) := AA.out.kept hbA
  replace X : Hid (Liv w4.heap.size w5.heap.size (RowF intE 2 w4.heap.size w5.heap.size (.slice a4 l.length c4) l) (w5.alloc (.cells #[.int .i64 n, .slice a4 l.length c4] 26))) := X.out.kept hbA
  replace BB : Hid (Below w.heap.size w (w5.alloc (.cells #[.int .i64 n, .slice a4 l.length c4] 26))) := (show Hid _ from BB.out.trans (hbA.mono BB.out.size))
  have X0 : Hid (Liv w5.heap.size (w5.heap.size + 1) (fun W => Bx W (w5.heap.size) 26 #[.int .i64 n, .slice a4 l.length c4]) (w5.alloc (.cells #[.int .i64 n, .slice a4 l.length c4] 26))) := (show Hid _ from Liv.box (Bx.new _ _ _))
  clear hbA
  generalize hww6 : (w5.alloc (.cells #[.int .i64 n, .slice a4 l.length c4] 26)) = w6 at BB zA AA X X0
  have Z6 : Hid (w6.heap.size = w5.heap.size + 1) := zA
  clear zA
  have AA_0 := AA.out.now.cell 0
  have AA_1 := AA.out.now.cell 1
  have X0_0 := X0.out.now.cell 0
  have X0_1 := X0.out.now.cell 1
  go_wp2_with fail
  clear hww6
  clear AA_0 AA_1 X0_0 X0_1
  refine (him _ _ X.out.now.sls).mono ?_
  rintro e w7 ⟨rfl, hb⟩
  replace AA : Hid (Liv w.heap.size (w.heap.size + 1) (fun W => Bx W w.heap.size 44 #[.int .i64 n, .slice a l.length cap]) w7) := AA.out.kept hb
  replace X : Hid (Liv w4.heap.size w5.heap.size (RowF intE 2 w4.heap.size w5.heap.size (.slice a4 l.length c4) l) w7) := X.out.kept hb
  replace X0 : Hid (Liv w5.heap.size (w5.heap.size + 1) (fun W => Bx W (w5.heap.size) 26 #[.int .i64 n, .slice a4 l.length c4]) w7) := X0.out.kept hb
  have Z7 : Hid (w6.heap.size ≤ w7.heap.size) := hb.size
  replace BB : Hid (Below w.heap.size w w7) := (show Hid _ from BB.out.trans (hb.mono BB.out.size))
  clear hb
  have AA_0 := AA.out.now.cell 0
  have AA_1 := AA.out.now.cell 1
  have X0_0 := X0.out.now.cell 0
  have X0_1 := X0.out.now.cell 1
  go_wp2_with fail
  go_cut [26] from 22 to 26 (fun s wx => s = .bool false ∧ Hid (Below w.heap.size w wx) ∧ Hid (Liv w.heap.size (w.heap.size + 1) (fun W => Bx W w.heap.size 44 #[.int .i64 n, .slice a l.length cap]) wx) ∧ Hid (Liv w4.heap.size w5.heap.size (RowF intE 2 w4.heap.size w5.heap.size (.slice a4 l.length c4) l) wx) ∧ Hid (Liv w5.heap.size (w5.heap.size + 1) (fun W => Bx W (w5.heap.size) 26 #[.int .i64 n, .slice a4 l.length c4]) wx) ∧ Hid (w7.heap.size ≤ wx.heap.size))
  case first =>
    have hD : Below w7.heap.size w7 w7.drew := ⟨rfl, rfl, rfl, Nat.le_refl _, fun _ _ => rfl⟩
    replace BB : Hid (Below w.heap.size w w7.drew) := (show Hid _ from BB.out.trans (hD.mono BB.out.size))
    replace AA : Hid (Liv w.heap.size (w.heap.size + 1) (fun W => Bx W w.heap.size 44 #[.int .i64 n, .slice a l.length cap]) w7.drew) := AA.out.kept hD
    replace X : Hid (Liv w4.heap.size w5.heap.size (RowF intE 2 w4.heap.size w5.heap.size (.slice a4 l.length c4) l) w7.drew) := X.out.kept hD
    replace X0 : Hid (Liv w5.heap.size (w5.heap.size + 1) (fun W => Bx W (w5.heap.size) 26 #[.int .i64 n, .slice a4 l.length c4]) w7.drew) := X0.out.kept hD
    clear hD
    go_region_with (first
      | (go_at_call 31; refine (hto _ (by exact HI.out.kept BB.out)).mono ?_; rintro e vT ⟨uT, rfl, ho, hb⟩; obtain ⟨aT, cT, rfl, _⟩ := ho.form; have UT : Hid (Sls intE vT (.slice aT l.length cT) l) := ho.sls; have AAT : Hid (Liv w.heap.size (w.heap.size + 1) (fun W => Bx W w.heap.size 44 #[.int .i64 n, .slice a l.length cap]) vT) := AA.out.kept hb; have XT : Hid (Liv w4.heap.size w5.heap.size (RowF intE 2 w4.heap.size w5.heap.size (.slice a4 l.length c4) l) vT) := X.out.kept hb; have X0T : Hid (Liv w5.heap.size (w5.heap.size + 1) (fun W => Bx W (w5.heap.size) 26 #[.int .i64 n, .slice a4 l.length c4]) vT) := X0.out.kept hb; have AAT_0 := AAT.out.now.cell 0; have AAT_1 := AAT.out.now.cell 1; have X0T_0 := X0T.out.now.cell 0; have X0T_1 := X0T.out.now.cell 1; have BBT : Hid (Below w.heap.size w vT) := (show Hid _ from BB.out.trans (hb.mono BB.out.size)); have ZT : Hid (w7.heap.size ≤ vT.heap.size) := hb.size; clear ho hb)
      | (go_at_call 32; refine (hel _ _ _ (by exact XT.out.now.sls) (by exact UT.out)).mono ?_; rintro e vE ⟨rfl, hb⟩; have AAE : Hid (Liv w.heap.size (w.heap.size + 1) (fun W => Bx W w.heap.size 44 #[.int .i64 n, .slice a l.length cap]) vE) := AAT.out.kept hb; have XE : Hid (Liv w4.heap.size w5.heap.size (RowF intE 2 w4.heap.size w5.heap.size (.slice a4 l.length c4) l) vE) := XT.out.kept hb; have X0E : Hid (Liv w5.heap.size (w5.heap.size + 1) (fun W => Bx W (w5.heap.size) 26 #[.int .i64 n, .slice a4 l.length c4]) vE) := X0T.out.kept hb; have BBE : Hid (Below w.heap.size w vE) := (show Hid _ from BBT.out.trans (hb.mono BBT.out.size)); have ZE : Hid (w7.heap.size ≤ vE.heap.size) := (show Hid _ from Nat.le_trans ZT.out hb.size); clear hb))
    all_goals (try go_wp2_with fail)
    all_goals go_meet
    all_goals exact ⟨rfl, BBE, AAE, XE, X0E, ZE⟩
  case rest =>
    clear AA_0 AA_1 X0_0 X0_1
    clear BB AA X X0
    obtain ⟨rfl, BB, AA, X, X0, Z8⟩ := hcut
    obtain ⟨w8, rfl⟩ : ∃ z, z = wc := ⟨wc, rfl⟩
    have AA_0 := AA.out.now.cell 0
    have AA_1 := AA.out.now.cell 1
    have X0_0 := X0.out.now.cell 0
    have X0_1 := X0.out.now.cell 1
    go_wp2
    go_ret
    exact ⟨rfl, BB.out⟩
set_option maxRecDepth 100000 in
set_option maxHeartbeats 8000000 in
theorem walkPrh (hi : ∀ (n : Int) (v : Value) (l : List Int) (key : ByteArray) (w : World), Sls intE w v l → l.length ≤ 1048576 → key.size ≤ 1048576 → Calls Try.prog 22 #[skV n v, .string key] w fun e w' => e = .returned (.bool (prhB n l key)) ∧ Below w.heap.size w w')
    (n : Int) (v : Value) (l : List Int) (key : ByteArray) (w : World) (h : Sls intE w v l) :
    Calls Try.prog 8 #[skV n v, .string key] w fun e w' => e = .returned (.bool true) ∧ Below w.heap.size w w' := by
  obtain ⟨a, cap, hv, _⟩ := h.one
  subst hv
  have HI : Hid (Sls intE w (.slice a l.length cap) l) := h
  by_cases hkf : key.size ≤ 1048576
  · have hsz := fun W hW => szSk n (.slice a l.length cap) l 1048576 (by decide) (by decide) W hW
    have hVf := szU_fit (left := 1048576) (l := l) (by decide)
    have hto := fun (hf : l.length ≤ 1048576) W hW => toSk n (.slice a l.length cap) l W hW hf
    have hel := fun (hf : l.length ≤ 1048576) u v W hu hv => (eqSk n u v l W hu hv hf).mono (fun e w' (h : _ ∧ Grew W w') => (⟨h.1, h.2.low⟩ : e = .returned (.bool true) ∧ Below W.heap.size W w'))
    have hsp := fun u W hW => specPrh n u l key W hW hkf
    have him := fun (hf : l.length ≤ 1048576) u W hW => hi n u l key W hW hf hkf
    generalize prhB n l key = T at hsp him
    generalize szU 1048576 l = V at hsz hVf
    have dT : (T != T) = false := by simp
    unfold skV at *
    clear hi h
    have AA : Hid (Liv w.heap.size (w.heap.size + 1) (fun W => Bx W w.heap.size 44 #[.int .i64 n, .slice a l.length cap]) (w.alloc (.cells #[.int .i64 n, .slice a l.length cap] 44))) := (show Hid _ from Liv.box (Bx.new _ _ _))
    have BB : Hid (Below w.heap.size w (w.alloc (.cells #[.int .i64 n, .slice a l.length cap] 44))) := (Below.refl _ w).alloc (Nat.le_refl _) _
    have zA : (w.alloc (.cells #[.int .i64 n, .slice a l.length cap] 44)).heap.size = w.heap.size + 1 := by simp
    generalize hw1 : (w.alloc (.cells #[.int .i64 n, .slice a l.length cap] 44)) = w1 at BB zA AA
    have Z1 : Hid (w1.heap.size = w.heap.size + 1) := zA
    clear zA
    go_enter Try.func8, Try.ntmps8
    have AA_0 := AA.out.now.cell 0
    have AA_1 := AA.out.now.cell 1
    go_wp2_with fail
    clear hw1
    clear AA_0 AA_1
    refine (hsz _ (HI.out.kept BB.out)).mono ?_
    rintro e w2 ⟨rfl, hb⟩
    replace AA : Hid (Liv w.heap.size (w.heap.size + 1) (fun W => Bx W w.heap.size 44 #[.int .i64 n, .slice a l.length cap]) w2) := AA.out.kept hb
    have Z2 : Hid (w1.heap.size ≤ w2.heap.size) := hb.size
    replace BB : Hid (Below w.heap.size w w2) := (show Hid _ from BB.out.trans (hb.mono BB.out.size))
    clear hb
    have AA_0 := AA.out.now.cell 0
    have AA_1 := AA.out.now.cell 1
    by_cases hV : V < 0
    · go_wp2
      go_ret
      exact ⟨rfl, BB.out⟩
    obtain ⟨hf, _, _⟩ := hVf (by omega)
    replace hto := hto hf; replace him := him hf; replace hel := hel hf
    go_wp2_with fail
    clear AA_0 AA_1
    refine (hto _ (HI.out.kept BB.out)).mono ?_
    rintro e w3 ⟨u2, rfl, ho, hb⟩
    obtain ⟨a2, c2, rfl, _⟩ := ho.form
    replace AA : Hid (Liv w.heap.size (w.heap.size + 1) (fun W => Bx W w.heap.size 44 #[.int .i64 n, .slice a l.length cap]) w3) := AA.out.kept hb
    have U : Hid (Liv w2.heap.size w3.heap.size (RowF intE 2 w2.heap.size w3.heap.size (.slice a2 l.length c2) l) w3) := (show Hid _ from Liv.new ho.has)
    have Z3 : Hid (w2.heap.size ≤ w3.heap.size) := hb.size
    replace BB : Hid (Below w.heap.size w w3) := (show Hid _ from BB.out.trans (hb.mono BB.out.size))
    clear hb ho
    have AA_0 := AA.out.now.cell 0
    have AA_1 := AA.out.now.cell 1
    go_wp2_with fail
    clear AA_0 AA_1
    refine (hsp _ _ U.out.now.sls).mono ?_
    rintro e w4 ⟨rfl, hb⟩
    replace AA : Hid (Liv w.heap.size (w.heap.size + 1) (fun W => Bx W w.heap.size 44 #[.int .i64 n, .slice a l.length cap]) w4) := AA.out.kept hb
    clear U
    have Z4 : Hid (w3.heap.size ≤ w4.heap.size) := hb.size
    replace BB : Hid (Below w.heap.size w w4) := (show Hid _ from BB.out.trans (hb.mono BB.out.size))
    clear hb
    have AA_0 := AA.out.now.cell 0
    have AA_1 := AA.out.now.cell 1
    go_wp2_with fail
    clear AA_0 AA_1
    refine (hto _ (HI.out.kept BB.out)).mono ?_
    rintro e w5 ⟨u4, rfl, ho, hb⟩
    obtain ⟨a4, c4, rfl, _⟩ := ho.form
    replace AA : Hid (Liv w.heap.size (w.heap.size + 1) (fun W => Bx W w.heap.size 44 #[.int .i64 n, .slice a l.length cap]) w5) := AA.out.kept hb
    have X : Hid (Liv w4.heap.size w5.heap.size (RowF intE 2 w4.heap.size w5.heap.size (.slice a4 l.length c4) l) w5) := (show Hid _ from Liv.new ho.has)
    have Z5 : Hid (w4.heap.size ≤ w5.heap.size) := hb.size
    replace BB : Hid (Below w.heap.size w w5) := (show Hid _ from BB.out.trans (hb.mono BB.out.size))
    clear hb ho
    have hbA : Below w5.heap.size w5 (w5.alloc (.cells #[.int .i64 n, .slice a4 l.length c4] 26)) := (Below.refl _ _).alloc (Nat.le_refl _) _
    have zA : (w5.alloc (.cells #[.int .i64 n, .slice a4 l.length c4] 26)).heap.size = w5.heap.size + 1 := by simp
    replace AA : Hid (Liv w.heap.size (w.heap.size + 1) (fun W => Bx W w.heap.size 44 #[.int .i64 n, .slice a l.length cap]) (w5.alloc (.cells #[.int .i64 n, .slice a4 l.length c4] 26))) := AA.out.kept hbA
    replace X : Hid (Liv w4.heap.size w5.heap.size (RowF intE 2 w4.heap.size w5.heap.size (.slice a4 l.length c4) l) (w5.alloc (.cells #[.int .i64 n, .slice a4 l.length c4] 26))) := X.out.kept hbA
    replace BB : Hid (Below w.heap.size w (w5.alloc (.cells #[.int .i64 n, .slice a4 l.length c4] 26))) := (show Hid _ from BB.out.trans (hbA.mono BB.out.size))
    have X0 : Hid (Liv w5.heap.size (w5.heap.size + 1) (fun W => Bx W (w5.heap.size) 26 #[.int .i64 n, .slice a4 l.length c4]) (w5.alloc (.cells #[.int .i64 n, .slice a4 l.length c4] 26))) := (show Hid _ from Liv.box (Bx.new _ _ _))
    clear hbA
    generalize hww6 : (w5.alloc (.cells #[.int .i64 n, .slice a4 l.length c4] 26)) = w6 at BB zA AA X X0
    have Z6 : Hid (w6.heap.size = w5.heap.size + 1) := zA
    clear zA
    have AA_0 := AA.out.now.cell 0
    have AA_1 := AA.out.now.cell 1
    have X0_0 := X0.out.now.cell 0
    have X0_1 := X0.out.now.cell 1
    go_wp2_with fail
    clear hww6
    clear AA_0 AA_1 X0_0 X0_1
    refine (him _ _ X.out.now.sls).mono ?_
    rintro e w7 ⟨rfl, hb⟩
    replace AA : Hid (Liv w.heap.size (w.heap.size + 1) (fun W => Bx W w.heap.size 44 #[.int .i64 n, .slice a l.length cap]) w7) := AA.out.kept hb
    replace X : Hid (Liv w4.heap.size w5.heap.size (RowF intE 2 w4.heap.size w5.heap.size (.slice a4 l.length c4) l) w7) := X.out.kept hb
    replace X0 : Hid (Liv w5.heap.size (w5.heap.size + 1) (fun W => Bx W (w5.heap.size) 26 #[.int .i64 n, .slice a4 l.length c4]) w7) := X0.out.kept hb
    have Z7 : Hid (w6.heap.size ≤ w7.heap.size) := hb.size
    replace BB : Hid (Below w.heap.size w w7) := (show Hid _ from BB.out.trans (hb.mono BB.out.size))
    clear hb
    have AA_0 := AA.out.now.cell 0
    have AA_1 := AA.out.now.cell 1
    have X0_0 := X0.out.now.cell 0
    have X0_1 := X0.out.now.cell 1
    go_wp2_with fail
    go_cut [33] from 29 to 33 (fun s wx => s = .bool false ∧ Hid (Below w.heap.size w wx) ∧ Hid (Liv w.heap.size (w.heap.size + 1) (fun W => Bx W w.heap.size 44 #[.int .i64 n, .slice a l.length cap]) wx) ∧ Hid (Liv w4.heap.size w5.heap.size (RowF intE 2 w4.heap.size w5.heap.size (.slice a4 l.length c4) l) wx) ∧ Hid (Liv w5.heap.size (w5.heap.size + 1) (fun W => Bx W (w5.heap.size) 26 #[.int .i64 n, .slice a4 l.length c4]) wx) ∧ Hid (w7.heap.size ≤ wx.heap.size))
    case first =>
      have hD : Below w7.heap.size w7 w7.drew := ⟨rfl, rfl, rfl, Nat.le_refl _, fun _ _ => rfl⟩
      replace BB : Hid (Below w.heap.size w w7.drew) := (show Hid _ from BB.out.trans (hD.mono BB.out.size))
      replace AA : Hid (Liv w.heap.size (w.heap.size + 1) (fun W => Bx W w.heap.size 44 #[.int .i64 n, .slice a l.length cap]) w7.drew) := AA.out.kept hD
      replace X : Hid (Liv w4.heap.size w5.heap.size (RowF intE 2 w4.heap.size w5.heap.size (.slice a4 l.length c4) l) w7.drew) := X.out.kept hD
      replace X0 : Hid (Liv w5.heap.size (w5.heap.size + 1) (fun W => Bx W (w5.heap.size) 26 #[.int .i64 n, .slice a4 l.length c4]) w7.drew) := X0.out.kept hD
      clear hD
      go_region_with (first
        | (go_at_call 31; refine (hto _ (by exact HI.out.kept BB.out)).mono ?_; rintro e vT ⟨uT, rfl, ho, hb⟩; obtain ⟨aT, cT, rfl, _⟩ := ho.form; have UT : Hid (Sls intE vT (.slice aT l.length cT) l) := ho.sls; have AAT : Hid (Liv w.heap.size (w.heap.size + 1) (fun W => Bx W w.heap.size 44 #[.int .i64 n, .slice a l.length cap]) vT) := AA.out.kept hb; have XT : Hid (Liv w4.heap.size w5.heap.size (RowF intE 2 w4.heap.size w5.heap.size (.slice a4 l.length c4) l) vT) := X.out.kept hb; have X0T : Hid (Liv w5.heap.size (w5.heap.size + 1) (fun W => Bx W (w5.heap.size) 26 #[.int .i64 n, .slice a4 l.length c4]) vT) := X0.out.kept hb; have AAT_0 := AAT.out.now.cell 0; have AAT_1 := AAT.out.now.cell 1; have X0T_0 := X0T.out.now.cell 0; have X0T_1 := X0T.out.now.cell 1; have BBT : Hid (Below w.heap.size w vT) := (show Hid _ from BB.out.trans (hb.mono BB.out.size)); have ZT : Hid (w7.heap.size ≤ vT.heap.size) := hb.size; clear ho hb)
        | (go_at_call 32; refine (hel _ _ _ (by exact XT.out.now.sls) (by exact UT.out)).mono ?_; rintro e vE ⟨rfl, hb⟩; have AAE : Hid (Liv w.heap.size (w.heap.size + 1) (fun W => Bx W w.heap.size 44 #[.int .i64 n, .slice a l.length cap]) vE) := AAT.out.kept hb; have XE : Hid (Liv w4.heap.size w5.heap.size (RowF intE 2 w4.heap.size w5.heap.size (.slice a4 l.length c4) l) vE) := XT.out.kept hb; have X0E : Hid (Liv w5.heap.size (w5.heap.size + 1) (fun W => Bx W (w5.heap.size) 26 #[.int .i64 n, .slice a4 l.length c4]) vE) := X0T.out.kept hb; have BBE : Hid (Below w.heap.size w vE) := (show Hid _ from BBT.out.trans (hb.mono BBT.out.size)); have ZE : Hid (w7.heap.size ≤ vE.heap.size) := (show Hid _ from Nat.le_trans ZT.out hb.size); clear hb))
      all_goals (try go_wp2_with fail)
      all_goals go_meet
      all_goals exact ⟨rfl, BBE, AAE, XE, X0E, ZE⟩
    case rest =>
      clear AA_0 AA_1 X0_0 X0_1
      clear BB AA X X0
      obtain ⟨rfl, BB, AA, X, X0, Z8⟩ := hcut
      obtain ⟨w8, rfl⟩ : ∃ z, z = wc := ⟨wc, rfl⟩
      have AA_0 := AA.out.now.cell 0
      have AA_1 := AA.out.now.cell 1
      have X0_0 := X0.out.now.cell 0
      have X0_1 := X0.out.now.cell 1
      go_wp2
      go_ret
      exact ⟨rfl, BB.out⟩
  · unfold skV
    clear hi
    have hf2 : (1048576 : Int) < (key.size : Int) := by omega
    go_enter Try.func8, Try.ntmps8
    go_wp2
    go_ret
    exact ⟨rfl, (Below.refl _ w).alloc (Nat.le_refl _) _⟩
end Go.Proofs.Ytdoolnaekmffbaa
