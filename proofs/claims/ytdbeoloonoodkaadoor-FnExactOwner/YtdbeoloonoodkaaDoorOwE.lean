/-
  The walks of chapter 13's exact laws of texts, weights, ranks and owners, given what the program's own functions answer.
-/
import Derived.Test.YtdbeoloonoodkaaDoorOwD
import Derived.Test.YtdbeoloonoodkaaDoorRomN
namespace Go.Proofs.YtdbeoloonoodkaaDoor
open Go.RowKit Go.Sort Ow
set_option linter.unusedVariables false
set_option linter.unusedSimpArgs false

theorem past12 {w w1 w2 : World} (h : Below w.heap.size w w1) (hb : Below w1.heap.size w1 w2) : Below w.heap.size w w2 := h.trans (hb.mono h.size)
theorem walkWgt (hi : ∀ (n : Int) (s : ByteArray) (w : World), s.size ≤ 1048576 → Calls Tryd.prog 20 #[.int .i64 n, .string s] w fun e w' => e = .returned (.int .i64 (wgV s n)) ∧ Below w.heap.size w w')
    (n : Int) (s : ByteArray) (w : World) : Calls Tryd.prog 4 #[.int .i64 n, .string s] w fun e w' => e = .returned (.bool true) ∧ Below w.heap.size w w' := by
  by_cases hf : s.size ≤ 1048576
  · have h1 := fun W => specWgt n s W hf
    have h2 := fun W => hi n s W hf
    generalize wgV s n = T at h1 h2
    have dT : (T != T) = false := by simp
    clear hi
    go_enter Tryd.func4, Tryd.ntmps4
    go_wp2_with fail
    refine (h1 _).mono ?_
    rintro e w1 ⟨rfl, hb1⟩
    have B1 : Hid (Below w.heap.size w w1) := hb1
    clear hb1
    go_wp2_with fail
    refine (h2 _).mono ?_
    rintro e w2 ⟨rfl, hb⟩
    have HB : Hid (Below w.heap.size w w2) := past12 B1.out hb
    clear hb
    go_wp2
    go_ret
    exact ⟨rfl, HB.out⟩
  · clear hi
    have hf2 : (1048576 : Int) < (s.size : Int) := by omega
    go_enter Tryd.func4, Tryd.ntmps4
    go_wp2
    go_ret
    exact ⟨rfl, Below.refl _ _⟩
set_option maxHeartbeats 2000000 in
theorem walkOwn (hi : ∀ (v : Value) (l : List Int) (key : ByteArray) (w : World), Sls intE w v l → l.length ≤ 1048576 → key.size ≤ 1048576 → Calls Tryd.prog 11 #[v, .string key] w fun e w' => e = .returned (.int .i64 (ownV l key)) ∧ Below w.heap.size w w')
    (v : Value) (l : List Int) (key : ByteArray) (w : World) (h : Sls intE w v l) :
    Calls Tryd.prog 6 #[v, .string key] w fun e w' => e = .returned (.bool true) ∧ Below w.heap.size w w' := by
  obtain ⟨a, cap, rfl, hc1, hc2, _⟩ := h
  have h : Hid (Sls intE w (.slice a l.length cap) l) := ⟨a, cap, rfl, hc1, hc2, by assumption⟩
  by_cases hfit : l.length ≤ 1048576
  · by_cases hkf : key.size ≤ 1048576
    · have hto := fun W hW => toNum (.slice a l.length cap) l W hW hfit
      have hsp := fun u W hW => specOwn u l key W hW hkf
      have him := fun u W hW => hi u l key W hW hfit hkf
      have heq := fun u v W hu hv => eqNum u v l W hu hv hfit
      generalize ownV l key = T at hsp him
      have dT : (T != T) = false := by simp
      clear hi
      go_enter Tryd.func6, Tryd.ntmps6
      go_wp2_with fail
      refine (hto _ h.out).mono ?_
      rintro e w1 ⟨u1, rfl, ho1, hb1⟩
      have B1 : Hid (Below w.heap.size w w1) := hb1
      have O1 : Hid (Sls intE w1 u1 l) := ho1.sls
      clear hb1 ho1
      go_wp2_with fail
      refine (hsp _ _ O1.out).mono ?_
      rintro e w2 ⟨rfl, hb2⟩
      have B2 : Hid (Below w.heap.size w w2) := past12 B1.out hb2
      clear hb2 B1 O1
      go_wp2_with fail
      refine (hto _ (h.out.kept B2.out)).mono ?_
      rintro e w3 ⟨u3, rfl, ho3, hb3⟩
      have B3 : Hid (Below w.heap.size w w3) := past12 B2.out hb3
      have O3 : Hid (OwnsN w3 w2.heap.size u3 l) := ho3
      clear hb3 ho3 B2
      go_wp2_with fail
      refine (him _ _ O3.out.sls).mono ?_
      rintro e w4 ⟨rfl, hb4⟩
      have B4 : Hid (Below w.heap.size w w4) := past12 B3.out hb4
      have O4 : Hid (Sls intE w4 u3 l) := O3.out.sls.kept hb4
      clear hb4 B3 O3
      go_wp2_with fail
      refine (hto _ (h.out.kept B4.out)).mono ?_
      rintro e w5 ⟨u5, rfl, ho5, hb5⟩
      have B5 : Hid (Below w.heap.size w w5) := past12 B4.out hb5
      have O5 : Hid (Sls intE w5 u3 l) := O4.out.kept hb5
      have P5 : Hid (Sls intE w5 u5 l) := ho5.sls
      clear hb5 ho5 B4 O4
      go_wp2_with fail
      refine (heq _ _ _ O5.out P5.out).mono ?_
      rintro e w6 ⟨rfl, hg6⟩
      have B6 : Hid (Below w.heap.size w w6) := past12 B5.out hg6.low
      clear hg6 B5
      go_wp2
      go_ret
      exact ⟨rfl, B6.out⟩
    · clear hi
      have hf2 : (1048576 : Int) < (key.size : Int) := by omega
      go_enter Tryd.func6, Tryd.ntmps6
      go_wp2
      go_ret
      exact ⟨rfl, Below.refl _ _⟩
  · clear hi
    have hf2 : (1048576 : Int) < (l.length : Int) := by omega
    go_enter Tryd.func6, Tryd.ntmps6
    go_wp2
    go_ret
    exact ⟨rfl, Below.refl _ _⟩
set_option maxHeartbeats 2000000 in
theorem walkRnk (hi : ∀ (v : Value) (l : List Int) (key : ByteArray) (w : World), Sls intE w v l → l.length ≤ 1048576 → key.size ≤ 1048576 → Calls Tryd.prog 10 #[v, .string key] w fun e w' => ∃ u, e = .returned u ∧ HasN w' w.heap.size u (rnkV l key) ∧ Below w.heap.size w w')
    (v : Value) (l : List Int) (key : ByteArray) (w : World) (h : Sls intE w v l) :
    Calls Tryd.prog 5 #[v, .string key] w fun e w' => e = .returned (.bool true) ∧ Below w.heap.size w w' := by
  obtain ⟨a, cap, rfl, hc1, hc2, _⟩ := h
  have h : Hid (Sls intE w (.slice a l.length cap) l) := ⟨a, cap, rfl, hc1, hc2, by assumption⟩
  by_cases hfit : l.length ≤ 1048576
  · by_cases hkf : key.size ≤ 1048576
    · have hto := fun W hW => toNum (.slice a l.length cap) l W hW hfit
      have hsp := fun u W hW => specRnk u l key W hW hkf
      have him := fun u W hW => hi u l key W hW hfit hkf
      have hel := fun u v W hu hv => eqNum u v l W hu hv hfit
      have hml := rnkV_len l key
      have hem := fun u v W hu hv => eqNum u v (rnkV l key) W hu hv (by omega)
      have hkl := fun u B W hu => markNum u l B W hu hfit
      have hkm := fun u B W hu => markNum u (rnkV l key) B W hu (by omega)
      have hhm := fun u W hu => heldNum u (rnkV l key).length W hu (by omega)
      generalize rnkV l key = M at hsp him hem hkm hhm hml
      have hk0 : ¬ (1 + (l.length : Int)) < 0 := by omega
      generalize (1 + (l.length : Int)) = kk at hkl hk0
      have hm0 : ¬ (1 + (M.length : Int)) < 0 := by omega
      generalize hmm : (1 + (M.length : Int)) = mm at hkm hhm hm0
      have dmm : (mm != mm) = false := by simp
      clear hi hmm
      go_enter Tryd.func5, Tryd.ntmps5
      go_wp2_with fail
      refine (hto _ h.out).mono ?_
      rintro e w1 ⟨u1, rfl, ho1, hb1⟩
      have B1 : Hid (Below w.heap.size w w1) := hb1
      have O1 : Hid (Sls intE w1 u1 l) := ho1.sls
      clear hb1 ho1
      go_wp2_with fail
      refine (hsp _ _ O1.out).mono ?_
      rintro e w2 ⟨r0, rfl, hr0, hb2⟩
      have B2 : Hid (Below w.heap.size w w2) := past12 B1.out hb2
      have R2 : Hid (HasN w2 w1.heap.size r0 M) := hr0.has
      clear hb2 B1 O1 hr0
      go_wp2_with fail
      refine (hto _ (h.out.kept B2.out)).mono ?_
      rintro e w3 ⟨x0, rfl, ho3, hb3⟩
      have B3 : Hid (Below w.heap.size w w3) := past12 B2.out hb3
      have R3 : Hid (HasN w3 w1.heap.size r0 M) := R2.out.kept hb3
      have R3u : Hid (∀ k, r0.ownBlock = some k → k < w2.heap.size) := R2.out.under
      have X3 : Hid (HasN w3 w2.heap.size x0 l) := ho3.has
      have X3u : Hid (∀ k, x0.ownBlock = some k → k < w3.heap.size) := X3.out.under
      have Z2 : Hid (w.heap.size ≤ w2.heap.size) := B2.out.size
      have Z3 : Hid (w.heap.size ≤ w3.heap.size) := B3.out.size
      have Z23 : Hid (w2.heap.size ≤ w3.heap.size) := hb3.size
      clear hb3 ho3 B2 R2
      go_wp2_with fail
      refine (him _ _ X3.out.sls).mono ?_
      rintro e w4 ⟨g0, rfl, hg0, hb4⟩
      have B4 : Hid (Below w.heap.size w w4) := past12 B3.out hb4
      have R4 : Hid (HasN w4 w1.heap.size r0 M) := R3.out.kept hb4
      have X4 : Hid (HasN w4 w2.heap.size x0 l) := X3.out.kept hb4
      have G4 : Hid (HasN w4 w3.heap.size g0 M) := hg0
      clear hb4 hg0 B3 R3 X3
      go_wp2_with fail
      refine (hem _ _ _ G4.out.sls R4.out.sls).mono ?_
      rintro e w5 ⟨rfl, hg5⟩
      have B5 : Hid (Below w.heap.size w w5) := past12 B4.out hg5.low
      have R5 : Hid (HasN w5 w1.heap.size r0 M) := R4.out.kept hg5.low
      have X5 : Hid (HasN w5 w2.heap.size x0 l) := X4.out.kept hg5.low
      have G5 : Hid (HasN w5 w3.heap.size g0 M) := G4.out.kept hg5.low
      clear hg5 B4 R4 X4 G4
      go_wp2_with fail
      refine (hto _ (h.out.kept B5.out)).mono ?_
      rintro e w6 ⟨u6, rfl, ho6, hb6⟩
      have B6 : Hid (Below w.heap.size w w6) := past12 B5.out hb6
      have R6 : Hid (HasN w6 w1.heap.size r0 M) := R5.out.kept hb6
      have X6 : Hid (HasN w6 w2.heap.size x0 l) := X5.out.kept hb6
      have G6 : Hid (HasN w6 w3.heap.size g0 M) := G5.out.kept hb6
      have O6 : Hid (Sls intE w6 u6 l) := ho6.sls
      clear hb6 ho6 B5 R5 X5 G5
      go_wp2_with fail
      refine (hel _ _ _ X6.out.sls O6.out).mono ?_
      rintro e w7 ⟨rfl, hg7⟩
      have B7 : Hid (Below w.heap.size w w7) := past12 B6.out hg7.low
      have R7 : Hid (HasN w7 w1.heap.size r0 M) := R6.out.kept hg7.low
      have X7 : Hid (HasN w7 w2.heap.size x0 l) := X6.out.kept hg7.low
      have G7 : Hid (HasN w7 w3.heap.size g0 M) := G6.out.kept hg7.low
      clear hg7 B6 R6 X6 G6 O6
      go_wp2_with fail
      refine (hkl _ _ _ X7.out).mono ?_
      rintro e w8 ⟨rfl, _, hg8⟩
      have B8 : Hid (Below w.heap.size w w8) := belowE B7.out hg8 B7.out.size (fun k hk => Nat.le_trans Z2.out (X7.out.from k hk))
      have R8 : Hid (HasN w8 w1.heap.size r0 M) := R7.out.grown hg8 (fun k hk e => by have := R3u.out k hk; have := X7.out.from k e; omega)
      have G8 : Hid (HasN w8 w3.heap.size g0 M) := G7.out.grown hg8 (fun k hk e => by have := X3u.out k e; have := G7.out.from k hk; omega)
      clear hg8 B7 R7 X7 G7
      go_wp2_with fail
      refine (hem _ _ _ G8.out.sls R8.out.sls).mono ?_
      rintro e w9 ⟨rfl, hg9⟩
      have B9 : Hid (Below w.heap.size w w9) := past12 B8.out hg9.low
      have R9 : Hid (HasN w9 w1.heap.size r0 M) := R8.out.kept hg9.low
      have G9 : Hid (HasN w9 w3.heap.size g0 M) := G8.out.kept hg9.low
      clear hg9 B8 R8 G8
      go_wp2_with fail
      refine (hkm _ _ _ G9.out).mono ?_
      rintro e wa ⟨rfl, hga, hgr⟩
      have BA : Hid (Below w.heap.size w wa) := belowE B9.out hgr B9.out.size (fun k hk => Nat.le_trans Z3.out (G9.out.from k hk))
      have RA : Hid (HasN wa w1.heap.size r0 M) := R9.out.grown hgr (fun k hk e => by have := R3u.out k hk; have := G9.out.from k e; have := Z23.out; omega)
      have GA : Hid (HasN wa w3.heap.size g0 (marksN M.length)) := hga
      clear hga hgr B9 R9 G9
      go_wp2_with fail
      refine (hhm _ _ GA.out.sls).mono ?_
      rintro e wb ⟨rfl, rfl⟩
      go_wp2_with fail
      refine (hto _ (h.out.kept BA.out)).mono ?_
      rintro e wc ⟨uc, rfl, hoc, hbc⟩
      have BC : Hid (Below w.heap.size w wc) := past12 BA.out hbc
      have RC : Hid (HasN wc w1.heap.size r0 M) := RA.out.kept hbc
      have GC : Hid (HasN wc w3.heap.size g0 (marksN M.length)) := GA.out.kept hbc
      have OC : Hid (Sls intE wc uc l) := hoc.sls
      clear hoc hbc BA RA GA
      go_wp2_with fail
      refine (him _ _ OC.out).mono ?_
      rintro e wd ⟨hh, rfl, hhd, hbd⟩
      have BD : Hid (Below w.heap.size w wd) := past12 BC.out hbd
      have RD : Hid (HasN wd w1.heap.size r0 M) := RC.out.kept hbd
      have GD : Hid (HasN wd w3.heap.size g0 (marksN M.length)) := GC.out.kept hbd
      have HD : Hid (HasN wd wc.heap.size hh M) := hhd
      clear hhd hbd BC RC GC OC
      go_wp2_with fail
      refine (hem _ _ _ HD.out.sls RD.out.sls).mono ?_
      rintro e we ⟨rfl, hge⟩
      have BE : Hid (Below w.heap.size w we) := past12 BD.out hge.low
      have GE : Hid (HasN we w3.heap.size g0 (marksN M.length)) := GD.out.kept hge.low
      clear hge BD RD GD HD
      go_wp2_with fail
      refine (hhm _ _ GE.out.sls).mono ?_
      rintro e wf ⟨rfl, rfl⟩
      go_wp2
      go_ret
      exact ⟨rfl, BE.out⟩
    · clear hi
      have hf2 : (1048576 : Int) < (key.size : Int) := by omega
      go_enter Tryd.func5, Tryd.ntmps5
      go_wp2
      go_ret
      exact ⟨rfl, Below.refl _ _⟩
  · clear hi
    have hf2 : (1048576 : Int) < (l.length : Int) := by omega
    go_enter Tryd.func5, Tryd.ntmps5
    go_wp2
    go_ret
    exact ⟨rfl, Below.refl _ _⟩
end Go.Proofs.YtdbeoloonoodkaaDoor
