/-
  The walk of FnExactClusterOk.
-/
import Derived.Test.YtdkhdjickkcaiaaRK27
import Derived.Test.YtdkhdjickkcaiaaRK25
import Derived.Deep.RegionWith
import Derived.Deep.DeepCutAuto
import Derived.Deep.Cut
import Derived.Deep.CutRange
namespace Go.Proofs.Ytdkhdjickkcaiaa.Rl
open Go.RowKit Go.Sort
set_option linter.unusedVariables false
set_option linter.unusedSimpArgs false

/-- Rows that read as this cluster's. -/
def ClN (w : World) (L : List Rx) (M : List Mx) (a : Option Addr) (c : Nat) (b : Option Addr) (d : Nat) : Prop := ∃ L' M', ClGot w (.slice a L.length c) (.slice b M.length d) L' M' ∧ SameR L L' ∧ SameM M M'
theorem ClN.kept {w w' : World} {L : List Rx} {M : List Mx} {a : Option Addr} {c : Nat} {b : Option Addr} {d : Nat} (h : ClN w L M a c b d) (hb : Below w.heap.size w w') : ClN w' L M a c b d := by
  obtain ⟨L', M', h1, h2, h3⟩ := h
  exact ⟨L', M', h1.kept hb, h2, h3⟩
theorem toClN (a b : Value) (L : List Rx) (M : List Mx) (w : World) (h : ClGot w a b L M) (hf : ClFit L M) :
    Calls Try.prog 8 #[cluA a b] w fun e w' => ∃ a1 c1 a2 c2, e = .returned (.agg #[.slice a1 L.length c1, .slice a2 M.length c2]) ∧ ClN w' L M a1 c1 a2 c2 ∧ Below w.heap.size w w' :=
  (toClu a b L M w h hf).mono fun e w' ⟨a1, c1, a2, c2, L', M', h1, h2, h3, h4, h5⟩ => ⟨a1, c1, a2, c2, h1, ⟨L', M', h2, h3, h4⟩, h5⟩
theorem eqClN (L : List Rx) (M : List Mx) (hf : ClFit L M) (a : Option Addr) (c : Nat) (b : Option Addr) (d : Nat) (a' : Option Addr) (c' : Nat) (b' : Option Addr) (d' : Nat) (w : World) (h : ClN w L M a c b d) (h' : ClN w L M a' c' b' d') :
    Calls Try.prog 10 #[.agg #[.slice a L.length c, .slice b M.length d], .agg #[.slice a' L.length c', .slice b' M.length d']] w fun e w' => e = .returned (.bool true) ∧ Below w.heap.size w w' := by
  obtain ⟨L1, M1, g1, e1, e2⟩ := h
  obtain ⟨L2, M2, g2, f1, f2⟩ := h'
  have q1 := e1.len
  have q2 := e2.len
  have := eqClu a c b d a' c' b' d' L1 M1 L2 M2 w (by rw [q1, q2]; exact g1) (by rw [q1, q2]; exact g2) (f1.trans e1.symm) (f2.trans e2.symm) (hf.same e1 e2)
  rw [q1, q2] at this
  exact this
theorem specClN (L : List Rx) (M : List Mx) (hf : ClFit L M) (a : Option Addr) (c : Nat) (b : Option Addr) (d : Nat) (w : World) (h : ClN w L M a c b d) :
    Calls Try.prog 7 #[.agg #[.slice a L.length c, .slice b M.length d]] w fun e w' => e = .returned (.bool (dB (clB L M))) ∧ Below w.heap.size w w' := by
  obtain ⟨L1, M1, g1, e1, e2⟩ := h
  have q1 := e1.len
  have q2 := e2.len
  have := specClu a c b d L1 M1 w (by rw [q1, q2]; exact g1) (hf.same e1 e2)
  rw [q1, q2, clB_same e1 e2] at this
  exact this
theorem implClN (L : List Rx) (M : List Mx) (hf : ClFit L M) (a : Option Addr) (c : Nat) (b : Option Addr) (d : Nat) (w : World) (h : ClN w L M a c b d) :
    Calls Try.prog 9 #[.agg #[.slice a L.length c, .slice b M.length d]] w fun e w' => e = .returned (.bool (dB (clB L M))) ∧ Below w.heap.size w w' := by
  obtain ⟨L1, M1, g1, e1, e2⟩ := h
  have q1 := e1.len
  have q2 := e2.len
  have := implClu a c b d L1 M1 w (by rw [q1, q2]; exact g1) (hf.same e1 e2)
  rw [q1, q2, clB_same e1 e2] at this
  exact this
def frCok (s t : Nat → Value) : Act := { tmps := #[s 0, s 1, s 2, s 3, s 4, s 5, s 6, s 7, s 8, s 9, s 10, s 11, s 12, s 13, s 14, s 15, s 16, s 17, s 18, s 19, s 20, s 21, t 22, t 23, t 24, t 25, s 26], defers := [] }
def dCok (i : Nat) : Nat := i + 22
def GCok (L : List Rx) (M : List Mx) (p4 : Option Addr) (d4 : Nat) (q4 : Option Addr) (f4 : Nat) (aa : Option Addr) (ac : Nat) (ba : Option Addr) (bc : Nat) (i : Nat) (x : World) (v : Value) : Prop := match i with
  | 0 => v = .agg #[.slice p4 L.length d4, .slice q4 M.length f4]
  | 1 => v = .agg #[.slice aa L.length ac, .slice ba M.length bc]
  | 2 => ∃ (a : Option Addr) (c : Nat) (b : Option Addr) (d : Nat), v = .agg #[.slice a L.length c, .slice b M.length d] ∧ ClN x L M a c b d
  | 3 => v = .bool true
  | _ => True
theorem GCok.keep {L : List Rx} {M : List Mx} {p4 : Option Addr} {d4 : Nat} {q4 : Option Addr} {f4 : Nat} {aa : Option Addr} {ac : Nat} {ba : Option Addr} {bc : Nat} {x y : World} (hb : Below x.heap.size x y) (j : Nat) (v : Value) (hj : j < 4) (h : GCok L M p4 d4 q4 f4 aa ac ba bc j x v) : GCok L M p4 d4 q4 f4 aa ac ba bc j y v := by
  rcases (show j = 0 ∨ j = 1 ∨ j = 2 ∨ j = 3 by omega) with rfl | rfl | rfl | rfl
  · exact h
  · exact h
  · obtain ⟨a, c, b, d, h1, h2⟩ := h; exact ⟨a, c, b, d, h1, h2.kept hb⟩
  · exact h
set_option maxRecDepth 100000 in
set_option maxHeartbeats 8000000 in
theorem walkCok (a b : Value) (L : List Rx) (M : List Mx) (w : World) (h : ClGot w a b L M) (hL : ClLens L M) :
    Calls Try.prog 3 #[cluA a b] w fun e w' => e = .returned (.bool true) ∧ Below w.heap.size w w' := by
  have HI : Hid (ClGot w a b L M) := h
  obtain ⟨⟨⟨aa, ac, rfl, _⟩, _⟩, ⟨⟨ba, bc, rfl, _⟩, _⟩⟩ := h
  have hsz := fun W hW => szClu (.slice aa L.length ac) (.slice ba M.length bc) L M W hW hL
  have hto := fun (hf : ClFit L M) W hW => toClN (.slice aa L.length ac) (.slice ba M.length bc) L M W hW hf
  have hel := eqClN L M
  have hsp := specClN L M
  have him := implClN L M
  generalize dB (clB L M) = T at hsp him
  have dT : (T != T) = false := by simp
  unfold cluA at *
  clear hL
  have AA : Hid (Bx (w.alloc (.cells #[.slice aa L.length ac, .slice ba M.length bc] 25)) w.heap.size 25 #[.slice aa L.length ac, .slice ba M.length bc]) := (show Hid _ from Bx.new _ _ _)
  have BB : Hid (Below w.heap.size w (w.alloc (.cells #[.slice aa L.length ac, .slice ba M.length bc] 25))) := (show Hid _ from (Below.refl _ w).alloc (Nat.le_refl _) _)
  generalize hw1 : (w.alloc (.cells #[.slice aa L.length ac, .slice ba M.length bc] 25)) = w1 at BB AA
  go_enter Try.func3, Try.ntmps3
  have a0 := AA.out.cell 0
  have a1 := AA.out.cell 1
  go_wp2_with fail
  clear hw1 a0 a1
  refine (hsz _ (HI.out.kept BB.out)).mono ?_
  rintro e w2 ⟨⟨z, rfl, q3⟩, hb⟩
  replace AA : Hid (Bx w2 w.heap.size 25 #[.slice aa L.length ac, .slice ba M.length bc]) := (show Hid _ from AA.out.kept hb)
  replace BB : Hid (Below w.heap.size w w2) := (show Hid _ from BB.out.trans (hb.mono BB.out.size))
  clear hb hsz
  have a0 := AA.out.cell 0
  have a1 := AA.out.cell 1
  by_cases hV : z < 0
  · go_wp2
    go_ret
    exact ⟨rfl, BB.out⟩
  have hf : ClFit L M := q3 (by omega)
  have HF : Hid (ClFit L M) := hf
  replace hto := hto hf
  replace hsp := hsp hf
  replace him := him hf
  replace hel := hel hf
  clear q3 hf
  go_wp2_with fail
  clear a0 a1
  refine (hto _ (HI.out.kept BB.out)).mono ?_
  rintro e w3 ⟨p2, d2, q2, f2, rfl, ho, hb⟩
  replace AA : Hid (Bx w3 w.heap.size 25 #[.slice aa L.length ac, .slice ba M.length bc]) := (show Hid _ from AA.out.kept hb)
  replace BB : Hid (Below w.heap.size w w3) := (show Hid _ from BB.out.trans (hb.mono BB.out.size))
  have U : Hid (ClN w3 L M p2 d2 q2 f2) := ho
  clear hb ho
  go_wp2_with fail
  refine (hsp _ _ _ _ _ U.out).mono ?_
  rintro e w4 ⟨rfl, hb⟩
  replace AA : Hid (Bx w4 w.heap.size 25 #[.slice aa L.length ac, .slice ba M.length bc]) := (show Hid _ from AA.out.kept hb)
  replace BB : Hid (Below w.heap.size w w4) := (show Hid _ from BB.out.trans (hb.mono BB.out.size))
  clear hb U hsp
  have a0 := AA.out.cell 0
  have a1 := AA.out.cell 1
  go_wp2_with fail
  clear a0 a1
  refine (hto _ (HI.out.kept BB.out)).mono ?_
  rintro e w5 ⟨p4, d4, q4, f4, rfl, ho, hb⟩
  replace AA : Hid (Bx w5 w.heap.size 25 #[.slice aa L.length ac, .slice ba M.length bc]) := (show Hid _ from AA.out.kept hb)
  replace BB : Hid (Below w.heap.size w w5) := (show Hid _ from BB.out.trans (hb.mono BB.out.size))
  have hbA : Below w5.heap.size w5 (w5.alloc (.cells #[.slice p4 L.length d4, .slice q4 M.length f4] 31)) := (Below.refl _ _).alloc (Nat.le_refl _) _
  have X : Hid (ClN (w5.alloc (.cells #[.slice p4 L.length d4, .slice q4 M.length f4] 31)) L M p4 d4 q4 f4) := (show Hid _ from ho.kept hbA)
  have X0 : Hid (Bx (w5.alloc (.cells #[.slice p4 L.length d4, .slice q4 M.length f4] 31)) w5.heap.size 31 #[.slice p4 L.length d4, .slice q4 M.length f4]) := (show Hid _ from Bx.new _ _ _)
  replace AA : Hid (Bx (w5.alloc (.cells #[.slice p4 L.length d4, .slice q4 M.length f4] 31)) w.heap.size 25 #[.slice aa L.length ac, .slice ba M.length bc]) := (show Hid _ from AA.out.kept hbA)
  replace BB : Hid (Below w.heap.size w (w5.alloc (.cells #[.slice p4 L.length d4, .slice q4 M.length f4] 31))) := (show Hid _ from BB.out.trans (hbA.mono BB.out.size))
  clear hb ho hbA
  generalize hww6 : (w5.alloc (.cells #[.slice p4 L.length d4, .slice q4 M.length f4] 31)) = w6 at BB AA X X0
  have a0 := AA.out.cell 0
  have a1 := AA.out.cell 1
  have k0 := X0.out.cell 0
  have k1 := X0.out.cell 1
  go_wp2_with fail
  clear hww6 a0 a1 k0 k1
  refine (him _ _ _ _ _ X.out).mono ?_
  rintro e w7 ⟨rfl, hb⟩
  replace AA : Hid (Bx w7 w.heap.size 25 #[.slice aa L.length ac, .slice ba M.length bc]) := (show Hid _ from AA.out.kept hb)
  replace BB : Hid (Below w.heap.size w w7) := (show Hid _ from BB.out.trans (hb.mono BB.out.size))
  replace X : Hid (ClN w7 L M p4 d4 q4 f4) := (show Hid _ from X.out.kept hb)
  replace X0 : Hid (Bx w7 w5.heap.size 31 #[.slice p4 L.length d4, .slice q4 M.length f4]) := (show Hid _ from X0.out.kept hb)
  clear hb him
  have a0 := AA.out.cell 0
  have a1 := AA.out.cell 1
  have k0 := X0.out.cell 0
  have k1 := X0.out.cell 1
  go_upto_region 10 with fail
  clear a0 a1 k0 k1
  have S0 : Below w7.heap.size w7 w7.drew := ⟨rfl, rfl, rfl, Nat.le_refl _, fun _ _ => rfl⟩
  generalize hA : Act.mk _ _ = A
  obtain ⟨s, hs, s1_, s2_, s5_⟩ : ∃ s : Nat → Value, A = frCok s (fun _ => undef) ∧ s 1 = .pointer (some ⟨w.heap.size, 0, none⟩) ∧ s 2 = .bool false ∧ s 5 = .pointer (some ⟨w5.heap.size, 0, none⟩) := by
    refine ⟨fun i => A.tmps.getD i undef, ?_, ?_, ?_, ?_⟩ <;> rw [← hA] <;> rfl
  rw [hs]
  clear hs hA
  refine region_heads 4 mixed (by decide) (by kernel_rfl) (by kernel_rfl) (by kernel_rfl) (by kernel_rfl) (frCok s) dCok (fun x => Below w7.heap.size w7 x) (GCok L M p4 d4 q4 f4 aa ac ba bc) (fun i j hi hj h => by unfold dCok; omega) ?put (fun _ => undef) rfl S0 ?step ?done
  case put =>
    intro i o hi ho t v
    rcases (show i = 0 ∨ i = 1 ∨ i = 2 ∨ i = 3 by omega) with rfl | rfl | rfl | rfl
    all_goals
      obtain rfl := Option.some.inj ho
      rfl
  case step =>
    intro i o hi ho t x hS hdep K hK
    rcases (show i = 0 ∨ i = 1 ∨ i = 2 ∨ i = 3 by omega) with rfl | rfl | rfl | rfl
    all_goals obtain rfl := Option.some.inj ho
    · have y0 := (X0.out.kept hS).cell 0
      have y1 := (X0.out.kept hS).cell 1
      have h2 := hK (.agg #[.slice p4 L.length d4, .slice q4 M.length f4]) x hS (fun j u hj hne h => h) rfl
      unfold frCok at h2 ⊢
      clear hK
      go_simp
      simpa [Act.put, y0, y1, s1_, s2_, s5_] using h2
    · have y0 := (AA.out.kept hS).cell 0
      have y1 := (AA.out.kept hS).cell 1
      have h2 := hK (.agg #[.slice aa L.length ac, .slice ba M.length bc]) x hS (fun j u hj hne h => h) rfl
      unfold frCok at h2 ⊢
      clear hK
      go_simp
      simpa [Act.put, y0, y1, s1_, s2_, s5_] using h2
    · have e1 : t 23 = .agg #[.slice aa L.length ac, .slice ba M.length bc] := hdep { on := 1, ground := Ground.data } (by simp) rfl
      refine callG1 (by rfl) 8 (.tmp 23) _ rfl (.agg #[.slice aa L.length ac, .slice ba M.length bc]) e1 (Go.Proofs.enters_of Try.func8 (by kernel_rfl) rfl _) (fun v y => (∃ (a : Option Addr) (c : Nat) (b : Option Addr) (d : Nat), v = .agg #[.slice a L.length c, .slice b M.length d] ∧ ClN y L M a c b d) ∧ Below x.heap.size x y) ((hto x (HI.out.kept (BB.out.trans (hS.mono BB.out.size)))).mono ?_) ?_
      · rintro e0 y0 ⟨a, c, b, d, h0, ho, hb9⟩
        exact ⟨_, h0, ⟨a, c, b, d, rfl, ho⟩, hb9⟩
      · rintro v y ⟨h0, hb2⟩
        exact hK v y ((show Below w7.heap.size w7 y from hS.trans (hb2.mono hS.size))) (fun j u hj hne h => GCok.keep hb2 j u hj h) h0
    · have e0 : t 22 = .agg #[.slice p4 L.length d4, .slice q4 M.length f4] := hdep { on := 0, ground := Ground.data } (by simp) rfl
      obtain ⟨a9, c9, b9, d9, e2, k2⟩ : ∃ (a : Option Addr) (c : Nat) (b : Option Addr) (d : Nat), t 24 = .agg #[.slice a L.length c, .slice b M.length d] ∧ ClN x L M a c b d := hdep { on := 2, ground := Ground.data } (by simp) rfl
      refine callG2 (by rfl) 10 (.tmp 22) (.tmp 24) _ rfl (.agg #[.slice p4 L.length d4, .slice q4 M.length f4]) (.agg #[.slice a9 L.length c9, .slice b9 M.length d9]) e0 e2 (Go.Proofs.enters_of Try.func10 (by kernel_rfl) rfl _) (fun v y => (v = .bool true) ∧ Below x.heap.size x y) ((hel _ _ _ _ _ _ _ _ x (X.out.kept hS) k2).mono ?_) ?_
      · rintro e0 y0 ⟨h0, hb9⟩
        exact ⟨_, h0, rfl, hb9⟩
      · rintro v y ⟨h0, hb2⟩
        exact hK v y ((show Below w7.heap.size w7 y from hS.trans (hb2.mono hS.size))) (fun j u hj hne h => GCok.keep hb2 j u hj h) h0
  case done =>
    intro t w8 hS hG
    have e3 : t 25 = .bool true := hG 3 (by decide)
    replace BB : Hid (Below w.heap.size w w8) := (show Hid _ from BB.out.trans (hS.mono BB.out.size))
    clear hG hS S0
    show wpList Try.prog _ _ [_] _ w8
    unfold frCok
    simp only [e3, s1_, s2_, s5_]
    clear e3 s1_ s2_ s5_
    go_wp2
    go_ret
    exact ⟨rfl, BB.out⟩
end Go.Proofs.Ytdkhdjickkcaiaa.Rl
