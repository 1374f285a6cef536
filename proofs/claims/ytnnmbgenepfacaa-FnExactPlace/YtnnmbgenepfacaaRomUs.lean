/-
  The walk of FnExactUsed, given what the program's Used answers.
-/
import Derived.Test.YtnnmbgenepfacaaRomY
import Derived.Test.YtnnmbgenepfacaaRomZ
import Derived.Test.YtnnmbgenepfacaaRomX
namespace Go.Proofs.Ytnnmbgenepfacaa
open Go.RowKit Go.Sort Rom
set_option linter.unusedVariables false
set_option linter.unusedSimpArgs false

theorem TwoB.grown {w w' : World} {b : Nat} {x y : Value} {r : Option Nat} (h : TwoB w b x y) (hg : w.grownBy w' r) (hne : r ≠ some b) : TwoB w' b x y := by
  have e := hg.block b h.lt (fun e => hne e.symm)
  exact ⟨(World.cell?_of_block (a := ⟨b, 0, none⟩) e).trans h.c0, (World.cell?_of_block (a := ⟨b, 1, none⟩) e).trans h.c1, (World.frozen?_of_block (a := ⟨b, 0, none⟩) e).trans h.f0, (World.frozen?_of_block (a := ⟨b, 1, none⟩) e).trans h.f1, Nat.lt_of_lt_of_le h.lt hg.size⟩
/-- What lies beside one another in an exact law of Shelves: the argument, the specification's answer, the copy that is handed over, the program's answer. -/
structure Us (w W : World) (q Q : Int) (v : Value) (M : List It) (b6 b7 b8 : Nat) (u6 u7 u8 : Value) (M7 M8 : List It) : Prop where
  low : Below w.heap.size w W
  sa : TwoB W w.heap.size (.int .i64 q) v
  s6 : TwoB W b6 (.int .i64 Q) u6
  s7 : TwoB W b7 (.int .i64 q) u7
  s8 : TwoB W b8 (.int .i64 Q) u8
  o6 : HasI8 W (w.heap.size + 1) u6 M
  o7 : HasI8 W (b6 + 1) u7 M7
  o8 : HasI8 W (b7 + 1) u8 M8
  k6 : ∀ k, u6.ownBlock = some k → k < b6
  k7 : ∀ k, u7.ownBlock = some k → k < b7
  k8 : ∀ k, u8.ownBlock = some k → k < b8
  c6 : w.heap.size < b6
  c7 : b6 < b7
  c8 : b7 < b8
theorem Us.kept {w W W' : World} {q Q : Int} {v : Value} {M : List It} {b6 b7 b8 : Nat} {u6 u7 u8 : Value} {M7 M8 : List It} (h : Us w W q Q v M b6 b7 b8 u6 u7 u8 M7 M8) (hb : Below W.heap.size W W') : Us w W' q Q v M b6 b7 b8 u6 u7 u8 M7 M8 :=
  ⟨h.low.trans (hb.mono h.low.size), h.sa.kept hb h.sa.lt, h.s6.kept hb h.s6.lt, h.s7.kept hb h.s7.lt, h.s8.kept hb h.s8.lt, h.o6.kept hb, h.o7.kept hb, h.o8.kept hb, h.k6, h.k7, h.k8, h.c6, h.c7, h.c8⟩
theorem Us.mark7 {w W W' : World} {q Q : Int} {v : Value} {M : List It} {b6 b7 b8 : Nat} {u6 u7 u8 : Value} {M7 M8 M7' : List It} (h : Us w W q Q v M b6 b7 b8 u6 u7 u8 M7 M8) (hg : W.grownBy W' u7.ownBlock) (ho : HasI8 W' (b6 + 1) u7 M7') : Us w W' q Q v M b6 b7 b8 u6 u7 u8 M7' M8 := by
  have f7 := fun k hk => h.o7.from k hk
  have f8 := fun k hk => h.o8.from k hk
  have k6 := h.k6; have k7 := h.k7; have c6 := h.c6; have c7 := h.c7; have c8 := h.c8
  refine ⟨belowE h.low hg h.low.size (fun k hk => by have := f7 k hk; omega), h.sa.grown hg (fun e => by have := f7 _ e; omega), h.s6.grown hg (fun e => by have := f7 _ e; omega), h.s7.grown hg (fun e => by have := k7 _ e; omega), h.s8.grown hg (fun e => by have := k7 _ e; omega), h.o6.grown hg (fun k hk e => by have := k6 k hk; have := f7 k e; omega), ho, h.o8.grown hg (fun k hk e => by have := f8 k hk; have := k7 k e; omega), h.k6, h.k7, h.k8, h.c6, h.c7, h.c8⟩
theorem Us.mark8 {w W W' : World} {q Q : Int} {v : Value} {M : List It} {b6 b7 b8 : Nat} {u6 u7 u8 : Value} {M7 M8 M8' : List It} (h : Us w W q Q v M b6 b7 b8 u6 u7 u8 M7 M8) (hg : W.grownBy W' u8.ownBlock) (ho : HasI8 W' (b7 + 1) u8 M8') : Us w W' q Q v M b6 b7 b8 u6 u7 u8 M7 M8' := by
  have f8 := fun k hk => h.o8.from k hk
  have k6 := h.k6; have k7 := h.k7; have k8 := h.k8; have c6 := h.c6; have c7 := h.c7; have c8 := h.c8
  refine ⟨belowE h.low hg h.low.size (fun k hk => by have := f8 k hk; omega), h.sa.grown hg (fun e => by have := f8 _ e; omega), h.s6.grown hg (fun e => by have := f8 _ e; omega), h.s7.grown hg (fun e => by have := f8 _ e; omega), h.s8.grown hg (fun e => by have := k8 _ e; omega), h.o6.grown hg (fun k hk e => by have := k6 k hk; have := f8 k e; omega), h.o7.grown hg (fun k hk e => by have := k7 k hk; have := f8 k e; omega), ho, h.k6, h.k7, h.k8, h.c6, h.c7, h.c8⟩
theorem usdL_length (q : Int) (l : List It) (key : ByteArray) (h : l.length ≤ 1048576) : (usdL q l key).length ≤ 1048576 := by
  unfold usdL
  split
  · rw [usdI_length]; exact h
  · exact Nat.zero_le _
set_option maxRecDepth 100000 in
set_option maxHeartbeats 8000000 in
theorem walkUsd (hi : ∀ (q : Int) (v : Value) (l : List It) (key : ByteArray) (w : World), Sls itE w v l → l.length ≤ 1048576 → (∀ x ∈ l, x.1.size ≤ maxLen) → Calls Try.prog 31 #[shV q v, .string key] w fun e w' => ∃ u, e = .returned (shV (usdQ q l) u) ∧ HasI8 w' w.heap.size u (usdL q l key) ∧ Below w.heap.size w w')
    (q : Int) (v : Value) (l : List It) (key : ByteArray) (w : World) (h : Sls itE w v l) (hs : ∀ x ∈ l, x.1.size ≤ maxLen) (hkz : key.size ≤ maxLen) :
    Calls Try.prog 12 #[shV q v, .string key] w fun e w' => e = .returned (.bool true) ∧ Below w.heap.size w w' := by
  obtain ⟨a, cap, rfl, _⟩ := h.itm
  have H : Hid (Sls itE w (.slice a l.length cap) l) := h
  have hsz := fun W hW => szSh q (.slice a l.length cap) l W hW hs
  have hV : szV l < 0 ∨ (¬ szV l < 0 ∧ l.length ≤ 1048576) := by unfold szV; split <;> omega
  have hto := fun (hf : l.length ≤ 1048576) W hW => toSh q (.slice a l.length cap) l W hW hf
  have hsp := fun (hf : l.length ≤ 1048576) u W hW => specUsd q u l key W hW hf hs
  have him := fun (hf : l.length ≤ 1048576) u W hW => hi q u l key W hW hf hs
  have hml := usdL_length q l key
  have heqM := fun (hf : l.length ≤ 1048576) u v W hu hv => eqSh (usdQ q l) u v (usdL q l key) W hu hv (hml hf)
  have heqL := fun (hf : l.length ≤ 1048576) u v W hu hv => eqSh q u v l W hu hv hf
  have hmkL := fun (hf : l.length ≤ 1048576) u B W hW => markSh 1 (by decide) (by decide) q u l B W hW hf
  have hmkM := fun (hf : l.length ≤ 1048576) u B W hW => markSh 1 (by decide) (by decide) (usdQ q l) u (usdL q l key) B W hW (hml hf)
  have hhd := fun (hf : l.length ≤ 1048576) u W hW => heldSh 1 (by decide) (by decide) (usdQ q l) u (usdL q l key).length W hW (hml hf)
  unfold maxLen at hkz
  unfold shV at *
  have B0 : Hid (Below w.heap.size w (w.alloc (.cells #[.int .i64 q, .slice a l.length cap] 53))) := (Below.refl _ w).alloc (Nat.le_refl _) _
  have A0 : Hid (TwoB (w.alloc (.cells #[.int .i64 q, .slice a l.length cap] 53)) w.heap.size (.int .i64 q) (.slice a l.length cap)) := TwoB.new _ _ _ _
  have hz0 : (w.alloc (.cells #[.int .i64 q, .slice a l.length cap] 53)).heap.size = w.heap.size + 1 := by simp
  generalize szV l = V at hsz hV
  generalize usdQ q l = Q at hsp him heqM hmkM hhd
  generalize usdL q l key = M at hsp him heqM hmkM hhd hml
  clear h hi
  by_cases hkb : 1048576 < (key.size : Int)
  · go_enter Try.func12, Try.ntmps12
    go_wp2
    go_ret
    exact ⟨rfl, B0.out⟩
  · go_enter Try.func12, Try.ntmps12
    generalize hwA : w.alloc (.cells #[.int .i64 q, .slice a l.length cap] 53) = wA at A0 B0 hz0
    have c0 := A0.out.c0
    have c1 := A0.out.c1
    go_wp2_with fail
    refine (hsz _ (H.out.kept B0.out)).mono ?_
    rintro e w1 ⟨rfl, hb1⟩
    have B1 : Hid (Below w.heap.size w w1) := (show Hid _ from B0.out.trans (hb1.mono B0.out.size))
    have A1 : Hid (TwoB w1 w.heap.size (.int .i64 q) (.slice a l.length cap)) := A0.out.kept hb1 A0.out.lt
    have y0 := A1.out.c0
    have y1 := A1.out.c1
    have hz1 := hb1.size
    rw [hz0] at hz1
    clear hb1 c0 c1 A0 B0 hwA hz0 hsz
    rcases hV with hV | ⟨hV, hf⟩
    · go_wp2
      go_ret
      exact ⟨rfl, B1.out⟩
    · have hto := hto hf
      have hsp := hsp hf
      have him := him hf
      have heqM := heqM hf
      have heqL := heqL hf
      have hmkL := hmkL hf
      have hmkM := hmkM hf
      have hhd := hhd hf
      have hml := hml hf
      go_wp2_with fail
      refine (hto _ (H.out.kept B1.out)).mono ?_
      rintro e w2 ⟨u2, rfl, ho2, hb2⟩
      have B2 : Hid (Below w.heap.size w w2) := (show Hid _ from B1.out.trans (hb2.mono B1.out.size))
      have A2 : Hid (TwoB w2 w.heap.size (.int .i64 q) (.slice a l.length cap)) := A1.out.kept hb2 A1.out.lt
      have S2 : Hid (Sls itE w2 u2 l) := ho2.sls
      have hz2 := hb2.size
      clear hb2 ho2 A1 B1 y0 y1
      go_wp2_with fail
      refine (hsp _ _ S2.out).mono ?_
      rintro e w3 ⟨u3, rfl, ho3, hb3⟩
      have B3 : Below w.heap.size w w3 := B2.out.trans (hb3.mono B2.out.size)
      have A3 : TwoB w3 w.heap.size (.int .i64 q) (.slice a l.length cap) := A2.out.kept hb3 A2.out.lt
      have O3 := ho3.low (B' := w.heap.size + 1) (by omega)
      obtain ⟨a3, c3, rfl, _⟩ := ho3.form
      have hz3 := hb3.size
      have k3 := fun k hk => ho3.under k hk
      have bA : Below w3.heap.size w3 (w3.alloc (.cells #[.int .i64 Q, .slice a3 M.length c3] 34)) := (Below.refl _ w3).alloc (Nat.le_refl _) _
      have B4 : Hid (Below w.heap.size w (w3.alloc (.cells #[.int .i64 Q, .slice a3 M.length c3] 34))) := (show Hid _ from B3.trans (bA.mono B3.size))
      have A4 : Hid (TwoB (w3.alloc (.cells #[.int .i64 Q, .slice a3 M.length c3] 34)) w.heap.size (.int .i64 q) (.slice a l.length cap)) := A3.kept bA A3.lt
      have S64 : Hid (TwoB (w3.alloc (.cells #[.int .i64 Q, .slice a3 M.length c3] 34)) w3.heap.size (.int .i64 Q) (.slice a3 M.length c3)) := TwoB.new _ _ _ _
      have O64 : Hid (HasI8 (w3.alloc (.cells #[.int .i64 Q, .slice a3 M.length c3] 34)) (w.heap.size + 1) (.slice a3 M.length c3) M) := (O3.kept bA).has
      have K6 : Hid (∀ k, (Value.slice a3 M.length c3).ownBlock = some k → k < w3.heap.size) := k3
      have hz4 : (w3.alloc (.cells #[.int .i64 Q, .slice a3 M.length c3] 34)).heap.size = w3.heap.size + 1 := by simp
      have y0 := A3.c0
      have y1 := A3.c1
      have hlt3 : w.heap.size < w3.heap.size := A3.lt
      clear hb3 ho3 A2 B2 S2 B3 A3 O3 k3 bA
      go_wp2_with fail
      generalize w3.alloc (.cells #[.int .i64 Q, .slice a3 M.length c3] 34) = w4 at B4 A4 S64 O64 hz4 ⊢
      refine (hto _ (H.out.kept B4.out)).mono ?_
      rintro e w5 ⟨u5, rfl, ho5, hb5⟩
      have A5 : TwoB w5 w.heap.size (.int .i64 q) (.slice a l.length cap) := A4.out.kept hb5 A4.out.lt
      have S65 : TwoB w5 w3.heap.size (.int .i64 Q) (.slice a3 M.length c3) := S64.out.kept hb5 S64.out.lt
      have O65 := O64.out.kept hb5
      have B5 : Below w.heap.size w w5 := B4.out.trans (hb5.mono B4.out.size)
      have O5 := ho5.low (B' := w3.heap.size + 1) (by omega)
      obtain ⟨a5, c5, rfl, _⟩ := ho5.form
      have k5 := fun k hk => ho5.under k hk
      have hz5 := hb5.size
      have bA : Below w5.heap.size w5 (w5.alloc (.cells #[.int .i64 q, .slice a5 l.length c5] 34)) := (Below.refl _ w5).alloc (Nat.le_refl _) _
      have B6 : Hid (Below w.heap.size w (w5.alloc (.cells #[.int .i64 q, .slice a5 l.length c5] 34))) := (show Hid _ from B5.trans (bA.mono B5.size))
      have A6 : Hid (TwoB (w5.alloc (.cells #[.int .i64 q, .slice a5 l.length c5] 34)) w.heap.size (.int .i64 q) (.slice a l.length cap)) := A5.kept bA A5.lt
      have S66 : Hid (TwoB (w5.alloc (.cells #[.int .i64 q, .slice a5 l.length c5] 34)) w3.heap.size (.int .i64 Q) (.slice a3 M.length c3)) := S65.kept bA S65.lt
      have O66 : Hid (HasI8 (w5.alloc (.cells #[.int .i64 q, .slice a5 l.length c5] 34)) (w.heap.size + 1) (.slice a3 M.length c3) M) := O65.kept bA
      have S76 : Hid (TwoB (w5.alloc (.cells #[.int .i64 q, .slice a5 l.length c5] 34)) w5.heap.size (.int .i64 q) (.slice a5 l.length c5)) := TwoB.new _ _ _ _
      have O76 : Hid (HasI8 (w5.alloc (.cells #[.int .i64 q, .slice a5 l.length c5] 34)) (w3.heap.size + 1) (.slice a5 l.length c5) l) := (O5.kept bA).has
      have K7 : Hid (∀ k, (Value.slice a5 l.length c5).ownBlock = some k → k < w5.heap.size) := k5
      have hz6 : (w5.alloc (.cells #[.int .i64 q, .slice a5 l.length c5] 34)).heap.size = w5.heap.size + 1 := by simp
      clear hb5 ho5 A4 B4 S64 O64 A5 S65 O65 B5 O5 k5 bA y0 y1
      go_wp2_with fail
      generalize w5.alloc (.cells #[.int .i64 q, .slice a5 l.length c5] 34) = w6 at B6 A6 S66 O66 S76 O76 hz6 ⊢
      refine (him _ _ O76.out.sls).mono ?_
      rintro e w7 ⟨u7, rfl, ho7, hb7⟩
      have O7 := ho7.low (B' := w5.heap.size + 1) (by omega)
      obtain ⟨a7, c7, rfl, _⟩ := ho7.form
      have k7 := fun k hk => ho7.under k hk
      have bA : Below w7.heap.size w7 (w7.alloc (.cells #[.int .i64 Q, .slice a7 M.length c7] 34)) := (Below.refl _ w7).alloc (Nat.le_refl _) _
      have hz7 := hb7.size
      have U0 : Hid (Us w (w7.alloc (.cells #[.int .i64 Q, .slice a7 M.length c7] 34)) q Q (.slice a l.length cap) M w3.heap.size w5.heap.size w7.heap.size (.slice a3 M.length c3) (.slice a5 l.length c5) (.slice a7 M.length c7) l M) := by
        have hbb : Below w6.heap.size w6 (w7.alloc (.cells #[.int .i64 Q, .slice a7 M.length c7] 34)) := hb7.trans (bA.mono hb7.size)
        exact ⟨B6.out.trans (hbb.mono B6.out.size), A6.out.kept hbb A6.out.lt, S66.out.kept hbb S66.out.lt, S76.out.kept hbb S76.out.lt, TwoB.new _ _ _ _, O66.out.kept hbb, O76.out.kept hbb, O7.kept bA, K6.out, K7.out, k7, hlt3, by omega, by omega⟩
      have y0 : w7.cell? ⟨w3.heap.size, 0, none⟩ = some (.int .i64 Q) := (S66.out.kept hb7 S66.out.lt).c0
      have y1 : w7.cell? ⟨w3.heap.size, 1, none⟩ = some (.slice a3 M.length c3) := (S66.out.kept hb7 S66.out.lt).c1
      have hlt7 : w3.heap.size < w7.heap.size := (S66.out.kept hb7 S66.out.lt).lt
      clear hb7 ho7 B6 A6 S66 O66 S76 O76 hz6 O7 k7 bA K6 K7
      go_wp2_with fail
      generalize hw8 : w7.alloc (.cells #[.int .i64 Q, .slice a7 M.length c7] 34) = w8 at U0 ⊢
      clear y0 y1 hw8
      refine (heqM _ _ _ U0.out.o8.sls U0.out.o6.sls).mono ?_
      rintro e w9 ⟨rfl, hg9⟩
      have U1 : Hid (Us w w9 q Q (.slice a l.length cap) M w3.heap.size w5.heap.size w7.heap.size (.slice a3 M.length c3) (.slice a5 l.length c5) (.slice a7 M.length c7) l M) := U0.out.kept hg9.low
      clear hg9 U0
      have x0 := U1.out.s7.c0
      have x1 := U1.out.s7.c1
      have z0 := U1.out.sa.c0
      have z1 := U1.out.sa.c1
      have xl := U1.out.s7.lt
      go_wp2_with fail
      go_cut [38] from 34 to 38 (fun s wx => s = .bool false ∧ Hid (Us w wx q Q (.slice a l.length cap) M w3.heap.size w5.heap.size w7.heap.size (.slice a3 M.length c3) (.slice a5 l.length c5) (.slice a7 M.length c7) l M))
      case first =>
        go_region_with (first
          | (go_at_call 43; refine (hto _ (H.out.kept (by exact ⟨U1.out.low.os, U1.out.low.tape, U1.out.low.output, U1.out.low.size, U1.out.low.block⟩))).mono ?_; rintro e w10 ⟨u10, rfl, ho10, hb10⟩; have x0' : w10.cell? ⟨w5.heap.size, 0, none⟩ = some (.int .i64 q) := (hb10.cell (p := ⟨w5.heap.size, 0, none⟩) xl).trans x0; have x1' : w10.cell? ⟨w5.heap.size, 1, none⟩ = some (.slice a5 l.length c5) := (hb10.cell (p := ⟨w5.heap.size, 1, none⟩) xl).trans x1; have U2 : Hid (Us w w10 q Q (.slice a l.length cap) M w3.heap.size w5.heap.size w7.heap.size (.slice a3 M.length c3) (.slice a5 l.length c5) (.slice a7 M.length c7) l M) := U1.out.kept (by exact ⟨hb10.os, hb10.tape, hb10.output, hb10.size, hb10.block⟩); have S10 : Hid (Sls itE w10 u10 l) := ho10.sls; clear hb10 ho10)
          | (go_at_call 44; refine (heqL _ _ _ (by exact U2.out.o7.sls) (by exact S10.out)).mono ?_; rintro e w11 ⟨rfl, hg11⟩; have U3 : Hid (Us w w11 q Q (.slice a l.length cap) M w3.heap.size w5.heap.size w7.heap.size (.slice a3 M.length c3) (.slice a5 l.length c5) (.slice a7 M.length c7) l M) := U2.out.kept (by exact ⟨hg11.low.os, hg11.low.tape, hg11.low.output, hg11.low.size, hg11.low.block⟩); clear hg11))
        all_goals (try go_wp2_with fail)
        all_goals go_meet
        all_goals exact ⟨rfl, U3⟩
      case rest =>
        obtain ⟨rfl, U3⟩ := hcut
        obtain ⟨w11, rfl⟩ : ∃ z, z = wc := ⟨wc, rfl⟩
        clear U1 x0 x1 z0 z1 xl
        have x0 := U3.out.s7.c0
        have x1 := U3.out.s7.c1
        go_wp2_with fail
        refine (hmkL _ _ _ U3.out.o7).mono ?_
        rintro e w12 ⟨rfl, ho12, hg12⟩
        have U4 : Hid (Us w w12 q Q (.slice a l.length cap) M w3.heap.size w5.heap.size w7.heap.size (.slice a3 M.length c3) (.slice a5 l.length c5) (.slice a7 M.length c7) (marksI 1 l.length) M) := U3.out.mark7 hg12 ho12
        have y0 := U4.out.s8.c0
        have y1 := U4.out.s8.c1
        have z0 := U4.out.s6.c0
        have z1 := U4.out.s6.c1
        clear U3 ho12 hg12 x0 x1
        go_wp2_with fail
        refine (heqM _ _ _ U4.out.o8.sls U4.out.o6.sls).mono ?_
        rintro e w13 ⟨rfl, hg13⟩
        have U5 : Hid (Us w w13 q Q (.slice a l.length cap) M w3.heap.size w5.heap.size w7.heap.size (.slice a3 M.length c3) (.slice a5 l.length c5) (.slice a7 M.length c7) (marksI 1 l.length) M) := U4.out.kept hg13.low
        have y0 := U5.out.s8.c0
        have y1 := U5.out.s8.c1
        clear U4 hg13 z0 z1
        go_wp2_with fail
        refine (hmkM _ _ _ U5.out.o8).mono ?_
        rintro e w14 ⟨rfl, ho14, hg14⟩
        have U6 : Hid (Us w w14 q Q (.slice a l.length cap) M w3.heap.size w5.heap.size w7.heap.size (.slice a3 M.length c3) (.slice a5 l.length c5) (.slice a7 M.length c7) (marksI 1 l.length) (marksI 1 M.length)) := U5.out.mark8 hg14 ho14
        have y0 := U6.out.s8.c0
        have y1 := U6.out.s8.c1
        clear U5 ho14 hg14
        go_wp2_with fail
        refine (hhd _ _ U6.out.o8.sls).mono ?_
        rintro e w15 ⟨rfl, hb15⟩
        have U7 : Hid (Us w w15 q Q (.slice a l.length cap) M w3.heap.size w5.heap.size w7.heap.size (.slice a3 M.length c3) (.slice a5 l.length c5) (.slice a7 M.length c7) (marksI 1 l.length) (marksI 1 M.length)) := U6.out.kept hb15
        have z0 := U7.out.sa.c0
        have z1 := U7.out.sa.c1
        clear U6 hb15 y0 y1
        have hMi : ¬ (((1 : Nat) : Int) + 2 * (M.length : Int) < 0) := by omega
        go_wp2_with fail
        refine (hto _ (H.out.kept U7.out.low)).mono ?_
        rintro e w16 ⟨u16, rfl, ho16, hb16⟩
        have U8 : Hid (Us w w16 q Q (.slice a l.length cap) M w3.heap.size w5.heap.size w7.heap.size (.slice a3 M.length c3) (.slice a5 l.length c5) (.slice a7 M.length c7) (marksI 1 l.length) (marksI 1 M.length)) := U7.out.kept hb16
        have S16 : Hid (Sls itE w16 u16 l) := ho16.sls
        clear U7 hb16 ho16 z0 z1
        go_wp2_with fail
        refine (him _ _ S16.out).mono ?_
        rintro e w17 ⟨u17, rfl, ho17, hb17⟩
        obtain ⟨a17, c17, rfl, _⟩ := ho17.form
        have bA : Below w17.heap.size w17 (w17.alloc (.cells #[.int .i64 Q, .slice a17 M.length c17] 34)) := (Below.refl _ w17).alloc (Nat.le_refl _) _
        have U9 : Hid (Us w (w17.alloc (.cells #[.int .i64 Q, .slice a17 M.length c17] 34)) q Q (.slice a l.length cap) M w3.heap.size w5.heap.size w7.heap.size (.slice a3 M.length c3) (.slice a5 l.length c5) (.slice a7 M.length c7) (marksI 1 l.length) (marksI 1 M.length)) := (U8.out.kept hb17).kept bA
        have S17 : Hid (Sls itE (w17.alloc (.cells #[.int .i64 Q, .slice a17 M.length c17] 34)) (.slice a17 M.length c17) M) := ho17.sls.kept bA
        have z0 : w17.cell? ⟨w3.heap.size, 0, none⟩ = some (.int .i64 Q) := (U8.out.kept hb17).s6.c0
        have z1 : w17.cell? ⟨w3.heap.size, 1, none⟩ = some (.slice a3 M.length c3) := (U8.out.kept hb17).s6.c1
        have zl : w3.heap.size < w17.heap.size := (U8.out.kept hb17).s6.lt
        clear U8 hb17 ho17 S16 bA
        go_wp2_with fail
        generalize hw18 : w17.alloc (.cells #[.int .i64 Q, .slice a17 M.length c17] 34) = w18 at U9 S17 ⊢
        clear z0 z1 zl hw18
        refine (heqM _ _ _ S17.out U9.out.o6.sls).mono ?_
        rintro e w19 ⟨rfl, hg19⟩
        have U10 : Hid (Us w w19 q Q (.slice a l.length cap) M w3.heap.size w5.heap.size w7.heap.size (.slice a3 M.length c3) (.slice a5 l.length c5) (.slice a7 M.length c7) (marksI 1 l.length) (marksI 1 M.length)) := U9.out.kept hg19.low
        have y0 := U10.out.s8.c0
        have y1 := U10.out.s8.c1
        clear U9 hg19 S17
        go_wp2_with fail
        refine (hhd _ _ U10.out.o8.sls).mono ?_
        rintro e w20 ⟨rfl, hb20⟩
        have U11 : Hid (Below w.heap.size w w20) := (show Hid _ from (U10.out.kept hb20).low)
        clear U10 hb20 y0 y1
        go_wp2
        go_ret
        exact ⟨rfl, U11.out⟩
end Go.Proofs.Ytnnmbgenepfacaa
