/-
  The walk of FnExactPlace, given what the program's Place answers.
-/
import Derived.Test.YtnnmbgenepfacaaRomPm
import Derived.Test.YtnnmbgenepfacaaRomPn
import Derived.Test.YtnnmbgenepfacaaRomUs
import Derived.Test.YtnnmbgenepfacaaRomZt
namespace Go.Proofs.Ytnnmbgenepfacaa
open Go.RowKit Go.Sort Rom
set_option linter.unusedVariables false
set_option linter.unusedSimpArgs false

theorem specPla (q : Int) (v : Value) (l : List It) (key : ByteArray) (n : Int) (w : World) (h : Sls itE w v l) (hlen : l.length ≤ 1048576) (hs : ∀ x ∈ l, x.1.size ≤ maxLen) (hks : key.size ≤ maxLen) :
    Calls Try.prog 32 #[shV q v, .string key, .int .i64 n] w fun e w' => ∃ u g, e = .returned (.tuple #[shV (usdQ q l) u, g]) ∧ OwnsI8 w' w.heap.size u (plaL q l key n) ∧ OwnsX w' w.heap.size g (plaG q l key n) ∧ Below w.heap.size w w' := by
  cases hok : shOk q l with
  | false => exact specPlaA q v l key n w h hlen hs hks hok
  | true =>
    cases hio : itOk q (key, n) with
    | false => exact specPlaB q v l key n w h hlen hs hks hok hio
    | true => exact specPlaC q v l key n w h hlen hs hks hok hio
theorem HasE.ty {α : Type} {E : Enc α} {ty : TypeId} {w : World} {B k : Nat} {v : Value} {l : List α} (h : HasE E ty w B v l) (hk : v.ownBlock = some k) : ∃ cur, w.heap[k]? = some (.cells cur ty (0, 0)) := by
  rcases h with ⟨rfl, _⟩ | ⟨g, cap, cur, rfl, _, hg, _⟩
  · simp [Value.ownBlock] at hk
  · obtain rfl : g = k := by simpa [Value.ownBlock] using hk
    exact ⟨cur, hg⟩
structure Uq (w W : World) (q Q : Int) (v : Value) (M : List It) (b6 b7 b8 : Nat) (u6 u7 u8 : Value) (M7 M8 : List It) (G G8 : List ByteArray) (v6 v8 : Value) : Prop where
  us : Us w W q Q v M b6 b7 b8 u6 u7 u8 M7 M8
  x6 : HasX W (w.heap.size + 1) v6 G
  x8 : HasX W (b7 + 1) v8 G8
  kx6 : ∀ k, v6.ownBlock = some k → k < b6
  kx8 : ∀ k, v8.ownBlock = some k → k < b8
theorem Uq.kept {w W W' : World} {q Q : Int} {v : Value} {M : List It} {b6 b7 b8 : Nat} {u6 u7 u8 : Value} {M7 M8 : List It} {G G8 : List ByteArray} {v6 v8 : Value} (h : Uq w W q Q v M b6 b7 b8 u6 u7 u8 M7 M8 G G8 v6 v8) (hb : Below W.heap.size W W') : Uq w W' q Q v M b6 b7 b8 u6 u7 u8 M7 M8 G G8 v6 v8 :=
  ⟨h.us.kept hb, h.x6.kept hb, h.x8.kept hb, h.kx6, h.kx8⟩
theorem Uq.mark7 {w W W' : World} {q Q : Int} {v : Value} {M : List It} {b6 b7 b8 : Nat} {u6 u7 u8 : Value} {M7 M8 M7' : List It} {G G8 : List ByteArray} {v6 v8 : Value} (h : Uq w W q Q v M b6 b7 b8 u6 u7 u8 M7 M8 G G8 v6 v8) (hg : W.grownBy W' u7.ownBlock) (ho : HasI8 W' (b6 + 1) u7 M7') : Uq w W' q Q v M b6 b7 b8 u6 u7 u8 M7' M8 G G8 v6 v8 := by
  have f7 := fun k hk => h.us.o7.from k hk
  have f8 := fun k hk => h.x8.from k hk
  have k7 := h.us.k7; have k6 := h.kx6
  exact ⟨h.us.mark7 hg ho, h.x6.grown hg (fun k hk e => by have := k6 k hk; have := f7 k e; omega), h.x8.grown hg (fun k hk e => by have := f8 k hk; have := k7 k e; omega), h.kx6, h.kx8⟩
theorem Uq.mark8 {w W W' : World} {q Q : Int} {v : Value} {M : List It} {b6 b7 b8 : Nat} {u6 u7 u8 : Value} {M7 M8 M8' : List It} {G G8 : List ByteArray} {v6 v8 : Value} (h : Uq w W q Q v M b6 b7 b8 u6 u7 u8 M7 M8 G G8 v6 v8) (hg : W.grownBy W' u8.ownBlock) (ho : HasI8 W' (b7 + 1) u8 M8') : Uq w W' q Q v M b6 b7 b8 u6 u7 u8 M7 M8' G G8 v6 v8 := by
  have f8 := fun k hk => h.us.o8.from k hk
  have k6 := h.kx6; have c7 := h.us.c7
  exact ⟨h.us.mark8 hg ho, h.x6.grown hg (fun k hk e => by have := k6 k hk; have := f8 k e; omega), h.x8.grown hg (fun k hk e => by
    obtain ⟨c1, h1⟩ := h.x8.ty hk
    obtain ⟨c2, h2⟩ := h.us.o8.ty e
    exact absurd (block_ty h1 h2) (by decide)), h.kx6, h.kx8⟩
theorem Uq.markx {w W W' : World} {q Q : Int} {v : Value} {M : List It} {b6 b7 b8 : Nat} {u6 u7 u8 : Value} {M7 M8 : List It} {G G8 G8' : List ByteArray} {v6 v8 : Value} (h : Uq w W q Q v M b6 b7 b8 u6 u7 u8 M7 M8 G G8 v6 v8) (hg : W.grownBy W' v8.ownBlock) (ho : HasX W' (b7 + 1) v8 G8') : Uq w W' q Q v M b6 b7 b8 u6 u7 u8 M7 M8 G G8' v6 v8 := by
  have f8 := fun k hk => h.x8.from k hk
  have k8 := h.kx8
  have kk6 := h.us.k6; have kk7 := h.us.k7; have k6 := h.kx6; have c6 := h.us.c6; have c7 := h.us.c7; have c8 := h.us.c8
  refine ⟨⟨belowE h.us.low hg h.us.low.size (fun k hk => by have := f8 k hk; omega), h.us.sa.grown hg (fun e => by have := f8 _ e; omega), h.us.s6.grown hg (fun e => by have := f8 _ e; omega), h.us.s7.grown hg (fun e => by have := f8 _ e; omega), h.us.s8.grown hg (fun e => by have := k8 _ e; omega), h.us.o6.grown hg (fun k hk e => by have := kk6 k hk; have := f8 k e; omega), h.us.o7.grown hg (fun k hk e => by have := kk7 k hk; have := f8 k e; omega), h.us.o8.grown hg (fun k hk e => by
    obtain ⟨c1, h1⟩ := h.x8.ty e
    obtain ⟨c2, h2⟩ := h.us.o8.ty hk
    exact absurd (block_ty h2 h1) (by decide)), h.us.k6, h.us.k7, h.us.k8, h.us.c6, h.us.c7, h.us.c8⟩, h.x6.grown hg (fun k hk e => by have := k6 k hk; have := f8 k e; omega), ho, h.kx6, h.kx8⟩
theorem plaL_length (q : Int) (l : List It) (key : ByteArray) (n : Int) (h : l.length ≤ 1048576) : (plaL q l key n).length ≤ 1048576 := by
  unfold plaL
  split
  · rename_i hok
    have := (shOk_iff.1 hok).len
    split
    · unfold kept
      rw [List.length_take]
      have := allI_length key n l
      omega
    · exact h
  · exact Nat.zero_le _
theorem plaG_length (q : Int) (l : List It) (key : ByteArray) (n : Int) : (plaG q l key n).length ≤ 1048576 := by
  unfold plaG
  split
  · rename_i hok
    have := (shOk_iff.1 hok).len
    split
    · unfold goneI
      rw [List.length_reverse, List.length_map, List.length_drop]
      have := allI_length key n l
      omega
    · exact Nat.zero_le _
  · exact Nat.zero_le _
set_option maxRecDepth 100000 in
set_option maxHeartbeats 8000000 in
theorem walkPla (hi : ∀ (q : Int) (v : Value) (l : List It) (key : ByteArray) (n : Int) (w : World), Sls itE w v l → l.length ≤ 1048576 → (∀ x ∈ l, x.1.size ≤ maxLen) → key.size ≤ maxLen → Calls Try.prog 29 #[shV q v, .string key, .int .i64 n] w fun e w' => ∃ u g, e = .returned (.tuple #[shV (usdQ q l) u, g]) ∧ HasI8 w' w.heap.size u (plaL q l key n) ∧ HasX w' w.heap.size g (plaG q l key n) ∧ Below w.heap.size w w')
    (q : Int) (v : Value) (l : List It) (key : ByteArray) (n : Int) (w : World) (h : Sls itE w v l) (hs : ∀ x ∈ l, x.1.size ≤ maxLen) (hkz : key.size ≤ maxLen) :
    Calls Try.prog 11 #[shV q v, .string key, .int .i64 n] w fun e w' => e = .returned (.bool true) ∧ Below w.heap.size w w' := by
  obtain ⟨a, cap, rfl, _⟩ := h.itm
  have H : Hid (Sls itE w (.slice a l.length cap) l) := h
  have hsz := fun W hW => szSh q (.slice a l.length cap) l W hW hs
  have hV : szV l < 0 ∨ (¬ szV l < 0 ∧ l.length ≤ 1048576) := by unfold szV; split <;> omega
  have hto := fun (hf : l.length ≤ 1048576) W hW => toSh q (.slice a l.length cap) l W hW hf
  have hsp := fun (hf : l.length ≤ 1048576) u W hW => specPla q u l key n W hW hf hs hkz
  have him := fun (hf : l.length ≤ 1048576) u W hW => hi q u l key n W hW hf hs hkz
  have hml := plaL_length q l key n
  have hgl := plaG_length q l key n
  have heqM := fun (hf : l.length ≤ 1048576) u v W hu hv => eqSh (usdQ q l) u v (plaL q l key n) W hu hv (hml hf)
  have heqL := fun (hf : l.length ≤ 1048576) u v W hu hv => eqSh q u v l W hu hv hf
  have heqX := fun u v W hu hv => eqTxt u v (plaG q l key n) W hu hv hgl
  have hmkL := fun (hf : l.length ≤ 1048576) u B W hW => markSh 1 (by decide) (by decide) q u l B W hW hf
  have hmkM := fun (hf : l.length ≤ 1048576) u B W hW => markSh 1 (by decide) (by decide) (usdQ q l) u (plaL q l key n) B W hW (hml hf)
  have hhd := fun (hf : l.length ≤ 1048576) u W hW => heldSh 1 (by decide) (by decide) (usdQ q l) u (plaL q l key n).length W hW (hml hf)
  have hmkX := fun (hf : l.length ≤ 1048576) u B W hW => markTxt (1 + 2 * (plaL q l key n).length) (by omega) (by have := hml hf; omega) u (plaG q l key n) B W hW hgl
  have hhdX := fun (hf : l.length ≤ 1048576) u W hW => heldTxt (1 + 2 * (plaL q l key n).length) (by omega) (by have := hml hf; omega) u (plaG q l key n).length W hW hgl
  simp only [Int.natCast_add, Int.natCast_mul, Int.cast_ofNat_Int] at hmkX hhdX
  unfold maxLen at hkz
  unfold shV at *
  have B0 : Hid (Below w.heap.size w (w.alloc (.cells #[.int .i64 q, .slice a l.length cap] 53))) := (Below.refl _ w).alloc (Nat.le_refl _) _
  have A0 : Hid (TwoB (w.alloc (.cells #[.int .i64 q, .slice a l.length cap] 53)) w.heap.size (.int .i64 q) (.slice a l.length cap)) := TwoB.new _ _ _ _
  have hz0 : (w.alloc (.cells #[.int .i64 q, .slice a l.length cap] 53)).heap.size = w.heap.size + 1 := by simp
  generalize szV l = V at hsz hV
  generalize usdQ q l = Q at hsp him heqM hmkM hhd
  generalize plaL q l key n = M at hsp him heqM hmkM hhd hml hmkX hhdX
  generalize plaG q l key n = G at hsp him heqX hmkX hhdX hgl
  clear h hi
  by_cases hkb : 1048576 < (key.size : Int)
  · go_enter Try.func11, Try.ntmps11
    go_wp2
    go_ret
    exact ⟨rfl, B0.out⟩
  · go_enter Try.func11, Try.ntmps11
    generalize hwA : w.alloc (.cells #[.int .i64 q, .slice a l.length cap] 53) = wA at A0 B0 hz0
    have c0 := A0.out.c0
    have c1 := A0.out.c1
    go_wp2_with fail
    refine (hsz _ (H.out.kept B0.out)).mono ?_
    rintro e w1 ⟨rfl, hb1⟩
    have B1 : Hid (Below w.heap.size w w1) := (show Hid _ from B0.out.trans (hb1.mono B0.out.size))
    have A1 : Hid (TwoB w1 w.heap.size (.int .i64 q) (.slice a l.length cap)) := A0.out.kept hb1 A0.out.lt
    have y0 := A1.out.c0
    have y1 := A1.out.c1
    have hz1 := hb1.size
    rw [hz0] at hz1
    clear hb1 c0 c1 A0 B0 hwA hz0 hsz
    rcases hV with hV | ⟨hV, hf⟩
    · go_wp2
      go_ret
      exact ⟨rfl, B1.out⟩
    · have hto := hto hf
      have hsp := hsp hf
      have him := him hf
      have heqM := heqM hf
      have heqL := heqL hf
      have hmkL := hmkL hf
      have hmkM := hmkM hf
      have hhd := hhd hf
      have hmkX := hmkX hf
      have hhdX := hhdX hf
      have hml := hml hf
      go_wp2_with fail
      refine (hto _ (H.out.kept B1.out)).mono ?_
      rintro e w2 ⟨u2, rfl, ho2, hb2⟩
      have B2 : Hid (Below w.heap.size w w2) := (show Hid _ from B1.out.trans (hb2.mono B1.out.size))
      have A2 : Hid (TwoB w2 w.heap.size (.int .i64 q) (.slice a l.length cap)) := A1.out.kept hb2 A1.out.lt
      have S2 : Hid (Sls itE w2 u2 l) := ho2.sls
      have hz2 := hb2.size
      clear hb2 ho2 A1 B1 y0 y1
      go_wp2_with fail
      refine (hsp _ _ S2.out).mono ?_
      rintro e w3 ⟨u3, g3, rfl, ho3, hx3, hb3⟩
      have B3 : Below w.heap.size w w3 := B2.out.trans (hb3.mono B2.out.size)
      have A3 : TwoB w3 w.heap.size (.int .i64 q) (.slice a l.length cap) := A2.out.kept hb3 A2.out.lt
      have O3 := ho3.low (B' := w.heap.size + 1) (by omega)
      have X3 := hx3.low (B' := w.heap.size + 1) (by omega)
      obtain ⟨a3, c3, rfl, _⟩ := ho3.form
      obtain ⟨ag3, cg3, rfl, _⟩ := hx3.form
      have hz3 := hb3.size
      have k3 := fun k hk => ho3.under k hk
      have kx3 := fun k hk => hx3.under k hk
      have bA : Below w3.heap.size w3 (w3.alloc (.cells #[.int .i64 Q, .slice a3 M.length c3] 34)) := (Below.refl _ w3).alloc (Nat.le_refl _) _
      have B4 : Hid (Below w.heap.size w (w3.alloc (.cells #[.int .i64 Q, .slice a3 M.length c3] 34))) := (show Hid _ from B3.trans (bA.mono B3.size))
      have A4 : Hid (TwoB (w3.alloc (.cells #[.int .i64 Q, .slice a3 M.length c3] 34)) w.heap.size (.int .i64 q) (.slice a l.length cap)) := A3.kept bA A3.lt
      have S64 : Hid (TwoB (w3.alloc (.cells #[.int .i64 Q, .slice a3 M.length c3] 34)) w3.heap.size (.int .i64 Q) (.slice a3 M.length c3)) := TwoB.new _ _ _ _
      have O64 : Hid (HasI8 (w3.alloc (.cells #[.int .i64 Q, .slice a3 M.length c3] 34)) (w.heap.size + 1) (.slice a3 M.length c3) M) := (O3.kept bA).has
      have X64 : Hid (HasX (w3.alloc (.cells #[.int .i64 Q, .slice a3 M.length c3] 34)) (w.heap.size + 1) (.slice ag3 G.length cg3) G) := (X3.kept bA).has
      have K6 : Hid (∀ k, (Value.slice a3 M.length c3).ownBlock = some k → k < w3.heap.size) := k3
      have KX6 : Hid (∀ k, (Value.slice ag3 G.length cg3).ownBlock = some k → k < w3.heap.size) := kx3
      have hz4 : (w3.alloc (.cells #[.int .i64 Q, .slice a3 M.length c3] 34)).heap.size = w3.heap.size + 1 := by simp
      have y0 := A3.c0
      have y1 := A3.c1
      have hlt3 : w.heap.size < w3.heap.size := A3.lt
      clear hb3 ho3 hx3 A2 B2 S2 B3 A3 O3 X3 k3 kx3 bA
      go_wp2_with fail
      generalize w3.alloc (.cells #[.int .i64 Q, .slice a3 M.length c3] 34) = w4 at B4 A4 S64 O64 X64 hz4 ⊢
      refine (hto _ (H.out.kept B4.out)).mono ?_
      rintro e w5 ⟨u5, rfl, ho5, hb5⟩
      have A5 : TwoB w5 w.heap.size (.int .i64 q) (.slice a l.length cap) := A4.out.kept hb5 A4.out.lt
      have S65 : TwoB w5 w3.heap.size (.int .i64 Q) (.slice a3 M.length c3) := S64.out.kept hb5 S64.out.lt
      have O65 := O64.out.kept hb5
      have X65 := X64.out.kept hb5
      have B5 : Below w.heap.size w w5 := B4.out.trans (hb5.mono B4.out.size)
      have O5 := ho5.low (B' := w3.heap.size + 1) (by omega)
      obtain ⟨a5, c5, rfl, _⟩ := ho5.form
      have k5 := fun k hk => ho5.under k hk
      have hz5 := hb5.size
      have bA : Below w5.heap.size w5 (w5.alloc (.cells #[.int .i64 q, .slice a5 l.length c5] 34)) := (Below.refl _ w5).alloc (Nat.le_refl _) _
      have B6 : Hid (Below w.heap.size w (w5.alloc (.cells #[.int .i64 q, .slice a5 l.length c5] 34))) := (show Hid _ from B5.trans (bA.mono B5.size))
      have A6 : Hid (TwoB (w5.alloc (.cells #[.int .i64 q, .slice a5 l.length c5] 34)) w.heap.size (.int .i64 q) (.slice a l.length cap)) := A5.kept bA A5.lt
      have S66 : Hid (TwoB (w5.alloc (.cells #[.int .i64 q, .slice a5 l.length c5] 34)) w3.heap.size (.int .i64 Q) (.slice a3 M.length c3)) := S65.kept bA S65.lt
      have O66 : Hid (HasI8 (w5.alloc (.cells #[.int .i64 q, .slice a5 l.length c5] 34)) (w.heap.size + 1) (.slice a3 M.length c3) M) := O65.kept bA
      have X66 : Hid (HasX (w5.alloc (.cells #[.int .i64 q, .slice a5 l.length c5] 34)) (w.heap.size + 1) (.slice ag3 G.length cg3) G) := X65.kept bA
      have S76 : Hid (TwoB (w5.alloc (.cells #[.int .i64 q, .slice a5 l.length c5] 34)) w5.heap.size (.int .i64 q) (.slice a5 l.length c5)) := TwoB.new _ _ _ _
      have O76 : Hid (HasI8 (w5.alloc (.cells #[.int .i64 q, .slice a5 l.length c5] 34)) (w3.heap.size + 1) (.slice a5 l.length c5) l) := (O5.kept bA).has
      have K7 : Hid (∀ k, (Value.slice a5 l.length c5).ownBlock = some k → k < w5.heap.size) := k5
      have hz6 : (w5.alloc (.cells #[.int .i64 q, .slice a5 l.length c5] 34)).heap.size = w5.heap.size + 1 := by simp
      clear hb5 ho5 A4 B4 S64 O64 X64 A5 S65 O65 X65 B5 O5 k5 bA y0 y1
      go_wp2_with fail
      generalize w5.alloc (.cells #[.int .i64 q, .slice a5 l.length c5] 34) = w6 at B6 A6 S66 O66 X66 S76 O76 hz6 ⊢
      refine (him _ _ O76.out.sls).mono ?_
      rintro e w7 ⟨u7, g7, rfl, ho7, hx7, hb7⟩
      have O7 := ho7.low (B' := w5.heap.size + 1) (by omega)
      have X7 := hx7.low (B' := w5.heap.size + 1) (by omega)
      obtain ⟨a7, c7, rfl, _⟩ := ho7.form
      obtain ⟨ag7, cg7, rfl, _⟩ := hx7.form
      have k7 := fun k hk => ho7.under k hk
      have kx7 := fun k hk => hx7.under k hk
      have bA : Below w7.heap.size w7 (w7.alloc (.cells #[.int .i64 Q, .slice a7 M.length c7] 34)) := (Below.refl _ w7).alloc (Nat.le_refl _) _
      have hz7 := hb7.size
      have U0 : Hid (Uq w (w7.alloc (.cells #[.int .i64 Q, .slice a7 M.length c7] 34)) q Q (.slice a l.length cap) M w3.heap.size w5.heap.size w7.heap.size (.slice a3 M.length c3) (.slice a5 l.length c5) (.slice a7 M.length c7) l M G G (.slice ag3 G.length cg3) (.slice ag7 G.length cg7)) := by
        have hbb : Below w6.heap.size w6 (w7.alloc (.cells #[.int .i64 Q, .slice a7 M.length c7] 34)) := hb7.trans (bA.mono hb7.size)
        exact ⟨⟨B6.out.trans (hbb.mono B6.out.size), A6.out.kept hbb A6.out.lt, S66.out.kept hbb S66.out.lt, S76.out.kept hbb S76.out.lt, TwoB.new _ _ _ _, O66.out.kept hbb, O76.out.kept hbb, O7.kept bA, K6.out, K7.out, k7, hlt3, by omega, by omega⟩, X66.out.kept hbb, X7.kept bA, KX6.out, kx7⟩
      have y0 : w7.cell? ⟨w3.heap.size, 0, none⟩ = some (.int .i64 Q) := (S66.out.kept hb7 S66.out.lt).c0
      have y1 : w7.cell? ⟨w3.heap.size, 1, none⟩ = some (.slice a3 M.length c3) := (S66.out.kept hb7 S66.out.lt).c1
      have hlt7 : w3.heap.size < w7.heap.size := (S66.out.kept hb7 S66.out.lt).lt
      clear hb7 ho7 hx7 B6 A6 S66 O66 X66 S76 O76 hz6 O7 X7 k7 kx7 bA K6 K7 KX6
      go_wp2_with fail
      generalize hw8 : w7.alloc (.cells #[.int .i64 Q, .slice a7 M.length c7] 34) = w8 at U0 ⊢
      clear y0 y1 hw8
      refine (heqM _ _ _ U0.out.us.o8.sls U0.out.us.o6.sls).mono ?_
      rintro e w9 ⟨rfl, hg9⟩
      have U1 : Hid (Uq w w9 q Q (.slice a l.length cap) M w3.heap.size w5.heap.size w7.heap.size (.slice a3 M.length c3) (.slice a5 l.length c5) (.slice a7 M.length c7) l M G G (.slice ag3 G.length cg3) (.slice ag7 G.length cg7)) := U0.out.kept hg9.low
      clear hg9 U0
      go_wp2_with fail
      refine (heqX _ _ _ U1.out.x8.sls U1.out.x6.sls).mono ?_
      rintro e w10 ⟨rfl, hg10⟩
      have U2 : Hid (Uq w w10 q Q (.slice a l.length cap) M w3.heap.size w5.heap.size w7.heap.size (.slice a3 M.length c3) (.slice a5 l.length c5) (.slice a7 M.length c7) l M G G (.slice ag3 G.length cg3) (.slice ag7 G.length cg7)) := U1.out.kept hg10.low
      clear hg10 U1
      have x0 := U2.out.us.s7.c0
      have x1 := U2.out.us.s7.c1
      have z0 := U2.out.us.sa.c0
      have z1 := U2.out.us.sa.c1
      have xl := U2.out.us.s7.lt
      go_wp2_with fail
      go_cut [57] from 53 to 57 (fun s wx => s = .bool false ∧ Hid (Uq w wx q Q (.slice a l.length cap) M w3.heap.size w5.heap.size w7.heap.size (.slice a3 M.length c3) (.slice a5 l.length c5) (.slice a7 M.length c7) l M G G (.slice ag3 G.length cg3) (.slice ag7 G.length cg7)))
      case first =>
        go_region_with (first
          | (go_at_call 43; refine (hto _ (H.out.kept (by exact ⟨U2.out.us.low.os, U2.out.us.low.tape, U2.out.us.low.output, U2.out.us.low.size, U2.out.us.low.block⟩))).mono ?_; rintro e w11 ⟨u11, rfl, ho11, hb11⟩; have x0' : w11.cell? ⟨w5.heap.size, 0, none⟩ = some (.int .i64 q) := (hb11.cell (p := ⟨w5.heap.size, 0, none⟩) xl).trans x0; have x1' : w11.cell? ⟨w5.heap.size, 1, none⟩ = some (.slice a5 l.length c5) := (hb11.cell (p := ⟨w5.heap.size, 1, none⟩) xl).trans x1; have U3 : Hid (Uq w w11 q Q (.slice a l.length cap) M w3.heap.size w5.heap.size w7.heap.size (.slice a3 M.length c3) (.slice a5 l.length c5) (.slice a7 M.length c7) l M G G (.slice ag3 G.length cg3) (.slice ag7 G.length cg7)) := U2.out.kept (by exact ⟨hb11.os, hb11.tape, hb11.output, hb11.size, hb11.block⟩); have S11 : Hid (Sls itE w11 u11 l) := ho11.sls; clear hb11 ho11)
          | (go_at_call 44; refine (heqL _ _ _ (by exact U3.out.us.o7.sls) (by exact S11.out)).mono ?_; rintro e w12 ⟨rfl, hg12⟩; have U4 : Hid (Uq w w12 q Q (.slice a l.length cap) M w3.heap.size w5.heap.size w7.heap.size (.slice a3 M.length c3) (.slice a5 l.length c5) (.slice a7 M.length c7) l M G G (.slice ag3 G.length cg3) (.slice ag7 G.length cg7)) := U3.out.kept (by exact ⟨hg12.low.os, hg12.low.tape, hg12.low.output, hg12.low.size, hg12.low.block⟩); clear hg12))
        all_goals (try go_wp2_with fail)
        all_goals go_meet
        all_goals exact ⟨rfl, U4⟩
      case rest =>
        obtain ⟨rfl, U4⟩ := hcut
        obtain ⟨w12, rfl⟩ : ∃ z, z = wc := ⟨wc, rfl⟩
        clear U2 x0 x1 z0 z1 xl
        have x0 := U4.out.us.s7.c0
        have x1 := U4.out.us.s7.c1
        go_wp2_with fail
        refine (hmkL _ _ _ U4.out.us.o7).mono ?_
        rintro e w13 ⟨rfl, ho13, hg13⟩
        have U5 : Hid (Uq w w13 q Q (.slice a l.length cap) M w3.heap.size w5.heap.size w7.heap.size (.slice a3 M.length c3) (.slice a5 l.length c5) (.slice a7 M.length c7) (marksI 1 l.length) M G G (.slice ag3 G.length cg3) (.slice ag7 G.length cg7)) := U4.out.mark7 hg13 ho13
        have y0 := U5.out.us.s8.c0
        have y1 := U5.out.us.s8.c1
        have z0 := U5.out.us.s6.c0
        have z1 := U5.out.us.s6.c1
        clear U4 ho13 hg13 x0 x1
        go_wp2_with fail
        refine (heqM _ _ _ U5.out.us.o8.sls U5.out.us.o6.sls).mono ?_
        rintro e w14 ⟨rfl, hg14⟩
        have U6 : Hid (Uq w w14 q Q (.slice a l.length cap) M w3.heap.size w5.heap.size w7.heap.size (.slice a3 M.length c3) (.slice a5 l.length c5) (.slice a7 M.length c7) (marksI 1 l.length) M G G (.slice ag3 G.length cg3) (.slice ag7 G.length cg7)) := U5.out.kept hg14.low
        clear U5 hg14 z0 z1 y0 y1
        go_wp2_with fail
        refine (heqX _ _ _ U6.out.x8.sls U6.out.x6.sls).mono ?_
        rintro e w15 ⟨rfl, hg15⟩
        have U7 : Hid (Uq w w15 q Q (.slice a l.length cap) M w3.heap.size w5.heap.size w7.heap.size (.slice a3 M.length c3) (.slice a5 l.length c5) (.slice a7 M.length c7) (marksI 1 l.length) M G G (.slice ag3 G.length cg3) (.slice ag7 G.length cg7)) := U6.out.kept hg15.low
        have y0 := U7.out.us.s8.c0
        have y1 := U7.out.us.s8.c1
        clear U6 hg15
        go_wp2_with fail
        refine (hmkM _ _ _ U7.out.us.o8).mono ?_
        rintro e w16 ⟨rfl, ho16, hg16⟩
        have U8 : Hid (Uq w w16 q Q (.slice a l.length cap) M w3.heap.size w5.heap.size w7.heap.size (.slice a3 M.length c3) (.slice a5 l.length c5) (.slice a7 M.length c7) (marksI 1 l.length) (marksI 1 M.length) G G (.slice ag3 G.length cg3) (.slice ag7 G.length cg7)) := U7.out.mark8 hg16 ho16
        clear U7 ho16 hg16 y0 y1
        go_wp2_with fail
        refine (hmkX _ _ _ U8.out.x8).mono ?_
        rintro e w17 ⟨rfl, ho17, hg17⟩
        have U9 : Hid (Uq w w17 q Q (.slice a l.length cap) M w3.heap.size w5.heap.size w7.heap.size (.slice a3 M.length c3) (.slice a5 l.length c5) (.slice a7 M.length c7) (marksI 1 l.length) (marksI 1 M.length) G (marksX (1 + 2 * M.length) G.length) (.slice ag3 G.length cg3) (.slice ag7 G.length cg7)) := U8.out.markx hg17 ho17
        have y0 := U9.out.us.s8.c0
        have y1 := U9.out.us.s8.c1
        clear U8 ho17 hg17
        go_wp2_with fail
        refine (hhd _ _ U9.out.us.o8.sls).mono ?_
        rintro e w18 ⟨rfl, hb18⟩
        have U10 : Hid (Uq w w18 q Q (.slice a l.length cap) M w3.heap.size w5.heap.size w7.heap.size (.slice a3 M.length c3) (.slice a5 l.length c5) (.slice a7 M.length c7) (marksI 1 l.length) (marksI 1 M.length) G (marksX (1 + 2 * M.length) G.length) (.slice ag3 G.length cg3) (.slice ag7 G.length cg7)) := U9.out.kept hb18
        clear U9 hb18 y0 y1
        go_wp2_with fail
        refine (hhdX _ _ U10.out.x8.sls).mono ?_
        rintro e w19 ⟨rfl, hb19⟩
        have U11 : Hid (Uq w w19 q Q (.slice a l.length cap) M w3.heap.size w5.heap.size w7.heap.size (.slice a3 M.length c3) (.slice a5 l.length c5) (.slice a7 M.length c7) (marksI 1 l.length) (marksI 1 M.length) G (marksX (1 + 2 * M.length) G.length) (.slice ag3 G.length cg3) (.slice ag7 G.length cg7)) := U10.out.kept hb19
        have z0 := U11.out.us.sa.c0
        have z1 := U11.out.us.sa.c1
        clear U10 hb19
        have hMi : ¬ (((1 : Nat) : Int) + 2 * (M.length : Int) < 0) := by omega
        have hMj : ¬ ((1 : Int) + 2 * (M.length : Int) < 0) := by omega
        have hMk : ¬ ((1 : Int) + 2 * (M.length : Int) + (G.length : Int) < 0) := by omega
        go_wp2_with fail
        refine (hto _ (H.out.kept U11.out.us.low)).mono ?_
        rintro e w20 ⟨u20, rfl, ho20, hb20⟩
        have U12 : Hid (Uq w w20 q Q (.slice a l.length cap) M w3.heap.size w5.heap.size w7.heap.size (.slice a3 M.length c3) (.slice a5 l.length c5) (.slice a7 M.length c7) (marksI 1 l.length) (marksI 1 M.length) G (marksX (1 + 2 * M.length) G.length) (.slice ag3 G.length cg3) (.slice ag7 G.length cg7)) := U11.out.kept hb20
        have S20 : Hid (Sls itE w20 u20 l) := ho20.sls
        clear U11 hb20 ho20 z0 z1
        go_wp2_with fail
        refine (him _ _ S20.out).mono ?_
        rintro e w21 ⟨u21, g21, rfl, ho21, hx21, hb21⟩
        obtain ⟨a21, c21, rfl, _⟩ := ho21.form
        obtain ⟨ag21, cg21, rfl, _⟩ := hx21.form
        have bA : Below w21.heap.size w21 (w21.alloc (.cells #[.int .i64 Q, .slice a21 M.length c21] 34)) := (Below.refl _ w21).alloc (Nat.le_refl _) _
        have U13 : Hid (Uq w (w21.alloc (.cells #[.int .i64 Q, .slice a21 M.length c21] 34)) q Q (.slice a l.length cap) M w3.heap.size w5.heap.size w7.heap.size (.slice a3 M.length c3) (.slice a5 l.length c5) (.slice a7 M.length c7) (marksI 1 l.length) (marksI 1 M.length) G (marksX (1 + 2 * M.length) G.length) (.slice ag3 G.length cg3) (.slice ag7 G.length cg7)) := (U12.out.kept hb21).kept bA
        have S21 : Hid (Sls itE (w21.alloc (.cells #[.int .i64 Q, .slice a21 M.length c21] 34)) (.slice a21 M.length c21) M) := ho21.sls.kept bA
        have X21 : Hid (Sls txtE (w21.alloc (.cells #[.int .i64 Q, .slice a21 M.length c21] 34)) (.slice ag21 G.length cg21) G) := hx21.sls.kept bA
        have z0 : w21.cell? ⟨w3.heap.size, 0, none⟩ = some (.int .i64 Q) := (U12.out.kept hb21).us.s6.c0
        have z1 : w21.cell? ⟨w3.heap.size, 1, none⟩ = some (.slice a3 M.length c3) := (U12.out.kept hb21).us.s6.c1
        have zl : w3.heap.size < w21.heap.size := (U12.out.kept hb21).us.s6.lt
        clear U12 hb21 ho21 hx21 S20 bA
        go_wp2_with fail
        generalize hw22 : w21.alloc (.cells #[.int .i64 Q, .slice a21 M.length c21] 34) = w22 at U13 S21 X21 ⊢
        clear z0 z1 zl hw22
        refine (heqM _ _ _ S21.out U13.out.us.o6.sls).mono ?_
        rintro e w23 ⟨rfl, hg23⟩
        have U14 : Hid (Uq w w23 q Q (.slice a l.length cap) M w3.heap.size w5.heap.size w7.heap.size (.slice a3 M.length c3) (.slice a5 l.length c5) (.slice a7 M.length c7) (marksI 1 l.length) (marksI 1 M.length) G (marksX (1 + 2 * M.length) G.length) (.slice ag3 G.length cg3) (.slice ag7 G.length cg7)) := U13.out.kept hg23.low
        have X23 : Hid (Sls txtE w23 (.slice ag21 G.length cg21) G) := X21.out.kept hg23.low
        clear U13 hg23 S21 X21
        go_wp2_with fail
        refine (heqX _ _ _ X23.out U14.out.x6.sls).mono ?_
        rintro e w24 ⟨rfl, hg24⟩
        have U15 : Hid (Uq w w24 q Q (.slice a l.length cap) M w3.heap.size w5.heap.size w7.heap.size (.slice a3 M.length c3) (.slice a5 l.length c5) (.slice a7 M.length c7) (marksI 1 l.length) (marksI 1 M.length) G (marksX (1 + 2 * M.length) G.length) (.slice ag3 G.length cg3) (.slice ag7 G.length cg7)) := U14.out.kept hg24.low
        have y0 := U15.out.us.s8.c0
        have y1 := U15.out.us.s8.c1
        clear U14 hg24 X23
        go_wp2_with fail
        refine (hhd _ _ U15.out.us.o8.sls).mono ?_
        rintro e w25 ⟨rfl, hb25⟩
        have U16 : Hid (Uq w w25 q Q (.slice a l.length cap) M w3.heap.size w5.heap.size w7.heap.size (.slice a3 M.length c3) (.slice a5 l.length c5) (.slice a7 M.length c7) (marksI 1 l.length) (marksI 1 M.length) G (marksX (1 + 2 * M.length) G.length) (.slice ag3 G.length cg3) (.slice ag7 G.length cg7)) := U15.out.kept hb25
        clear U15 hb25 y0 y1
        go_wp2_with fail
        refine (hhdX _ _ U16.out.x8.sls).mono ?_
        rintro e w26 ⟨rfl, hb26⟩
        have U17 : Hid (Below w.heap.size w w26) := (show Hid _ from (U16.out.kept hb26).us.low)
        clear U16 hb26
        go_wp2
        go_ret
        exact ⟨rfl, U17.out⟩
end Go.Proofs.Ytnnmbgenepfacaa
