/-
  The walk of the exact law of ShelfOk, given what the program's own function answers.
-/
import Derived.Test.YtnnmbgenepfacaaRomW
import Derived.Test.YtnnmbgenepfacaaRomG
namespace Go.Proofs.Ytnnmbgenepfacaa
open Go.RowKit Go.Sort Rom
set_option linter.unusedVariables false
set_option linter.unusedSimpArgs false

theorem szSh (q : Int) (v : Value) (l : List It) (w : World) (h : Sls itE w v l) (hs : ∀ x ∈ l, x.1.size ≤ maxLen) :
    Calls Try.prog 42 #[shV q v, .int .i64 1048576] w fun e w' => e = .returned (.int .i64 (szV l)) ∧ Below w.heap.size w w' := by
  obtain ⟨a, cap, rfl, _⟩ := h.itm
  unfold shV
  have B0 : Below w.heap.size w (w.alloc (.cells #[.int .i64 q, .slice a l.length cap] 53)) := (Below.refl _ w).alloc (Nat.le_refl _) _
  have hS := szItS _ l _ (h.kept B0) hs
  have hb : -1 ≤ szV l ∧ (szV l < 0 → szV l = -1) := by unfold szV; split <;> omega
  obtain ⟨V, hV⟩ : ∃ V, V = szV l := ⟨_, rfl⟩
  rw [← hV] at hS hb ⊢
  have B0H : Hid _ := B0
  clear h hV B0
  by_cases h0 : V < 0
  · have e := hb.2 h0
    subst e
    go_enter Try.func42, Try.ntmps42
    go_wp2_with fail
    refine hS.mono ?_
    rintro e w1 ⟨rfl, hb1⟩
    have B1 : Hid (Below w.heap.size w w1) := B0H.out.trans (hb1.mono B0H.out.size)
    clear hS hb1
    go_wp2
    go_ret
    exact ⟨rfl, B1.out⟩
  · go_enter Try.func42, Try.ntmps42
    go_wp2_with fail
    refine hS.mono ?_
    rintro e w1 ⟨rfl, hb1⟩
    have B1 : Hid (Below w.heap.size w w1) := B0H.out.trans (hb1.mono B0H.out.size)
    clear hS hb1
    go_wp2
    go_ret
    exact ⟨rfl, B1.out⟩
set_option maxHeartbeats 2000000 in
theorem walkSok (hi : ∀ (q : Int) (v : Value) (l : List It) (w : World), Sls itE w v l → l.length ≤ 1048576 → (∀ x ∈ l, x.1.size ≤ maxLen) → Calls Try.prog 36 #[shV q v] w fun e w' => e = .returned (.bool (shOk q l)) ∧ Below w.heap.size w w')
    (q : Int) (v : Value) (l : List It) (w : World) (h : Sls itE w v l) (hs : ∀ x ∈ l, x.1.size ≤ maxLen) :
    Calls Try.prog 10 #[shV q v] w fun e w' => e = .returned (.bool true) ∧ Below w.heap.size w w' := by
  obtain ⟨a, cap, rfl, _⟩ := h.itm
  have H : Hid (Sls itE w (.slice a l.length cap) l) := h
  have hsz := fun W hW => szSh q (.slice a l.length cap) l W hW hs
  have hV : szV l < 0 ∨ (¬ szV l < 0 ∧ l.length ≤ 1048576) := by unfold szV; split <;> omega
  have hto := fun (hf : l.length ≤ 1048576) W hW => toSh q (.slice a l.length cap) l W hW hf
  have hsp := fun u W hW => specSok q u l W hW hs
  have him := fun (hf : l.length ≤ 1048576) u W hW => hi q u l W hW hf hs
  have heq := fun (hf : l.length ≤ 1048576) u v W hu hv => eqSh q u v l W hu hv hf
  unfold shV at *
  have B0 : Hid (Below w.heap.size w (w.alloc (.cells #[.int .i64 q, .slice a l.length cap] 53))) := (Below.refl _ w).alloc (Nat.le_refl _) _
  have hz0 : (w.alloc (.cells #[.int .i64 q, .slice a l.length cap] 53)).heap.size = w.heap.size + 1 := by simp
  have b0 : (w.alloc (.cells #[.int .i64 q, .slice a l.length cap] 53)).cell? ⟨w.heap.size, 0, none⟩ = some (.int .i64 q) := by rw [World.cell?_alloc_mark]; rfl
  have b1 : (w.alloc (.cells #[.int .i64 q, .slice a l.length cap] 53)).cell? ⟨w.heap.size, 1, none⟩ = some (.slice a l.length cap) := by rw [World.cell?_alloc_mark]; rfl
  have BX : Hid (∀ W, Below (w.heap.size + 1) (w.alloc (.cells #[.int .i64 q, .slice a l.length cap] 53)) W → W.cell? ⟨w.heap.size, 0, none⟩ = some (.int .i64 q) ∧ W.cell? ⟨w.heap.size, 1, none⟩ = some (.slice a l.length cap)) := fun W hW => ⟨(hW.cell (p := ⟨w.heap.size, 0, none⟩) (Nat.lt_succ_self _)).trans b0, (hW.cell (p := ⟨w.heap.size, 1, none⟩) (Nat.lt_succ_self _)).trans b1⟩
  generalize szV l = V at hsz hV
  generalize shOk q l = T at hsp him
  clear h b0 b1 hi
  go_enter Try.func10, Try.ntmps10
  go_wp2_with fail
  generalize w.alloc (.cells #[.int .i64 q, .slice a l.length cap] 53) = w0 at BX B0 hz0 ⊢
  refine (hsz _ (H.out.kept B0.out)).mono ?_
  rintro e w1 ⟨rfl, hb1⟩
  have B1 : Hid (Below w.heap.size w w1) := B0.out.trans (hb1.mono B0.out.size)
  have Y1 : Hid (Below (w.heap.size + 1) w0 w1) := hz0 ▸ hb1
  have c0 := (BX.out _ Y1.out).1
  have c1 := (BX.out _ Y1.out).2
  clear hb1
  rcases hV with hV | ⟨hV, hf⟩
  · go_wp2
    go_ret
    exact ⟨rfl, B1.out⟩
  · have dT : (T != T) = false := by simp
    go_wp2_with fail
    refine (hto hf _ (H.out.kept B1.out)).mono ?_
    rintro e w2 ⟨u2, rfl, ho2, hb2⟩
    have B2 : Hid (Below w.heap.size w w2) := B1.out.trans (hb2.mono B1.out.size)
    have Y2 : Hid (Below (w.heap.size + 1) w0 w2) := Y1.out.trans (hb2.mono (by have := Y1.out.size; omega))
    have S2 : Hid (Sls itE w2 u2 l) := ho2.sls
    clear hb2 ho2 c0 c1
    go_wp2_with fail
    refine (hsp _ _ S2.out).mono ?_
    rintro e w3 ⟨rfl, hb3⟩
    have B3 : Hid (Below w.heap.size w w3) := B2.out.trans (hb3.mono B2.out.size)
    have Y3 : Hid (Below (w.heap.size + 1) w0 w3) := Y2.out.trans (hb3.mono (by have := Y2.out.size; omega))
    have c0 := (BX.out _ Y3.out).1
    have c1 := (BX.out _ Y3.out).2
    clear hb3 S2
    go_wp2_with fail
    refine (hto hf _ (H.out.kept B3.out)).mono ?_
    rintro e w4 ⟨u4, rfl, ho4, hb4⟩
    obtain ⟨a4, c4, rfl, _⟩ := ho4.form
    have B4 : Hid (Below w.heap.size w w4) := B3.out.trans (hb4.mono B3.out.size)
    have Y4 : Hid (Below (w.heap.size + 1) w0 w4) := Y3.out.trans (hb4.mono (by have := Y3.out.size; omega))
    have S4 : Hid (Sls itE w4 (.slice a4 l.length c4) l) := ho4.sls
    clear hb4 ho4 c0 c1
    go_wp2_with fail
    have BW : Below w4.heap.size w4 (w4.alloc (.cells #[.int .i64 q, .slice a4 l.length c4] 34)) := (Below.refl _ w4).alloc (Nat.le_refl _) _
    have hz5 : (w4.alloc (.cells #[.int .i64 q, .slice a4 l.length c4] 34)).heap.size = w4.heap.size + 1 := by simp
    refine (him hf _ _ (S4.out.kept BW)).mono ?_
    rintro e w5 ⟨rfl, hb5⟩
    have hw4 := B4.out.size
    have hb5' : Below w4.heap.size w4 w5 := BW.trans (hb5.mono (by omega))
    have B5 : Hid (Below w.heap.size w w5) := B4.out.trans (hb5'.mono B4.out.size)
    have Y5 : Hid (Below (w.heap.size + 1) w0 w5) := Y4.out.trans (hb5'.mono (by have := Y4.out.size; omega))
    have S5 : Hid (Sls itE w5 (.slice a4 l.length c4) l) := S4.out.kept hb5'
    have x0 : w5.cell? ⟨w4.heap.size, 0, none⟩ = some (.int .i64 q) := (hb5.cell (p := ⟨w4.heap.size, 0, none⟩) (by simp)).trans (by rw [World.cell?_alloc_mark]; rfl)
    have x1 : w5.cell? ⟨w4.heap.size, 1, none⟩ = some (.slice a4 l.length c4) := (hb5.cell (p := ⟨w4.heap.size, 1, none⟩) (by simp)).trans (by rw [World.cell?_alloc_mark]; rfl)
    have c0 := (BX.out _ Y5.out).1
    have c1 := (BX.out _ Y5.out).2
    have hb5s := hb5.size
    rw [hz5] at hb5s
    clear hb5 hb5' BW S4
    have hx5 : w4.heap.size < w5.heap.size := by have := hb5s; omega
    go_wp2_with fail
    go_region_with (first
      | (go_at_call 43; refine (hto hf _ (H.out.kept (by exact ⟨B5.out.os, B5.out.tape, B5.out.output, B5.out.size, B5.out.block⟩))).mono ?_; rintro e w6 ⟨u6, rfl, ho6, hb6⟩; have x0' : w6.cell? ⟨w4.heap.size, 0, none⟩ = some (.int .i64 q) := (hb6.cell (p := ⟨w4.heap.size, 0, none⟩) hx5).trans x0; have x1' : w6.cell? ⟨w4.heap.size, 1, none⟩ = some (.slice a4 l.length c4) := (hb6.cell (p := ⟨w4.heap.size, 1, none⟩) hx5).trans x1; have B6 : Hid (Below w.heap.size w w6) := Below.trans (by exact ⟨B5.out.os, B5.out.tape, B5.out.output, B5.out.size, B5.out.block⟩) (hb6.mono B5.out.size); have S6 : Hid (Sls itE w6 (.slice a4 l.length c4) l) := Sls.kept S5.out (by exact ⟨hb6.os, hb6.tape, hb6.output, hb6.size, hb6.block⟩); have U6 : Hid (Sls itE w6 u6 l) := ho6.sls; clear hb6 ho6)
      | (go_at_call 44; refine (heq hf _ _ _ (by exact S6.out) (by exact U6.out)).mono ?_; rintro e w7 ⟨rfl, hg7⟩; have B7 : Hid (Below w.heap.size w w7) := Below.trans (by exact ⟨B6.out.os, B6.out.tape, B6.out.output, B6.out.size, B6.out.block⟩) (hg7.low.mono B6.out.size); clear hg7))
    all_goals
      go_wp2
      go_ret
      exact ⟨rfl, B7.out⟩
end Go.Proofs.Ytnnmbgenepfacaa
