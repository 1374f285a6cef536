/-
  The specification's right sketches, and new ones.
-/
import Derived.Test.YtdoolnaekmffbaaOwA
import Derived.Test.YtdoolnaekmffbaaRomD
import Derived.Test.YtdoolnaekmffbaaSkP
import Derived.Test.YtdoolnaekmffbaaBx
namespace Go.Proofs.Ytdoolnaekmffbaa
open Go.RowKit Go.Sort Ow Sk
set_option linter.unusedVariables false
set_option linter.unusedSimpArgs false

/-- A sketch by value. -/
def skV (n : Int) (v : Value) : Value := .agg #[.int .i64 n, v]
theorem pastK {w w1 w2 : World} (h : Below w.heap.size w w1) (hb : Below w1.heap.size w1 w2) : Below w.heap.size w w2 := h.trans (hb.mono h.size)
theorem specSz (n : Int) (w : World) : Calls Try.prog 50 #[.int .i64 n] w fun e w' => e = .returned (.bool (szOk n)) ∧ w = w' := by
  have hin := fun W => inRm n 8 512 W
  go_enter Try.func50, Try.ntmps50
  go_wp2_with fail
  refine (hin _).mono ?_
  rintro e w1 ⟨rfl, rfl⟩
  go_wp2
  go_ret
  exact ⟨rfl, rfl⟩
theorem inRmR (s lo hi : Int) (b : Bool) (h : inM s lo hi = b) (w : World) (d : Nat) (os : Array Obj) : Calls Try.prog 59 #[.int .i64 s, .int .i64 lo, .int .i64 hi] (grow (redrawn w d) os) fun e w'' => e = .returned (.bool b) ∧ ∃ p : Regrown, w'' = grow (redrawn w p.d) p.os :=
  Calls.regrown_of ((inRm s lo hi _).mono fun e w' ⟨h1, h2⟩ => ⟨by rw [h1, h], h2 ▸ Below.refl _ _⟩)
set_option maxRecDepth 100000 in
set_option maxHeartbeats 1000000 in
theorem specRis (v : Value) (l : List Int) (b : Int) (w : World) (h : Sls intE w v l) (hb1 : 1 ≤ b) (hb2 : b ≤ 1000) :
    Calls Try.prog 52 #[v, .int .i64 b] w fun e w' => e = .returned (.bool (risB l b)) ∧ Below w.heap.size w w' := by
  obtain ⟨a, cap, rfl, h1, h2, h3⟩ := h.one
  have H2 : Hid (cap ≤ maxLen) := h2
  have HC : Hid (0 < l.length → ∃ g o, a = some ⟨g, o, none⟩ ∧ g < w.heap.size ∧ ∀ j (hj : j < l.length), w.cell? ⟨g, o + j, none⟩ = some (.int .i64 l[j])) := h3
  have ew : IntKind.i64.wrap (b - 1) = b - 1 := by rw [IntKind.wrap_i64]; omega
  unfold maxLen at h2
  have hll : l.length ≤ 9223372036854775807 := by omega
  clear h h2 h3
  go_enter Try.func52, Try.ntmps52
  go_wp2
  go_loopw [5] (fun i wr => ∃ k : Nat, k ≤ l.length ∧ i = .int .i64 k ∧ Hid (∀ (i : Nat) (hi : i < l.length), i < k → stepR l b i hi) ∧ Hid (Below w.heap.size w wr)) (fun i _ => l.length - (intOf i).toNat)
  case atStart => exact ⟨0, Nat.zero_le _, rfl, (show ∀ _, _ from fun i hi h => by omega), (show Hid _ from Below.refl _ _)⟩
  case round =>
    obtain ⟨k, hk, rfl, hst, hb⟩ := hrel
    by_cases hlt : k < l.length
    · obtain ⟨g, o, rfl, hg, hc⟩ := HC.out (by omega)
      have c1 := (hb.out.cell (p := ⟨g, o + k, none⟩) hg).trans (hc k hlt)
      have hki : (k : Int) < (l.length : Int) := by omega
      have k1 := cell_regrown c1
      cases hin : inM l[k] 0 (b - 1) with
      | false =>
        have HR : Hid (risB l b = false) := risB_not k hlt (fun h => by have := of_decide_eq_false hin; exact this h.1)
        have j1 := inRmR l[k] 0 (b - 1) false hin wr
        generalize l[k] = x at c1 k1 j1
        clear c1 hin hc
        go_wp2_with fail
        refine wp_region_quiet_below (by kernel_rfl) (by kernel_rfl) ?_
        repeat (go_big_quiet_step (with_reducible exact j1 _ _))
        refine wpQuiet_nil ?_
        intro _ hw'
        obtain ⟨⟨dq, osq⟩, hw''⟩ := hw'
        subst hw''
        have BN : Hid (Below w.heap.size w (grow (redrawn wr dq) osq)) := (show Hid _ from pastK hb.out (below_regrown wr dq osq))
        generalize grow (redrawn wr dq) osq = wn at BN ⊢
        go_wp2
        go_ret
        exact ⟨congrArg (fun b => Ending.returned (.bool b)) HR.out.symm, BN.out⟩
      | true =>
        have j1 := inRmR l[k] 0 (b - 1) true hin wr
        have hin2 := of_decide_eq_true hin
        by_cases hk0 : 0 < k
        · have c0 := (hb.out.cell (p := ⟨g, o + (k - 1), none⟩) hg).trans (hc (k - 1) (by omega))
          have k0 := cell_regrown c0
          by_cases hle : l[k] ≤ l[k - 1]
          · have HR : Hid (risB l b = false) := risB_not k hlt (fun h => by have := h.2 hk0; omega)
            generalize l[k] = x at c1 k1 j1 hle
            generalize l[k - 1] = y at c0 k0 hle
            have hk0i : (0 : Int) < (k : Int) := by omega
            have hkm : ((k : Int) - 1).toNat = k - 1 := by omega
            clear c1 c0 hin hin2 hc
            go_wp2_with fail
            refine wp_region_quiet_below (by kernel_rfl) (by kernel_rfl) ?_
            repeat (go_big_quiet_step (with_reducible exact j1 _ _))
            refine wpQuiet_nil ?_
            intro _ hw'
            obtain ⟨⟨dq, osq⟩, hw''⟩ := hw'
            subst hw''
            have BN : Hid (Below w.heap.size w (grow (redrawn wr dq) osq)) := (show Hid _ from pastK hb.out (below_regrown wr dq osq))
            generalize grow (redrawn wr dq) osq = wn at BN ⊢
            go_wp2
            go_ret
            exact ⟨congrArg (fun b => Ending.returned (.bool b)) HR.out.symm, BN.out⟩
          · have HS : Hid (∀ (i : Nat) (hi : i < l.length), i < k + 1 → stepR l b i hi) := (show ∀ _, _ from fun i hi h => by
              by_cases e : i = k
              · subst e
                exact ⟨hin2, fun h0 => by omega⟩
              · exact hst.out i hi (by omega))
            generalize l[k] = x at c1 k1 j1 hle
            generalize l[k - 1] = y at c0 k0 hle
            have hk0i : (0 : Int) < (k : Int) := by omega
            have hkm : ((k : Int) - 1).toNat = k - 1 := by omega
            clear c1 c0 hin hin2 hst hc
            go_wp2_with fail
            refine wp_region_quiet_below (by kernel_rfl) (by kernel_rfl) ?_
            repeat (go_big_quiet_step (with_reducible exact j1 _ _))
            refine wpQuiet_nil ?_
            intro _ hw'
            obtain ⟨⟨dq, osq⟩, hw''⟩ := hw'
            subst hw''
            have BN : Hid (Below w.heap.size w (grow (redrawn wr dq) osq)) := (show Hid _ from pastK hb.out (below_regrown wr dq osq))
            generalize grow (redrawn wr dq) osq = wn at BN ⊢
            go_wp2
            go_roundw
            case rel => exact ⟨k + 1, by omega, by go_num, HS, BN⟩
            case measure => simp [intOf]; omega
        · have HS : Hid (∀ (i : Nat) (hi : i < l.length), i < k + 1 → stepR l b i hi) := (show ∀ _, _ from fun i hi h => by
            by_cases e : i = k
            · subst e
              exact ⟨hin2, fun h0 => absurd h0 hk0⟩
            · exact hst.out i hi (by omega))
          generalize l[k] = x at c1 k1 j1
          have hk0i : ¬ (0 : Int) < (k : Int) := by omega
          clear c1 hin hin2 hst hc
          go_wp2_with fail
          refine wp_region_quiet_below (by kernel_rfl) (by kernel_rfl) ?_
          repeat (go_big_quiet_step (with_reducible exact j1 _ _))
          refine wpQuiet_nil ?_
          intro _ hw'
          obtain ⟨⟨dq, osq⟩, hw''⟩ := hw'
          subst hw''
          have BN : Hid (Below w.heap.size w (grow (redrawn wr dq) osq)) := (show Hid _ from pastK hb.out (below_regrown wr dq osq))
          generalize grow (redrawn wr dq) osq = wn at BN ⊢
          go_wp2
          go_roundw
          case rel => exact ⟨k + 1, by omega, by go_num, HS, BN⟩
          case measure => simp [intOf]; omega
    · obtain rfl : k = l.length := by omega
      have HR : Hid (risB l b = true) := risB_of (fun i hi => hst.out i hi hi)
      go_wp2
      go_ret
      exact ⟨congrArg (fun b => Ending.returned (.bool b)) HR.out.symm, hb.out⟩
theorem specSko (n : Int) (v : Value) (l : List Int) (w : World) (h : Sls intE w v l) :
    Calls Try.prog 28 #[skV n v] w fun e w' => e = .returned (.bool (skOk n l)) ∧ Below w.heap.size w w' := by
  obtain ⟨a, cap, rfl, _⟩ := h.one
  have hS := fun W => specSz n W
  have hX := Bx.new w 26 #[.int .i64 n, .slice a l.length cap]
  have B0 : Hid (Below w.heap.size w (w.alloc (.cells #[.int .i64 n, .slice a l.length cap] 26))) := (Below.refl _ w).alloc (Nat.le_refl _) _
  have HV : Hid (Sls intE (w.alloc (.cells #[.int .i64 n, .slice a l.length cap] 26)) (.slice a l.length cap) l) := h.kept B0.out
  have c0 := hX.cell 0
  have c1 := hX.cell 1
  unfold skV
  clear h hX
  cases hsz : szOk n with
  | false =>
    have HR : Hid (skOk n l = false) := by show _ = _; unfold skOk; rw [hsz]; rfl
    rw [hsz] at hS
    go_enter Try.func28, Try.ntmps28
    go_wp2_with fail
    refine (hS _).mono ?_
    rintro e w1 ⟨rfl, rfl⟩
    go_wp2
    go_ret
    exact ⟨congrArg (fun b => Ending.returned (.bool b)) HR.out.symm, B0.out⟩
  | true =>
    have HR : Hid (skOk n l = risB l n) := by show _ = _; unfold skOk; rw [hsz]; rfl
    have hn : 8 ≤ n ∧ n ≤ 512 := of_decide_eq_true hsz
    have hRs := fun W hW => specRis (.slice a l.length cap) l n W hW (by omega) (by omega)
    rw [hsz] at hS
    go_enter Try.func28, Try.ntmps28
    generalize hwA : w.alloc (.cells #[.int .i64 n, .slice a l.length cap] 26) = wA at B0 HV c0 c1
    go_wp2_with fail
    refine (hS _).mono ?_
    rintro e w1 ⟨rfl, rfl⟩
    go_wp2_with fail
    refine (hRs _ HV.out).mono ?_
    rintro e w2 ⟨rfl, hb2⟩
    have B2 : Hid (Below w.heap.size w w2) := (show Hid _ from pastK B0.out hb2)
    clear hb2
    go_wp2
    go_ret
    exact ⟨congrArg (fun b => Ending.returned (.bool b)) HR.out.symm, B2.out⟩
theorem specNew (n : Int) (w : World) :
    Calls Try.prog 29 #[.int .i64 n] w fun e w' => e = .returned (.tuple #[skV (if szOk n = true then n else 0) (.slice none 0 0), .bool (szOk n)]) ∧ Below w.heap.size w w' := by
  have hS := fun W => specSz n W
  have hX := Bx.new w 26 #[.int .i64 0, .slice none 0 0]
  have B0 : Hid (Below w.heap.size w (w.alloc (.cells #[.int .i64 0, .slice none 0 0] 26))) := (Below.refl _ w).alloc (Nat.le_refl _) _
  cases hsz : szOk n with
  | false =>
    rw [hsz] at hS
    unfold skV
    go_enter Try.func29, Try.ntmps29
    generalize hwA : w.alloc (.cells #[.int .i64 0, .slice none 0 0] 26) = wA at B0 hX
    have c0 := hX.cell 0
    have c1 := hX.cell 1
    have f0 := hX.free 0
    have f1 := hX.free 1
    go_wp2_with fail
    refine (hS _).mono ?_
    rintro e w1 ⟨rfl, rfl⟩
    go_wp2
    refine bodyPost_ret (v := .tuple #[.agg #[.int .i64 0, .slice none 0 0], .bool false]) (by simp [results, Try.results29, go_sem, c0, c1]) rfl ⟨rfl, (B0.out.setCell (Nat.le_refl _) _).setCell (Nat.le_refl _) _⟩
  | true =>
    rw [hsz] at hS
    unfold skV
    go_enter Try.func29, Try.ntmps29
    generalize hwA : w.alloc (.cells #[.int .i64 0, .slice none 0 0] 26) = wA at B0 hX
    have c0 := hX.cell 0
    have c1 := hX.cell 1
    have f0 := hX.free 0
    have f1 := hX.free 1
    go_wp2_with fail
    refine (hS _).mono ?_
    rintro e w1 ⟨rfl, rfl⟩
    go_wp2
    refine bodyPost_ret (v := .tuple #[.agg #[.int .i64 n, .slice none 0 0], .bool true]) (by simp [results, Try.results29, go_sem, c0, c1]) rfl ⟨rfl, (B0.out.setCell (Nat.le_refl _) _).setCell (Nat.le_refl _) _⟩
end Go.Proofs.Ytdoolnaekmffbaa
