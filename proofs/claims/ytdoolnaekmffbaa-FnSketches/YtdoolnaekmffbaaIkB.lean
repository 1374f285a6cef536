/-
  The program's right sizes, right sketches, and the row of flags of numbers.
-/
import Derived.Test.YtdoolnaekmffbaaIkA
import Derived.Test.YtdoolnaekmffbaaSkA
namespace Go.Proofs.Ytdoolnaekmffbaa
open Go.RowKit Go.Sort Ow Sk
set_option linter.unusedVariables false
set_option linter.unusedSimpArgs false

theorem implSz (n : Int) (w : World) : Calls Try.prog 46 #[.int .i64 n] w fun e w' => e = .returned (.bool (szOk n)) ∧ w = w' := by
  unfold szOk
  by_cases h1 : 8 ≤ n
  · by_cases h2 : n ≤ 512
    · rw [decide_eq_true (show 8 ≤ n ∧ n ≤ 512 from ⟨h1, h2⟩)]
      go_enter Try.func46, Try.ntmps46
      go_wp2
      go_ret
      exact ⟨rfl, rfl⟩
    · rw [decide_eq_false (fun h : 8 ≤ n ∧ n ≤ 512 => h2 h.2)]
      go_enter Try.func46, Try.ntmps46
      go_wp2
      go_ret
      exact ⟨rfl, rfl⟩
  · rw [decide_eq_false (fun h : 8 ≤ n ∧ n ≤ 512 => h1 h.1)]
    go_enter Try.func46, Try.ntmps46
    go_wp2
    go_ret
    exact ⟨rfl, rfl⟩
set_option maxRecDepth 100000 in
set_option maxHeartbeats 1000000 in
theorem implSko (n : Int) (v : Value) (l : List Int) (w : World) (h : Sls intE w v l) :
    Calls Try.prog 27 #[skV n v] w fun e w' => e = .returned (.bool (skOk n l)) ∧ Below w.heap.size w w' := by
  obtain ⟨a, cap, rfl, h1, h2, h3⟩ := h.one
  have hS := fun W => implSz n W
  have B0 : Hid (Below w.heap.size w (w.alloc (.cells #[.int .i64 n, .slice a l.length cap] 26))) := (Below.refl _ w).alloc (Nat.le_refl _) _
  have X0 : Hid (Bx (w.alloc (.cells #[.int .i64 n, .slice a l.length cap] 26)) w.heap.size 26 #[.int .i64 n, .slice a l.length cap]) := (show Hid _ from Bx.new w 26 _)
  have HC : Hid (0 < l.length → ∃ g o, a = some ⟨g, o, none⟩ ∧ ∀ j (hj : j < l.length), (w.alloc (.cells #[.int .i64 n, .slice a l.length cap] 26)).cell? ⟨g, o + j, none⟩ = some (.int .i64 l[j])) := (show _ → _ from fun h0 => by
    obtain ⟨g, o, e, hg, hc⟩ := h3 h0
    exact ⟨g, o, e, fun j hj => (B0.out.cell (p := ⟨g, o + j, none⟩) hg).trans (hc j hj)⟩)
  unfold maxLen at h2
  have hll : l.length ≤ 9223372036854775807 := by omega
  have H2 : Hid (cap ≤ 9223372036854775807) := (show cap ≤ _ by omega)
  unfold skV at *
  clear h h2 h3
  go_enter Try.func27, Try.ntmps27
  generalize hwA : w.alloc (.cells #[.int .i64 n, .slice a l.length cap] 26) = wA at B0 X0 HC
  have x0 := X0.out.cell 0
  have x1 := X0.out.cell 1
  cases hsz : szOk n with
  | false =>
    have HR : Hid (skOk n l = false) := by show _ = _; unfold skOk; rw [hsz]; rfl
    rw [hsz] at hS
    go_wp2_with fail
    refine (hS _).mono ?_
    rintro e w1 ⟨rfl, rfl⟩
    go_wp2
    go_ret
    exact ⟨congrArg (fun b => Ending.returned (.bool b)) HR.out.symm, B0.out⟩
  | true =>
    have hn : 8 ≤ n ∧ n ≤ 512 := of_decide_eq_true hsz
    have HR : Hid (skOk n l = risB l n) := by show _ = _; unfold skOk; rw [hsz]; rfl
    rw [hsz] at hS
    clear hsz
    go_wp2_with fail
    refine (hS _).mono ?_
    rintro e w1 ⟨rfl, rfl⟩
    go_wp2_with fail
    go_loop [3, 13] (fun b i => ∃ (k : Nat) (m : Int), k ≤ l.length ∧ i = .int .i64 k ∧ b = .int .i64 m ∧ Hid (∀ (i : Nat) (hi : i < l.length), i < k → stepR l n i hi) ∧ Hid ((k = 0 ∧ m = 0) ∨ ∃ h : k - 1 < l.length, 0 < k ∧ m = l[k - 1] + 1)) (fun _ i => l.length - (intOf i).toNat)
    case atStart => exact ⟨0, 0, Nat.zero_le _, rfl, rfl, (show ∀ _, _ from fun i hi h => by omega), (show _ ∨ _ from .inl ⟨rfl, rfl⟩)⟩
    case round =>
      obtain ⟨k, m, hk, rfl, rfl, hst, hm⟩ := hrel
      by_cases hlt : k < l.length
      · obtain ⟨g, o, rfl, hc⟩ := HC.out (by omega)
        have c1 := hc k hlt
        have hki : (k : Int) < (l.length : Int) := by omega
        have HS : Hid (¬ l[k] < m → ¬ l[k] ≥ n → ∀ (i : Nat) (hi : i < l.length), i < k + 1 → stepR l n i hi) := (show _ → _ from fun e1 e2 i hi hik => by
          by_cases hik2 : i < k
          · exact hst.out i hi hik2
          · obtain rfl : i = k := by omega
            rcases hm.out with ⟨k0, m0⟩ | ⟨h0, k0, m0⟩
            · exact ⟨⟨by omega, by omega⟩, fun h0 => by omega⟩
            · have hp := (hst.out (i - 1) h0 (by omega)).1
              exact ⟨⟨by omega, by omega⟩, fun _ => by omega⟩)
        have HN1 : Hid (l[k] < m → risB l n = false) := (show _ → _ from fun e1 => risB_not k hlt fun hs => by
          rcases hm.out with ⟨k0, m0⟩ | ⟨h0, k0, m0⟩
          · have := hs.1.1; omega
          · have := hs.2 k0; omega)
        have HN2 : Hid (l[k] ≥ n → risB l n = false) := (show _ → _ from fun e1 => risB_not k hlt fun hs => by have := hs.1.2; omega)
        obtain ⟨x, hx⟩ : ∃ x, x = l[k] := ⟨_, rfl⟩
        have hmb : 0 ≤ m := by
          rcases hm.out with ⟨k0, m0⟩ | ⟨h0, k0, m0⟩
          · omega
          · have hp := (hst.out (k - 1) h0 (by omega)).1; omega
        rw [← hx] at c1 HS HN1 HN2
        have HX : Hid (x = l[k]) := hx
        clear hm hst hc hx
        by_cases hx1 : x < m
        · have HE : Hid (false = skOk n l) := by show _ = _; rw [HR.out, HN1.out hx1]
          go_wp2
          go_ret
          exact ⟨congrArg (fun b => Ending.returned (.bool b)) HE.out, B0.out⟩
        · by_cases hx2 : n ≤ x
          · have HE : Hid (false = skOk n l) := by show _ = _; rw [HR.out, HN2.out hx2]
            go_wp2
            go_ret
            exact ⟨congrArg (fun b => Ending.returned (.bool b)) HE.out, B0.out⟩
          · have HA : Hid _ := HS.out hx1 (by omega)
            clear HS HN1 HN2
            go_wp2
            go_round
            case rel => exact ⟨k + 1, x + 1, by omega, by go_num, rfl, HA, (show _ ∨ _ from .inr ⟨hlt, by omega, by rw [HX.out]; rfl⟩)⟩
            case measure => simp [intOf]; omega
      · obtain rfl : k = l.length := by omega
        have HE : Hid (true = skOk n l) := by show _ = _; rw [HR.out, risB_of fun i hi => hst.out i hi hi]
        go_wp2
        go_ret
        exact ⟨congrArg (fun b => Ending.returned (.bool b)) HE.out, B0.out⟩
end Go.Proofs.Ytdoolnaekmffbaa
