/-
  The specification's right sketches, and new ones.
  The specification's ReplicaOk, by contract: its first tests, and the rest given what it does behind them.
  The specification's ReplicaOk, behind its first tests: of one that is Normal, and of one that is not.
-/
import Derived.Test.YtdkhdjickkcaiaaRK07
import Derived.Test.YtdkhdjickkcaiaaRK04
import Derived.Lib.ItoaNum
import Derived.WalkKit
import Derived.WalkSpells
import Derived.Test.YtdkhdjickkcaiaaRK10
import Derived.Test.YtdkhdjickkcaiaaRK25
import Derived.Test.YtdkhdjickkcaiaaRK24
import Derived.Deep.DeepCutAuto
import Derived.Lib.QuietBelow
import Derived.Test.YtdkhdjickkcaiaaRK11
import Derived.Test.YtdkhdjickkcaiaaRK15
import Derived.Test.YtdkhdjickkcaiaaRK17
namespace Go.Proofs.Ytdkhdjickkcaiaa
open Go.RowKit Go.Sort Ow Sk
set_option linter.unusedVariables false
set_option linter.unusedSimpArgs false

theorem pastK {w w1 w2 : World} (h : Below w.heap.size w w1) (hb : Below w1.heap.size w1 w2) : Below w.heap.size w w2 := h.trans (hb.mono h.size)
theorem inRmR (s lo hi : Int) (b : Bool) (h : inM s lo hi = b) (w : World) (d : Nat) (os : Array Obj) : Calls Try.prog 24 #[.int .i64 s, .int .i64 lo, .int .i64 hi] (grow (redrawn w d) os) fun e w'' => e = .returned (.bool b) ∧ ∃ p : Regrown, w'' = grow (redrawn w p.d) p.os :=
  Calls.regrown_of ((inRm s lo hi _).mono fun e w' ⟨h1, h2⟩ => ⟨by rw [h1, h], h2 ▸ Below.refl _ _⟩)
set_option maxRecDepth 100000 in
set_option maxHeartbeats 1000000 in
theorem specRis (v : Value) (l : List Int) (b : Int) (w : World) (h : Sls intE w v l) (hb1 : 1 ≤ b) (hb2 : b ≤ 1000) :
    Calls Try.prog 76 #[v, .int .i64 b] w fun e w' => e = .returned (.bool (risB l b)) ∧ Below w.heap.size w w' := by
  obtain ⟨a, cap, rfl, h1, h2, h3⟩ := h.one
  have H2 : Hid (cap ≤ maxLen) := h2
  have HC : Hid (0 < l.length → ∃ g o, a = some ⟨g, o, none⟩ ∧ g < w.heap.size ∧ ∀ j (hj : j < l.length), w.cell? ⟨g, o + j, none⟩ = some (.int .i64 l[j])) := h3
  have ew : IntKind.i64.wrap (b - 1) = b - 1 := by rw [IntKind.wrap_i64]; omega
  unfold maxLen at h2
  have hll : l.length ≤ 9223372036854775807 := by omega
  clear h h2 h3
  go_enter Try.func76, Try.ntmps76
  go_wp2
  go_loopw [5] (fun i wr => ∃ k : Nat, k ≤ l.length ∧ i = .int .i64 k ∧ Hid (∀ (i : Nat) (hi : i < l.length), i < k → stepR l b i hi) ∧ Hid (Below w.heap.size w wr)) (fun i _ => l.length - (intOf i).toNat)
  case atStart => exact ⟨0, Nat.zero_le _, rfl, (show ∀ _, _ from fun i hi h => by omega), (show Hid _ from Below.refl _ _)⟩
  case round =>
    obtain ⟨k, hk, rfl, hst, hb⟩ := hrel
    by_cases hlt : k < l.length
    · obtain ⟨g, o, rfl, hg, hc⟩ := HC.out (by omega)
      have c1 := (hb.out.cell (p := ⟨g, o + k, none⟩) hg).trans (hc k hlt)
      have hki : (k : Int) < (l.length : Int) := by omega
      have k1 := cell_regrown c1
      cases hin : inM l[k] 0 (b - 1) with
      | false =>
        have HR : Hid (risB l b = false) := risB_not k hlt (fun h => by have := of_decide_eq_false hin; exact this h.1)
        have j1 := inRmR l[k] 0 (b - 1) false hin wr
        generalize l[k] = x at c1 k1 j1
        clear c1 hin hc
        go_wp2_with fail
        refine wp_region_quiet_below (by kernel_rfl) (by kernel_rfl) ?_
        repeat (go_big_quiet_step (with_reducible exact j1 _ _))
        refine wpQuiet_nil ?_
        intro _ hw'
        obtain ⟨⟨dq, osq⟩, hw''⟩ := hw'
        subst hw''
        have BN : Hid (Below w.heap.size w (grow (redrawn wr dq) osq)) := (show Hid _ from pastK hb.out (below_regrown wr dq osq))
        generalize grow (redrawn wr dq) osq = wn at BN ⊢
        go_wp2
        go_ret
        exact ⟨congrArg (fun b => Ending.returned (.bool b)) HR.out.symm, BN.out⟩
      | true =>
        have j1 := inRmR l[k] 0 (b - 1) true hin wr
        have hin2 := of_decide_eq_true hin
        by_cases hk0 : 0 < k
        · have c0 := (hb.out.cell (p := ⟨g, o + (k - 1), none⟩) hg).trans (hc (k - 1) (by omega))
          have k0 := cell_regrown c0
          by_cases hle : l[k] ≤ l[k - 1]
          · have HR : Hid (risB l b = false) := risB_not k hlt (fun h => by have := h.2 hk0; omega)
            generalize l[k] = x at c1 k1 j1 hle
            generalize l[k - 1] = y at c0 k0 hle
            have hk0i : (0 : Int) < (k : Int) := by omega
            have hkm : ((k : Int) - 1).toNat = k - 1 := by omega
            clear c1 c0 hin hin2 hc
            go_wp2_with fail
            refine wp_region_quiet_below (by kernel_rfl) (by kernel_rfl) ?_
            repeat (go_big_quiet_step (with_reducible exact j1 _ _))
            refine wpQuiet_nil ?_
            intro _ hw'
            obtain ⟨⟨dq, osq⟩, hw''⟩ := hw'
            subst hw''
            have BN : Hid (Below w.heap.size w (grow (redrawn wr dq) osq)) := (show Hid _ from pastK hb.out (below_regrown wr dq osq))
            generalize grow (redrawn wr dq) osq = wn at BN ⊢
            go_wp2
            go_ret
            exact ⟨congrArg (fun b => Ending.returned (.bool b)) HR.out.symm, BN.out⟩
          · have HS : Hid (∀ (i : Nat) (hi : i < l.length), i < k + 1 → stepR l b i hi) := (show ∀ _, _ from fun i hi h => by
              by_cases e : i = k
              · subst e
                exact ⟨hin2, fun h0 => by omega⟩
              · exact hst.out i hi (by omega))
            generalize l[k] = x at c1 k1 j1 hle
            generalize l[k - 1] = y at c0 k0 hle
            have hk0i : (0 : Int) < (k : Int) := by omega
            have hkm : ((k : Int) - 1).toNat = k - 1 := by omega
            clear c1 c0 hin hin2 hst hc
            go_wp2_with fail
            refine wp_region_quiet_below (by kernel_rfl) (by kernel_rfl) ?_
            repeat (go_big_quiet_step (with_reducible exact j1 _ _))
            refine wpQuiet_nil ?_
            intro _ hw'
            obtain ⟨⟨dq, osq⟩, hw''⟩ := hw'
            subst hw''
            have BN : Hid (Below w.heap.size w (grow (redrawn wr dq) osq)) := (show Hid _ from pastK hb.out (below_regrown wr dq osq))
            generalize grow (redrawn wr dq) osq = wn at BN ⊢
            go_wp2
            go_roundw
            case rel => exact ⟨k + 1, by omega, by go_num, HS, BN⟩
            case measure => simp [intOf]; omega
        · have HS : Hid (∀ (i : Nat) (hi : i < l.length), i < k + 1 → stepR l b i hi) := (show ∀ _, _ from fun i hi h => by
            by_cases e : i = k
            · subst e
              exact ⟨hin2, fun h0 => absurd h0 hk0⟩
            · exact hst.out i hi (by omega))
          generalize l[k] = x at c1 k1 j1
          have hk0i : ¬ (0 : Int) < (k : Int) := by omega
          clear c1 hin hin2 hst hc
          go_wp2_with fail
          refine wp_region_quiet_below (by kernel_rfl) (by kernel_rfl) ?_
          repeat (go_big_quiet_step (with_reducible exact j1 _ _))
          refine wpQuiet_nil ?_
          intro _ hw'
          obtain ⟨⟨dq, osq⟩, hw''⟩ := hw'
          subst hw''
          have BN : Hid (Below w.heap.size w (grow (redrawn wr dq) osq)) := (show Hid _ from pastK hb.out (below_regrown wr dq osq))
          generalize grow (redrawn wr dq) osq = wn at BN ⊢
          go_wp2
          go_roundw
          case rel => exact ⟨k + 1, by omega, by go_num, HS, BN⟩
          case measure => simp [intOf]; omega
    · obtain rfl : k = l.length := by omega
      have HR : Hid (risB l b = true) := risB_of (fun i hi => hst.out i hi hi)
      go_wp2
      go_ret
      exact ⟨congrArg (fun b => Ending.returned (.bool b)) HR.out.symm, hb.out⟩
end Go.Proofs.Ytdkhdjickkcaiaa
namespace Go.Proofs.Ytdkhdjickkcaiaa.Rl
open Go.RowKit Go.Sort Pg
set_option linter.unusedVariables false
set_option linter.unusedSimpArgs false

/-- Whether it begins with a region. -/
def hdK (n : Nat) : Code → Bool
  | .region m o d => m == n
  | .seq a b => hdK n a
  | c => false
/-- The code from a region on. -/
def cutK (n : Nat) : Code → Code
  | .seq a b => if hdK n a = true then .seq a b else cutK n b
  | c => c
noncomputable def rok4 : Code := cutK 4 (Try.f23.body.getD .skip)
set_option maxRecDepth 100000 in
def frK (s : Nat → Value) : Act := { tmps := #[s 0, s 1, s 2, s 3, s 4, s 5, s 6, s 7, s 8, s 9, s 10, s 11, s 12, s 13, s 14, s 15, s 16, s 17, s 18, s 19, s 20, s 21, s 22, s 23, s 24, s 25, s 26, s 27, s 28, s 29, s 30, s 31, s 32, s 33, s 34, s 35, s 36, s 37, s 38, s 39, s 40, s 41, s 42, s 43, s 44, s 45, s 46, s 47, s 48, s 49, s 50, s 51, s 52, s 53, s 54, s 55, s 56, s 57, s 58, s 59, s 60, s 61, s 62, s 63, s 64, s 65, s 66, s 67, s 68, s 69, s 70, s 71, s 72, s 73, s 74, s 75, s 76, s 77, s 78, s 79, s 80, s 81, s 82, s 83, s 84, s 85, s 86, s 87, s 88, s 89, s 90, s 91, s 92, s 93, s 94, s 95, s 96, s 97, s 98, s 99, s 100, s 101, s 102, s 103, s 104, s 105, s 106, s 107, s 108, s 109, s 110, s 111, s 112, s 113, s 114, s 115, s 116, s 117, s 118, s 119, s 120, s 121, s 122, s 123, s 124, s 125, s 126, s 127, s 128, s 129, s 130, s 131, s 132, s 133, s 134, s 135, s 136, s 137, s 138, s 139, s 140, s 141, s 142, s 143, s 144, s 145, s 146, s 147, s 148, s 149, s 150, s 151, s 152, s 153, s 154, s 155, s 156, s 157, s 158, s 159, s 160, s 161, s 162, s 163, s 164, s 165, s 166, s 167, s 168, s 169, s 170, s 171, s 172, s 173, s 174, s 175, s 176, s 177, s 178, s 179, s 180, s 181, s 182, s 183, s 184, s 185, s 186, s 187, s 188, s 189, s 190, s 191, s 192, s 193, s 194, s 195, s 196, s 197, s 198, s 199, s 200, s 201, s 202, s 203, s 204, s 205, s 206, s 207, s 208, s 209, s 210, s 211, s 212, s 213, s 214, s 215], defers := [] }
/-- What holds behind the first tests. -/
structure Rk (r : Rp) (u : Rv) (w W : World) : Prop where
  b : RpB W w.heap.size r u
  low : Below w.heap.size w W
  got : RpGot w u r
  fit : Fit r
  p : pOk r.p
  id : 0 ≤ r.id ∧ r.id < r.p
  v : 0 ≤ r.v ∧ r.v ≤ 10000
  lg : LgP r
  la : 0 ≤ r.la ∧ r.la ≤ r.v
  n : r.n = true ↔ r.la = r.v
theorem Rk.kept {r : Rp} {u : Rv} {w W W' : World} (h : Rk r u w W) (hb : Below W.heap.size W W') : Rk r u w W' := ⟨h.b.kept hb, h.low.trans (hb.mono h.low.size), h.got, h.fit, h.p, h.id, h.v, h.lg, h.la, h.n⟩
theorem Rk.rok {r : Rp} {u : Rv} {w W : World} (h : Rk r u w W) : RpOk r ↔ OkP r ∧ ChP r ∧ TeP r := by
  rw [rp_parts]
  refine ⟨fun hh => ⟨hh.2.2.2.2.1, hh.2.2.2.2.2.1, hh.2.2.2.2.2.2⟩, fun hh => ⟨h.p, h.id, ⟨h.v.1, h.v.2, h.la.1, h.n.1, fun hn => ?_⟩, h.lg, hh.1, hh.2.1, hh.2.2⟩⟩
  have h1 := h.la.2
  have h2 : ¬ r.la = r.v := fun e => by have := h.n.2 e; rw [hn] at this; cases this
  omega
set_option maxRecDepth 100000 in
set_option maxHeartbeats 16000000 in
theorem specRokH (r : Rp) (u : Rv) (w : World) (h : RpGot w u r) (hf : Fit r)
    (hT : ∀ W (s : Nat → Value), s 1 = .pointer (some ⟨w.heap.size, 0, none⟩) → s 2 = .bool false → s 3 = .bool (dB (mine r)) → Rk r u w W → Code.wp Try.prog rok4 (bodyPost Try.prog Try.f23 fun e w' => e = .returned (.bool (dB (RpOk r))) ∧ Below w.heap.size w w') (frK s) W) :
    Calls Try.prog 23 #[rpA r u] w fun e w' => e = .returned (.bool (dB (RpOk r))) ∧ Below w.heap.size w w' := by
  have HTT : Hid _ := hT
  clear hT
  have HF : Hid (¬ RpOk r → ∀ b, b = false → Ending.returned (.bool b) = .returned (.bool (dB (RpOk r)))) := (show _ → ∀ _, _ from fun h1 b h2 => by rw [h2, dB_no h1])
  have RP : Hid (RpOk r ↔ _) := rp_parts r
  have j1 := fun W => specPrs r.p W
  have j2 := fun W => inRm r.id 0 (r.p - 1) W
  have j3 := fun W => inRm r.v 0 10000 W
  have j4 := fun W (hW : Below w.heap.size w W) => specLog u.l r.l W (h.l.kept hW) hf.l.2
  have j5 := fun W => inRm r.c 0 (r.l.length : Int) W
  have j6 := fun W => inRm r.la 0 r.v W
  obtain ⟨la, lc, hvl⟩ := Sls.slen0 h.l
  have VL : Hid (u.l = .slice la r.l.length lc) := hvl
  rw [hvl] at j4
  have HH : Hid (RpGot w u r) := h
  have HFit : Hid (Fit r) := hf
  have HB : Hid (RpB (w.alloc (.cells #[.int .i64 r.id, .int .i64 r.p, .int .i64 r.v, .bool r.n, .int .i64 r.la, u.l, .int .i64 r.c, u.ok, u.ch, u.te] 53)) w.heap.size r u) := (show Hid _ from Bx.new _ _ _)
  have B0 : Hid (Below w.heap.size w (w.alloc (.cells #[.int .i64 r.id, .int .i64 r.p, .int .i64 r.v, .bool r.n, .int .i64 r.la, u.l, .int .i64 r.c, u.ok, u.ch, u.te] 53))) := (show Hid _ from (Below.refl _ w).alloc (Nat.le_refl _) _)
  have x0 : (w.alloc (.cells #[.int .i64 r.id, .int .i64 r.p, .int .i64 r.v, .bool r.n, .int .i64 r.la, u.l, .int .i64 r.c, u.ok, u.ch, u.te] 53)).cell? ⟨w.heap.size, 0, none⟩ = some (.int .i64 r.id) := HB.out.cells.1
  have x1 : (w.alloc (.cells #[.int .i64 r.id, .int .i64 r.p, .int .i64 r.v, .bool r.n, .int .i64 r.la, u.l, .int .i64 r.c, u.ok, u.ch, u.te] 53)).cell? ⟨w.heap.size, 1, none⟩ = some (.int .i64 r.p) := HB.out.cells.2.1
  have x2 : (w.alloc (.cells #[.int .i64 r.id, .int .i64 r.p, .int .i64 r.v, .bool r.n, .int .i64 r.la, u.l, .int .i64 r.c, u.ok, u.ch, u.te] 53)).cell? ⟨w.heap.size, 2, none⟩ = some (.int .i64 r.v) := HB.out.cells.2.2.1
  have x5 : (w.alloc (.cells #[.int .i64 r.id, .int .i64 r.p, .int .i64 r.v, .bool r.n, .int .i64 r.la, u.l, .int .i64 r.c, u.ok, u.ch, u.te] 53)).cell? ⟨w.heap.size, 5, none⟩ = some (.slice la r.l.length lc) := by rw [← hvl]; exact HB.out.cells.2.2.2.2.2.1
  unfold rpA
  clear h hf hvl
  go_enter Try.func23, Try.ntmps23
  generalize hw1 : w.alloc (.cells #[.int .i64 r.id, .int .i64 r.p, .int .i64 r.v, .bool r.n, .int .i64 r.la, u.l, .int .i64 r.c, u.ok, u.ch, u.te] 53) = W1 at HB B0 x0 x1 x2 x5
  go_wp2_with fail
  clear hw1
  refine (j1 _).mono ?_
  rintro e wx ⟨rfl, rfl⟩
  cases b1 : decide (pOk r.p) with
  | false =>
    go_wp2
    go_ret
    exact ⟨HF.out (fun h => of_decide_eq_false b1 (RP.out.1 h).1) _ rfl, B0.out⟩
  | true =>
  have hp : pOk r.p := of_decide_eq_true b1
  have HP : Hid (pOk r.p) := hp
  have ew : wrap64 (r.p - 1) = r.p - 1 := by unfold wrap64; rcases hp with h | h | h <;> rw [h] <;> decide
  clear hp b1 j1
  go_wp2_with fail
  refine (j2 _).mono ?_
  rintro e wx ⟨rfl, rfl⟩
  cases b2 : inM r.id 0 (r.p - 1) with
  | false =>
    go_wp2
    go_ret
    exact ⟨HF.out (fun h => by have := (RP.out.1 h).2.1; exact inM_no b2 ⟨this.1, by omega⟩) _ rfl, B0.out⟩
  | true =>
  have HI : Hid (0 ≤ r.id ∧ r.id < r.p) := (show _ ∧ _ by have := inM_yes b2; omega)
  clear b2 j2 ew
  go_wp2_with fail
  refine (j3 _).mono ?_
  rintro e wx ⟨rfl, rfl⟩
  cases b3 : inM r.v 0 10000 with
  | false =>
    go_wp2
    go_ret
    exact ⟨HF.out (fun h => by have := (RP.out.1 h).2.2.1; exact inM_no b3 ⟨this.1, this.2.1⟩) _ rfl, B0.out⟩
  | true =>
  have HV : Hid (0 ≤ r.v ∧ r.v ≤ 10000) := inM_yes b3
  clear b3 j3
  go_wp2_with fail
  refine (j4 _ B0.out).mono ?_
  rintro e w2 ⟨rfl, hb⟩
  have B2 : Hid (Below w.heap.size w w2) := (show Hid _ from B0.out.trans (hb.mono B0.out.size))
  have HB2 : Hid (RpB w2 w.heap.size r u) := (show Hid _ from HB.out.kept hb)
  clear hb HB B0 x0 x1 x2 x5 j4
  cases b4 : logB r.l with
  | false =>
    go_wp2
    go_ret
    exact ⟨HF.out (fun h => by have := (RP.out.1 h).2.2.2.1.1; rw [b4] at this; cases this) _ rfl, B2.out⟩
  | true =>
  obtain ⟨c0, c1, c2, c3, c4, c5, c6, c7, c8, c9⟩ := HB2.out.cells
  rw [VL.out] at c5
  clear c0 c1 c7 c8 c9
  go_wp2_with fail
  refine (j5 _).mono ?_
  rintro e wx ⟨rfl, rfl⟩
  cases b5 : inM r.c 0 (r.l.length : Int) with
  | false =>
    go_wp2
    go_ret
    exact ⟨HF.out (fun h => inM_no b5 (RP.out.1 h).2.2.2.1.2) _ rfl, B2.out⟩
  | true =>
  have HL : Hid (LgP r) := ⟨b4, inM_yes b5⟩
  clear b4 b5 j5
  go_wp2_with fail
  refine (j6 _).mono ?_
  rintro e wx ⟨rfl, rfl⟩
  cases b6 : inM r.la 0 r.v with
  | false =>
    go_wp2
    go_ret
    exact ⟨HF.out (fun h => by
      have := (rp_parts r).2 (RP.out.1 h)
      exact inM_no b6 this.la) _ rfl, B2.out⟩
  | true =>
  have HLA : Hid (0 ≤ r.la ∧ r.la ≤ r.v) := inM_yes b6
  clear b6 j6
  by_cases h1 : r.la = r.v
  · have hq : (r.la == r.v) = true := by simpa using h1
    cases hn : r.n with
    | true =>
      rw [hn] at c3
      have RK : Hid (Rk r u w w2) := ⟨HB2.out, B2.out, HH.out, HFit.out, HP.out, HI.out, HV.out, HL.out, HLA.out, ⟨fun _ => h1, fun _ => hn⟩⟩
      clear hn h1
      go_upto_region 3 with fail
      rename_i hK
      have HK : Hid _ := hK
      clear hK
      have em : Int.tmod r.v r.p = r.v % r.p := modE HV.out.1
      have hp0 : (r.p == 0) = false := by rcases HP.out with h | h | h <;> rw [h] <;> rfl
      have hpz : ¬ r.p = 0 := by rcases HP.out with h | h | h <;> rw [h] <;> decide
      have ew : wrap64 (r.v % r.p) = r.v % r.p := by have := HV.out; unfold wrap64; rcases HP.out with h | h | h <;> rw [h] <;> omega
      have HM : Hid ((r.v % r.p == r.id) = dB (mine r)) := (show _ = _ by rw [← dB_mine]; by_cases hh : r.v % r.p = r.id <;> simp [hh])
      have x0 := HB2.out.cells.1
      have x1 := HB2.out.cells.2.1
      generalize r.v % r.p = q at em ew HM
      go_quiet (fail)
      have RK3 : Hid (Rk r u w (w2.drewN nq)) := (show Hid _ from RK.out.kept ⟨rfl, rfl, rfl, Nat.le_refl _, fun _ _ => rfl⟩)
      generalize w2.drewN nq = w3 at RK3 ⊢
      refine HK.out _ _ ?_
      clear HK
      generalize hA : Act.mk _ _ = A
      obtain ⟨s, hs, s1, s2, s3⟩ : ∃ s : Nat → Value, A = frK s ∧ s 1 = .pointer (some ⟨w.heap.size, 0, none⟩) ∧ s 2 = .bool false ∧ s 3 = .bool (q == r.id) := by
        refine ⟨fun i => A.tmps.getD i undef, ?_, ?_, ?_, ?_⟩ <;> rw [← hA] <;> rfl
      rw [hs]
      rw [HM.out] at s3
      exact HTT.out _ s s1 s2 s3 RK3.out
    | false =>
      rw [hn] at c3
      have HN : Hid (¬ RpOk r) := (show ¬ _ from fun h => by have := h.n.2 h1; rw [hn] at this; cases this)
      clear hn h1
      go_wp2
      go_ret
      exact ⟨HF.out HN.out _ rfl, B2.out⟩
  · have hq : (r.la == r.v) = false := by simpa using h1
    cases hn : r.n with
    | true =>
      rw [hn] at c3
      have HN : Hid (¬ RpOk r) := (show ¬ _ from fun h => h1 (h.n.1 hn))
      clear hn h1
      go_wp2
      go_ret
      exact ⟨HF.out HN.out _ rfl, B2.out⟩
    | false =>
      rw [hn] at c3
      have RK : Hid (Rk r u w w2) := ⟨HB2.out, B2.out, HH.out, HFit.out, HP.out, HI.out, HV.out, HL.out, HLA.out, ⟨fun e => (by rw [hn] at e; cases e), fun e => absurd e h1⟩⟩
      clear hn h1
      go_upto_region 3 with fail
      rename_i hK
      have HK : Hid _ := hK
      clear hK
      have em : Int.tmod r.v r.p = r.v % r.p := modE HV.out.1
      have hp0 : (r.p == 0) = false := by rcases HP.out with h | h | h <;> rw [h] <;> rfl
      have hpz : ¬ r.p = 0 := by rcases HP.out with h | h | h <;> rw [h] <;> decide
      have ew : wrap64 (r.v % r.p) = r.v % r.p := by have := HV.out; unfold wrap64; rcases HP.out with h | h | h <;> rw [h] <;> omega
      have HM : Hid ((r.v % r.p == r.id) = dB (mine r)) := (show _ = _ by rw [← dB_mine]; by_cases hh : r.v % r.p = r.id <;> simp [hh])
      have x0 := HB2.out.cells.1
      have x1 := HB2.out.cells.2.1
      generalize r.v % r.p = q at em ew HM
      go_quiet (fail)
      have RK3 : Hid (Rk r u w (w2.drewN nq)) := (show Hid _ from RK.out.kept ⟨rfl, rfl, rfl, Nat.le_refl _, fun _ _ => rfl⟩)
      generalize w2.drewN nq = w3 at RK3 ⊢
      refine HK.out _ _ ?_
      clear HK
      generalize hA : Act.mk _ _ = A
      obtain ⟨s, hs, s1, s2, s3⟩ : ∃ s : Nat → Value, A = frK s ∧ s 1 = .pointer (some ⟨w.heap.size, 0, none⟩) ∧ s 2 = .bool false ∧ s 3 = .bool (q == r.id) := by
        refine ⟨fun i => A.tmps.getD i undef, ?_, ?_, ?_, ?_⟩ <;> rw [← hA] <;> rfl
      rw [hs]
      rw [HM.out] at s3
      exact HTT.out _ s s1 s2 s3 RK3.out
end Go.Proofs.Ytdkhdjickkcaiaa.Rl
namespace Go.Proofs.Ytdkhdjickkcaiaa.Rl
open Go.RowKit Go.Sort Pg Sk
set_option linter.unusedVariables false
set_option linter.unusedSimpArgs false

theorem risB_is (l : List Int) (p : Int) : (l.Pairwise (· < ·) ∧ ∀ x ∈ l, 0 ≤ x ∧ x < p) ↔ risB l p = true := by
  rw [risB_iff]
  exact ⟨fun h => ⟨fun x hx => by have := h.2 x hx; omega, h.1⟩, fun h => ⟨h.2, fun x hx => by have := h.1 x hx; omega⟩⟩
theorem specRs (v : Value) (l : List Int) (p : Int) (w : World) (h : Sls intE w v l) (hp : pOk p) :
    Calls Try.prog 53 #[v, .int .i64 p] w fun e w' => e = .returned (.bool (dB (l.Pairwise (· < ·) ∧ ∀ x ∈ l, 0 ≤ x ∧ x < p))) ∧ Below w.heap.size w w' := by
  have HR : Hid (risB l p = dB (l.Pairwise (· < ·) ∧ ∀ x ∈ l, 0 ≤ x ∧ x < p)) := (show _ = _ from (dB_iff (risB_is l p)).symm)
  have j1 := specRis v l p w h (by rcases hp with h | h | h <;> omega) (by rcases hp with h | h | h <;> omega)
  obtain ⟨a, c, hv⟩ := Sls.slen0 h
  subst hv
  generalize risB l p = B at j1 HR
  clear h hp
  go_enter Try.func53, Try.ntmps53
  go_wp2_with fail
  refine j1.mono ?_
  rintro e w1 ⟨rfl, hb⟩
  go_wp2
  go_ret
  exact ⟨congrArg (fun b => Ending.returned (.bool b)) HR.out, hb⟩
set_option maxRecDepth 100000 in
set_option maxHeartbeats 16000000 in
theorem rokTailN (r : Rp) (u : Rv) (w W : World) (s : Nat → Value) (s1 : s 1 = .pointer (some ⟨w.heap.size, 0, none⟩)) (s2 : s 2 = .bool false) (s3 : s 3 = .bool (dB (mine r))) (h : Rk r u w W) (hn : r.n = true) :
    Code.wp Try.prog rok4 (bodyPost Try.prog Try.f23 fun e w' => e = .returned (.bool (dB (RpOk r))) ∧ Below w.heap.size w w') (frK s) W := by
  have HF : Hid (¬ RpOk r → ∀ b, b = false → Ending.returned (.bool b) = .returned (.bool (dB (RpOk r)))) := (show _ → ∀ _, _ from fun h1 b h2 => by rw [h2, dB_no h1])
  have HE : Hid (∀ b, (RpOk r ↔ b = true) → Ending.returned (.bool b) = .returned (.bool (dB (RpOk r)))) := (show ∀ _, _ from fun b h1 => by rw [dB_iff h1])
  have HR : Hid (RpOk r ↔ OkP r ∧ ChP r ∧ TeP r) := h.rok
  obtain ⟨oa, oc, hvo, o1, o2, o3⟩ := h.got.ok.one
  obtain ⟨ca, cc, hvc⟩ := Sls.slen0 h.got.ch
  obtain ⟨ta, tc, hvt⟩ := Sls.slen0 h.got.te.1
  obtain ⟨la, lc, hvl⟩ := Sls.slen0 h.got.l
  rw [h.got.tlen] at hvt
  unfold maxLen at o2
  have hfc := h.fit.ch
  have hft := h.fit.te.1
  have hfl := h.fit.l.1
  have hid := h.id
  have hpp := h.p
  have O3 : Hid (0 < r.ok.length → ∃ g o, oa = some ⟨g, o, none⟩ ∧ g < w.heap.size ∧ ∀ j (hj : j < r.ok.length), w.cell? ⟨g, o + j, none⟩ = some (.int .i64 r.ok[j])) := o3
  have BB : Hid (Below w.heap.size w W) := h.low
  have HB : Hid (RpB W w.heap.size r u) := h.b
  obtain ⟨c0, c1, c2, c3, c4, c5, c6, c7, c8, c9⟩ := HB.out.cells
  rw [hn] at c3
  rw [hvl] at c5
  rw [hvo] at c7
  rw [hvc] at c8
  rw [hvt] at c9
  have HN : Hid (r.n = true) := hn
  clear h o3 hvo hvc hvt hvl c2 c4 c6 hn
  conv => arg 2; whnf
  unfold frK
  have ew : wrap64 ((r.ch.length : Int) + (r.te.length : Int)) = (r.ch.length : Int) + (r.te.length : Int) := by unfold wrap64; omega
  by_cases hz : 0 < (r.ch.length : Int) + (r.te.length : Int)
  · have HV : Hid (¬ RpOk r) := (show ¬ _ from fun hh => by
      have h1 := (HR.out.1 hh).2.1.1 HN.out
      have h2 := (HR.out.1 hh).2.2.1 (.inl HN.out)
      rw [h1, h2] at hz
      simp at hz)
    go_wp2
    go_ret
    exact ⟨HF.out HV.out _ rfl, BB.out⟩
  have HC0 : Hid (r.ch = [] ∧ r.te = []) := ⟨List.eq_nil_of_length_eq_zero (by omega), List.eq_nil_of_length_eq_zero (by omega)⟩
  have HCT : Hid (ChP r ∧ TeP r) := ⟨⟨fun _ => HC0.out.1, fun e => (by rw [HN.out] at e; cases e)⟩, ⟨fun _ => HC0.out.2, fun e => (by rw [HN.out] at e; cases e)⟩⟩
  by_cases hm : ¬ (mine r)
  · rw [dB_no hm] at s3
    have HV : Hid (RpOk r ↔ ((r.ok.length : Int) == 0) = true) := (show _ ↔ _ from ⟨fun hh => by rw [(HR.out.1 hh).1.2 (fun hl => hm hl.2)]; rfl, fun hh => HR.out.2 ⟨⟨fun hl => absurd hl.2 hm, fun _ => List.eq_nil_of_length_eq_zero (by have hz : (r.ok.length : Int) = 0 := (by simpa using hh); omega)⟩, HCT.out.1, HCT.out.2⟩⟩)
    clear hm
    go_wp2
    go_ret
    exact ⟨HE.out _ HV.out, BB.out⟩
  replace hm : mine r := Classical.not_not.1 hm
  rw [dB_yes hm] at s3
  have HL : Hid (leads r) := ⟨HN.out, hm⟩
  clear hm
  by_cases hlen : ¬ ((r.ok.length : Int) = r.p)
  · have dn : ((r.ok.length : Int) != r.p) = true := by simpa using hlen
    have HV : Hid (¬ RpOk r) := (show ¬ _ from fun hh => hlen ((HR.out.1 hh).1.1 HL.out).1)

    go_upto_region 9 with fail
    go_quiet (fail)
    have BN : Hid (Below W.heap.size W (W.drewN nq)) := (show Hid _ from ⟨rfl, rfl, rfl, Nat.le_refl _, fun _ _ => rfl⟩)
    generalize W.drewN nq = W2 at BN ⊢
    have B2 : Hid (Below w.heap.size w W2) := (show Hid _ from BB.out.trans (BN.out.mono BB.out.size))
    go_wp2
    go_ret
    exact ⟨HF.out HV.out _ rfl, B2.out⟩
  replace hlen : (r.ok.length : Int) = r.p := Decidable.not_not.1 hlen
  have dn : ((r.ok.length : Int) != r.p) = false := by simpa using hlen
  have hin : r.id.toNat < r.ok.length := by omega
  obtain ⟨g, o, rfl, hg, hc⟩ := O3.out (by omega)
  have cx := (BB.out.cell (p := ⟨g, o + r.id.toNat, none⟩) hg).trans (hc _ hin)
  have hid1 := hid.1
  have hid2 : r.id < (r.ok.length : Int) := by omega
  have HLN : Hid ((r.ok.length : Int) = r.p) := hlen
  have HIN : Hid (r.ok[r.id.toNat]? = some r.ok[r.id.toNat]) := List.getElem?_eq_getElem hin
  have HCC : Hid (∀ j (hj : j < r.ok.length), w.cell? ⟨g, o + j, none⟩ = some (.int .i64 r.ok[j])) := hc
  clear hc
  by_cases hx : ¬ (r.ok[r.id.toNat] = (r.l.length : Int))
  · have dx : (r.ok[r.id.toNat] != (r.l.length : Int)) = true := by simpa using hx
    have HV : Hid (¬ RpOk r) := (show ¬ _ from fun hh => hx (by
      have h1 := ((HR.out.1 hh).1.1 HL.out).2.1
      rw [HIN.out] at h1
      exact Option.some.inj h1))
    clear HIN hx
    generalize r.ok[r.id.toNat] = x at cx dx

    go_upto_region 9 with fail
    go_quiet (fail)
    have BN : Hid (Below W.heap.size W (W.drewN nq)) := (show Hid _ from ⟨rfl, rfl, rfl, Nat.le_refl _, fun _ _ => rfl⟩)
    generalize W.drewN nq = W2 at BN ⊢
    have B2 : Hid (Below w.heap.size w W2) := (show Hid _ from BB.out.trans (BN.out.mono BB.out.size))
    go_wp2
    go_ret
    exact ⟨HF.out HV.out _ rfl, B2.out⟩
  replace hx : r.ok[r.id.toNat] = (r.l.length : Int) := Decidable.not_not.1 hx
  have dx : (r.ok[r.id.toNat] != (r.l.length : Int)) = false := by simpa using hx
  have HIX : Hid (r.ok[r.id.toNat]? = some (r.l.length : Int)) := (show _ = _ by rw [HIN.out, hx])
  clear HIN hx
  generalize r.ok[r.id.toNat] = x at cx dx

  go_upto_region 9 with fail
  go_quiet (fail)
  have BN : Hid (Below W.heap.size W (W.drewN nq)) := (show Hid _ from ⟨rfl, rfl, rfl, Nat.le_refl _, fun _ _ => rfl⟩)
  generalize W.drewN nq = W2 at BN ⊢
  have B2 : Hid (Below w.heap.size w W2) := (show Hid _ from BB.out.trans (BN.out.mono BB.out.size))
  have HB2 : Hid (RpB W2 w.heap.size r u) := (show Hid _ from HB.out.kept BN.out)
  have c5' := (BN.out.cell (p := ⟨w.heap.size, 5, none⟩) (cell_ltR c5)).trans c5
  have c7' := (BN.out.cell (p := ⟨w.heap.size, 7, none⟩) (cell_ltR c7)).trans c7
  clear c0 c1 c3 c5 c7 c8 c9 cx dx HB BN
  have K5 : Hid _ := c5'
  have K7 : Hid _ := c7'
  go_wp2_with fail
  clear c5' c7'
  go_loopw [4] (fun i wr => ∃ k : Nat, k ≤ r.ok.length ∧ i = .int .i64 k ∧ Hid (∀ x ∈ r.ok.take k, 0 ≤ x ∧ x ≤ (r.l.length : Int)) ∧ Hid (Below W2.heap.size W2 wr)) (fun i _ => r.ok.length - (intOf i).toNat)
  case atStart => exact ⟨0, Nat.zero_le _, rfl, (show Hid _ from fun x hx => (by cases hx)), (show Hid _ from Below.refl _ _)⟩
  case round =>
    obtain ⟨k, hk, rfl, hall, hb⟩ := hrel
    have d5 := (hb.out.cell (p := ⟨w.heap.size, 5, none⟩) (cell_ltR K5.out)).trans K5.out
    have d7 := (hb.out.cell (p := ⟨w.heap.size, 7, none⟩) (cell_ltR K7.out)).trans K7.out
    have B3 : Hid (Below w.heap.size w wr) := (show Hid _ from B2.out.trans (hb.out.mono B2.out.size))
    by_cases hlt : k < r.ok.length
    · have cx := (B3.out.cell (p := ⟨g, o + k, none⟩) hg).trans (HCC.out k hlt)
      have HA : Hid (0 ≤ r.ok[k] ∧ r.ok[k] ≤ (r.l.length : Int) → ∀ x ∈ r.ok.take (k + 1), 0 ≤ x ∧ x ≤ (r.l.length : Int)) := (show _ → _ from fun hx => all_in hlt hall.out hx)
      have HNo : Hid (¬ (0 ≤ r.ok[k] ∧ r.ok[k] ≤ (r.l.length : Int)) → ¬ RpOk r) := (show _ → ¬ _ from fun hx hok => hx (((HR.out.1 hok).1.1 HL.out).2.2 _ (List.getElem_mem hlt)))
      have hki : (k : Int) < (r.ok.length : Int) := by omega
      have k5 := cell_regrown d5
      have k7 := cell_regrown d7
      have kx := cell_regrown cx
      cases hb0 : inM r.ok[k] 0 (r.l.length : Int) with
      | false =>
        have j1 := inRmR r.ok[k] 0 (r.l.length : Int) false hb0 wr
        have HNN : Hid _ := HNo.out (inM_no hb0)
        clear hb0 HA HNo
        generalize r.ok[k] = x at cx kx j1
        clear cx

        go_upto_region 14 with fail
        refine wp_region_quiet_below (by kernel_rfl) (by kernel_rfl) ?_
        repeat (go_big_quiet_step (first | (with_reducible exact j1 _ _)))
        refine wpQuiet_nil ?_
        intro _ hw'
        obtain ⟨⟨dq, osq⟩, hw''⟩ := hw'
        subst hw''
        have BN : Hid (Below wr.heap.size wr (grow (redrawn wr dq) osq)) := (show Hid _ from below_regrown wr dq osq)
        generalize grow (redrawn wr dq) osq = W4 at BN ⊢
        have B4 : Hid (Below w.heap.size w W4) := (show Hid _ from B3.out.trans (BN.out.mono B3.out.size))
        go_wp2
        go_ret
        exact ⟨HF.out HNN.out _ rfl, B4.out⟩
      | true =>
        have j1 := inRmR r.ok[k] 0 (r.l.length : Int) true hb0 wr
        have HAA : Hid _ := HA.out (inM_yes hb0)
        clear hb0 HA HNo
        generalize r.ok[k] = x at cx kx j1
        clear cx

        go_upto_region 14 with fail
        refine wp_region_quiet_below (by kernel_rfl) (by kernel_rfl) ?_
        repeat (go_big_quiet_step (first | (with_reducible exact j1 _ _)))
        refine wpQuiet_nil ?_
        intro _ hw'
        obtain ⟨⟨dq, osq⟩, hw''⟩ := hw'
        subst hw''
        have BN : Hid (Below wr.heap.size wr (grow (redrawn wr dq) osq)) := (show Hid _ from below_regrown wr dq osq)
        generalize grow (redrawn wr dq) osq = W4 at BN ⊢
        have B4 : Hid (Below W2.heap.size W2 W4) := (show Hid _ from hb.out.trans (BN.out.mono hb.out.size))
        clear k5 k7 kx j1 d5 d7
        go_wp2_with fail
        go_roundw
        case rel => exact ⟨k + 1, by omega, by go_num, HAA, B4⟩
        case measure => simp [intOf]; omega
    · obtain rfl : k = r.ok.length := by omega
      have HV : Hid (RpOk r) := HR.out.2 ⟨⟨fun _ => ⟨HLN.out, HIX.out, fun x hx => hall.out x (by rw [List.take_of_length_le (Nat.le_refl _)]; exact hx)⟩, fun hnl => absurd HL.out hnl⟩, HCT.out.1, HCT.out.2⟩
      go_wp2
      go_ret
      exact ⟨HE.out _ ⟨fun _ => rfl, fun _ => HV.out⟩, B3.out⟩
end Go.Proofs.Ytdkhdjickkcaiaa.Rl
