/-
  The specification's Best: when a number comes again, and what is dropped.
  The specification's right sketches, and new ones.
  The specification's ReplicaOk, by contract: its first tests, and the rest given what it does behind them.
  The specification's ReplicaOk, behind its first tests: of one that is Normal, and of one that is not.
  The specification's ReplicaOk of one that is not Normal; and whole.
  What a replica of a call lives in; the walk of FnExactReplicaOk, given the program's ReplicaOk.
-/
import Derived.Test.YtdkhdjickkcaiaaGreatRVS
import Derived.Test.YtdkhdjickkcaiaaGreatRV17
import Derived.Deep.DeepCutAuto
import Derived.Lib.QuietBelow
import Derived.Test.YtdkhdjickkcaiaaGreatRV12
import Derived.Test.YtdkhdjickkcaiaaGreatRV06
import Derived.Lib.ItoaNum
import Derived.WalkKit
import Derived.WalkSpells
import Derived.Test.YtdkhdjickkcaiaaGreatRV01
import Derived.Test.YtdkhdjickkcaiaaGreatRV02
import Derived.Test.YtdkhdjickkcaiaaGreatRV13
import Derived.Test.YtdkhdjickkcaiaaGreatRV14
import Derived.Deep.RegionWith
import Derived.Deep.Cut
import Derived.Deep.CutRange
set_option linter.unusedVariables false
set_option linter.unusedSimpArgs false
set_option maxRecDepth 100000
set_option maxHeartbeats 64000000
namespace Go.Proofs.YtdkhdjickkcaiaaGreat
open Go.RowKit Go.Sort Rom
theorem cutN {w : World} {B g n cap k : Nat} {l : List Int} (h : OwnsN w B (.slice (some ⟨g, 0, Option.none⟩) n cap) l) (hn : n = l.length) (hk : k ≤ l.length) : ∃ A : Addr, (if cap = k then some (⟨g, 0, Option.none⟩ : Addr) else some ⟨g, k, Option.none⟩) = some A ∧ ∀ x : World, x.heap[g]? = w.heap[g]? → ∀ j u, (cellsE intE (l.drop k))[j]? = some u → x.cell? (A.add j) = some u := by
 subst hn
 obtain ⟨a, c, e, h1, _, _⟩ := h.form
 injection e with _ _ e3
 subst e3
 by_cases e : cap = k
 ·
  refine ⟨⟨g, 0, Option.none⟩, by rw [if_pos e], fun x _ j u hu => ?_⟩
  rw [List.drop_of_length_le (by omega)] at hu
  simp [cellsE] at hu
 ·
  refine ⟨⟨g, k, Option.none⟩, by rw [if_neg e], fun x hx j u hu => ?_⟩
  rw [cellsE_drop intE l k hk, List.getElem?_drop] at hu
  rw [show k * intE.k = k from Nat.mul_one k] at hu
  have k1 := World.ownsRow.cells h (g := g) rfl (k + j) u hu
  rw [addr_add] at k1 ⊢
  rw [Nat.zero_add] at k1
  rw [← k1]
  simp only [World.cell?]
  rw [hx]
open Go.RowKit Go.Sort Ow Sk

theorem pastK {w w1 w2 : World} (h : Below w.heap.size w w1) (hb : Below w1.heap.size w1 w2) : Below w.heap.size w w2 := h.trans (hb.mono h.size)
theorem inRmR (s lo hi : Int) (b : Bool) (h : inM s lo hi = b) (w : World) (d : Nat) (os : Array Obj) : Calls Tryz.prog 60 #[.int .i64 s, .int .i64 lo, .int .i64 hi] (grow (redrawn w d) os) fun e w'' => e = .returned (.bool b) ∧ ∃ p : Regrown, w'' = grow (redrawn w p.d) p.os :=
 Calls.regrown_of ((inRm s lo hi _).mono fun e w' ⟨h1, h2⟩ => ⟨by rw [h1, h], h2 ▸ Below.refl _ _⟩)
theorem specRis (v : Value) (l : List Int) (b : Int) (w : World) (h : Sls intE w v l) (hb1 : 1 ≤ b) (hb2 : b ≤ 1000) :
  Calls Tryz.prog 117 #[v, .int .i64 b] w fun e w' => e = .returned (.bool (risB l b)) ∧ Below w.heap.size w w' := by
 obtain ⟨a, cap, rfl, h1, h2, h3⟩ := h.one
 have H2 : Hid (cap ≤ maxLen) := h2
 have HC : Hid (0 < l.length → ∃ g o, a = some ⟨g, o, none⟩ ∧ g < w.heap.size ∧ ∀ j (hj : j < l.length), w.cell? ⟨g, o + j, none⟩ = some (.int .i64 l[j])) := h3
 have ew : IntKind.i64.wrap (b - 1) = b - 1 := by rw [IntKind.wrap_i64]; omega
 unfold maxLen at h2
 have hll : l.length ≤ 9223372036854775807 := by omega
 clear h h2 h3
 go_enter Tryz.func117, Tryz.ntmps117
 go_wp2
 go_loopw [5] (fun i wr => ∃ k : Nat, k ≤ l.length ∧ i = .int .i64 k ∧ Hid (∀ (i : Nat) (hi : i < l.length), i < k → stepR l b i hi) ∧ Hid (Below w.heap.size w wr)) (fun i _ => l.length - (intOf i).toNat)
 case atStart => exact ⟨0, Nat.zero_le _, rfl, (show ∀ _, _ from fun i hi h => by omega), (show Hid _ from Below.refl _ _)⟩
 case round =>
  obtain ⟨k, hk, rfl, hst, hb⟩ := hrel
  by_cases hlt : k < l.length
  ·
   obtain ⟨g, o, rfl, hg, hc⟩ := HC.out (by omega)
   have c1 := (hb.out.cell (p := ⟨g, o + k, none⟩) hg).trans (hc k hlt)
   have hki : (k : Int) < (l.length : Int) := by omega
   have k1 := cell_regrown c1
   cases hin : inM l[k] 0 (b - 1) with
   | false =>
    have HR : Hid (risB l b = false) := risB_not k hlt (fun h => by have := of_decide_eq_false hin; exact this h.1)
    have j1 := inRmR l[k] 0 (b - 1) false hin wr
    generalize l[k] = x at c1 k1 j1
    clear c1 hin hc
    go_wp2_with fail
    refine wp_region_quiet_below (by kernel_rfl) (by kernel_rfl) ?_
    repeat (go_big_quiet_step (with_reducible exact j1 _ _))
    refine wpQuiet_nil ?_
    intro _ hw'
    obtain ⟨⟨dq, osq⟩, hw''⟩ := hw'
    subst hw''
    have BN : Hid (Below w.heap.size w (grow (redrawn wr dq) osq)) := hH_ (pastK hb.out (below_regrown wr dq osq))
    generalize grow (redrawn wr dq) osq = wn at BN ⊢
    go_wp2
    go_ret
    exact ⟨congrArg (fun b => Ending.returned (.bool b)) HR.out.symm, BN.out⟩
   | true =>
    have j1 := inRmR l[k] 0 (b - 1) true hin wr
    have hin2 := of_decide_eq_true hin
    by_cases hk0 : 0 < k
    ·
     have c0 := (hb.out.cell (p := ⟨g, o + (k - 1), none⟩) hg).trans (hc (k - 1) (by omega))
     have k0 := cell_regrown c0
     by_cases hle : l[k] ≤ l[k - 1]
     ·
      have HR : Hid (risB l b = false) := risB_not k hlt (fun h => by have := h.2 hk0; omega)
      generalize l[k] = x at c1 k1 j1 hle
      generalize l[k - 1] = y at c0 k0 hle
      have hk0i : (0 : Int) < (k : Int) := by omega
      have hkm : ((k : Int) - 1).toNat = k - 1 := by omega
      clear c1 c0 hin hin2 hc
      go_wp2_with fail
      refine wp_region_quiet_below (by kernel_rfl) (by kernel_rfl) ?_
      repeat (go_big_quiet_step (with_reducible exact j1 _ _))
      refine wpQuiet_nil ?_
      intro _ hw'
      obtain ⟨⟨dq, osq⟩, hw''⟩ := hw'
      subst hw''
      have BN : Hid (Below w.heap.size w (grow (redrawn wr dq) osq)) := hH_ (pastK hb.out (below_regrown wr dq osq))
      generalize grow (redrawn wr dq) osq = wn at BN ⊢
      go_wp2
      go_ret
      exact ⟨congrArg (fun b => Ending.returned (.bool b)) HR.out.symm, BN.out⟩
     ·
      have HS : Hid (∀ (i : Nat) (hi : i < l.length), i < k + 1 → stepR l b i hi) := (show ∀ _, _ from fun i hi h => by
       by_cases e : i = k
       ·
        subst e
        exact ⟨hin2, fun h0 => by omega⟩
       ·
        exact hst.out i hi (by omega))
      generalize l[k] = x at c1 k1 j1 hle
      generalize l[k - 1] = y at c0 k0 hle
      have hk0i : (0 : Int) < (k : Int) := by omega
      have hkm : ((k : Int) - 1).toNat = k - 1 := by omega
      clear c1 c0 hin hin2 hst hc
      go_wp2_with fail
      refine wp_region_quiet_below (by kernel_rfl) (by kernel_rfl) ?_
      repeat (go_big_quiet_step (with_reducible exact j1 _ _))
      refine wpQuiet_nil ?_
      intro _ hw'
      obtain ⟨⟨dq, osq⟩, hw''⟩ := hw'
      subst hw''
      have BN : Hid (Below w.heap.size w (grow (redrawn wr dq) osq)) := hH_ (pastK hb.out (below_regrown wr dq osq))
      generalize grow (redrawn wr dq) osq = wn at BN ⊢
      go_wp2
      go_roundw
      case rel => exact ⟨k + 1, by omega, by go_num, HS, BN⟩
      case measure => simp [intOf]; omega
    ·
     have HS : Hid (∀ (i : Nat) (hi : i < l.length), i < k + 1 → stepR l b i hi) := (show ∀ _, _ from fun i hi h => by
      by_cases e : i = k
      ·
       subst e
       exact ⟨hin2, fun h0 => absurd h0 hk0⟩
      ·
       exact hst.out i hi (by omega))
     generalize l[k] = x at c1 k1 j1
     have hk0i : ¬ (0 : Int) < (k : Int) := by omega
     clear c1 hin hin2 hst hc
     go_wp2_with fail
     refine wp_region_quiet_below (by kernel_rfl) (by kernel_rfl) ?_
     repeat (go_big_quiet_step (with_reducible exact j1 _ _))
     refine wpQuiet_nil ?_
     intro _ hw'
     obtain ⟨⟨dq, osq⟩, hw''⟩ := hw'
     subst hw''
     have BN : Hid (Below w.heap.size w (grow (redrawn wr dq) osq)) := hH_ (pastK hb.out (below_regrown wr dq osq))
     generalize grow (redrawn wr dq) osq = wn at BN ⊢
     go_wp2
     go_roundw
     case rel => exact ⟨k + 1, by omega, by go_num, HS, BN⟩
     case measure => simp [intOf]; omega
  ·
   obtain rfl : k = l.length := by omega
   have HR : Hid (risB l b = true) := risB_of (fun i hi => hst.out i hi hi)
   go_wp2
   go_ret
   exact ⟨congrArg (fun b => Ending.returned (.bool b)) HR.out.symm, hb.out⟩
end Go.Proofs.YtdkhdjickkcaiaaGreat
namespace Go.Proofs.YtdkhdjickkcaiaaGreat.Rl
open Go.RowKit Go.Sort Pg

def hdK (n : Nat) : Code → Bool
 | .region m o d => m == n
 | .seq a b => hdK n a
 | c => false
def cutK (n : Nat) : Code → Code
 | .seq a b => if hdK n a = true then .seq a b else cutK n b
 | c => c
noncomputable def rok4 : Code := cutK 4 (Tryz.f13.body.getD .skip)
def frK (s : Nat → Value) : Act := { tmps := #[s 0, s 1, s 2, s 3, s 4, s 5, s 6, s 7, s 8, s 9, s 10, s 11, s 12, s 13, s 14, s 15, s 16, s 17, s 18, s 19, s 20, s 21, s 22, s 23, s 24, s 25, s 26, s 27, s 28, s 29, s 30, s 31, s 32, s 33, s 34, s 35, s 36, s 37, s 38, s 39, s 40, s 41, s 42, s 43, s 44, s 45, s 46, s 47, s 48, s 49, s 50, s 51, s 52, s 53, s 54, s 55, s 56, s 57, s 58, s 59, s 60, s 61, s 62, s 63, s 64, s 65, s 66, s 67, s 68, s 69, s 70, s 71, s 72, s 73, s 74, s 75, s 76, s 77, s 78, s 79, s 80, s 81, s 82, s 83, s 84, s 85, s 86, s 87, s 88, s 89, s 90, s 91, s 92, s 93, s 94, s 95, s 96, s 97, s 98, s 99, s 100, s 101, s 102, s 103, s 104, s 105, s 106, s 107, s 108, s 109, s 110, s 111, s 112, s 113, s 114, s 115, s 116, s 117, s 118, s 119, s 120, s 121, s 122, s 123, s 124, s 125, s 126, s 127, s 128, s 129, s 130, s 131, s 132, s 133, s 134, s 135, s 136, s 137, s 138, s 139, s 140, s 141, s 142, s 143, s 144, s 145, s 146, s 147, s 148, s 149, s 150, s 151, s 152, s 153, s 154, s 155, s 156, s 157, s 158, s 159, s 160, s 161, s 162, s 163, s 164, s 165, s 166, s 167, s 168, s 169, s 170, s 171, s 172, s 173, s 174, s 175, s 176, s 177, s 178, s 179, s 180, s 181, s 182, s 183, s 184, s 185, s 186, s 187, s 188, s 189, s 190, s 191, s 192, s 193, s 194, s 195, s 196, s 197, s 198, s 199, s 200, s 201, s 202, s 203, s 204, s 205, s 206, s 207, s 208, s 209, s 210, s 211, s 212, s 213, s 214, s 215], defers := [] }
structure Rk (r : Rp) (u : Rv) (w W : World) : Prop where
 b : RpB W w.heap.size r u
 low : Below w.heap.size w W
 got : RpGot w u r
 fit : Fit r
 p : pOk r.p
 id : 0 ≤ r.id ∧ r.id < r.p
 v : 0 ≤ r.v ∧ r.v ≤ 10000
 lg : LgP r
 la : 0 ≤ r.la ∧ r.la ≤ r.v
 n : r.n = true ↔ r.la = r.v
theorem Rk.kept {r : Rp} {u : Rv} {w W W' : World} (h : Rk r u w W) (hb : Below W.heap.size W W') : Rk r u w W' := ⟨h.b.kept hb, h.low.trans (hb.mono h.low.size), h.got, h.fit, h.p, h.id, h.v, h.lg, h.la, h.n⟩
theorem Rk.rok {r : Rp} {u : Rv} {w W : World} (h : Rk r u w W) : RpOk r ↔ OkP r ∧ ChP r ∧ TeP r := by
 rw [rp_parts]
 refine ⟨fun hh => ⟨hh.2.2.2.2.1, hh.2.2.2.2.2.1, hh.2.2.2.2.2.2⟩, fun hh => ⟨h.p, h.id, ⟨h.v.1, h.v.2, h.la.1, h.n.1, fun hn => ?_⟩, h.lg, hh.1, hh.2.1, hh.2.2⟩⟩
 have h1 := h.la.2
 have h2 : ¬ r.la = r.v := fun e => by have := h.n.2 e; rw [hn] at this; cases this
 omega
theorem specRokH (r : Rp) (u : Rv) (w : World) (h : RpGot w u r) (hf : Fit r)
  (hT : ∀ W (s : Nat → Value), s 1 = .pointer (some ⟨w.heap.size, 0, none⟩) → s 2 = .bool false → s 3 = .bool (dB (mine r)) → Rk r u w W → Code.wp Tryz.prog rok4 (bodyPost Tryz.prog Tryz.f13 fun e w' => e = .returned (.bool (dB (RpOk r))) ∧ Below w.heap.size w w') (frK s) W) :
  Calls Tryz.prog 13 #[rpA r u] w fun e w' => e = .returned (.bool (dB (RpOk r))) ∧ Below w.heap.size w w' := by
 have HTT : Hid _ := hT
 clear hT
 have HF : Hid (¬ RpOk r → ∀ b, b = false → Ending.returned (.bool b) = .returned (.bool (dB (RpOk r)))) := hH_ (fun h1 b h2 => by rw [h2, dB_no h1])
 have RP : Hid (RpOk r ↔ _) := rp_parts r
 have j1 := fun W => specPrs r.p W
 have j2 := fun W => inRm r.id 0 (r.p - 1) W
 have j3 := fun W => inRm r.v 0 10000 W
 have j4 := fun W (hW : Below w.heap.size w W) => specLog u.l r.l W (h.l.kept hW) hf.l.2
 have j5 := fun W => inRm r.c 0 (r.l.length : Int) W
 have j6 := fun W => inRm r.la 0 r.v W
 obtain ⟨la, lc, hvl⟩ := Sls.slen0 h.l
 have VL : Hid (u.l = .slice la r.l.length lc) := hvl
 rw [hvl] at j4
 have HH : Hid (RpGot w u r) := h
 have HFit : Hid (Fit r) := hf
 have HB : Hid (RpB (w.alloc (.cells #[.int .i64 r.id, .int .i64 r.p, .int .i64 r.v, .bool r.n, .int .i64 r.la, u.l, .int .i64 r.c, u.ok, u.ch, u.te] 28)) w.heap.size r u) := hH_ (Bx.new _ _ _)
 have B0 : Hid (Below w.heap.size w (w.alloc (.cells #[.int .i64 r.id, .int .i64 r.p, .int .i64 r.v, .bool r.n, .int .i64 r.la, u.l, .int .i64 r.c, u.ok, u.ch, u.te] 28))) := hH_ ((Below.refl _ w).alloc (Nat.le_refl _) _)
 have x0 : (w.alloc (.cells #[.int .i64 r.id, .int .i64 r.p, .int .i64 r.v, .bool r.n, .int .i64 r.la, u.l, .int .i64 r.c, u.ok, u.ch, u.te] 28)).cell? ⟨w.heap.size, 0, none⟩ = some (.int .i64 r.id) := HB.out.cells.1
 have x1 : (w.alloc (.cells #[.int .i64 r.id, .int .i64 r.p, .int .i64 r.v, .bool r.n, .int .i64 r.la, u.l, .int .i64 r.c, u.ok, u.ch, u.te] 28)).cell? ⟨w.heap.size, 1, none⟩ = some (.int .i64 r.p) := HB.out.cells.2.1
 have x2 : (w.alloc (.cells #[.int .i64 r.id, .int .i64 r.p, .int .i64 r.v, .bool r.n, .int .i64 r.la, u.l, .int .i64 r.c, u.ok, u.ch, u.te] 28)).cell? ⟨w.heap.size, 2, none⟩ = some (.int .i64 r.v) := HB.out.cells.2.2.1
 have x5 : (w.alloc (.cells #[.int .i64 r.id, .int .i64 r.p, .int .i64 r.v, .bool r.n, .int .i64 r.la, u.l, .int .i64 r.c, u.ok, u.ch, u.te] 28)).cell? ⟨w.heap.size, 5, none⟩ = some (.slice la r.l.length lc) := by rw [← hvl]; exact HB.out.cells.2.2.2.2.2.1
 unfold rpA
 clear h hf hvl
 go_enter Tryz.func13, Tryz.ntmps13
 generalize hw1 : w.alloc (.cells #[.int .i64 r.id, .int .i64 r.p, .int .i64 r.v, .bool r.n, .int .i64 r.la, u.l, .int .i64 r.c, u.ok, u.ch, u.te] 28) = W1 at HB B0 x0 x1 x2 x5
 go_wp2_with fail
 clear hw1
 refine (j1 _).mono ?_
 rintro e wx ⟨rfl, rfl⟩
 cases b1 : decide (pOk r.p) with
 | false =>
  go_wp2
  go_ret
  exact ⟨HF.out (fun h => of_decide_eq_false b1 (RP.out.1 h).1) _ rfl, B0.out⟩
 | true =>
 have hp : pOk r.p := of_decide_eq_true b1
 have HP : Hid (pOk r.p) := hp
 have ew : wrap64 (r.p - 1) = r.p - 1 := by unfold wrap64; rcases hp with h | h | h <;> rw [h] <;> decide
 clear hp b1 j1
 go_wp2_with fail
 refine (j2 _).mono ?_
 rintro e wx ⟨rfl, rfl⟩
 cases b2 : inM r.id 0 (r.p - 1) with
 | false =>
  go_wp2
  go_ret
  exact ⟨HF.out (fun h => by have := (RP.out.1 h).2.1; exact inM_no b2 ⟨this.1, by omega⟩) _ rfl, B0.out⟩
 | true =>
 have HI : Hid (0 ≤ r.id ∧ r.id < r.p) := (show _ ∧ _ by have := inM_yes b2; omega)
 clear b2 j2 ew
 go_wp2_with fail
 refine (j3 _).mono ?_
 rintro e wx ⟨rfl, rfl⟩
 cases b3 : inM r.v 0 10000 with
 | false =>
  go_wp2
  go_ret
  exact ⟨HF.out (fun h => by have := (RP.out.1 h).2.2.1; exact inM_no b3 ⟨this.1, this.2.1⟩) _ rfl, B0.out⟩
 | true =>
 have HV : Hid (0 ≤ r.v ∧ r.v ≤ 10000) := inM_yes b3
 clear b3 j3
 go_wp2_with fail
 refine (j4 _ B0.out).mono ?_
 rintro e w2 ⟨rfl, hb⟩
 have B2 := hH_ (B0.out.trans (hb.mono B0.out.size))
 have HB2 := hH_ (HB.out.kept hb)
 clear hb HB B0 x0 x1 x2 x5 j4
 cases b4 : logB r.l with
 | false =>
  go_wp2
  go_ret
  exact ⟨HF.out (fun h => by have := (RP.out.1 h).2.2.2.1.1; rw [b4] at this; cases this) _ rfl, B2.out⟩
 | true =>
 obtain ⟨c0, c1, c2, c3, c4, c5, c6, c7, c8, c9⟩ := HB2.out.cells
 rw [VL.out] at c5
 clear c0 c1 c7 c8 c9
 go_wp2_with fail
 refine (j5 _).mono ?_
 rintro e wx ⟨rfl, rfl⟩
 cases b5 : inM r.c 0 (r.l.length : Int) with
 | false =>
  go_wp2
  go_ret
  exact ⟨HF.out (fun h => inM_no b5 (RP.out.1 h).2.2.2.1.2) _ rfl, B2.out⟩
 | true =>
 have HL : Hid (LgP r) := ⟨b4, inM_yes b5⟩
 clear b4 b5 j5
 go_wp2_with fail
 refine (j6 _).mono ?_
 rintro e wx ⟨rfl, rfl⟩
 cases b6 : inM r.la 0 r.v with
 | false =>
  go_wp2
  go_ret
  exact ⟨HF.out (fun h => by
   have := (rp_parts r).2 (RP.out.1 h)
   exact inM_no b6 this.la) _ rfl, B2.out⟩
 | true =>
 have HLA : Hid (0 ≤ r.la ∧ r.la ≤ r.v) := inM_yes b6
 clear b6 j6
 by_cases h1 : r.la = r.v
 ·
  have hq : (r.la == r.v) = true := by simpa using h1
  cases hn : r.n with
  | true =>
   rw [hn] at c3
   have RK : Hid (Rk r u w w2) := ⟨HB2.out, B2.out, HH.out, HFit.out, HP.out, HI.out, HV.out, HL.out, HLA.out, ⟨fun _ => h1, fun _ => hn⟩⟩
   clear hn h1
   go_upto_region 3 with fail
   rename_i hK
   have HK : Hid _ := hK
   clear hK
   have em : Int.tmod r.v r.p = r.v % r.p := modE HV.out.1
   have hp0 : (r.p == 0) = false := by rcases HP.out with h | h | h <;> rw [h] <;> rfl
   have hpz : ¬ r.p = 0 := by rcases HP.out with h | h | h <;> rw [h] <;> decide
   have ew : wrap64 (r.v % r.p) = r.v % r.p := by have:=HV.out;unfold wrap64; rcases HP.out with h | h | h <;> rw [h] <;> omega
   have HM : Hid ((r.v % r.p == r.id) = dB (mine r)) := (show _ = _ by rw [← dB_mine]; by_cases hh : r.v % r.p = r.id <;> simp [hh])
   have x0 := HB2.out.cells.1
   have x1 := HB2.out.cells.2.1
   generalize r.v % r.p = q at em ew HM
   go_quiet (fail)
   have RK3 : Hid (Rk r u w (w2.drewN nq)) := hH_ (RK.out.kept ⟨rfl, rfl, rfl, Nat.le_refl _, fun _ _ => rfl⟩)
   generalize w2.drewN nq = w3 at RK3 ⊢
   refine HK.out _ _ ?_
   clear HK
   generalize hA : Act.mk _ _ = A
   obtain ⟨s, hs, s1, s2, s3⟩ : ∃ s : Nat → Value, A = frK s ∧ s 1 = .pointer (some ⟨w.heap.size, 0, none⟩) ∧ s 2 = .bool false ∧ s 3 = .bool (q == r.id) := by
    refine ⟨fun i => A.tmps.getD i undef, ?_, ?_, ?_, ?_⟩ <;> rw [← hA] <;> rfl
   rw [hs]
   rw [HM.out] at s3
   exact HTT.out _ s s1 s2 s3 RK3.out
  | false =>
   rw [hn] at c3
   have HN : Hid (¬ RpOk r) := hH_ (fun h => by have := h.n.2 h1; rw [hn] at this; cases this)
   clear hn h1
   go_wp2
   go_ret
   exact ⟨HF.out HN.out _ rfl, B2.out⟩
 ·
  have hq : (r.la == r.v) = false := by simpa using h1
  cases hn : r.n with
  | true =>
   rw [hn] at c3
   have HN : Hid (¬ RpOk r) := hH_ (fun h => h1 (h.n.1 hn))
   clear hn h1
   go_wp2
   go_ret
   exact ⟨HF.out HN.out _ rfl, B2.out⟩
  | false =>
   rw [hn] at c3
   have RK : Hid (Rk r u w w2) := ⟨HB2.out, B2.out, HH.out, HFit.out, HP.out, HI.out, HV.out, HL.out, HLA.out, ⟨fun e => (by rw [hn] at e; cases e), fun e => absurd e h1⟩⟩
   clear hn h1
   go_upto_region 3 with fail
   rename_i hK
   have HK : Hid _ := hK
   clear hK
   have em : Int.tmod r.v r.p = r.v % r.p := modE HV.out.1
   have hp0 : (r.p == 0) = false := by rcases HP.out with h | h | h <;> rw [h] <;> rfl
   have hpz : ¬ r.p = 0 := by rcases HP.out with h | h | h <;> rw [h] <;> decide
   have ew : wrap64 (r.v % r.p) = r.v % r.p := by have:=HV.out;unfold wrap64; rcases HP.out with h | h | h <;> rw [h] <;> omega
   have HM : Hid ((r.v % r.p == r.id) = dB (mine r)) := (show _ = _ by rw [← dB_mine]; by_cases hh : r.v % r.p = r.id <;> simp [hh])
   have x0 := HB2.out.cells.1
   have x1 := HB2.out.cells.2.1
   generalize r.v % r.p = q at em ew HM
   go_quiet (fail)
   have RK3 : Hid (Rk r u w (w2.drewN nq)) := hH_ (RK.out.kept ⟨rfl, rfl, rfl, Nat.le_refl _, fun _ _ => rfl⟩)
   generalize w2.drewN nq = w3 at RK3 ⊢
   refine HK.out _ _ ?_
   clear HK
   generalize hA : Act.mk _ _ = A
   obtain ⟨s, hs, s1, s2, s3⟩ : ∃ s : Nat → Value, A = frK s ∧ s 1 = .pointer (some ⟨w.heap.size, 0, none⟩) ∧ s 2 = .bool false ∧ s 3 = .bool (q == r.id) := by
    refine ⟨fun i => A.tmps.getD i undef, ?_, ?_, ?_, ?_⟩ <;> rw [← hA] <;> rfl
   rw [hs]
   rw [HM.out] at s3
   exact HTT.out _ s s1 s2 s3 RK3.out
open Go.RowKit Go.Sort Pg Sk

theorem risB_is (l : List Int) (p : Int) : (l.Pairwise (· < ·) ∧ ∀ x ∈ l, 0 ≤ x ∧ x < p) ↔ risB l p = true := by
 rw [risB_iff]
 exact ⟨fun h => ⟨fun x hx => by have := h.2 x hx; omega, h.1⟩, fun h => ⟨h.2, fun x hx => by have := h.1 x hx; omega⟩⟩
theorem specRs (v : Value) (l : List Int) (p : Int) (w : World) (h : Sls intE w v l) (hp : pOk p) :
  Calls Tryz.prog 62 #[v, .int .i64 p] w fun e w' => e = .returned (.bool (dB (l.Pairwise (· < ·) ∧ ∀ x ∈ l, 0 ≤ x ∧ x < p))) ∧ Below w.heap.size w w' := by
 have HR : Hid (risB l p = dB (l.Pairwise (· < ·) ∧ ∀ x ∈ l, 0 ≤ x ∧ x < p)) := hH_ ((dB_iff (risB_is l p)).symm)
 have j1 := specRis v l p w h (by rcases hp with h | h | h <;> omega) (by rcases hp with h | h | h <;> omega)
 obtain ⟨a, c, hv⟩ := Sls.slen0 h
 subst hv
 generalize risB l p = B at j1 HR
 clear h hp
 go_enter Tryz.func62, Tryz.ntmps62
 go_wp2_with fail
 refine j1.mono ?_
 rintro e w1 ⟨rfl, hb⟩
 go_wp2
 go_ret
 exact ⟨congrArg (fun b => Ending.returned (.bool b)) HR.out, hb⟩
theorem rokTailN (r : Rp) (u : Rv) (w W : World) (s : Nat → Value) (s1 : s 1 = .pointer (some ⟨w.heap.size, 0, none⟩)) (s2 : s 2 = .bool false) (s3 : s 3 = .bool (dB (mine r))) (h : Rk r u w W) (hn : r.n = true) :
  Code.wp Tryz.prog rok4 (bodyPost Tryz.prog Tryz.f13 fun e w' => e = .returned (.bool (dB (RpOk r))) ∧ Below w.heap.size w w') (frK s) W := by
 have HF : Hid (¬ RpOk r → ∀ b, b = false → Ending.returned (.bool b) = .returned (.bool (dB (RpOk r)))) := hH_ (fun h1 b h2 => by rw [h2, dB_no h1])
 have HE : Hid (∀ b, (RpOk r ↔ b = true) → Ending.returned (.bool b) = .returned (.bool (dB (RpOk r)))) := hH_ (fun b h1 => by rw [dB_iff h1])
 have HR : Hid (RpOk r ↔ OkP r ∧ ChP r ∧ TeP r) := h.rok
 obtain ⟨oa, oc, hvo, o1, o2, o3⟩ := h.got.ok.one
 obtain ⟨ca, cc, hvc⟩ := Sls.slen0 h.got.ch
 obtain ⟨ta, tc, hvt⟩ := Sls.slen0 h.got.te.1
 obtain ⟨la, lc, hvl⟩ := Sls.slen0 h.got.l
 rw [h.got.tlen] at hvt
 unfold maxLen at o2
 have hfc := h.fit.ch
 have hft := h.fit.te.1
 have hfl := h.fit.l.1
 have hid := h.id
 have hpp := h.p
 have O3 : Hid (0 < r.ok.length → ∃ g o, oa = some ⟨g, o, none⟩ ∧ g < w.heap.size ∧ ∀ j (hj : j < r.ok.length), w.cell? ⟨g, o + j, none⟩ = some (.int .i64 r.ok[j])) := o3
 have BB : Hid (Below w.heap.size w W) := h.low
 have HB : Hid (RpB W w.heap.size r u) := h.b
 obtain ⟨c0, c1, c2, c3, c4, c5, c6, c7, c8, c9⟩ := HB.out.cells
 rw [hn] at c3
 rw [hvl] at c5
 rw [hvo] at c7
 rw [hvc] at c8
 rw [hvt] at c9
 have HN : Hid (r.n = true) := hn
 clear h o3 hvo hvc hvt hvl c2 c4 c6 hn
 conv => arg 2; whnf
 unfold frK
 have ew : wrap64 ((r.ch.length : Int) + (r.te.length : Int)) = (r.ch.length : Int) + (r.te.length : Int) := by unfold wrap64; omega
 by_cases hz : 0 < (r.ch.length : Int) + (r.te.length : Int)
 ·
  have HV : Hid (¬ RpOk r) := (show ¬ _ from fun hh => by
   have h1 := (HR.out.1 hh).2.1.1 HN.out
   have h2 := (HR.out.1 hh).2.2.1 (.inl HN.out)
   rw [h1, h2] at hz
   simp at hz)
  go_wp2
  go_ret
  exact ⟨HF.out HV.out _ rfl, BB.out⟩
 have HC0 : Hid (r.ch = [] ∧ r.te = []) := ⟨List.eq_nil_of_length_eq_zero (by omega), List.eq_nil_of_length_eq_zero (by omega)⟩
 have HCT : Hid (ChP r ∧ TeP r) := ⟨⟨fun _ => HC0.out.1, fun e => (by rw [HN.out] at e; cases e)⟩, ⟨fun _ => HC0.out.2, fun e => (by rw [HN.out] at e; cases e)⟩⟩
 by_cases hm : ¬ (mine r)
 ·
  rw [dB_no hm] at s3
  have HV : Hid (RpOk r ↔ ((r.ok.length : Int) == 0) = true) := hH_ (⟨fun hh => by rw [(HR.out.1 hh).1.2 (fun hl => hm hl.2)]; rfl, fun hh => HR.out.2 ⟨⟨fun hl => absurd hl.2 hm, fun _ => List.eq_nil_of_length_eq_zero (by have hz : (r.ok.length : Int) = 0 := (by simpa using hh); omega)⟩, HCT.out.1, HCT.out.2⟩⟩)
  clear hm
  go_wp2
  go_ret
  exact ⟨HE.out _ HV.out, BB.out⟩
 replace hm : mine r := Classical.not_not.1 hm
 rw [dB_yes hm] at s3
 have HL : Hid (leads r) := ⟨HN.out, hm⟩
 clear hm
 by_cases hlen : ¬ ((r.ok.length : Int) = r.p)
 ·
  have dn : ((r.ok.length : Int) != r.p) = true := by simpa using hlen
  have HV : Hid (¬ RpOk r) := hH_ (fun hh => hlen ((HR.out.1 hh).1.1 HL.out).1)

  go_upto_region 9 with fail
  go_quiet (fail)
  have BN := hH_ (dwNB W nq)
  generalize W.drewN nq = W2 at BN ⊢
  have B2 := hH_ (BB.out.trans (BN.out.mono BB.out.size))
  go_wp2
  go_ret
  exact ⟨HF.out HV.out _ rfl, B2.out⟩
 replace hlen : (r.ok.length : Int) = r.p := Decidable.not_not.1 hlen
 have dn : ((r.ok.length : Int) != r.p) = false := by simpa using hlen
 have hin : r.id.toNat < r.ok.length := by omega
 obtain ⟨g, o, rfl, hg, hc⟩ := O3.out (by omega)
 have cx := (BB.out.cell (p := ⟨g, o + r.id.toNat, none⟩) hg).trans (hc _ hin)
 have hid1 := hid.1
 have hid2 : r.id < (r.ok.length : Int) := by omega
 have HLN : Hid ((r.ok.length : Int) = r.p) := hlen
 have HIN : Hid (r.ok[r.id.toNat]? = some r.ok[r.id.toNat]) := List.getElem?_eq_getElem hin
 have HCC : Hid (∀ j (hj : j < r.ok.length), w.cell? ⟨g, o + j, none⟩ = some (.int .i64 r.ok[j])) := hc
 clear hc
 by_cases hx : ¬ (r.ok[r.id.toNat] = (r.l.length : Int))
 ·
  have dx : (r.ok[r.id.toNat] != (r.l.length : Int)) = true := by simpa using hx
  have HV : Hid (¬ RpOk r) := (show ¬ _ from fun hh => hx (by
   have h1 := ((HR.out.1 hh).1.1 HL.out).2.1
   rw [HIN.out] at h1
   exact Option.some.inj h1))
  clear HIN hx
  generalize r.ok[r.id.toNat] = x at cx dx

  go_upto_region 9 with fail
  go_quiet (fail)
  have BN := hH_ (dwNB W nq)
  generalize W.drewN nq = W2 at BN ⊢
  have B2 := hH_ (BB.out.trans (BN.out.mono BB.out.size))
  go_wp2
  go_ret
  exact ⟨HF.out HV.out _ rfl, B2.out⟩
 replace hx : r.ok[r.id.toNat] = (r.l.length : Int) := Decidable.not_not.1 hx
 have dx : (r.ok[r.id.toNat] != (r.l.length : Int)) = false := by simpa using hx
 have HIX : Hid (r.ok[r.id.toNat]? = some (r.l.length : Int)) := (show _ = _ by rw [HIN.out, hx])
 clear HIN hx
 generalize r.ok[r.id.toNat] = x at cx dx

 go_upto_region 9 with fail
 go_quiet (fail)
 have BN := hH_ (dwNB W nq)
 generalize W.drewN nq = W2 at BN ⊢
 have B2 := hH_ (BB.out.trans (BN.out.mono BB.out.size))
 have HB2 := hH_ (HB.out.kept BN.out)
 have c5' := (BN.out.cell (p := ⟨w.heap.size, 5, none⟩) (cell_ltR c5)).trans c5
 have c7' := (BN.out.cell (p := ⟨w.heap.size, 7, none⟩) (cell_ltR c7)).trans c7
 clear c0 c1 c3 c5 c7 c8 c9 cx dx HB BN
 have K5 : Hid _ := c5'
 have K7 : Hid _ := c7'
 go_wp2_with fail
 clear c5' c7'
 go_loopw [4] (fun i wr => ∃ k : Nat, k ≤ r.ok.length ∧ i = .int .i64 k ∧ Hid (∀ x ∈ r.ok.take k, 0 ≤ x ∧ x ≤ (r.l.length : Int)) ∧ Hid (Below W2.heap.size W2 wr)) (fun i _ => r.ok.length - (intOf i).toNat)
 case atStart => exact ⟨0, Nat.zero_le _, rfl, (show Hid _ from fun x hx => (by cases hx)), (show Hid _ from Below.refl _ _)⟩
 case round =>
  obtain ⟨k, hk, rfl, hall, hb⟩ := hrel
  have d5 := (hb.out.cell (p := ⟨w.heap.size, 5, none⟩) (cell_ltR K5.out)).trans K5.out
  have d7 := (hb.out.cell (p := ⟨w.heap.size, 7, none⟩) (cell_ltR K7.out)).trans K7.out
  have B3 := hH_ (B2.out.trans (hb.out.mono B2.out.size))
  by_cases hlt : k < r.ok.length
  ·
   have cx := (B3.out.cell (p := ⟨g, o + k, none⟩) hg).trans (HCC.out k hlt)
   have HA : Hid (0 ≤ r.ok[k] ∧ r.ok[k] ≤ (r.l.length : Int) → ∀ x ∈ r.ok.take (k + 1), 0 ≤ x ∧ x ≤ (r.l.length : Int)) := hH_ (fun hx => all_in hlt hall.out hx)
   have HNo : Hid (¬ (0 ≤ r.ok[k] ∧ r.ok[k] ≤ (r.l.length : Int)) → ¬ RpOk r) := hH_ (fun hx hok => hx (((HR.out.1 hok).1.1 HL.out).2.2 _ (List.getElem_mem hlt)))
   have hki : (k : Int) < (r.ok.length : Int) := by omega
   have k5 := cell_regrown d5
   have k7 := cell_regrown d7
   have kx := cell_regrown cx
   cases hb0 : inM r.ok[k] 0 (r.l.length : Int) with
   | false =>
    have j1 := inRmR r.ok[k] 0 (r.l.length : Int) false hb0 wr
    have HNN : Hid _ := HNo.out (inM_no hb0)
    clear hb0 HA HNo
    generalize r.ok[k] = x at cx kx j1
    clear cx

    go_upto_region 14 with fail
    refine wp_region_quiet_below (by kernel_rfl) (by kernel_rfl) ?_
    repeat (go_big_quiet_step (first | (with_reducible exact j1 _ _)))
    refine wpQuiet_nil ?_
    intro _ hw'
    obtain ⟨⟨dq, osq⟩, hw''⟩ := hw'
    subst hw''
    have BN : Hid (Below wr.heap.size wr (grow (redrawn wr dq) osq)) := hH_ (below_regrown wr dq osq)
    generalize grow (redrawn wr dq) osq = W4 at BN ⊢
    have B4 := hH_ (B3.out.trans (BN.out.mono B3.out.size))
    go_wp2
    go_ret
    exact ⟨HF.out HNN.out _ rfl, B4.out⟩
   | true =>
    have j1 := inRmR r.ok[k] 0 (r.l.length : Int) true hb0 wr
    have HAA : Hid _ := HA.out (inM_yes hb0)
    clear hb0 HA HNo
    generalize r.ok[k] = x at cx kx j1
    clear cx

    go_upto_region 14 with fail
    refine wp_region_quiet_below (by kernel_rfl) (by kernel_rfl) ?_
    repeat (go_big_quiet_step (first | (with_reducible exact j1 _ _)))
    refine wpQuiet_nil ?_
    intro _ hw'
    obtain ⟨⟨dq, osq⟩, hw''⟩ := hw'
    subst hw''
    have BN : Hid (Below wr.heap.size wr (grow (redrawn wr dq) osq)) := hH_ (below_regrown wr dq osq)
    generalize grow (redrawn wr dq) osq = W4 at BN ⊢
    have B4 := hH_ (hb.out.trans (BN.out.mono hb.out.size))
    clear k5 k7 kx j1 d5 d7
    go_wp2_with fail
    go_roundw
    case rel => exact ⟨k + 1, by omega, by go_num, HAA, B4⟩
    case measure => simp [intOf]; omega
  ·
   obtain rfl : k = r.ok.length := by omega
   have HV : Hid (RpOk r) := HR.out.2 ⟨⟨fun _ => ⟨HLN.out, HIX.out, fun x hx => hall.out x (by rw [List.take_of_length_le (Nat.le_refl _)]; exact hx)⟩, fun hnl => absurd HL.out hnl⟩, HCT.out.1, HCT.out.2⟩
   go_wp2
   go_ret
   exact ⟨HE.out _ ⟨fun _ => rfl, fun _ => HV.out⟩, B3.out⟩
open Go.RowKit Go.Sort Pg Sk

theorem mem_next {l : List Int} {x : Int} {k : Nat} (hk : k < l.length) : x ∈ l.take (k + 1) ↔ x ∈ l.take k ∨ l[k] = x := by
 rw [List.take_succ_eq_append_getElem hk, List.mem_append, List.mem_singleton]
 exact or_congr Iff.rfl eq_comm
theorem rokTailF (r : Rp) (u : Rv) (w W : World) (s : Nat → Value) (s1 : s 1 = .pointer (some ⟨w.heap.size, 0, none⟩)) (s2 : s 2 = .bool false) (s3 : s 3 = .bool (dB (mine r))) (h : Rk r u w W) (hn : r.n = false) :
  Code.wp Tryz.prog rok4 (bodyPost Tryz.prog Tryz.f13 fun e w' => e = .returned (.bool (dB (RpOk r))) ∧ Below w.heap.size w w') (frK s) W := by
 have HF : Hid (¬ RpOk r → ∀ b, b = false → Ending.returned (.bool b) = .returned (.bool (dB (RpOk r)))) := hH_ (fun h1 b h2 => by rw [h2, dB_no h1])
 have HE : Hid (∀ b, (RpOk r ↔ b = true) → Ending.returned (.bool b) = .returned (.bool (dB (RpOk r)))) := hH_ (fun b h1 => by rw [dB_iff h1])
 have HR : Hid (RpOk r ↔ OkP r ∧ ChP r ∧ TeP r) := h.rok
 obtain ⟨oa, oc, hvo⟩ := Sls.slen0 h.got.ok
 obtain ⟨ca, cc, hvc, o1, o2, o3⟩ := h.got.ch.one
 obtain ⟨ta, tc, hvt⟩ := Sls.slen0 h.got.te.1
 rw [h.got.tlen] at hvt
 unfold maxLen at o2
 have hfo := h.fit.ok
 have hft := h.fit.te.1
 have hid := h.id
 have HPP : Hid (pOk r.p) := h.p
 have HS : Hid (∀ m ∈ r.te, ∀ x ∈ m.l, x.size ≤ 1048576) := fun m hm => (h.fit.te.2 m hm).2
 have O3 : Hid (0 < r.ch.length → ∃ g o, ca = some ⟨g, o, none⟩ ∧ g < w.heap.size ∧ ∀ j (hj : j < r.ch.length), w.cell? ⟨g, o + j, none⟩ = some (.int .i64 r.ch[j])) := o3
 have BB : Hid (Below w.heap.size w W) := h.low
 have HB : Hid (RpB W w.heap.size r u) := h.b
 have HG : Hid (RpGot w u r) := h.got
 have VC : Hid (u.ch = .slice ca r.ch.length cc) := hvc
 have VT : Hid (u.te = .slice ta r.te.length tc) := hvt
 have VO : Hid (u.ok = .slice oa r.ok.length oc) := hvo
 obtain ⟨c0, c1, c2, c3, c4, c5, c6, c7, c8, c9⟩ := HB.out.cells
 rw [hn] at c3
 rw [hvc] at c8
 have HN : Hid (r.n = false) := hn
 have HNL : Hid (¬ leads r) := hH_ (fun hl => by have := hl.1; rw [HN.out] at this; cases this)
 have HOK : Hid (OkP r ↔ r.ok = []) := hH_ (⟨fun hh => hh.2 HNL.out, fun hh => ⟨fun hl => absurd hl HNL.out, fun _ => hh⟩⟩)
 clear h o3 hvo hvc hvt c2 c4 c5 c6 c7 c9 hn
 have K0 : Hid _ := c0
 have K1 : Hid _ := c1
 have K8 : Hid _ := c8
 conv => arg 2; whnf
 unfold frK
 go_wp2_with fail
 clear c0 c1 c3 c8
 go_loopw [5, 6] (fun b i wr => ∃ k : Nat, k ≤ r.ch.length ∧ i = .int .i64 k ∧ b = .bool (decide (r.id ∈ r.ch.take k)) ∧ Hid (Below W.heap.size W wr)) (fun _ i _ => r.ch.length - (intOf i).toNat)
 case atStart => exact ⟨0, Nat.zero_le _, rfl, by simp, (show Hid _ from Below.refl _ _)⟩
 case round =>
  obtain ⟨k, hk, rfl, rfl, hb⟩ := hrel
  have B3 := hH_ (BB.out.trans (hb.out.mono BB.out.size))
  have d0 := (hb.out.cell (p := ⟨w.heap.size, 0, none⟩) (cell_ltR K0.out)).trans K0.out
  have d8 := (hb.out.cell (p := ⟨w.heap.size, 8, none⟩) (cell_ltR K8.out)).trans K8.out
  by_cases hlt : k < r.ch.length
  ·
   obtain ⟨g, o, rfl, hg, hc⟩ := O3.out (by omega)
   have cx := (B3.out.cell (p := ⟨g, o + k, none⟩) hg).trans (hc k hlt)
   have hki : (k : Int) < (r.ch.length : Int) := by omega
   by_cases hm : r.id ∈ r.ch.take k
   ·
    have HM : Hid (decide (r.id ∈ r.ch.take (k + 1)) = true) := decide_eq_true ((mem_next hlt).2 (.inl hm))
    rw [decide_eq_true hm]
    clear hm hc
    generalize r.ch[k] = x at cx

    go_upto_region 21 with fail
    go_quiet (fail)
    have BN := hH_ (dwNB wr nq)
    generalize wr.drewN nq = W4 at BN ⊢
    have B4 := hH_ (hb.out.trans (BN.out.mono hb.out.size))
    clear d0 d8 cx
    go_wp2_with fail
    go_roundw
    case rel => exact ⟨k + 1, by omega, by go_num, by rw [HM.out], B4⟩
    case measure => simp [intOf]; omega
   ·
    have HM : Hid (decide (r.id ∈ r.ch.take (k + 1)) = (r.ch[k] == r.id)) := (show _ = _ by
     by_cases he : r.ch[k] = r.id
     ·
      rw [decide_eq_true ((mem_next hlt).2 (.inr he)), he]; simp
     ·
      rw [decide_eq_false (fun hh => by rcases (mem_next hlt).1 hh with h1 | h1; exact hm h1; exact he h1)]
      simp [he])
    rw [decide_eq_false hm]
    clear hm hc
    generalize r.ch[k] = x at cx HM

    go_upto_region 21 with fail
    go_quiet (fail)
    have BN := hH_ (dwNB wr nq)
    generalize wr.drewN nq = W4 at BN ⊢
    have B4 := hH_ (hb.out.trans (BN.out.mono hb.out.size))
    clear d0 d8 cx
    go_wp2_with fail
    go_roundw
    case rel => exact ⟨k + 1, by omega, by go_num, by rw [HM.out], B4⟩
    case measure => simp [intOf]; omega
  ·
   obtain rfl : k = r.ch.length := by omega
   have htk : r.ch.take r.ch.length = r.ch := List.take_of_length_le (Nat.le_refl _)
   rw [htk]
   obtain ⟨w3, rfl⟩ : ∃ z, z = wr := ⟨wr, rfl⟩
   have HB3 := hH_ (HB.out.kept hb.out)
   clear d0 d8 hb K0 K1 K8 HB BB
   obtain ⟨c0, c1, c2, c3, c4, c5, c6, c7, c8, c9⟩ := HB3.out.cells
   rw [VO.out] at c7
   rw [VC.out] at c8
   rw [VT.out] at c9
   clear c0 c2 c3 c4 c5 c6
   by_cases h0 : 0 < r.ok.length
   ·
    have HV : Hid (¬ RpOk r) := (show ¬ _ from fun hh => by
     have := HOK.out.1 (HR.out.1 hh).1
     rw [this] at h0
     simp at h0)
    have hoi : (0 : Int) < (r.ok.length : Int) := by omega
    generalize r.ok.length = no at c7 h0 hoi
    go_wp2
    go_ret
    exact ⟨HF.out HV.out _ rfl, B3.out⟩
   have HO0 : Hid (OkP r) := HOK.out.2 (List.eq_nil_of_length_eq_zero (by omega))
   have hoz : r.ok.length = 0 := by omega
   rw [hoz] at c7
   clear hoz h0
   by_cases hm : ¬ (r.id ∈ r.ch)
   ·
    have HV : Hid (¬ RpOk r) := hH_ (fun hh => hm ((HR.out.1 hh).2.1.2 HN.out).1)
    rw [decide_eq_false hm]
    clear hm
    go_wp2
    go_ret
    exact ⟨HF.out HV.out _ rfl, B3.out⟩
   replace hm : r.id ∈ r.ch := Decidable.not_not.1 hm
   rw [decide_eq_true hm]
   have HM : Hid (r.id ∈ r.ch) := hm
   clear hm
   have jr := fun W (hW : Below w.heap.size w W) => specRs u.ch r.ch r.p W (HG.out.ch.kept hW) HPP.out
   rw [VC.out] at jr
   go_wp2_with fail
   refine (jr _ B3.out).mono ?_
   rintro e w4 ⟨rfl, hb⟩
   have B4 := hH_ (B3.out.trans (hb.mono B3.out.size))
   have HB4 := hH_ (HB3.out.kept hb)
   clear hb c1 c7 c8 c9 jr HB3 B3
   cases hr : dB (r.ch.Pairwise (· < ·) ∧ ∀ x ∈ r.ch, 0 ≤ x ∧ x < r.p) with
   | false =>
    have HV : Hid (¬ RpOk r) := hH_ (fun hh => dB_not hr ((HR.out.1 hh).2.1.2 HN.out).2)
    clear hr
    go_wp2
    go_ret
    exact ⟨HF.out HV.out _ rfl, B4.out⟩
   | true =>
   have HCH : Hid (ChP r) := ⟨fun e => (by rw [HN.out] at e; cases e), fun _ => ⟨HM.out, dB_is hr⟩⟩
   clear hr
   obtain ⟨c0, c1, c2, c3, c4, c5, c6, c7, c8, c9⟩ := HB4.out.cells
   rw [VT.out] at c9
   have K9 : Hid _ := c9
   clear c0 c1 c2 c3 c4 c5 c6 c7 c8
   by_cases hmi : ¬ (mine r)
   ·
    have hdm : dB (mine r) = false := dB_no hmi
    by_cases ht : 0 < r.te.length
    ·
     have HV : Hid (¬ RpOk r) := (show ¬ _ from fun hh => by
      have := (HR.out.1 hh).2.2.1 (.inr hmi)
      rw [this] at ht
      simp at ht)
     have hti : (0 : Int) < (r.te.length : Int) := by omega
     clear hmi K9
     generalize r.te.length = nt at c9 ht hti
     go_wp2
     go_ret
     exact ⟨HF.out HV.out _ rfl, B4.out⟩
    ·
     have HV : Hid (RpOk r) := HR.out.2 ⟨HO0.out, HCH.out, ⟨fun _ => List.eq_nil_of_length_eq_zero (by omega), fun _ hmm => absurd hmm hmi⟩⟩
     have hz : r.te.length = 0 := by omega
     clear hmi
     rw [hz] at c9
     clear ht hft hz
     go_wp2_with fail
     go_loopw [7] (fun i wr => i = .int .i64 0 ∧ Hid (Below w4.heap.size w4 wr)) (fun i _ => 0)
     case atStart => exact ⟨rfl, (show Hid _ from Below.refl _ _)⟩
     case round =>
      obtain ⟨rfl, hb⟩ := hrel
      have d9 := (hb.out.cell (p := ⟨w.heap.size, 9, none⟩) (cell_ltR c9)).trans c9
      have B5 := hH_ (B4.out.trans (hb.out.mono B4.out.size))
      go_wp2
      go_ret
      exact ⟨HE.out _ ⟨fun _ => rfl, fun _ => HV.out⟩, B5.out⟩
   replace hmi : mine r := Classical.not_not.1 hmi
   have hdm : dB (mine r) = true := dB_yes hmi
   have HMI : Hid (mine r) := hmi
   clear hmi
   go_wp2_with fail
   clear c9
   go_loopw [7] (fun i wr => ∃ k : Nat, k ≤ r.te.length ∧ i = .int .i64 k ∧ Hid (TeS r k) ∧ Hid (Below w4.heap.size w4 wr)) (fun i _ => r.te.length - (intOf i).toNat)
   case atStart => exact ⟨0, Nat.zero_le _, rfl, (show Hid _ from TeS.zero _), (show Hid _ from Below.refl _ _)⟩
   case round =>
    obtain ⟨k, hk, rfl, hst, hb4⟩ := hrel
    have hb := hH_ (B4.out.trans (hb4.out.mono B4.out.size))
    have d9 := (hb4.out.cell (p := ⟨w.heap.size, 9, none⟩) (cell_ltR K9.out)).trans K9.out
    by_cases hlt : k < r.te.length
    ·
     have HG2 := HG.out.kept hb.out
     have HB2 := HB4.out.kept hb4.out
     obtain ⟨x, hxT, hxm, hkT, hxk⟩ := HG2.at hlt
     have hxk := hxk hkT
     have HT2 := HG2.te.1
     rw [VT.out, ← HG2.tlen] at HT2
     obtain ⟨g, q, rfl⟩ := mxAt HT2 (by omega)
     have CK := mxCells HT2 hkT
     rw [hxk] at CK
     have ml := HG2.te.2 x hxT
     have HXX : Hid (bef1 (r.te.map (·.f)) k < r.te[k].f → TeOk r.te[k] r → TeS r (k + 1)) := hH_ (fun h1 h2 => hst.out.next hlt h1 h2)
     have HNo : Hid (¬ (bef1 (r.te.map (·.f)) k < r.te[k].f ∧ TeOk r.te[k] r) → ¬ RpOk r) := hH_ (fun hb hte => hst.out.bad hlt hb ((HR.out.1 hte).2.2.2 HN.out HMI.out))
     have hsx := HS.out _ (List.getElem_mem hlt)
     have hki : (k : Int) < (r.te.length : Int) := by omega
     have HBF : Hid (∀ (h0 : 0 < k) (hkp : k - 1 < u.T.length), bef1 (r.te.map (·.f)) k = u.T[k - 1].m.f) := (show ∀ _ _, _ from fun h0 hkp => by
      obtain ⟨y, _, hym, hyT, hyk⟩ := HG2.at (k := k - 1) (by omega)
      rw [hyk hkp, hym]
      have := bef1_map (r := r) (k := k - 1) (by omega)
      rw [show k - 1 + 1 = k by omega] at this
      exact this)
     have CP : Hid (∀ (h0 : 0 < k), ∃ f0, wr.cell? ⟨g, q + (k - 1) * 7 + 1, none⟩ = some (.int .i64 f0) ∧ bef1 (r.te.map (·.f)) k = f0) := hH_ (fun h0 => ⟨_, (mxCells HT2 (j := k - 1) (by omega)).2.1, HBF.out h0 (by omega)⟩)
     have hk0f : k = 0 → bef1 (r.te.map (·.f)) k = -1 := fun h0 => by rw [h0]; rfl
     rw [← hxm] at HXX HNo hsx
     obtain ⟨mm, px, cx⟩ := x
     unfold Mx.u at CK
     unfold Mx.u MsGot at ml
     simp only at CK ml HXX HNo hsx
     obtain ⟨k0, k1, k2, k3, k4, k5, k6⟩ := CK
     have HM2 : Hid (Sls txtE wr (.slice px mm.l.length cx) mm.l) := ml
     have HB3 : Hid (RpB wr w.heap.size r u) := HB2
     have HTL : Hid (u.T.length = r.te.length) := HG2.tlen
     rw [HTL.out] at *
     clear HG2 HB2 ml hxT hxm hkT hxk HBF
     go_upto_region 28 with fail
     clear k0 k1 k2 k3 k4 k5 k6
     have XB : Hid (Bx (wr.alloc (.cells #[.int .i64 mm.k, .int .i64 mm.f, .int .i64 mm.t, .int .i64 mm.v, .int .i64 mm.la, .slice px mm.l.length cx, .int .i64 mm.c] 30)) wr.heap.size 30 #[.int .i64 mm.k, .int .i64 mm.f, .int .i64 mm.t, .int .i64 mm.v, .int .i64 mm.la, .slice px mm.l.length cx, .int .i64 mm.c]) := hH_ (Bx.new _ _ _)
     have HB5 : Hid (RpB (wr.alloc (.cells #[.int .i64 mm.k, .int .i64 mm.f, .int .i64 mm.t, .int .i64 mm.v, .int .i64 mm.la, .slice px mm.l.length cx, .int .i64 mm.c] 30)) w.heap.size r u) := hH_ (Bx.alloc HB3.out _)
     have HM4 : Hid (Sls txtE (wr.alloc (.cells #[.int .i64 mm.k, .int .i64 mm.f, .int .i64 mm.t, .int .i64 mm.v, .int .i64 mm.la, .slice px mm.l.length cx, .int .i64 mm.c] 30)) (.slice px mm.l.length cx) mm.l) := hH_ (Sls.kept HM2.out ((Below.refl _ wr).alloc (Nat.le_refl _) _))
     have B5 : Hid (Below w4.heap.size w4 (wr.alloc (.cells #[.int .i64 mm.k, .int .i64 mm.f, .int .i64 mm.t, .int .i64 mm.v, .int .i64 mm.la, .slice px mm.l.length cx, .int .i64 mm.c] 30))) := hH_ (hb4.out.alloc hb4.out.size _)
     have CPZ : Hid (∀ (h0 : 0 < k), ∃ f0, (wr.alloc (.cells #[.int .i64 mm.k, .int .i64 mm.f, .int .i64 mm.t, .int .i64 mm.v, .int .i64 mm.la, .slice px mm.l.length cx, .int .i64 mm.c] 30)).cell? ⟨g, q + (k - 1) * 7 + 1, none⟩ = some (.int .i64 f0) ∧ bef1 (r.te.map (·.f)) k = f0) := (show ∀ _, _ from fun h0 => by
      obtain ⟨f0, h1, h2⟩ := CP.out h0
      exact ⟨f0, (((Below.refl _ wr).alloc (Nat.le_refl _) _).cell (p := ⟨g, q + (k - 1) * 7 + 1, none⟩) (cell_ltR h1)).trans h1, h2⟩)
     have d9z : (wr.alloc (.cells #[.int .i64 mm.k, .int .i64 mm.f, .int .i64 mm.t, .int .i64 mm.v, .int .i64 mm.la, .slice px mm.l.length cx, .int .i64 mm.c] 30)).cell? ⟨w.heap.size, 9, none⟩ = some (.slice (some ⟨g, q, none⟩) r.te.length tc) := (((Below.refl _ wr).alloc (Nat.le_refl _) _).cell (p := ⟨w.heap.size, 9, none⟩) (cell_ltR d9)).trans d9
     generalize (wr.alloc (.cells #[.int .i64 mm.k, .int .i64 mm.f, .int .i64 mm.t, .int .i64 mm.v, .int .i64 mm.la, .slice px mm.l.length cx, .int .i64 mm.c] 30)) = wz at XB HB5 HM4 B5 CPZ d9z ⊢
     have n0 := cell_regrown (XB.out.cell 0)
     have n1 := cell_regrown (XB.out.cell 1)
     have n2 := cell_regrown (XB.out.cell 2)
     have n3 := cell_regrown (XB.out.cell 3)
     have n4 := cell_regrown (XB.out.cell 4)
     have n5 := cell_regrown (XB.out.cell 5)
     have n6 := cell_regrown (XB.out.cell 6)
     have r0 := cell_regrown HB5.out.cells.1
     have r1 := cell_regrown HB5.out.cells.2.1
     have r2 := cell_regrown HB5.out.cells.2.2.1
     have r9 := cell_regrown d9z
     have jm := fun W (hW : Below wz.heap.size wz W) => specMok mm (.slice px mm.l.length cx) r.p W (Sls.kept HM4.out hW) hsx HPP.out
     unfold msA at jm
     have j1 : ∀ d os, Calls Tryz.prog 63 #[.agg #[.int .i64 mm.k, .int .i64 mm.f, .int .i64 mm.t, .int .i64 mm.v, .int .i64 mm.la, .slice px mm.l.length cx, .int .i64 mm.c], .int .i64 r.p] (grow (redrawn wz d) os) fun e w'' => e = .returned (.bool (msB mm r.p)) ∧ ∃ p : Regrown, w'' = grow (redrawn wz p.d) p.os := fun d os => Calls.regrown_of (jm _ (below_regrown wz d os))
     clear jm hsx d9 CP d9z

     by_cases d1 : ¬ mm.k = 4
     ·
      have e1 : (mm.k != 4) = true := by simpa using d1
      go_upto_region 28 with fail
      refine wp_region_quiet_below (by kernel_rfl) (by kernel_rfl) ?_
      repeat (go_big_quiet_step (first | (with_reducible exact j1 _ _)))
      refine wpQuiet_nil ?_
      intro _ hw'
      obtain ⟨⟨dq, osq⟩, hw''⟩ := hw'
      subst hw''
      have BN : Hid (Below wz.heap.size wz (grow (redrawn wz dq) osq)) := hH_ (below_regrown wz dq osq)
      generalize grow (redrawn wz dq) osq = w6 at BN ⊢
      have B6 := hH_ (B4.out.trans ((B5.out.trans (BN.out.mono B5.out.size)).mono B4.out.size))
      go_wp2
      go_ret
      exact ⟨HF.out (HNo.out (fun hh => d1 hh.2.k)) _ rfl, B6.out⟩
     replace d1 : mm.k = 4 := Decidable.not_not.1 d1
     have e1 : (mm.k != 4) = false := by simpa using d1
     by_cases d2 : ¬ mm.t = r.id
     ·
      have e2 : (mm.t != r.id) = true := by simpa using d2
      go_upto_region 28 with fail
      refine wp_region_quiet_below (by kernel_rfl) (by kernel_rfl) ?_
      repeat (go_big_quiet_step (first | (with_reducible exact j1 _ _)))
      refine wpQuiet_nil ?_
      intro _ hw'
      obtain ⟨⟨dq, osq⟩, hw''⟩ := hw'
      subst hw''
      have BN : Hid (Below wz.heap.size wz (grow (redrawn wz dq) osq)) := hH_ (below_regrown wz dq osq)
      generalize grow (redrawn wz dq) osq = w6 at BN ⊢
      have B6 := hH_ (B4.out.trans ((B5.out.trans (BN.out.mono B5.out.size)).mono B4.out.size))
      go_wp2
      go_ret
      exact ⟨HF.out (HNo.out (fun hh => d2 hh.2.t)) _ rfl, B6.out⟩
     replace d2 : mm.t = r.id := Decidable.not_not.1 d2
     have e2 : (mm.t != r.id) = false := by simpa using d2
     by_cases d3 : ¬ mm.v = r.v
     ·
      have e3 : (mm.v != r.v) = true := by simpa using d3
      go_upto_region 28 with fail
      refine wp_region_quiet_below (by kernel_rfl) (by kernel_rfl) ?_
      repeat (go_big_quiet_step (first | (with_reducible exact j1 _ _)))
      refine wpQuiet_nil ?_
      intro _ hw'
      obtain ⟨⟨dq, osq⟩, hw''⟩ := hw'
      subst hw''
      have BN : Hid (Below wz.heap.size wz (grow (redrawn wz dq) osq)) := hH_ (below_regrown wz dq osq)
      generalize grow (redrawn wz dq) osq = w6 at BN ⊢
      have B6 := hH_ (B4.out.trans ((B5.out.trans (BN.out.mono B5.out.size)).mono B4.out.size))
      go_wp2
      go_ret
      exact ⟨HF.out (HNo.out (fun hh => d3 hh.2.v)) _ rfl, B6.out⟩
     replace d3 : mm.v = r.v := Decidable.not_not.1 d3
     have e3 : (mm.v != r.v) = false := by simpa using d3
     have D1 : Hid (mm.k = 4 ∧ mm.t = r.id ∧ mm.v = r.v) := ⟨d1, d2, d3⟩
     clear d1 d2 d3
     cases hb5 : msB mm r.p with
     | false =>
      rw [hb5] at j1
      have HNM : Hid (¬ MsOk mm r.p) := hH_ (fun hh => by rw [msB_yes hh] at hb5; cases hb5)
      clear hb5
      go_upto_region 28 with fail
      refine wp_region_quiet_below (by kernel_rfl) (by kernel_rfl) ?_
      repeat (go_big_quiet_step (first | (with_reducible exact j1 _ _)))
      refine wpQuiet_nil ?_
      intro _ hw'
      obtain ⟨⟨dq, osq⟩, hw''⟩ := hw'
      subst hw''
      have BN : Hid (Below wz.heap.size wz (grow (redrawn wz dq) osq)) := hH_ (below_regrown wz dq osq)
      generalize grow (redrawn wz dq) osq = w6 at BN ⊢
      have B6 := hH_ (B4.out.trans ((B5.out.trans (BN.out.mono B5.out.size)).mono B4.out.size))
      go_wp2
      go_ret
      exact ⟨HF.out (HNo.out (fun hh => HNM.out hh.2.ok)) _ rfl, B6.out⟩
     | true =>
      rw [hb5] at j1
      have HYM : Hid (MsOk mm r.p) := hH_ (msB_is hb5)
      clear hb5
      by_cases h0 : 0 < k
      ·
       obtain ⟨f0, hc0, hf0⟩ := CPZ.out h0
       have hk0i : (0 : Int) < (k : Int) := by omega
       have hkm : ((k : Int) - 1).toNat = k - 1 := by omega
       have q1 := cell_regrown hc0
       rw [hf0] at HXX HNo
       clear hc0 hf0
       by_cases d4 : mm.f ≤ f0
       ·
        have e4 : decide (mm.f ≤ f0) = true := decide_eq_true d4
        go_upto_region 28 with fail
        refine wp_region_quiet_below (by kernel_rfl) (by kernel_rfl) ?_
        repeat (go_big_quiet_step (first | (with_reducible exact j1 _ _)))
        refine wpQuiet_nil ?_
        intro _ hw'
        obtain ⟨⟨dq, osq⟩, hw''⟩ := hw'
        subst hw''
        have BN : Hid (Below wz.heap.size wz (grow (redrawn wz dq) osq)) := hH_ (below_regrown wz dq osq)
        generalize grow (redrawn wz dq) osq = w6 at BN ⊢
        have B6 := hH_ (B4.out.trans ((B5.out.trans (BN.out.mono B5.out.size)).mono B4.out.size))
        go_wp2
        go_ret
        exact ⟨HF.out (HNo.out (fun hh => by have := hh.1; omega)) _ rfl, B6.out⟩
       ·
        have e4 : decide (mm.f ≤ f0) = false := decide_eq_false d4
        have HS2 : Hid _ := HXX.out (by omega) ⟨D1.out.1, D1.out.2.1, D1.out.2.2, HYM.out⟩
        go_upto_region 28 with fail
        refine wp_region_quiet_below (by kernel_rfl) (by kernel_rfl) ?_
        repeat (go_big_quiet_step (first | (with_reducible exact j1 _ _)))
        refine wpQuiet_nil ?_
        intro _ hw'
        obtain ⟨⟨dq, osq⟩, hw''⟩ := hw'
        subst hw''
        have BN : Hid (Below wz.heap.size wz (grow (redrawn wz dq) osq)) := hH_ (below_regrown wz dq osq)
        generalize grow (redrawn wz dq) osq = w6 at BN ⊢
        have B6 := hH_ (B5.out.trans (BN.out.mono B5.out.size))
        clear n0 n1 n2 n3 n4 n5 n6 r0 r1 r2 r9 j1 e1 e2 e3
        go_wp2_with fail
        go_roundw
        case rel => exact ⟨k + 1, by omega, by go_num, HS2, B6⟩
        case measure => simp [intOf]; omega
      ·
       have hk0i : ¬ (0 : Int) < (k : Int) := by omega
       have HS2 : Hid _ := HXX.out (by rw [hk0f (by omega)]; have := HYM.out.f; omega) ⟨D1.out.1, D1.out.2.1, D1.out.2.2, HYM.out⟩
       go_upto_region 28 with fail
       refine wp_region_quiet_below (by kernel_rfl) (by kernel_rfl) ?_
       repeat (go_big_quiet_step (first | (with_reducible exact j1 _ _)))
       refine wpQuiet_nil ?_
       intro _ hw'
       obtain ⟨⟨dq, osq⟩, hw''⟩ := hw'
       subst hw''
       have BN : Hid (Below wz.heap.size wz (grow (redrawn wz dq) osq)) := hH_ (below_regrown wz dq osq)
       generalize grow (redrawn wz dq) osq = w6 at BN ⊢
       have B6 := hH_ (B5.out.trans (BN.out.mono B5.out.size))
       clear n0 n1 n2 n3 n4 n5 n6 r0 r1 r2 r9 j1 e1 e2 e3
       go_wp2_with fail
       go_roundw
       case rel => exact ⟨k + 1, by omega, by go_num, HS2, B6⟩
       case measure => simp [intOf]; omega
    ·
     obtain rfl : k = r.te.length := by omega
     have ha := hst.out.all
     have HV : Hid (RpOk r) := HR.out.2 ⟨HO0.out, HCH.out, ⟨fun h => by
      rcases h with h | h
      ·
       rw [HN.out] at h; cases h
      ·
       exact absurd HMI.out h, fun _ _ => ha⟩⟩
     clear ha
     go_wp2
     go_ret
     exact ⟨HE.out _ ⟨fun _ => rfl, fun _ => HV.out⟩, hb.out⟩
theorem specRok (r : Rp) (u : Rv) (w : World) (h : RpGot w u r) (hf : Fit r) :
  Calls Tryz.prog 13 #[rpA r u] w fun e w' => e = .returned (.bool (dB (RpOk r))) ∧ Below w.heap.size w w' :=
 specRokH r u w h hf fun W s s1 s2 s3 hk => by
  cases hn : r.n with
  | true => exact rokTailN r u w W s s1 s2 s3 hk hn
  | false => exact rokTailF r u w W s s1 s2 s3 hk hn
open Go.RowKit Go.Sort

def RpF (lo hi : Nat) (u : Rv) (r : Rp) (W : World) : Prop := RpHas W lo u r ∧ ∀ v ∈ u.rows, ∀ k, v.ownBlock = some k → k < hi
theorem Liv.rp {W : World} {lo hi : Nat} {u : Rv} {r : Rp} (h : RpHas W lo u r) (hu : ∀ v ∈ u.rows, ∀ k, v.ownBlock = some k → k < hi) (ht : hi ≤ W.heap.size) : Liv lo hi (RpF lo hi u r) W :=
 ⟨⟨h, hu⟩, ht, fun W' hW _ => ⟨h.off fun v hv k hk => hW k (h.from v hv k hk) (hu v hv k hk), hu⟩⟩
theorem Liv.newRp {W : World} {lo : Nat} {u : Rv} {r : Rp} (h : RpHas W lo u r) : Liv lo W.heap.size (RpF lo W.heap.size u r) W := Liv.rp h h.under (Nat.le_refl _)
theorem toRpS (r : Rp) (u : Rv) (w : World) (h : RpGot w u r) (hf : Fit r) :
  Calls Tryz.prog 31 #[rpA r u] w fun e w' => ∃ pl0 ql0 po0 qo0 pc0 qc0 pt0 qt0 M0, e = .returned (.agg #[.int .i64 r.id, .int .i64 r.p, .int .i64 r.v, .bool r.n, .int .i64 r.la, .slice pl0 r.l.length ql0, .int .i64 r.c, .slice po0 r.ok.length qo0, .slice pc0 r.ch.length qc0, .slice pt0 r.te.length qt0]) ∧ RpHas w' w.heap.size ⟨.slice pl0 r.l.length ql0, .slice po0 r.ok.length qo0, .slice pc0 r.ch.length qc0, .slice pt0 r.te.length qt0, M0⟩ r ∧ RpAp ⟨.slice pl0 r.l.length ql0, .slice po0 r.ok.length qo0, .slice pc0 r.ch.length qc0, .slice pt0 r.te.length qt0, M0⟩ ∧ Below w.heap.size w w' :=
 (toRp r u w h hf).mono fun e w' ⟨u', h1, h2, h3, h4⟩ => by
  obtain ⟨pl0, ql0, po0, qo0, pc0, qc0, pt0, qt0, M0, rfl⟩ := h2.got.form
  exact ⟨pl0, ql0, po0, qo0, pc0, qc0, pt0, qt0, M0, h1, h2, h3, h4⟩
def GotM (x : World) (r : Rp) (p1 : Option Addr) (d1 : Nat) (p2 : Option Addr) (d2 : Nat) (p3 : Option Addr) (d3 : Nat) (p4 : Option Addr) (d4 : Nat) : Prop := ∃ M, RpGot x ⟨.slice p1 r.l.length d1, .slice p2 r.ok.length d2, .slice p3 r.ch.length d3, .slice p4 r.te.length d4, M⟩ r
theorem GotM.kept {x y : World} {r : Rp} {p1 : Option Addr} {d1 : Nat} {p2 : Option Addr} {d2 : Nat} {p3 : Option Addr} {d3 : Nat} {p4 : Option Addr} {d4 : Nat} (h : GotM x r p1 d1 p2 d2 p3 d3 p4 d4) (hb : Below x.heap.size x y) : GotM y r p1 d1 p2 d2 p3 d3 p4 d4 := by
 obtain ⟨M, h⟩ := h
 exact ⟨M, h.kept hb⟩
end Go.Proofs.YtdkhdjickkcaiaaGreat.Rl
