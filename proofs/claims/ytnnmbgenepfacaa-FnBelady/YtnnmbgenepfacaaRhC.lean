/-
  The library's heap over the program's: up and down.
-/
import Derived.Test.YtnnmbgenepfacaaRhB
namespace Go.Proofs.Ytnnmbgenepfacaa
open Go.RowKit Go.Sort Rom
set_option linter.unusedVariables false
set_option linter.unusedSimpArgs false

abbrev hpI (b : Nat) : Value := .iface 70 (.pointer (some ⟨b, 0, none⟩))
theorem HpB.drewN {w : World} {B b : Nat} {l : List Co} {v : Value} (h : HpB w B b l v) (n : Nat) : HpB (w.drewN n) B b l v := h.kept ⟨rfl, rfl, rfl, Nat.le_refl _, fun _ _ => rfl⟩
theorem HpB.swapped {w w' : World} {B b g n cap : Nat} {l l' : List Co} (h : HpB w B b l (.slice (some ⟨g, 0, none⟩) n cap)) (hg : w.grownBy w' (some g)) (ho : OwnsC8 w' B (.slice (some ⟨g, 0, none⟩) n cap) l') : HpB w' B b l' (.slice (some ⟨g, 0, none⟩) n cap) :=
  h.grown hg (h.ne g rfl) ho
theorem quo2 {j : Nat} (h : 0 < j) : ((j : Int) - 1).tdiv 2 = (par j : Int) := by
  unfold par
  rw [Int.tdiv_eq_ediv_of_nonneg (by omega)]
  omega
theorem lessHp {b B g cap N i j : Nat} {l : List Co} {w : World} (h : HpB w B b l (.slice (some ⟨g, 0, none⟩) N cap)) (hN : l.length = N) (hl : N ≤ 100) (hi : i < N) (hj : j < N) (hn : Nm l) :
    ∃ L : Bool, (L = true ↔ aL l j < aL l i) ∧ Calls Try.prog 117 #[.slice (some ⟨g, 0, none⟩) N cap, .int .i64 (i : Int), .int .i64 (j : Int)] w fun e w' => e = .returned (.bool L) ∧ ∃ n, w' = w.drewN n := by
  subst hN
  refine ⟨lessC l[i] l[j], ?_, implLess g cap i j l B w h.o hl hi hj⟩
  rw [aL_at hi, aL_at hj]
  exact less_iff (hn _ (List.getElem_mem _)) (hn _ (List.getElem_mem _))
theorem swapHp {b B g cap N i j : Nat} {l : List Co} {w : World} (h : HpB w B b l (.slice (some ⟨g, 0, none⟩) N cap)) (hN : l.length = N) (hl : N ≤ 100) (hi : i < N) (hj : j < N) :
    Calls Try.prog 120 #[.slice (some ⟨g, 0, none⟩) N cap, .int .i64 (i : Int), .int .i64 (j : Int)] w fun e w' => e = .returned (.tuple #[]) ∧ HpB w' B b (swpC l i j) (.slice (some ⟨g, 0, none⟩) N cap) ∧ Below B w w' := by
  subst hN
  refine (implSwap g cap i j l B w h.o hl hi hj).mono ?_
  rintro e w' ⟨rfl, ho, hg⟩
  exact ⟨rfl, h.swapped hg ho, belowE (Below.refl B w) hg (by have := h.lo; have := h.hi; omega) (fun k hk => h.o.from k hk)⟩
theorem below_drewN {B : Nat} {w w1 : World} (h : Below B w w1) (n : Nat) : Below B w (w1.drewN n) := ⟨h.os, h.tape, h.output, h.size, h.block⟩
set_option maxRecDepth 100000 in
set_option maxHeartbeats 4000000 in
theorem heapUp (b B g cap j0 : Nat) (l : List Co) (w : World) (h : HpB w B b l (.slice (some ⟨g, 0, none⟩) l.length cap)) (hl : l.length ≤ 100) (hj : j0 < l.length) (hn : Nm l) (hu : Up (aL l) l.length j0) :
    Calls Try.prog 86 #[hpI b, .int .i64 (j0 : Int)] w fun e w' => e = .returned (.tuple #[]) ∧ ∃ l', HpB w' B b l' (.slice (some ⟨g, 0, none⟩) l.length cap) ∧ l'.Perm l ∧ Hp (aL l') l.length ∧ Below B w w' := by
  have H : Hid (HpB w B b l (.slice (some ⟨g, 0, none⟩) l.length cap)) := h
  have HN : Hid (Nm l) := hn
  have HU : Hid (Up (aL l) l.length j0) := hu
  obtain ⟨N, hN⟩ : ∃ N, N = l.length := ⟨_, rfl⟩
  rw [← hN] at H HU hl hj ⊢
  have HNN : Hid (N = l.length) := hN
  unfold hpI
  clear h hn hu hN
  go_enter Try.func86, Try.ntmps86
  go_wp2_with fail
  go_loopw [1] (fun jv wr => ∃ (j : Nat) (l' : List Co), jv = .int .i64 (j : Int) ∧ j < N ∧ Hid (HpB wr B b l' (.slice (some ⟨g, 0, none⟩) N cap)) ∧ Hid (Up (aL l') N j) ∧ Hid (l'.Perm l) ∧ Hid (Below B w wr)) (fun jv _ => (intOf jv).toNat)
  case atStart => exact ⟨j0, l, rfl, hj, H, HU, (show Hid _ from List.Perm.refl _), (show Hid _ from Below.refl _ _)⟩
  case round =>
    obtain ⟨j, l', rfl, hjN, hp, hup, hpm, hb⟩ := hrel
    by_cases j0 : j = 0
    · subst j0
      have HH : Hid (Hp (aL l') N) := hup.out.exit (fun h => absurd h (by decide))
      go_wp2
      go_returns
      exact ⟨rfl, l', hp.out, hpm.out, HH.out, hb.out⟩
    · have hq := quo2 (j := j) (by omega)
      have hpj := par_lt (c := j) (by omega)
      have hpd : Hid (par j = par j) := rfl
      obtain ⟨i, hi⟩ : ∃ i, i = par j := ⟨_, rfl⟩
      rw [← hi] at hq hpj
      have HI : Hid (par j = i) := hi.symm
      have hlN : Hid (l'.length = N) := (show _ = _ from by rw [HNN.out]; exact hpm.out.length_eq)
      have hm := mthLess hp.out.c
      obtain ⟨L, hL, hle⟩ := lessHp hp.out hlN.out hl hjN (show i < N by omega) (HN.out.perm hpm.out)
      have HL : Hid (L = true ↔ aL l' i < aL l' j) := hL
      have hij : ((i : Int) == (j : Int)) = false := by rw [beq_eq_false_iff_ne]; omega
      clear hi hL
      cases L with
      | false =>
        have HH : Hid (Hp (aL l') N) := hup.out.exit (fun _ => by
          rw [HI.out]
          have := mt HL.out.2 (by decide)
          omega)
        go_wp2_with (go_at_call 117; refine hle.mono ?_; rintro e w1 ⟨rfl, n, rfl⟩)
        go_returns
        exact ⟨rfl, l', hp.out.drewN _, hpm.out, HH.out, below_drewN hb.out _⟩
      | true =>
        have HU2 : Hid (Up (aL (swpC l' i j)) N i) := hup.out.step HI.out (by omega) hjN (HL.out.1 rfl) (swpC_left (by rw [hlN.out]; omega) (by rw [hlN.out]; omega)) (swpC_right (by rw [hlN.out]; omega) (by rw [hlN.out]; omega)) (fun k h1 h2 => swpC_else h1 h2)
        have HM2 : Hid ((swpC l' i j).Perm l) := (swpC_perm (by rw [hlN.out]; omega) (by rw [hlN.out]; omega)).trans hpm.out
        go_wp2_with (first | (go_at_call 117; refine hle.mono ?_; rintro e w1 ⟨rfl, n, rfl⟩; have hp1 : Hid (HpB (wr.drewN n) B b l' (.slice (some ⟨g, 0, none⟩) N cap)) := hp.out.drewN n; have hb1 : Hid (Below B w (wr.drewN n)) := below_drewN hb.out n; clear hp hb hm hle; generalize wr.drewN n = w1 at hp1 hb1; have hms := mthSwap hp1.out.c; have hsw := swapHp hp1.out hlN.out hl (show i < N by omega) hjN) | (go_at_call 120; refine hsw.mono ?_; rintro e w2 ⟨rfl, hp2, hb2⟩))
        go_roundw
        case rel => exact ⟨i, swpC l' i j, rfl, by omega, hp2, HU2, HM2, (show Hid _ from hb1.out.trans hb2)⟩
        case measure => simp [intOf]; omega
end Go.Proofs.Ytnnmbgenepfacaa
