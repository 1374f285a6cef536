/-
  The library's heap over the heap of servers: up.
-/
import Derived.Test.YtdbeoloonoodkaaDoorIhB
import Derived.Test.YtdbeoloonoodkaaDoorIhS
namespace Go.Proofs.YtdbeoloonoodkaaDoor.Ih
open Go.RowKit Go.Sort Ow
set_option linter.unusedVariables false
set_option linter.unusedSimpArgs false
variable {H : Hw}

abbrev hpI (b : Nat) : Value := .iface 52 (.pointer (some ⟨b, 0, none⟩))
theorem HpB.swapped {w w' : World} {B b g n cap : Nat} {l l' : List Co} (h : HpB H w B b l (.slice (some ⟨g, 0, none⟩) n cap)) (hg : w.grownBy w' (some g)) (ho : OwnsC8 w' B (.slice (some ⟨g, 0, none⟩) n cap) l') : HpB H w' B b l' (.slice (some ⟨g, 0, none⟩) n cap) :=
  h.grown hg (h.ne g rfl) (h.mv g rfl) (h.xv g rfl) ho
theorem quo2 {j : Nat} (h : 0 < j) : ((j : Int) - 1).tdiv 2 = (par j : Int) := by
  unfold par
  rw [Int.tdiv_eq_ediv_of_nonneg (by omega)]
  omega
theorem lessHp {b B g cap N i j : Nat} {l : List Co} {w : World} (h : HpB H w B b l (.slice (some ⟨g, 0, none⟩) N cap)) (hN : l.length = N) (hl : N ≤ 100) (hi : i < N) (hj : j < N) (hn : Nm H l) :
    ∃ L : Bool, (L = true ↔ aL l j < aL l i) ∧ Calls Tryd.prog 87 #[.pointer (some ⟨b, 0, none⟩), .int .i64 (i : Int), .int .i64 (j : Int)] w fun e w' => e = .returned (.bool L) ∧ Below w.heap.size w w' := by
  subst hN
  refine ⟨lessC l[i] l[j], ?_, implLess b g cap i j l B w h hn hl hi hj⟩
  rw [aL_at hi, aL_at hj]
  exact less_iff (hn.inn (List.getElem_mem _)) (hn.inn (List.getElem_mem _))
theorem swapHp {b B g cap N i j : Nat} {l : List Co} {w : World} (h : HpB H w B b l (.slice (some ⟨g, 0, none⟩) N cap)) (hN : l.length = N) (hl : N ≤ 100) (hi : i < N) (hj : j < N) :
    Calls Tryd.prog 90 #[.pointer (some ⟨b, 0, none⟩), .int .i64 (i : Int), .int .i64 (j : Int)] w fun e w' => e = .returned (.tuple #[]) ∧ HpB H w' B b (swpC l i j) (.slice (some ⟨g, 0, none⟩) N cap) ∧ Below B w w' := by
  subst hN
  refine (implSwap b g cap i j l B w h hl hi hj).mono ?_
  rintro e w' ⟨rfl, ho, hg⟩
  exact ⟨rfl, h.swapped hg ho, belowE (Below.refl B w) hg (by have := h.lo; have := h.hi; omega) (fun k hk => h.o.from k hk)⟩
theorem HpB.past {w w1 w2 : World} {B b : Nat} {l : List Co} {v : Value} (h : HpB H w1 B b l v) (hb : Below B w w1) (h2 : Below w1.heap.size w1 w2) : HpB H w2 B b l v ∧ Below B w w2 :=
  ⟨h.kept h2, hb.trans (h2.mono (by have := h.lo; have := h.hi; omega))⟩
set_option maxRecDepth 100000 in
set_option maxHeartbeats 4000000 in
theorem heapUp (b B g cap j0 : Nat) (l : List Co) (w : World) (h : HpB H w B b l (.slice (some ⟨g, 0, none⟩) l.length cap)) (hl : l.length ≤ 100) (hj : j0 < l.length) (hn : Nm H l) (hu : Up (aL l) l.length j0) :
    Calls Tryd.prog 54 #[hpI b, .int .i64 (j0 : Int)] w fun e w' => e = .returned (.tuple #[]) ∧ ∃ l', HpB H w' B b l' (.slice (some ⟨g, 0, none⟩) l.length cap) ∧ l'.Perm l ∧ Hp (aL l') l.length ∧ Below B w w' := by
  have HB0 : Hid (HpB H w B b l (.slice (some ⟨g, 0, none⟩) l.length cap)) := h
  have HN : Hid (Nm H l) := hn
  have HU : Hid (Up (aL l) l.length j0) := hu
  obtain ⟨N, hN⟩ : ∃ N, N = l.length := ⟨_, rfl⟩
  rw [← hN] at HB0 HU hl hj ⊢
  have HNN : Hid (N = l.length) := hN
  unfold hpI
  clear h hn hu hN
  go_enter Tryd.func54, Tryd.ntmps54
  go_wp2_with fail
  go_loopw [1] (fun jv wr => ∃ (j : Nat) (l' : List Co), jv = .int .i64 (j : Int) ∧ j < N ∧ Hid (HpB H wr B b l' (.slice (some ⟨g, 0, none⟩) N cap)) ∧ Hid (Up (aL l') N j) ∧ Hid (l'.Perm l) ∧ Hid (Below B w wr)) (fun jv _ => (intOf jv).toNat)
  case atStart => exact ⟨j0, l, rfl, hj, HB0, HU, (show Hid _ from List.Perm.refl _), (show Hid _ from Below.refl _ _)⟩
  case round =>
    obtain ⟨j, l', rfl, hjN, hp, hup, hpm, hb⟩ := hrel
    by_cases j0 : j = 0
    · subst j0
      have HH : Hid (Hp (aL l') N) := hup.out.exit (fun h => absurd h (by decide))
      go_wp2
      go_returns
      exact ⟨rfl, l', hp.out, hpm.out, HH.out, hb.out⟩
    · have hq := quo2 (j := j) (by omega)
      have hpj := par_lt (c := j) (by omega)
      have hpd : Hid (par j = par j) := rfl
      obtain ⟨i, hi⟩ : ∃ i, i = par j := ⟨_, rfl⟩
      rw [← hi] at hq hpj
      have HI : Hid (par j = i) := hi.symm
      have hlN : Hid (l'.length = N) := (show _ = _ from by rw [HNN.out]; exact hpm.out.length_eq)
      have hm := mthLess b
      obtain ⟨L, hL, hle⟩ := lessHp hp.out hlN.out hl hjN (show i < N by omega) (HN.out.perm hpm.out)
      have HL : Hid (L = true ↔ aL l' i < aL l' j) := hL
      have hij : ((i : Int) == (j : Int)) = false := by rw [beq_eq_false_iff_ne]; omega
      clear hi hL
      cases L with
      | false =>
        have HH : Hid (Hp (aL l') N) := hup.out.exit (fun _ => by
          rw [HI.out]
          have := mt HL.out.2 (by decide)
          omega)
        go_wp2_with (go_at_call 87; refine hle.mono ?_; rintro e w1 ⟨rfl, hq1⟩; have HQ : Hid (Below wr.heap.size wr w1) := hq1; clear hq1)
        go_returns
        exact ⟨rfl, l', (hp.out.past hb.out HQ.out).1, hpm.out, HH.out, (hp.out.past hb.out HQ.out).2⟩
      | true =>
        have HU2 : Hid (Up (aL (swpC l' i j)) N i) := hup.out.step HI.out (by omega) hjN (HL.out.1 rfl) (swpC_left (by rw [hlN.out]; omega) (by rw [hlN.out]; omega)) (swpC_right (by rw [hlN.out]; omega) (by rw [hlN.out]; omega)) (fun k h1 h2 => swpC_else h1 h2)
        have HM2 : Hid ((swpC l' i j).Perm l) := (swpC_perm (by rw [hlN.out]; omega) (by rw [hlN.out]; omega)).trans hpm.out
        go_wp2_with (first | (go_at_call 87; refine hle.mono ?_; rintro e w1 ⟨rfl, hq1⟩; have hp1 : Hid (HpB H w1 B b l' (.slice (some ⟨g, 0, none⟩) N cap)) := (hp.out.past hb.out hq1).1; have hb1 : Hid (Below B w w1) := (hp.out.past hb.out hq1).2; clear hp hb hm hle hq1; have hms := mthSwap b; have hsw := swapHp hp1.out hlN.out hl (show i < N by omega) hjN) | (go_at_call 90; refine hsw.mono ?_; rintro e w2 ⟨rfl, hp2, hb2⟩))
        go_roundw
        case rel => exact ⟨i, swpC l' i j, rfl, by omega, hp2, HU2, HM2, (show Hid _ from hb1.out.trans hb2)⟩
        case measure => simp [intOf]; omega
end Go.Proofs.YtdbeoloonoodkaaDoor.Ih
