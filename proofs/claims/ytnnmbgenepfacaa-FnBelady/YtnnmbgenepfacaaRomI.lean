/-
  The walk of the law FnMattson, given what the program's Recent, Misses and Distance answer.
-/
import Derived.Test.YtnnmbgenepfacaaRomG
import Derived.Test.YtnnmbgenepfacaaRomH
import Derived.Lib.QuietBelow
namespace Go.Proofs.Ytnnmbgenepfacaa
open Go.RowKit Go.Sort Rom
set_option linter.unusedVariables false
set_option linter.unusedSimpArgs false

theorem Code8.upN {w : World} {b b' : Nat} {sa : Option Addr} {sl : Nat} (h : Code8 w b sa sl) (hb : b ≤ b') : Code8 w b' sa sl := by
  intro j hj
  obtain ⟨g, o, z, h1, h2, h3⟩ := h j hj
  exact ⟨g, o, z, h1, by omega, h3⟩
theorem drawRc (sa : Option Addr) (sl sc : Nat) (w : World) (hc : Code8 w w.heap.size sa sl) (hl : sl ≤ 4096) :
    Calls Try.prog 14 #[.slice sa sl sc] w fun e w' => (∃ u l r, e = .returned (.tuple #[u, .int .i64 r]) ∧ OwnsN w' w.heap.size u l ∧ l.length ≤ 61 ∧ In64 r) ∧ Below w.heap.size w w' := by
  have hN := l1New sa sl sc w hc hl
  clear hc
  go_enter Try.func14, Try.ntmps14
  go_wp2_with fail
  refine hN.mono ?_
  rintro e w1 ⟨rfl, hc1, hb1⟩
  have hD := l12Trace _ sa sl sc w1 hc1
  have Z1 : Hid (w.heap.size < w1.heap.size) := hc1.2.2.1
  clear hc1
  go_wp2_with fail
  refine hD.mono ?_
  rintro e w2 ⟨⟨u, l, rfl, ho, hf⟩, hc2, hb2⟩
  have HB2 : Hid (Beside w.heap.size w1 w2) := hb2
  have HO : Hid (OwnsN w2 w1.heap.size u l) := ho
  have hR := l12Room _ sa sl sc w2 hc2
  clear hb2 hN hD ho hc2
  go_wp2_with fail
  refine hR.mono ?_
  rintro e w3 ⟨⟨r, rfl, hr⟩, _, hb3⟩
  have O3 : Hid (OwnsN w3 w.heap.size u l) := (HO.out.bsN hb3 Z1.out).low (Nat.le_of_lt Z1.out)
  have B3 : Hid (Below w.heap.size w w3) := hb1.trans ((HB2.out.trans hb3).low (Nat.le_refl _) (Nat.le_of_lt Z1.out))
  clear hb3 hR HB2 HO
  go_wp2
  go_ret2
  exact ⟨⟨u, l, r, rfl, O3.out, hf, hr⟩, B3.out⟩
theorem drawDs (sa : Option Addr) (sl sc : Nat) (w : World) (hc : Code8 w w.heap.size sa sl) (hl : sl ≤ 4096) :
    Calls Try.prog 17 #[.slice sa sl sc] w fun e w' => (∃ u l r, e = .returned (.tuple #[u, .int .i64 r]) ∧ OwnsN w' w.heap.size u l ∧ l.length ≤ 61 ∧ In64 r) ∧ Below w.heap.size w w' := by
  have hN := l1New sa sl sc w hc hl
  clear hc
  go_enter Try.func17, Try.ntmps17
  go_wp2_with fail
  refine hN.mono ?_
  rintro e w1 ⟨rfl, hc1, hb1⟩
  have hD := l12Trace _ sa sl sc w1 hc1
  have Z1 : Hid (w.heap.size < w1.heap.size) := hc1.2.2.1
  clear hc1
  go_wp2_with fail
  refine hD.mono ?_
  rintro e w2 ⟨⟨u, l, rfl, ho, hf⟩, hc2, hb2⟩
  obtain ⟨a2, c2, rfl, _, _, _⟩ := ho.form
  have HB2 : Hid (Beside w.heap.size w1 w2) := hb2
  have HO : Hid (OwnsN w2 w1.heap.size (.slice a2 l.length c2) l) := ho
  have hR := l1FromN _ sa sl sc (-1) ((l.length : Int) + 1) (by decide) (by omega) (by omega) w2 hc2
  clear hb2 hN hD ho hc2
  go_wp2_with fail
  refine hR.mono ?_
  rintro e w3 ⟨r, rfl, hr0, hr1, _, hb3⟩
  have O3 : Hid (OwnsN w3 w.heap.size (.slice a2 l.length c2) l) := (HO.out.bsN hb3 Z1.out).low (Nat.le_of_lt Z1.out)
  have B3 : Hid (Below w.heap.size w w3) := hb1.trans ((HB2.out.trans hb3).low (Nat.le_refl _) (Nat.le_of_lt Z1.out))
  clear hb3 hR HB2 HO
  go_wp2
  go_ret2
  exact ⟨⟨_, l, r, rfl, O3.out, hf, ⟨by omega, by omega⟩⟩, B3.out⟩
theorem drawBs (sa : Option Addr) (sl sc : Nat) (w : World) (hc : Code8 w w.heap.size sa sl) (hl : sl ≤ 4096) :
    Calls Try.prog 23 #[.slice sa sl sc] w fun e w' => (∃ u l r, e = .returned (.tuple #[u, .int .i64 r]) ∧ OwnsN w' w.heap.size u l ∧ l.length ≤ 61 ∧ In64 r) ∧ Below w.heap.size w w' := by
  have hN := drawRc sa sl sc w hc hl
  go_enter Try.func23, Try.ntmps23
  go_wp2_with fail
  refine hN.mono ?_
  rintro e w1 ⟨⟨u, l, r, rfl, ho, hf, hr⟩, hb1⟩
  clear hN hc
  go_wp2
  go_ret2
  exact ⟨⟨u, l, r, rfl, ho, hf, hr⟩, hb1⟩
theorem slsN_pre {w : World} {a : Option Addr} {n m cap : Nat} {l : List Int} (h : Sls numE w (.slice a n cap) l) (hm : m ≤ l.length) : Sls numE w (.slice a m cap) (l.take m) := by
  obtain ⟨a', cap', e, h1, h2, h3⟩ := h
  injection e with e1 e2 e3
  subst e1; subst e3
  have ht : (l.take m).length = m := by rw [List.length_take]; omega
  refine ⟨a, cap, by rw [ht], by omega, h2, fun h0 => ?_⟩
  obtain ⟨g, o, ha, hg, hc⟩ := h3 (by omega)
  refine ⟨g, o, ha, hg, fun j u hu => hc j u ?_⟩
  rw [cellsE_take numE l m hm, List.getElem?_take] at hu
  split at hu
  · exact hu
  · cases hu
theorem told_one {t : List Int} {r : Int} (h : toldB t r = true) (r' : Int) (hr : 1 ≤ r' ∧ r' ≤ 10) : toldB t r' = true := by
  unfold toldB inM at h ⊢
  rw [Bool.and_eq_true, Bool.and_eq_true] at h ⊢
  exact ⟨h.1, decide_eq_true hr, h.2.2⟩
theorem shf_pre (r : Nat) (t : List Int) : (shf (r + 1) t).take (shf r t).length = shf r t := by
  have := List.prefix_iff_eq_take.1 (shf_more r t)
  exact this.symm
theorem mis_ge {r : Nat} {t : List Int} {i : Nat} : mis r t (i + 1) = mis r t i + (if dis t i = 0 ∨ r < dis t i then 1 else 0) := by
  rw [← cntD_is, ← cntD_is]
  rfl
theorem recA_told {t : List Int} {r : Nat} (h : toldB t (r : Int) = true) : recA t (r : Int) = shf r t := by unfold recA; rw [if_pos h, Int.toNat_natCast]
theorem misA_told {t : List Int} {r : Nat} (h : toldB t (r : Int) = true) : misA t (r : Int) = (mis r t t.length : Int) := by unfold misA; rw [if_pos h, Int.toNat_natCast]
theorem disA_told {t : List Int} {r : Int} {i : Nat} (h : toldB t r = true) (hi : i < t.length) : disA t (i : Int) = (dis t i : Int) := by
  unfold disA inM; rw [if_pos ⟨told_one h 1 (by decide), decide_eq_true (by omega)⟩, Int.toNat_natCast]
theorem dis_le (t : List Int) (i : Nat) (hi : i ≤ t.length) : dis t i ≤ t.length + 1 := by
  rw [dis_is]
  split
  · rename_i h
    have h1 := List.idxOf_lt_length_of_mem h
    have h2 : (stk (t.take i)).length ≤ (t.take i).length := by
      rw [stk_dd]
      have : ∀ ys : List Int, (ddL ys).length ≤ ys.length := by
        intro ys
        induction ys with
        | nil => exact Nat.le_refl _
        | cons y ys ih =>
          show (y :: (ddL ys).filter _).length ≤ _
          rw [List.length_cons, List.length_cons]
          have := List.length_filter_le (fun z => decide (z ≠ y)) (ddL ys)
          omega
      have := this (t.take i).reverse
      rw [List.length_reverse] at this
      exact this
    rw [List.length_take] at h2
    omega
  · omega
end Go.Proofs.Ytnnmbgenepfacaa
