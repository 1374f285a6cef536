/-
  Spans that came in, opened and shut.
-/
import Derived.Test.YtamfgjgmnnnjpaaSpnM
import Derived.Deep.SlicePairs
import Derived.ChangeArms
import Derived.ProofKit
import Derived.OpenShut
import Derived.ShutString
import Derived.Lib.SmallJoins
import Derived.Lib.LaidU8
namespace Go.Proofs.Ytamfgjgmnnnjpaa
open Go.RowKit Go.ChangeShapes Go.WideShapes Go.ChangeAt Go.Joins Go.Deep
set_option linter.unusedVariables false

theorem cell_lt8 {w : World} {b o : Nat} {v : Value} (h : w.cell? ⟨b, o, Option.none⟩ = some v) : b < w.heap.size := by
  cases e : w.heap[b]? with
  | none => simp [World.cell?, e] at h
  | some x => exact (Array.getElem?_eq_some_iff.1 e).1
def intV : Value → Int
  | .int _ n => n
  | _ => 0
theorem wf_i64 {n : Int} : (Lit.int .i64 n).wf = true ↔ -9223372036854775808 ≤ n ∧ n ≤ 9223372036854775807 := by
  show (decide (IntKind.i64.min ≤ n) && decide (n ≤ IntKind.i64.max)) = true ↔ _
  rw [Bool.and_eq_true, decide_eq_true_iff, decide_eq_true_iff]
  exact Iff.rfl
theorem open_sps {H : Type} {enc : TypeId × Value → H} {W : World} {base : Nat} {spare : Nat → Bool} {held : Bool} {fuel : Nat} {sa : Option Addr} {sl sc : Nat} {x : DataW H × List MemPlace}
    (h : DataW.trod enc Try.prog W base spare held fuel 31 (Value.cells (.slice sa sl sc)).toList = some x) :
    ∃ l : List Sp, Sls spnE W (.slice sa sl sc) l ∧ ∀ f ∈ l, InR f := by
  rcases Deep.open_slice_pairs Try.underlying31 Try.underlying36 (by kernel_rfl) rfl rfl (by kernel_rfl) (by kernel_rfl) h with ⟨hcs, _⟩ | ⟨a, len, cap, m, n, V0, V1, D0, D1, P0, P1, hcs, hb, hl, hm, hmm, _, hx⟩
  · simp [Value.cells] at hcs
    obtain ⟨rfl, rfl, rfl⟩ := hcs
    exact ⟨[], Sls.nil (Nat.zero_le _), fun f hf => by cases hf⟩
  · simp [Value.cells] at hcs
    obtain ⟨rfl, rfl, rfl⟩ := hcs
    have hlm : sl ≤ m := by rw [hmm]; split <;> omega
    have each : ∀ i, i < sl → ∃ s t : Int, V0 i = .int .i64 s ∧ V1 i = .int .i64 t ∧ InR (s, t) := by
      intro i hi
      obtain ⟨_, _, t0, t1⟩ := hx i (by omega)
      obtain ⟨s, e0, _, z0⟩ := DataW.trod_int Try.underlying2 t0
      obtain ⟨t, e1, _, z1⟩ := DataW.trod_int Try.underlying2 t1
      exact ⟨s, t, by simpa using e0, by simpa using e1, wf_i64.1 z0, wf_i64.1 z1⟩
    refine ⟨(List.range sl).map fun i => (intV (V0 i), intV (V1 i)), ⟨some a, sc, by simp, by simpa using hl, hm, fun h0 => ?_⟩, fun f hf => ?_⟩
    · have h0' : 0 < sl := by simpa using h0
      obtain ⟨c0, _⟩ := hx 0 (by omega)
      obtain ⟨b, o, sp⟩ := a
      have hsp : sp = Option.none := by
        have : W.cell? ⟨b, o, sp⟩ = some (V0 0) := by simpa [Addr.add] using c0
        exact Go.Proofs.cell_spot this
      subst hsp
      have hlt : b < W.heap.size := by
        rw [addr_add] at c0
        exact cell_lt8 c0
      refine ⟨b, o, rfl, hlt, fun j u hu => ?_⟩
      have hj2 : j < sl * 2 := by
        have := (List.getElem?_eq_some_iff.1 hu).1
        rw [cellsE_length, List.length_map, List.length_range] at this
        exact this
      obtain ⟨c1, c2, _⟩ := hx (j / 2) (by omega)
      obtain ⟨s, t, e0, e1, _⟩ := each (j / 2) (by omega)
      obtain ⟨q1, q2⟩ := cellsS_at ((List.range sl).map fun i => (intV (V0 i), intV (V1 i))) (j / 2) (by simp; omega)
      rw [addr_add] at c1 c2
      rw [e0] at c1
      rw [e1] at c2
      have h2 : j = j / 2 * 2 ∨ j = j / 2 * 2 + 1 := by omega
      rcases h2 with h2 | h2
      · rw [h2] at hu ⊢
        rw [q1] at hu
        rw [c1, ← hu]; simp [e0, intV]
      · rw [h2] at hu ⊢
        rw [q2] at hu
        rw [c2, ← hu]; simp [e1, intV]
    · obtain ⟨i, hi, rfl⟩ := List.mem_map.1 hf
      obtain ⟨s, t, e0, e1, z⟩ := each i (by simpa using hi)
      simp only [e0, e1, intV]
      exact z
theorem array2s {α : Type} {cs : Array α} (h : cs.size = 2) : ∃ c0 c1, cs = #[c0, c1] := by
  obtain ⟨l⟩ := cs
  match l, h with
  | [c0, c1], _ => exact ⟨c0, c1, rfl⟩
theorem open_sp {H : Type} {enc : TypeId × Value → H} {P : Program} {w : World} {base : Nat} {spare : Nat → Bool} {held : Bool} {r : Reach} {b0 : Nat} {t e : TypeId} {f0 f1 : Field} {v : Value} {d : DataW H} {p : List MemPlace} (he : P.underlying e = some (.int .i64)) (hs : P.underlying t = some (.struct #[f0, f1])) (hone : oneCellFields P #[f0, f1] = true) (hC : P.cellsOf t = 2)
    (hf : f0.type = e ∧ f1.type = e)
    (hv : Value.okWide P w r b0 t v) (h : DataW.Trod enc P w base spare held t v d p) :
    ∃ c : Sp, v = spV c ∧ d = .agg [.lit (.int .i64 c.1), .lit (.int .i64 c.2)] ∧ p = [] ∧ InR c := by
  obtain ⟨cs, rfl, hsz⟩ := okWide_struct hs hv
  obtain ⟨c0, c1, rfl⟩ := array2s (hsz.trans hC)
  obtain ⟨fuel, hfu⟩ := h
  obtain ⟨xs, n, _, hx, hl, hlen, hfs⟩ := DataW.trod_struct hs hfu
  match xs, hlen with
  | [y0, y1], _ =>
    obtain ⟨o0, k0⟩ := hone_of hone 0 f0 rfl
    obtain ⟨o1, k1⟩ := hone_of hone 1 f1 rfl
    have g0 : DataW.trod enc P w base spare held n f0.type [c0] = some y0 := by simpa [Value.cells, o0, k0] using hfs 0 f0 rfl
    have g1 : DataW.trod enc P w base spare held n f1.type [c1] = some y1 := by simpa [Value.cells, o1, k1] using hfs 1 f1 rfl
    rw [hf.1] at g0
    rw [hf.2] at g1
    obtain ⟨a0, e0, rfl, w0⟩ := DataW.trod_int he g0
    obtain ⟨a1, e1, rfl, w1⟩ := DataW.trod_int he g1
    simp at e0 e1
    subst e0 e1
    simp only [Prod.mk.injEq] at hx
    exact ⟨⟨a0, a1⟩, rfl, by rw [hx.1]; rfl, by rw [hx.2]; rfl, wf_i64.1 w0, wf_i64.1 w1⟩
theorem shut_sp {H : Type} {enc : TypeId × Value → H} {P : Program} {w : World} {base : Nat} {spare : Nat → Bool} {held : Bool} {t e : TypeId} {f0 f1 : Field} {c : Sp} (he : P.underlying e = some (.int .i64)) (hs : P.underlying t = some (.struct #[f0, f1])) (hone : oneCellFields P #[f0, f1] = true) (hC : P.cellsOf t = 2)
    (hf : f0.type = e ∧ f1.type = e) (hw : InR c) :
    DataW.Trod enc P w base spare held t (spV c) (.agg [.lit (.int .i64 c.1), .lit (.int .i64 c.2)]) [] := by
  obtain ⟨o0, k0⟩ := hone_of hone 0 f0 rfl
  obtain ⟨o1, k1⟩ := hone_of hone 1 f1 rfl
  obtain ⟨q0, q1⟩ := hf
  have z0 := trod_int_mk (enc := enc) (w := w) (base := base) (spare := spare) (held := held) 0 he (wf_i64.2 hw.1)
  have z1 := trod_int_mk (enc := enc) (w := w) (base := base) (spare := spare) (held := held) 0 he (wf_i64.2 hw.2)
  have ts := trod_struct_mk (enc := enc) (w := w) (base := base) (spare := spare) (held := held) (n := 1) (cs := [.int .i64 c.1, .int .i64 c.2]) (xs := [(.lit (.int .i64 c.1), []), (.lit (.int .i64 c.2), [])]) hs (by simp [hC]) (by rw [← q0] at z0; rw [← q1] at z1; rw [q0] at k0; simp [o0, o1, q0, q1, k0] at z0 z1 ⊢; simp [z0, z1])
  exact ⟨2, by simpa [Value.cells, spV] using ts⟩
end Go.Proofs.Ytamfgjgmnnnjpaa
