/-
  A struct of six numbers by value, opened and shut.
-/
import Derived.Test.YtfflifhcbfoliaaDoorRows
import Derived.WalkKit
import Derived.ProofKit
import Derived.OpenShut
import Derived.Lib.SmallJoins
namespace Go.Proofs.YtfflifhcbfoliaaDoor
open Go.ChangeShapes Go.WideShapes Go.ChangeAt Go.RowKit Go.Joins Go.Deep
variable {H : Type} {enc : TypeId × Value → H} {P : Program} {w : World} {base : Nat} {spare : Nat → Bool} {held : Bool}

theorem array6 {α : Type} {cs : Array α} (h : cs.size = 6) : ∃ c0 c1 c2 c3 c4 c5, cs = #[c0, c1, c2, c3, c4, c5] := by
  obtain ⟨l⟩ := cs
  match l, h with
  | [c0, c1, c2, c3, c4, c5], _ => exact ⟨c0, c1, c2, c3, c4, c5, rfl⟩

theorem open_six {r : Reach} {b0 : Nat} {t e : TypeId} {f0 f1 f2 f3 f4 f5 : Field} {v : Value} {d : DataW H} {p : List MemPlace} (he : P.underlying e = some (.int .i64)) (hs : P.underlying t = some (.struct #[f0, f1, f2, f3, f4, f5])) (hone : oneCellFields P #[f0, f1, f2, f3, f4, f5] = true) (hC : P.cellsOf t = 6)
    (hf : f0.type = e ∧ f1.type = e ∧ f2.type = e ∧ f3.type = e ∧ f4.type = e ∧ f5.type = e)
    (hv : Value.okWide P w r b0 t v) (h : DataW.Trod enc P w base spare held t v d p) :
    ∃ a0 a1 a2 a3 a4 a5 : Int, v = .agg #[.int .i64 a0, .int .i64 a1, .int .i64 a2, .int .i64 a3, .int .i64 a4, .int .i64 a5] ∧ d = .agg [.lit (.int .i64 a0), .lit (.int .i64 a1), .lit (.int .i64 a2), .lit (.int .i64 a3), .lit (.int .i64 a4), .lit (.int .i64 a5)] ∧ p = [] ∧
      (Lit.int .i64 a0).wf = true ∧ (Lit.int .i64 a1).wf = true ∧ (Lit.int .i64 a2).wf = true ∧ (Lit.int .i64 a3).wf = true ∧ (Lit.int .i64 a4).wf = true ∧ (Lit.int .i64 a5).wf = true := by
  obtain ⟨cs, rfl, hsz⟩ := okWide_struct hs hv
  obtain ⟨c0, c1, c2, c3, c4, c5, rfl⟩ := array6 (hsz.trans hC)
  obtain ⟨fuel, hfu⟩ := h
  obtain ⟨xs, n, _, hx, hl, hlen, hfs⟩ := DataW.trod_struct hs hfu
  match xs, hlen with
  | [y0, y1, y2, y3, y4, y5], _ =>
    obtain ⟨o0, k0⟩ := hone_of hone 0 f0 rfl
    obtain ⟨o1, k1⟩ := hone_of hone 1 f1 rfl
    obtain ⟨o2, k2⟩ := hone_of hone 2 f2 rfl
    obtain ⟨o3, k3⟩ := hone_of hone 3 f3 rfl
    obtain ⟨o4, k4⟩ := hone_of hone 4 f4 rfl
    obtain ⟨o5, k5⟩ := hone_of hone 5 f5 rfl
    have g0 : DataW.trod enc P w base spare held n f0.type [c0] = some y0 := by simpa [Value.cells, o0, k0] using hfs 0 f0 rfl
    have g1 : DataW.trod enc P w base spare held n f1.type [c1] = some y1 := by simpa [Value.cells, o1, k1] using hfs 1 f1 rfl
    have g2 : DataW.trod enc P w base spare held n f2.type [c2] = some y2 := by simpa [Value.cells, o2, k2] using hfs 2 f2 rfl
    have g3 : DataW.trod enc P w base spare held n f3.type [c3] = some y3 := by simpa [Value.cells, o3, k3] using hfs 3 f3 rfl
    have g4 : DataW.trod enc P w base spare held n f4.type [c4] = some y4 := by simpa [Value.cells, o4, k4] using hfs 4 f4 rfl
    have g5 : DataW.trod enc P w base spare held n f5.type [c5] = some y5 := by simpa [Value.cells, o5, k5] using hfs 5 f5 rfl
    rw [hf.1] at g0
    rw [hf.2.1] at g1
    rw [hf.2.2.1] at g2
    rw [hf.2.2.2.1] at g3
    rw [hf.2.2.2.2.1] at g4
    rw [hf.2.2.2.2.2] at g5
    obtain ⟨a0, e0, rfl, w0⟩ := DataW.trod_int he g0
    obtain ⟨a1, e1, rfl, w1⟩ := DataW.trod_int he g1
    obtain ⟨a2, e2, rfl, w2⟩ := DataW.trod_int he g2
    obtain ⟨a3, e3, rfl, w3⟩ := DataW.trod_int he g3
    obtain ⟨a4, e4, rfl, w4⟩ := DataW.trod_int he g4
    obtain ⟨a5, e5, rfl, w5⟩ := DataW.trod_int he g5
    simp at e0 e1 e2 e3 e4 e5
    subst e0 e1 e2 e3 e4 e5
    simp only [Prod.mk.injEq] at hx
    exact ⟨a0, a1, a2, a3, a4, a5, rfl, by rw [hx.1]; rfl, by rw [hx.2]; rfl, w0, w1, w2, w3, w4, w5⟩

theorem shut_six {t e : TypeId} {f0 f1 f2 f3 f4 f5 : Field} {a0 a1 a2 a3 a4 a5 : Int} (he : P.underlying e = some (.int .i64)) (hs : P.underlying t = some (.struct #[f0, f1, f2, f3, f4, f5])) (hone : oneCellFields P #[f0, f1, f2, f3, f4, f5] = true) (hC : P.cellsOf t = 6)
    (hf : f0.type = e ∧ f1.type = e ∧ f2.type = e ∧ f3.type = e ∧ f4.type = e ∧ f5.type = e)
    (hw : (Lit.int .i64 a0).wf = true ∧ (Lit.int .i64 a1).wf = true ∧ (Lit.int .i64 a2).wf = true ∧ (Lit.int .i64 a3).wf = true ∧ (Lit.int .i64 a4).wf = true ∧ (Lit.int .i64 a5).wf = true) :
    DataW.Trod enc P w base spare held t (.agg #[.int .i64 a0, .int .i64 a1, .int .i64 a2, .int .i64 a3, .int .i64 a4, .int .i64 a5]) (.agg [.lit (.int .i64 a0), .lit (.int .i64 a1), .lit (.int .i64 a2), .lit (.int .i64 a3), .lit (.int .i64 a4), .lit (.int .i64 a5)]) [] := by
  obtain ⟨o0, k0⟩ := hone_of hone 0 f0 rfl
  obtain ⟨o1, k1⟩ := hone_of hone 1 f1 rfl
  obtain ⟨o2, k2⟩ := hone_of hone 2 f2 rfl
  obtain ⟨o3, k3⟩ := hone_of hone 3 f3 rfl
  obtain ⟨o4, k4⟩ := hone_of hone 4 f4 rfl
  obtain ⟨o5, k5⟩ := hone_of hone 5 f5 rfl
  obtain ⟨q0, q1, q2, q3, q4, q5⟩ := hf
  have z0 := trod_int_mk (enc := enc) (w := w) (base := base) (spare := spare) (held := held) 0 he hw.1
  have z1 := trod_int_mk (enc := enc) (w := w) (base := base) (spare := spare) (held := held) 0 he hw.2.1
  have z2 := trod_int_mk (enc := enc) (w := w) (base := base) (spare := spare) (held := held) 0 he hw.2.2.1
  have z3 := trod_int_mk (enc := enc) (w := w) (base := base) (spare := spare) (held := held) 0 he hw.2.2.2.1
  have z4 := trod_int_mk (enc := enc) (w := w) (base := base) (spare := spare) (held := held) 0 he hw.2.2.2.2.1
  have z5 := trod_int_mk (enc := enc) (w := w) (base := base) (spare := spare) (held := held) 0 he hw.2.2.2.2.2
  have ts := trod_struct_mk (enc := enc) (w := w) (base := base) (spare := spare) (held := held) (n := 1) (cs := [.int .i64 a0, .int .i64 a1, .int .i64 a2, .int .i64 a3, .int .i64 a4, .int .i64 a5]) (xs := [(.lit (.int .i64 a0), []), (.lit (.int .i64 a1), []), (.lit (.int .i64 a2), []), (.lit (.int .i64 a3), []), (.lit (.int .i64 a4), []), (.lit (.int .i64 a5), [])]) hs (by simp [hC]) (by rw [← q0] at z0; rw [← q1] at z1; rw [← q2] at z2; rw [← q3] at z3; rw [← q4] at z4; rw [← q5] at z5; rw [q0] at k0; simp [o0, o1, o2, o3, o4, o5, q0, q1, q2, q3, q4, q5, k0] at z0 z1 z2 z3 z4 z5 ⊢; simp [z0, z1, z2, z3, z4, z5])
  exact ⟨2, by simpa [Value.cells] using ts⟩
end Go.Proofs.YtfflifhcbfoliaaDoor
