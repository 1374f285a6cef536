/-
  Control by value that came in, opened and shut; the laws' own helpers for it; the walks of the exact laws, given what the program's own functions answer.
-/
import Derived.Test.YtccnkmffadmfhaaGreatDoorCtlC
import Derived.ProofKit
import Derived.OpenShut
import Derived.ShutString
import Derived.Lib.SmallJoins
namespace Go.Proofs.YtccnkmffadmfhaaGreatDoor
open Go.ChangeShapes Go.WideShapes Go.ChangeAt Go.RowKit Go.Joins Go.Deep Go.Sort
set_option linter.unusedVariables false
set_option linter.unusedSimpArgs false

theorem array7 {α : Type} {cs : Array α} (h : cs.size = 7) : ∃ c0 c1 c2 c3 c4 c5 c6, cs = #[c0, c1, c2, c3, c4, c5, c6] := by
  obtain ⟨l⟩ := cs
  match l, h with
  | [c0, c1, c2, c3, c4, c5, c6], _ => exact ⟨c0, c1, c2, c3, c4, c5, c6, rfl⟩
theorem wf9 {n : Int} : (Lit.int .i64 n).wf = true ↔ -9223372036854775808 ≤ n ∧ n ≤ 9223372036854775807 := by
  show (decide (IntKind.i64.min ≤ n) && decide (n ≤ IntKind.i64.max)) = true ↔ _
  rw [Bool.and_eq_true, decide_eq_true_iff, decide_eq_true_iff]
  exact Iff.rfl
/-- Its numbers are int64. -/
def CtR (c : Ct) : Prop := (Lit.int .i64 c.a).wf = true ∧ (Lit.int .i64 c.s).wf = true ∧ (Lit.int .i64 c.t).wf = true
def ctD {H : Type} (c : Ct) : DataW H := .agg [.lit (.int .i64 c.a), .lit (.int .i64 c.s), .lit (.int .i64 c.t), .lit (.bool c.ns), .lit (.bool c.nc), .lit (.bool c.pr), .lit (.bool c.mu)]
theorem open_ct {H : Type} {enc : TypeId × Value → H} {P : Program} {w : World} {base : Nat} {spare : Nat → Bool} {held : Bool} {r : Reach} {b0 : Nat} {t e u : TypeId} {f0 f1 f2 f3 f4 f5 f6 : Field} {v : Value} {d : DataW H} {p : List MemPlace} (he : P.underlying e = some (.int .i64)) (hu : P.underlying u = some .bool) (hs : P.underlying t = some (.struct #[f0, f1, f2, f3, f4, f5, f6])) (hone : oneCellFields P #[f0, f1, f2, f3, f4, f5, f6] = true) (hC : P.cellsOf t = 7)
    (hf : f0.type = e ∧ f1.type = e ∧ f2.type = e ∧ f3.type = u ∧ f4.type = u ∧ f5.type = u ∧ f6.type = u)
    (hv : Value.okWide P w r b0 t v) (h : DataW.Trod enc P w base spare held t v d p) :
    ∃ c : Ct, v = ctV c ∧ d = ctD c ∧ p = [] ∧ CtR c := by
  obtain ⟨cs, rfl, hsz⟩ := okWide_struct hs hv
  obtain ⟨c0, c1, c2, c3, c4, c5, c6, rfl⟩ := array7 (hsz.trans hC)
  obtain ⟨fuel, hfu⟩ := h
  obtain ⟨xs, n, _, hx, hl, hlen, hfs⟩ := DataW.trod_struct hs hfu
  match xs, hlen with
  | [y0, y1, y2, y3, y4, y5, y6], _ =>
    obtain ⟨o0, k0⟩ := hone_of hone 0 f0 rfl
    obtain ⟨o1, k1⟩ := hone_of hone 1 f1 rfl
    obtain ⟨o2, k2⟩ := hone_of hone 2 f2 rfl
    obtain ⟨o3, k3⟩ := hone_of hone 3 f3 rfl
    obtain ⟨o4, k4⟩ := hone_of hone 4 f4 rfl
    obtain ⟨o5, k5⟩ := hone_of hone 5 f5 rfl
    obtain ⟨o6, k6⟩ := hone_of hone 6 f6 rfl
    have g0 : DataW.trod enc P w base spare held n f0.type [c0] = some y0 := by simpa [Value.cells, o0, k0] using hfs 0 f0 rfl
    have g1 : DataW.trod enc P w base spare held n f1.type [c1] = some y1 := by simpa [Value.cells, o1, k1] using hfs 1 f1 rfl
    have g2 : DataW.trod enc P w base spare held n f2.type [c2] = some y2 := by simpa [Value.cells, o2, k2] using hfs 2 f2 rfl
    have g3 : DataW.trod enc P w base spare held n f3.type [c3] = some y3 := by simpa [Value.cells, o3, k3] using hfs 3 f3 rfl
    have g4 : DataW.trod enc P w base spare held n f4.type [c4] = some y4 := by simpa [Value.cells, o4, k4] using hfs 4 f4 rfl
    have g5 : DataW.trod enc P w base spare held n f5.type [c5] = some y5 := by simpa [Value.cells, o5, k5] using hfs 5 f5 rfl
    have g6 : DataW.trod enc P w base spare held n f6.type [c6] = some y6 := by simpa [Value.cells, o6, k6] using hfs 6 f6 rfl
    obtain ⟨q0, q1, q2, q3, q4, q5, q6⟩ := hf
    rw [q0] at g0
    rw [q1] at g1
    rw [q2] at g2
    rw [q3] at g3
    rw [q4] at g4
    rw [q5] at g5
    rw [q6] at g6
    obtain ⟨a0, e0, rfl, w0⟩ := DataW.trod_int he g0
    obtain ⟨a1, e1, rfl, w1⟩ := DataW.trod_int he g1
    obtain ⟨a2, e2, rfl, w2⟩ := DataW.trod_int he g2
    obtain ⟨a3, e3, rfl⟩ := DataW.trod_bool hu g3
    obtain ⟨a4, e4, rfl⟩ := DataW.trod_bool hu g4
    obtain ⟨a5, e5, rfl⟩ := DataW.trod_bool hu g5
    obtain ⟨a6, e6, rfl⟩ := DataW.trod_bool hu g6
    simp at e0 e1 e2 e3 e4 e5 e6
    subst e0 e1 e2 e3 e4 e5 e6
    simp only [Prod.mk.injEq] at hx
    exact ⟨⟨a0, a1, a2, a3, a4, a5, a6⟩, rfl, by rw [hx.1]; rfl, by rw [hx.2]; rfl, w0, w1, w2⟩
theorem trod_bool_mk9 {H : Type} {enc : TypeId × Value → H} {P : Program} {w : World} {base : Nat} {spare : Nat → Bool} {held : Bool} {t : TypeId} {b : Bool} (m : Nat) (ht : P.underlying t = some .bool) : DataW.trod enc P w base spare held (m + 1) t [.bool b] = some (.lit (.bool b), []) := by
  simp [DataW.trod, ht]
theorem shut_ct {H : Type} {enc : TypeId × Value → H} {P : Program} {w : World} {base : Nat} {spare : Nat → Bool} {held : Bool} {t e u : TypeId} {f0 f1 f2 f3 f4 f5 f6 : Field} {c : Ct} (he : P.underlying e = some (.int .i64)) (hu : P.underlying u = some .bool) (hs : P.underlying t = some (.struct #[f0, f1, f2, f3, f4, f5, f6])) (hone : oneCellFields P #[f0, f1, f2, f3, f4, f5, f6] = true) (hC : P.cellsOf t = 7)
    (hf : f0.type = e ∧ f1.type = e ∧ f2.type = e ∧ f3.type = u ∧ f4.type = u ∧ f5.type = u ∧ f6.type = u) (hw : CtR c) : DataW.Trod enc P w base spare held t (ctV c) (ctD c) [] := by
  obtain ⟨o0, k0⟩ := hone_of hone 0 f0 rfl
  obtain ⟨o1, k1⟩ := hone_of hone 1 f1 rfl
  obtain ⟨o2, k2⟩ := hone_of hone 2 f2 rfl
  obtain ⟨o3, k3⟩ := hone_of hone 3 f3 rfl
  obtain ⟨o4, k4⟩ := hone_of hone 4 f4 rfl
  obtain ⟨o5, k5⟩ := hone_of hone 5 f5 rfl
  obtain ⟨o6, k6⟩ := hone_of hone 6 f6 rfl
  obtain ⟨q0, q1, q2, q3, q4, q5, q6⟩ := hf
  have z0 := trod_int_mk (enc := enc) (w := w) (base := base) (spare := spare) (held := held) 0 he hw.1
  have z1 := trod_int_mk (enc := enc) (w := w) (base := base) (spare := spare) (held := held) 0 he hw.2.1
  have z2 := trod_int_mk (enc := enc) (w := w) (base := base) (spare := spare) (held := held) 0 he hw.2.2
  have z3 := trod_bool_mk9 (enc := enc) (w := w) (base := base) (spare := spare) (held := held) (b := c.ns) 0 hu
  have z4 := trod_bool_mk9 (enc := enc) (w := w) (base := base) (spare := spare) (held := held) (b := c.nc) 0 hu
  have z5 := trod_bool_mk9 (enc := enc) (w := w) (base := base) (spare := spare) (held := held) (b := c.pr) 0 hu
  have z6 := trod_bool_mk9 (enc := enc) (w := w) (base := base) (spare := spare) (held := held) (b := c.mu) 0 hu
  have ts := trod_struct_mk (enc := enc) (w := w) (base := base) (spare := spare) (held := held) (n := 1) (cs := [.int .i64 c.a, .int .i64 c.s, .int .i64 c.t, .bool c.ns, .bool c.nc, .bool c.pr, .bool c.mu]) (xs := [(.lit (.int .i64 c.a), []), (.lit (.int .i64 c.s), []), (.lit (.int .i64 c.t), []), (.lit (.bool c.ns), []), (.lit (.bool c.nc), []), (.lit (.bool c.pr), []), (.lit (.bool c.mu), [])]) hs (by simp [hC]) (by rw [← q0] at z0; rw [← q1] at z1; rw [← q2] at z2; rw [← q3] at z3; rw [← q4] at z4; rw [← q5] at z5; rw [← q6] at z6; rw [q0] at k0; rw [q3] at k3; simp [o0, o1, o2, o3, o4, o5, o6, q0, q1, q2, q3, q4, q5, q6, k0, k3] at z0 z1 z2 z3 z4 z5 z6 ⊢; simp [z0, z1, z2, z3, z4, z5, z6])
  exact ⟨2, by simpa [Value.cells, ctV, ctD] using ts⟩
end Go.Proofs.YtccnkmffadmfhaaGreatDoor
