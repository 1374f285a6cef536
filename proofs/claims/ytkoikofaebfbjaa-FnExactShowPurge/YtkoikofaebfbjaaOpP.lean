/-
  A purge by value that came in, opened and shut.
-/
import Derived.Test.YtkoikofaebfbjaaPgA
import Derived.ProofKit
import Derived.OpenShut
import Derived.ShutString
import Derived.Lib.SmallJoins
namespace Go.Proofs.Ytkoikofaebfbjaa
open Go.ChangeShapes Go.WideShapes Go.ChangeAt Go.RowKit Go.Joins Go.Deep
set_option linter.unusedVariables false

theorem wfP64 {n : Int} : (Lit.int .i64 n).wf = true ↔ -9223372036854775808 ≤ n ∧ n ≤ 9223372036854775807 := by
  show (decide (IntKind.i64.min ≤ n) && decide (n ≤ IntKind.i64.max)) = true ↔ _
  rw [Bool.and_eq_true, decide_eq_true_iff, decide_eq_true_iff]
  exact Iff.rfl
theorem array2p {α : Type} {cs : Array α} (h : cs.size = 2) : ∃ c0 c1, cs = #[c0, c1] := by
  obtain ⟨l⟩ := cs
  match l, h with
  | [c0, c1], _ => exact ⟨c0, c1, rfl⟩
theorem trod_string_mkP {H : Type} {enc : TypeId × Value → H} {P : Program} {w : World} {base : Nat} {spare : Nat → Bool} {held : Bool} {t : TypeId} {s : ByteArray} (m : Nat) (ht : P.underlying t = some .string) (hs : s.size ≤ maxLen) : DataW.trod enc P w base spare held (m + 1) t [.string s] = some (.lit (.string s.data.toList), []) := by
  simp [DataW.trod, ht, hs]
theorem open_pg {H : Type} {enc : TypeId × Value → H} {P : Program} {w : World} {base : Nat} {spare : Nat → Bool} {held : Bool} {r : Reach} {b0 : Nat} {t e u : TypeId} {f0 f1 : Field} {v : Value} {d : DataW H} {p : List MemPlace} (he : P.underlying e = some (.int .i64)) (hu : P.underlying u = some .string) (hs : P.underlying t = some (.struct #[f0, f1])) (hone : oneCellFields P #[f0, f1] = true) (hC : P.cellsOf t = 2)
    (hf : f0.type = e ∧ f1.type = u)
    (hv : Value.okWide P w r b0 t v) (h : DataW.Trod enc P w base spare held t v d p) :
    ∃ (k : Int) (s : ByteArray), v = pgV k s ∧ d = .agg [.lit (.int .i64 k), .lit (.string s.data.toList)] ∧ p = [] ∧ (-9223372036854775808 ≤ k ∧ k ≤ 9223372036854775807) ∧ s.size ≤ maxLen := by
  obtain ⟨cs, rfl, hsz⟩ := okWide_struct hs hv
  obtain ⟨c0, c1, rfl⟩ := array2p (hsz.trans hC)
  obtain ⟨fuel, hfu⟩ := h
  obtain ⟨xs, n, _, hx, hl, hlen, hfs⟩ := DataW.trod_struct hs hfu
  match xs, hlen with
  | [y0, y1], _ =>
    obtain ⟨o0, k0⟩ := hone_of hone 0 f0 rfl
    obtain ⟨o1, k1⟩ := hone_of hone 1 f1 rfl
    have g0 : DataW.trod enc P w base spare held n f0.type [c0] = some y0 := by simpa [Value.cells, o0, k0] using hfs 0 f0 rfl
    have g1 : DataW.trod enc P w base spare held n f1.type [c1] = some y1 := by simpa [Value.cells, o1, k1] using hfs 1 f1 rfl
    rw [hf.1] at g0
    rw [hf.2] at g1
    obtain ⟨a0, e0, rfl, w0⟩ := DataW.trod_int he g0
    obtain ⟨a1, e1, rfl, w1⟩ := DataW.trod_string hu g1
    simp at e0 e1
    subst e0 e1
    simp only [Prod.mk.injEq] at hx
    exact ⟨a0, a1, rfl, by rw [hx.1]; rfl, by rw [hx.2]; rfl, wfP64.1 w0, w1⟩
theorem shut_pg {H : Type} {enc : TypeId × Value → H} {P : Program} {w : World} {base : Nat} {spare : Nat → Bool} {held : Bool} {t e u : TypeId} {f0 f1 : Field} {k : Int} {s : ByteArray} (he : P.underlying e = some (.int .i64)) (hu : P.underlying u = some .string) (hs : P.underlying t = some (.struct #[f0, f1])) (hone : oneCellFields P #[f0, f1] = true) (hC : P.cellsOf t = 2)
    (hf : f0.type = e ∧ f1.type = u) (hk : -9223372036854775808 ≤ k ∧ k ≤ 9223372036854775807) (hw : s.size ≤ maxLen) :
    DataW.Trod enc P w base spare held t (pgV k s) (.agg [.lit (.int .i64 k), .lit (.string s.data.toList)]) [] := by
  obtain ⟨o0, k0⟩ := hone_of hone 0 f0 rfl
  obtain ⟨o1, k1⟩ := hone_of hone 1 f1 rfl
  obtain ⟨q0, q1⟩ := hf
  have z0 := trod_int_mk (enc := enc) (w := w) (base := base) (spare := spare) (held := held) 0 he (wfP64.2 hk)
  have z1 := trod_string_mkP (enc := enc) (w := w) (base := base) (spare := spare) (held := held) 0 hu hw
  have ts := trod_struct_mk (enc := enc) (w := w) (base := base) (spare := spare) (held := held) (n := 1) (cs := [.int .i64 k, .string s]) (xs := [(.lit (.int .i64 k), []), (.lit (.string s.data.toList), [])]) hs (by simp [hC]) (by rw [← q0] at z0; rw [← q1] at z1; rw [q0] at k0; rw [q1] at k1; simp [o0, o1, q0, q1, k0, k1] at z0 z1 ⊢; simp [z0, z1])
  exact ⟨2, by simpa [Value.cells, pgV] using ts⟩
end Go.Proofs.Ytkoikofaebfbjaa
