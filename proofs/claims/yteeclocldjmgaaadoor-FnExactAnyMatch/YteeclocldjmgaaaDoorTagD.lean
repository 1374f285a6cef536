/-
  A tag by value that came in, opened and shut; the laws' own helpers for it, by their contracts.
-/
import Derived.Test.YteeclocldjmgaaaDoorTagB
import Derived.ProofKit
import Derived.OpenShut
import Derived.ShutString
import Derived.Lib.SmallJoins
namespace Go.Proofs.YteeclocldjmgaaaDoor
open Go.ChangeShapes Go.WideShapes Go.ChangeAt Go.RowKit Go.Joins Go.Deep
set_option linter.unusedVariables false

theorem array2 {α : Type} {cs : Array α} (h : cs.size = 2) : ∃ c0 c1, cs = #[c0, c1] := by
  obtain ⟨l⟩ := cs
  match l, h with
  | [c0, c1], _ => exact ⟨c0, c1, rfl⟩
theorem open_tg {H : Type} {enc : TypeId × Value → H} {P : Program} {w : World} {base : Nat} {spare : Nat → Bool} {held : Bool} {r : Reach} {b0 : Nat} {t e u : TypeId} {f0 f1 : Field} {v : Value} {d : DataW H} {p : List MemPlace} (he : P.underlying e = some .bool) (hu : P.underlying u = some .string) (hs : P.underlying t = some (.struct #[f0, f1])) (hone : oneCellFields P #[f0, f1] = true) (hC : P.cellsOf t = 2)
    (hf : f0.type = e ∧ f1.type = u)
    (hv : Value.okWide P w r b0 t v) (h : DataW.Trod enc P w base spare held t v d p) :
    ∃ c : Tg, v = tgV c ∧ d = .agg [.lit (.bool c.w), .lit (.string c.t.data.toList)] ∧ p = [] ∧ c.t.size ≤ maxLen := by
  obtain ⟨cs, rfl, hsz⟩ := okWide_struct hs hv
  obtain ⟨c0, c1, rfl⟩ := array2 (hsz.trans hC)
  obtain ⟨fuel, hfu⟩ := h
  obtain ⟨xs, n, _, hx, hl, hlen, hfs⟩ := DataW.trod_struct hs hfu
  match xs, hlen with
  | [y0, y1], _ =>
    obtain ⟨o0, k0⟩ := hone_of hone 0 f0 rfl
    obtain ⟨o1, k1⟩ := hone_of hone 1 f1 rfl
    have g0 : DataW.trod enc P w base spare held n f0.type [c0] = some y0 := by simpa [Value.cells, o0, k0] using hfs 0 f0 rfl
    have g1 : DataW.trod enc P w base spare held n f1.type [c1] = some y1 := by simpa [Value.cells, o1, k1] using hfs 1 f1 rfl
    rw [hf.1] at g0
    rw [hf.2] at g1
    obtain ⟨a0, e0, rfl⟩ := DataW.trod_bool he g0
    obtain ⟨a1, e1, rfl, w1⟩ := DataW.trod_string hu g1
    simp at e0 e1
    subst e0 e1
    simp only [Prod.mk.injEq] at hx
    exact ⟨⟨a0, a1⟩, rfl, by rw [hx.1]; rfl, by rw [hx.2]; rfl, w1⟩
theorem trod_string_mk7 {H : Type} {enc : TypeId × Value → H} {P : Program} {w : World} {base : Nat} {spare : Nat → Bool} {held : Bool} {t : TypeId} {s : ByteArray} (m : Nat) (ht : P.underlying t = some .string) (hs : s.size ≤ maxLen) : DataW.trod enc P w base spare held (m + 1) t [.string s] = some (.lit (.string s.data.toList), []) := by
  simp [DataW.trod, ht, hs]
theorem trod_bool_mk7 {H : Type} {enc : TypeId × Value → H} {P : Program} {w : World} {base : Nat} {spare : Nat → Bool} {held : Bool} {t : TypeId} {b : Bool} (m : Nat) (ht : P.underlying t = some .bool) : DataW.trod enc P w base spare held (m + 1) t [.bool b] = some (.lit (.bool b), []) := by
  simp [DataW.trod, ht]
theorem shut_tg {H : Type} {enc : TypeId × Value → H} {P : Program} {w : World} {base : Nat} {spare : Nat → Bool} {held : Bool} {t e u : TypeId} {f0 f1 : Field} {c : Tg} (he : P.underlying e = some .bool) (hu : P.underlying u = some .string) (hs : P.underlying t = some (.struct #[f0, f1])) (hone : oneCellFields P #[f0, f1] = true) (hC : P.cellsOf t = 2)
    (hf : f0.type = e ∧ f1.type = u) (hw : c.t.size ≤ maxLen) :
    DataW.Trod enc P w base spare held t (tgV c) (.agg [.lit (.bool c.w), .lit (.string c.t.data.toList)]) [] := by
  obtain ⟨o0, k0⟩ := hone_of hone 0 f0 rfl
  obtain ⟨o1, k1⟩ := hone_of hone 1 f1 rfl
  obtain ⟨q0, q1⟩ := hf
  have z0 := trod_bool_mk7 (enc := enc) (w := w) (base := base) (spare := spare) (held := held) (b := c.w) 0 he
  have z1 := trod_string_mk7 (enc := enc) (w := w) (base := base) (spare := spare) (held := held) 0 hu hw
  have ts := trod_struct_mk (enc := enc) (w := w) (base := base) (spare := spare) (held := held) (n := 1) (cs := [.bool c.w, .string c.t]) (xs := [(.lit (.bool c.w), []), (.lit (.string c.t.data.toList), [])]) hs (by simp [hC]) (by rw [← q0] at z0; rw [← q1] at z1; rw [q0] at k0; rw [q1] at k1; simp [o0, o1, q0, q1, k0, k1] at z0 z1 ⊢; simp [z0, z1])
  exact ⟨2, by simpa [Value.cells, tgV] using ts⟩

theorem ret_i7 {a b : Int} (h : a = b) : Ending.returned (.int .i64 a) = .returned (.int .i64 b) := by rw [h]
/-- The laws' own measure. -/
def szT (c : Tg) (n : Int) : Int := if n - (c.t.size : Int) < 0 then -1 else n - (c.t.size : Int)
set_option maxHeartbeats 400000 in
theorem lawSzT (c : Tg) (n : Int) (w : World) (hd : c.t.size ≤ maxLen) (hn : 0 ≤ n) (hn2 : n ≤ 1048576) :
    Calls Tryd.prog 24 #[tgV c, .int .i64 n] w fun e w' => e = .returned (.int .i64 (szT c n)) ∧ Below w.heap.size w w' := by
  unfold maxLen at hd
  obtain ⟨wk, s⟩ := c
  unfold tgV
  simp only at hd ⊢
  have hw : IntKind.i64.wrap (n - (s.size : Int)) = n - (s.size : Int) := by rw [IntKind.wrap_i64]; omega
  by_cases h1 : n - (s.size : Int) < 0
  · have HZ : Hid ((-1 : Int) = szT ⟨wk, s⟩ n) := by show (-1 : Int) = szT ⟨wk, s⟩ n; unfold szT; rw [if_pos h1]
    go_enter Tryd.func24, Tryd.ntmps24
    go_wp2
    go_ret
    exact ⟨ret_i7 HZ.out, (Below.refl _ w).alloc (Nat.le_refl _) _⟩
  · have HZ : Hid (n - (s.size : Int) = szT ⟨wk, s⟩ n) := by show _ = szT ⟨wk, s⟩ n; unfold szT; rw [if_neg h1]
    go_enter Tryd.func24, Tryd.ntmps24
    go_wp2
    go_ret
    exact ⟨ret_i7 HZ.out, (Below.refl _ w).alloc (Nat.le_refl _) _⟩
theorem lawToT (c : Tg) (w : World) :
    Calls Tryd.prog 25 #[tgV c] w fun e w' => e = .returned (tgV c) ∧ Below w.heap.size w w' := by
  unfold tgV
  go_enter Tryd.func25, Tryd.ntmps25
  go_wp2
  refine bodyPost_ret (v := .agg #[.bool c.w, .string c.t]) (by simp [results, Tryd.results25, go_sem]) rfl ⟨rfl, ?_⟩
  repeat (first | exact Below.refl _ _ | refine Below.alloc ?_ (by simp <;> omega) _ | refine Below.setCell ?_ (by simp <;> omega) _)
theorem szT_yes {c : Tg} {n : Int} (h : (c.t.size : Int) ≤ n) : szT c n = n - (c.t.size : Int) := by unfold szT; rw [if_neg (by omega)]
theorem szT_no {c : Tg} {n : Int} (h : ¬ (c.t.size : Int) ≤ n) : szT c n = -1 := by unfold szT; rw [if_pos (by omega)]
end Go.Proofs.YteeclocldjmgaaaDoor
