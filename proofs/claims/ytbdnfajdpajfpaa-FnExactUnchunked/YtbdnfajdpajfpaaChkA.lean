/-
  A state of chunks by value that came in, opened and shut; the laws' own helpers for it, by their contracts.
-/
import Derived.Test.YtbdnfajdpajfpaaChkV
import Derived.ProofKit
import Derived.OpenShut
import Derived.ShutString
import Derived.Lib.SmallJoins
namespace Go.Proofs.Ytbdnfajdpajfpaa
open Go.ChangeShapes Go.WideShapes Go.ChangeAt Go.RowKit Go.Joins Go.Deep

theorem array4 {α : Type} {cs : Array α} (h : cs.size = 4) : ∃ c0 c1 c2 c3, cs = #[c0, c1, c2, c3] := by
  obtain ⟨l⟩ := cs
  match l, h with
  | [c0, c1, c2, c3], _ => exact ⟨c0, c1, c2, c3, rfl⟩
def ckWf (c : Ck) : Prop := (Lit.int .i64 c.st).wf = true ∧ (Lit.int .i64 c.lf).wf = true ∧ c.dg.size ≤ maxLen ∧ c.bd.size ≤ maxLen
theorem open_ck {H : Type} {enc : TypeId × Value → H} {P : Program} {w : World} {base : Nat} {spare : Nat → Bool} {held : Bool} {r : Reach} {b0 : Nat} {t e u : TypeId} {f0 f1 f2 f3 : Field} {v : Value} {d : DataW H} {p : List MemPlace} (he : P.underlying e = some (.int .i64)) (hu : P.underlying u = some .string) (hs : P.underlying t = some (.struct #[f0, f1, f2, f3])) (hone : oneCellFields P #[f0, f1, f2, f3] = true) (hC : P.cellsOf t = 4)
    (hf : f0.type = e ∧ f1.type = e ∧ f2.type = u ∧ f3.type = u)
    (hv : Value.okWide P w r b0 t v) (h : DataW.Trod enc P w base spare held t v d p) :
    ∃ c : Ck, v = ckV c ∧ d = .agg [.lit (.int .i64 c.st), .lit (.int .i64 c.lf), .lit (.string c.dg.data.toList), .lit (.string c.bd.data.toList)] ∧ p = [] ∧ ckWf c := by
  obtain ⟨cs, rfl, hsz⟩ := okWide_struct hs hv
  obtain ⟨c0, c1, c2, c3, rfl⟩ := array4 (hsz.trans hC)
  obtain ⟨fuel, hfu⟩ := h
  obtain ⟨xs, n, _, hx, hl, hlen, hfs⟩ := DataW.trod_struct hs hfu
  match xs, hlen with
  | [y0, y1, y2, y3], _ =>
    obtain ⟨o0, k0⟩ := hone_of hone 0 f0 rfl
    obtain ⟨o1, k1⟩ := hone_of hone 1 f1 rfl
    obtain ⟨o2, k2⟩ := hone_of hone 2 f2 rfl
    obtain ⟨o3, k3⟩ := hone_of hone 3 f3 rfl
    have g0 : DataW.trod enc P w base spare held n f0.type [c0] = some y0 := by simpa [Value.cells, o0, k0] using hfs 0 f0 rfl
    have g1 : DataW.trod enc P w base spare held n f1.type [c1] = some y1 := by simpa [Value.cells, o1, k1] using hfs 1 f1 rfl
    have g2 : DataW.trod enc P w base spare held n f2.type [c2] = some y2 := by simpa [Value.cells, o2, k2] using hfs 2 f2 rfl
    have g3 : DataW.trod enc P w base spare held n f3.type [c3] = some y3 := by simpa [Value.cells, o3, k3] using hfs 3 f3 rfl
    rw [hf.1] at g0
    rw [hf.2.1] at g1
    rw [hf.2.2.1] at g2
    rw [hf.2.2.2] at g3
    obtain ⟨a0, e0, rfl, w0⟩ := DataW.trod_int he g0
    obtain ⟨a1, e1, rfl, w1⟩ := DataW.trod_int he g1
    obtain ⟨a2, e2, rfl, w2⟩ := DataW.trod_string hu g2
    obtain ⟨a3, e3, rfl, w3⟩ := DataW.trod_string hu g3
    simp at e0 e1 e2 e3
    subst e0 e1 e2 e3
    simp only [Prod.mk.injEq] at hx
    exact ⟨⟨a0, a1, a2, a3⟩, rfl, by rw [hx.1]; rfl, by rw [hx.2]; rfl, w0, w1, w2, w3⟩
theorem trod_string_mk5 {H : Type} {enc : TypeId × Value → H} {P : Program} {w : World} {base : Nat} {spare : Nat → Bool} {held : Bool} {t : TypeId} {s : ByteArray} (m : Nat) (ht : P.underlying t = some .string) (hs : s.size ≤ maxLen) : DataW.trod enc P w base spare held (m + 1) t [.string s] = some (.lit (.string s.data.toList), []) := by
  simp [DataW.trod, ht, hs]
theorem shut_ck {H : Type} {enc : TypeId × Value → H} {P : Program} {w : World} {base : Nat} {spare : Nat → Bool} {held : Bool} {t e u : TypeId} {f0 f1 f2 f3 : Field} {c : Ck} (he : P.underlying e = some (.int .i64)) (hu : P.underlying u = some .string) (hs : P.underlying t = some (.struct #[f0, f1, f2, f3])) (hone : oneCellFields P #[f0, f1, f2, f3] = true) (hC : P.cellsOf t = 4)
    (hf : f0.type = e ∧ f1.type = e ∧ f2.type = u ∧ f3.type = u) (hw : ckWf c) :
    DataW.Trod enc P w base spare held t (ckV c) (.agg [.lit (.int .i64 c.st), .lit (.int .i64 c.lf), .lit (.string c.dg.data.toList), .lit (.string c.bd.data.toList)]) [] := by
  obtain ⟨o0, k0⟩ := hone_of hone 0 f0 rfl
  obtain ⟨o1, k1⟩ := hone_of hone 1 f1 rfl
  obtain ⟨o2, k2⟩ := hone_of hone 2 f2 rfl
  obtain ⟨o3, k3⟩ := hone_of hone 3 f3 rfl
  obtain ⟨q0, q1, q2, q3⟩ := hf
  have z0 := trod_int_mk (enc := enc) (w := w) (base := base) (spare := spare) (held := held) 0 he hw.1
  have z1 := trod_int_mk (enc := enc) (w := w) (base := base) (spare := spare) (held := held) 0 he hw.2.1
  have z2 := trod_string_mk5 (enc := enc) (w := w) (base := base) (spare := spare) (held := held) 0 hu hw.2.2.1
  have z3 := trod_string_mk5 (enc := enc) (w := w) (base := base) (spare := spare) (held := held) 0 hu hw.2.2.2
  have ts := trod_struct_mk (enc := enc) (w := w) (base := base) (spare := spare) (held := held) (n := 1) (cs := [.int .i64 c.st, .int .i64 c.lf, .string c.dg, .string c.bd]) (xs := [(.lit (.int .i64 c.st), []), (.lit (.int .i64 c.lf), []), (.lit (.string c.dg.data.toList), []), (.lit (.string c.bd.data.toList), [])]) hs (by simp [hC]) (by rw [← q0] at z0; rw [← q1] at z1; rw [← q2] at z2; rw [← q3] at z3; rw [q0] at k0; rw [q2] at k2; simp [o0, o1, o2, o3, q0, q1, q2, q3, k0, k2] at z0 z1 z2 z3 ⊢; simp [z0, z1, z2, z3])
  exact ⟨2, by simpa [Value.cells, ckV] using ts⟩

theorem Four.newT (w : World) (c : Ck) (t : TypeId) : Four (w.alloc (.cells #[.int .i64 c.st, .int .i64 c.lf, .string c.dg, .string c.bd] t)) w.heap.size c where
  c0 := World.cell?_alloc_mark _ _ _ _ _
  c1 := World.cell?_alloc_mark _ _ _ _ _
  c2 := World.cell?_alloc_mark _ _ _ _ _
  c3 := World.cell?_alloc_mark _ _ _ _ _
  fz := fun k => by rw [World.frozen?_alloc_mark]; simp
  hi := by simp
theorem ret_i64 {a b : Int} (h : a = b) : Ending.returned (.int .i64 a) = .returned (.int .i64 b) := by rw [h]
/-- The law's own measure. -/
def szC (c : Ck) : Int := if c.dg.size + c.bd.size ≤ 1048576 then 1048576 - (c.dg.size : Int) - (c.bd.size : Int) else -1
theorem szC_yes {c : Ck} (h : c.dg.size + c.bd.size ≤ 1048576) : 0 ≤ szC c := by unfold szC; rw [if_pos h]; omega
theorem szC_no {c : Ck} (h : ¬ c.dg.size + c.bd.size ≤ 1048576) : szC c = -1 := by unfold szC; rw [if_neg h]
set_option maxHeartbeats 400000 in
theorem lawSz (c : Ck) (w : World) (hd : c.dg.size ≤ maxLen) (hb : c.bd.size ≤ maxLen) :
    Calls Try.prog 17 #[ckV c, .int .i64 1048576] w fun e w' => e = .returned (.int .i64 (szC c)) ∧ Below w.heap.size w w' := by
  unfold maxLen at hd hb
  unfold ckV
  by_cases h1 : 1048576 < c.dg.size
  · have e0 : szC c = -1 := szC_no (by omega)
    rw [e0]
    have h1' : (1048576 : Int) - (c.dg.size : Int) < 0 := by omega
    have hw : IntKind.i64.wrap ((1048576 : Int) - (c.dg.size : Int)) = 1048576 - (c.dg.size : Int) := by rw [IntKind.wrap_i64]; omega
    clear e0
    go_enter Try.func17, Try.ntmps17
    go_wp2
    go_ret
    exact ⟨rfl, (Below.refl _ w).alloc (Nat.le_refl _) _⟩
  · have h1' : ¬ (1048576 : Int) - (c.dg.size : Int) < 0 := by omega
    have hw : IntKind.i64.wrap ((1048576 : Int) - (c.dg.size : Int)) = 1048576 - (c.dg.size : Int) := by rw [IntKind.wrap_i64]; omega
    have hw2 : IntKind.i64.wrap ((1048576 : Int) - (c.dg.size : Int) - (c.bd.size : Int)) = 1048576 - (c.dg.size : Int) - (c.bd.size : Int) := by rw [IntKind.wrap_i64]; omega
    by_cases h2 : c.dg.size + c.bd.size ≤ 1048576
    · have h2' : ¬ (1048576 : Int) - (c.dg.size : Int) - (c.bd.size : Int) < 0 := by omega
      have HZ : Hid ((1048576 : Int) - (c.dg.size : Int) - (c.bd.size : Int) = szC c) := by show _ = szC c; unfold szC; rw [if_pos h2]
      go_enter Try.func17, Try.ntmps17
      go_wp2
      go_ret
      exact ⟨ret_i64 HZ.out, (Below.refl _ w).alloc (Nat.le_refl _) _⟩
    · have h2' : (1048576 : Int) - (c.dg.size : Int) - (c.bd.size : Int) < 0 := by omega
      rw [szC_no h2]
      go_enter Try.func17, Try.ntmps17
      go_wp2
      go_ret
      exact ⟨rfl, (Below.refl _ w).alloc (Nat.le_refl _) _⟩
theorem lawTo (c : Ck) (w : World) :
    Calls Try.prog 18 #[ckV c] w fun e w' => e = .returned (ckV c) ∧ Below w.heap.size w w' := by
  unfold ckV
  go_enter Try.func18, Try.ntmps18
  go_wp2
  refine bodyPost_ret (v := .agg #[.int .i64 c.st, .int .i64 c.lf, .string c.dg, .string c.bd]) (by simp [results, Try.results18, go_sem]) rfl ⟨rfl, ?_⟩
  repeat (first | exact Below.refl _ _ | refine Below.alloc ?_ (by simp <;> omega) _ | refine Below.setCell ?_ (by simp <;> omega) _)
theorem lawEq (c : Ck) (w : World) :
    Calls Try.prog 19 #[ckV c, ckV c] w fun e w' => e = .returned (.bool true) ∧ Below w.heap.size w w' := by
  unfold ckV
  go_enter Try.func19, Try.ntmps19
  go_wp2
  go_ret
  refine ⟨rfl, ?_⟩
  repeat (first | exact Below.refl _ _ | refine Below.alloc ?_ (by simp <;> omega) _)
end Go.Proofs.Ytbdnfajdpajfpaa
