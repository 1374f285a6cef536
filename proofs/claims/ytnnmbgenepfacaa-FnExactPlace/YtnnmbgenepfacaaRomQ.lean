/-
  Shelves that came in, opened.
-/
import Derived.Test.YtnnmbgenepfacaaRomT
import Derived.Test.YtnnmbgenepfacaaRomO
import Derived.Deep.SlicePairs
namespace Go.Proofs.Ytnnmbgenepfacaa
open Go.RowKit Go.ChangeShapes Go.WideShapes Go.ChangeAt Go.Joins Go.Deep Rom
set_option linter.unusedVariables false

def strQ : Value → ByteArray
  | .string s => s
  | _ => ⟨#[]⟩
def intQ : Value → Int
  | .int _ n => n
  | _ => 0
theorem open_its {H : Type} {enc : TypeId × Value → H} {W : World} {base : Nat} {spare : Nat → Bool} {held : Bool} {fuel : Nat} {sa : Option Addr} {sl sc : Nat} {x : DataW H × List MemPlace}
    (h : DataW.trod enc Try.prog W base spare held fuel 51 (Value.cells (.slice sa sl sc)).toList = some x) :
    ∃ l : List It, Sls itE W (.slice sa sl sc) l ∧ ∀ f ∈ l, f.1.size ≤ maxLen := by
  rcases Deep.open_slice_pairs Try.underlying51 Try.underlying112 (by kernel_rfl) rfl rfl (by kernel_rfl) (by kernel_rfl) h with ⟨hcs, _⟩ | ⟨a, len, cap, m, n, V0, V1, D0, D1, P0, P1, hcs, hb, hl, hm, hmm, _, hx⟩
  · simp [Value.cells] at hcs
    obtain ⟨rfl, rfl, rfl⟩ := hcs
    exact ⟨[], Sls.nil (Nat.zero_le _), fun f hf => absurd hf (by simp)⟩
  · simp [Value.cells] at hcs
    obtain ⟨rfl, rfl, rfl⟩ := hcs
    have hlm : sl ≤ m := by rw [hmm]; split <;> omega
    have each : ∀ i, i < sl → ∃ (s : ByteArray) (t : Int), V0 i = .string s ∧ V1 i = .int .i64 t ∧ s.size ≤ maxLen := by
      intro i hi
      obtain ⟨_, _, t0, t1⟩ := hx i (by omega)
      obtain ⟨s, e0, _, z0⟩ := DataW.trod_string Try.underlying9 t0
      obtain ⟨t, e1, _, z1⟩ := DataW.trod_int Try.underlying2 t1
      exact ⟨s, t, by simpa using e0, by simpa using e1, z0⟩
    refine ⟨(List.range sl).map fun i => (strQ (V0 i), intQ (V1 i)), ⟨some a, sc, by simp, by simpa using hl, hm, fun h0 => ?_⟩, fun f hf => ?_⟩
    · have h0' : 0 < sl := by simpa using h0
      obtain ⟨c0, _⟩ := hx 0 (by omega)
      obtain ⟨b, o, sp⟩ := a
      have hsp : sp = Option.none := by
        have : W.cell? ⟨b, o, sp⟩ = some (V0 0) := by simpa [Addr.add] using c0
        exact Go.Proofs.cell_spot this
      subst hsp
      have hlt : b < W.heap.size := by
        rw [addr_add] at c0
        exact cell_ltO c0
      refine ⟨b, o, rfl, hlt, fun j u hu => ?_⟩
      have hj2 : j < sl * 2 := by
        have := (List.getElem?_eq_some_iff.1 hu).1
        rw [cellsE_length, List.length_map, List.length_range] at this
        exact this
      obtain ⟨c1, c2, _⟩ := hx (j / 2) (by omega)
      obtain ⟨s, t, e0, e1, _⟩ := each (j / 2) (by omega)
      obtain ⟨q1, q2⟩ := cellsI_at ((List.range sl).map fun i => (strQ (V0 i), intQ (V1 i))) (j / 2) (by simp; omega)
      rw [addr_add] at c1 c2
      rw [e0] at c1
      rw [e1] at c2
      have h2 : j = j / 2 * 2 ∨ j = j / 2 * 2 + 1 := by omega
      rcases h2 with h2 | h2
      · rw [h2] at hu ⊢
        rw [q1] at hu
        rw [c1, ← hu]; simp [e0, strQ]
      · rw [h2] at hu ⊢
        rw [q2] at hu
        rw [c2, ← hu]; simp [e1, intQ]
    · obtain ⟨i, hi, rfl⟩ := List.mem_map.1 hf
      obtain ⟨s, t, e0, e1, z⟩ := each i (by simpa using hi)
      simp only [e0, strQ]
      exact z
theorem open_itsV {H : Type} {enc : TypeId × Value → H} {W : World} {base : Nat} {spare : Nat → Bool} {held : Bool} {fuel : Nat} {c : Value} {x : DataW H × List MemPlace}
    (h : DataW.trod enc Try.prog W base spare held fuel 51 [c] = some x) :
    ∃ l : List It, Sls itE W c l ∧ ∀ f ∈ l, f.1.size ≤ maxLen := by
  rcases Deep.open_slice_pairs Try.underlying51 Try.underlying112 (by kernel_rfl) rfl rfl (by kernel_rfl) (by kernel_rfl) h with ⟨hcs, _⟩ | ⟨a, len, cap, m, n, V0, V1, D0, D1, P0, P1, hcs, _⟩
  · simp at hcs
    subst hcs
    exact open_its (sa := none) (sl := 0) (sc := 0) (by simpa [Value.cells] using h)
  · simp at hcs
    subst hcs
    exact open_its (sa := some a) (sl := len) (sc := cap) (by simpa [Value.cells] using h)
theorem array2h {α : Type} {cs : Array α} (h : cs.size = 2) : ∃ c0 c1, cs = #[c0, c1] := by
  obtain ⟨l⟩ := cs
  match l, h with
  | [c0, c1], _ => exact ⟨c0, c1, rfl⟩
set_option maxRecDepth 100000 in
theorem open_sh {H : Type} {enc : TypeId × Value → H} {w : World} {base : Nat} {spare : Nat → Bool} {held : Bool} {r : Reach} {b0 : Nat} {v : Value} {d : DataW H} {p : List MemPlace}
    (hv : Value.okWide Try.prog w r b0 53 v) (h : DataW.Trod enc Try.prog w base spare held 53 v d p) :
    ∃ (q : Int) (u : Value) (l : List It), v = shV q u ∧ Sls itE w u l ∧ ∀ f ∈ l, f.1.size ≤ maxLen := by
  have hs := Try.underlying53
  obtain ⟨cs, rfl, hsz⟩ := okWide_struct hs hv
  obtain ⟨c0, c1, rfl⟩ := array2h (hsz.trans (by kernel_rfl))
  obtain ⟨fuel, hfu⟩ := h
  obtain ⟨xs, n, _, hx, hl, hlen, hfs⟩ := DataW.trod_struct hs hfu
  match xs, hlen with
  | [y0, y1], _ =>
    have g0 : DataW.trod enc Try.prog w base spare held n 2 [c0] = some y0 := by simpa [Value.cells, show Try.prog.cellsOf 2 = 1 by kernel_rfl] using hfs 0 _ rfl
    have g1 : DataW.trod enc Try.prog w base spare held n 51 [c1] = some y1 := by simpa [Value.cells, show Try.prog.cellsOf 51 = 1 by kernel_rfl] using hfs 1 _ rfl
    obtain ⟨a0, e0, rfl, w0⟩ := DataW.trod_int Try.underlying2 g0
    obtain ⟨l, f1, f2⟩ := open_itsV g1
    simp at e0
    subst e0
    exact ⟨a0, c1, l, rfl, f1, f2⟩
end Go.Proofs.Ytnnmbgenepfacaa
