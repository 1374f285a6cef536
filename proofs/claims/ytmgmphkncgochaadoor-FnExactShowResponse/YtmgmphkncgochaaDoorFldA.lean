/-
  A slice of fields that came in, opened.
-/
import Derived.Test.YtmgmphkncgochaaDoorFldM
import Derived.Deep.SlicePairs
import Derived.ChangeArms
import Derived.Lib.LaidU8
namespace Go.Proofs.YtmgmphkncgochaaDoor
open Go.RowKit Go.ChangeShapes Go.WideShapes

theorem cell_lt {w : World} {b o : Nat} {v : Value} (h : w.cell? ⟨b, o, none⟩ = some v) : b < w.heap.size := by
  cases e : w.heap[b]? with
  | none => simp [World.cell?, e] at h
  | some x => exact (Array.getElem?_eq_some_iff.1 e).1
def strOf : Value → ByteArray
  | .string s => s
  | _ => ⟨#[]⟩
theorem open_flds {H : Type} {enc : TypeId × Value → H} {W : World} {base : Nat} {spare : Nat → Bool} {held : Bool} {fuel : Nat} {sa : Option Addr} {sl sc : Nat} {x : DataW H × List MemPlace}
    (h : DataW.trod enc Tryd.prog W base spare held fuel 22 (Value.cells (.slice sa sl sc)).toList = some x) :
    ∃ fs : List Fl, Fls W (.slice sa sl sc) fs ∧ ∀ f ∈ fs, f.1.size ≤ maxLen ∧ f.2.size ≤ maxLen := by
  rcases Deep.open_slice_pairs Tryd.underlying22 Tryd.underlying56 (by kernel_rfl) rfl rfl (by kernel_rfl) (by kernel_rfl) h with ⟨hcs, _⟩ | ⟨a, len, cap, m, n, V0, V1, D0, D1, P0, P1, hcs, hb, hl, hm, hmm, _, hx⟩
  · simp [Value.cells] at hcs
    obtain ⟨rfl, rfl, rfl⟩ := hcs
    exact ⟨[], ⟨none, 0, rfl, Nat.le_refl _, Nat.zero_le _, fun h => absurd h (by simp)⟩, fun f hf => by cases hf⟩
  · simp [Value.cells] at hcs
    obtain ⟨rfl, rfl, rfl⟩ := hcs
    have hlm : sl ≤ m := by rw [hmm]; split <;> omega
    have each : ∀ i, i < sl → ∃ s t : ByteArray, V0 i = .string s ∧ V1 i = .string t ∧ s.size ≤ maxLen ∧ t.size ≤ maxLen := by
      intro i hi
      obtain ⟨_, _, t0, t1⟩ := hx i (by omega)
      obtain ⟨s, e0, _, z0⟩ := DataW.trod_string Tryd.underlying9 t0
      obtain ⟨t, e1, _, z1⟩ := DataW.trod_string Tryd.underlying9 t1
      exact ⟨s, t, by simpa using e0, by simpa using e1, z0, z1⟩
    refine ⟨(List.range sl).map fun i => (strOf (V0 i), strOf (V1 i)), ⟨some a, sc, by simp, by simpa using hl, hm, fun h0 => ?_⟩, fun f hf => ?_⟩
    · have h0' : 0 < sl := by simpa using h0
      obtain ⟨c0, _⟩ := hx 0 (by omega)
      obtain ⟨b, o, sp⟩ := a
      have hsp : sp = none := by
        have : W.cell? ⟨b, o, sp⟩ = some (V0 0) := by simpa [Addr.add] using c0
        exact Go.Proofs.cell_spot this
      subst hsp
      have hlt : b < W.heap.size := by
        rw [addr_add] at c0
        exact cell_lt c0
      refine ⟨b, o, rfl, hlt, fun j hj => ?_⟩
      have hj' : j < sl := by simpa using hj
      obtain ⟨c1, c2, _⟩ := hx j (by omega)
      obtain ⟨s, t, e0, e1, _⟩ := each j hj'
      rw [addr_add] at c1 c2
      rw [e0] at c1
      rw [e1] at c2
      refine ⟨?_, ?_⟩
      · rw [c1]; simp [e0, strOf]
      · rw [show o + j * 2 + 1 = o + (j * 2 + 1) from by omega, c2]; simp [e1, strOf]
    · obtain ⟨i, hi, rfl⟩ := List.mem_map.1 hf
      obtain ⟨s, t, e0, e1, z0, z1⟩ := each i (by simpa using hi)
      simp only [e0, e1, strOf]
      exact ⟨z0, z1⟩
end Go.Proofs.YtmgmphkncgochaaDoor
