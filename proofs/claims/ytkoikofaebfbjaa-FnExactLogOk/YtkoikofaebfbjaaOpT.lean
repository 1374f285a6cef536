/-
  A slice of texts that came in, opened, as a row.
-/
import Derived.Test.YtkoikofaebfbjaaTxs
import Derived.ChangeSlices
import Derived.ChangeArms
import Derived.ProofKit
import Derived.OpenShut
import Derived.ShutString
import Derived.Lib.SmallJoins
import Derived.Lib.LaidU8
namespace Go.Proofs.Ytkoikofaebfbjaa
open Go.RowKit Go.ChangeShapes Go.WideShapes Go.ChangeAt Go.Joins Go.Sort

theorem Sls.ofP {w : World} {v : Value} {l : List ByteArray} (h : StrsP w v l) : Sls txtE w v l := by
  obtain ⟨a, cap, hv, h1, h2, h3⟩ := h
  refine ⟨a, cap, hv, h1, h2, fun h0 => ?_⟩
  obtain ⟨g, o, ha, hg, hc⟩ := h3 h0
  refine ⟨g, o, ha, hg, fun j u hu => ?_⟩
  have hj : j < l.length := by
    have := (List.getElem?_eq_some_iff.1 hu).1
    rw [cellsX_map] at this
    simpa using this
  rw [cellsX_at l j hj] at hu
  rw [hc j hj]
  exact hu
theorem open_txs {H : Type} {enc : TypeId × Value → H} {W : World} {base : Nat} {spare : Nat → Bool} {held : Bool} {fuel : Nat} {sa : Option Addr} {sl sc : Nat} {x : DataW H × List MemPlace}
    (h : DataW.trod enc Try.prog W base spare held fuel 34 (Value.cells (.slice sa sl sc)).toList = some x) :
    ∃ l : List ByteArray, Sls txtE W (.slice sa sl sc) l ∧ ∀ p ∈ l, p.size ≤ maxLen := by
  rcases open_strings Try.underlying34 Try.underlying9 (by kernel_rfl) h with ⟨hcs, _⟩ | ⟨a, len, cap, ss, hcs, hb, hl, hm, hlen, _, hcell, hz⟩
  · simp [Value.cells] at hcs
    obtain ⟨rfl, rfl, rfl⟩ := hcs
    exact ⟨[], Sls.ofP ⟨Option.none, 0, rfl, Nat.le_refl _, Nat.zero_le _, fun h => absurd h (by simp)⟩, fun f hf => by cases hf⟩
  · simp [Value.cells] at hcs
    obtain ⟨rfl, rfl, rfl⟩ := hcs
    have hls : sl ≤ ss.length := by rw [hlen]; split <;> omega
    have htl : (ss.take sl).length = sl := by rw [List.length_take]; omega
    refine ⟨ss.take sl, Sls.ofP ⟨some a, sc, by rw [htl], by omega, hm, fun h0 => ?_⟩, fun p hp => hz p (List.mem_of_mem_take hp)⟩
    have h0' : 0 < sl := by omega
    have c0 := hcell 0 (by omega)
    obtain ⟨b, o, sp⟩ := a
    have hsp : sp = Option.none := by
      have : W.cell? ⟨b, o, sp⟩ = some (.string (ss.getD 0 ByteArray.empty)) := by simpa [Addr.add] using c0
      exact Go.Proofs.cell_spot this
    subst hsp
    rw [addr_add] at c0
    refine ⟨b, o, rfl, World.block_lt_of_cell? W ⟨b, o + 0, Option.none⟩ c0, fun j hj => ?_⟩
    have hj' : j < ss.length := by omega
    have c1 := hcell j hj'
    rw [addr_add] at c1
    rw [c1]
    simp [hj']
end Go.Proofs.Ytkoikofaebfbjaa
