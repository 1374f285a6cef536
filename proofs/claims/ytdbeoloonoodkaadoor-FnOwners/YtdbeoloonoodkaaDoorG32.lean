/-
  Rows of numbers that came in, opened.
  A slice of texts that came in, opened, as a row.
-/
import Derived.Test.YtdbeoloonoodkaaDoorG05
import Derived.ChangeSlices
import Derived.ChangeArms
import Derived.ProofKit
import Derived.OpenShut
import Derived.ShutString
import Derived.Lib.SmallJoins
import Derived.Lib.LaidU8
import Derived.Test.YtdbeoloonoodkaaDoorG16
namespace Go.Proofs.YtdbeoloonoodkaaDoor
open Go.RowKit Go.ChangeShapes Go.WideShapes Go.ChangeAt Go.Joins
set_option linter.unusedVariables false

theorem cell_ltO {w : World} {b o : Nat} {v : Value} (h : w.cell? ⟨b, o, Option.none⟩ = some v) : b < w.heap.size := by
  cases e : w.heap[b]? with
  | none => simp [World.cell?, e] at h
  | some x => exact (Array.getElem?_eq_some_iff.1 e).1
theorem open_nums {H : Type} {enc : TypeId × Value → H} {W : World} {base : Nat} {spare : Nat → Bool} {held : Bool} {fuel : Nat} {sa : Option Addr} {sl sc : Nat} {x : DataW H × List MemPlace}
    (h : DataW.trod enc Tryd.prog W base spare held fuel 24 (Value.cells (.slice sa sl sc)).toList = some x) :
    ∃ l : List Int, Sls intE W (.slice sa sl sc) l := by
  rcases open_ints Tryd.underlying24 Tryd.underlying2 (by kernel_rfl) h with ⟨hcs, _⟩ | ⟨a, l, c, zs, hcs, _, hl, hm, hz, _, hcell, hwz⟩
  · simp [Value.cells] at hcs
    obtain ⟨rfl, rfl, rfl⟩ := hcs
    exact ⟨[], Sls.nil (Nat.zero_le _)⟩
  · simp [Value.cells] at hcs
    obtain ⟨rfl, rfl, rfl⟩ := hcs
    have hlz : sl ≤ zs.length := by rw [hz]; split <;> omega
    have hlt : (zs.take sl).length = sl := by rw [List.length_take]; omega
    refine ⟨zs.take sl, some a, sc, by rw [hlt], by rw [hlt]; exact hl, hm, fun h0 => ?_⟩
    rw [hlt] at h0
    obtain ⟨b, o, sp⟩ := a
    have c0 := hcell 0 (by omega)
    have hsp : sp = Option.none := by
      have : W.cell? ⟨b, o, sp⟩ = some (.int .i64 (zs.getD 0 0)) := by simpa [Addr.add] using c0
      exact Go.Proofs.cell_spot this
    subst hsp
    have hb : b < W.heap.size := by
      rw [addr_add] at c0
      exact cell_ltO c0
    refine ⟨b, o, rfl, hb, fun j u hu => ?_⟩
    have hj : j < sl := by
      have := (List.getElem?_eq_some_iff.1 hu).1
      rw [cellsE_length, hlt] at this
      simpa [intE] using this
    rw [cellsN_at _ j (by rw [hlt]; exact hj)] at hu
    have c1 := hcell j (by omega)
    rw [addr_add] at c1
    rw [c1, ← hu]
    have hjz : j < zs.length := by omega
    simp [List.getD, hjz]
end Go.Proofs.YtdbeoloonoodkaaDoor
namespace Go.Proofs.YtdbeoloonoodkaaDoor
open Go.RowKit Go.ChangeShapes Go.WideShapes Go.ChangeAt Go.Joins Go.Sort

theorem Sls.ofP {w : World} {v : Value} {l : List ByteArray} (h : StrsP w v l) : Sls txtE w v l := by
  obtain ⟨a, cap, hv, h1, h2, h3⟩ := h
  refine ⟨a, cap, hv, h1, h2, fun h0 => ?_⟩
  obtain ⟨g, o, ha, hg, hc⟩ := h3 h0
  refine ⟨g, o, ha, hg, fun j u hu => ?_⟩
  have hj : j < l.length := by
    have := (List.getElem?_eq_some_iff.1 hu).1
    rw [cellsX_map] at this
    simpa using this
  rw [cellsX_at l j hj] at hu
  rw [hc j hj]
  exact hu
theorem open_txs {H : Type} {enc : TypeId × Value → H} {W : World} {base : Nat} {spare : Nat → Bool} {held : Bool} {fuel : Nat} {sa : Option Addr} {sl sc : Nat} {x : DataW H × List MemPlace}
    (h : DataW.trod enc Tryd.prog W base spare held fuel 29 (Value.cells (.slice sa sl sc)).toList = some x) :
    ∃ l : List ByteArray, Sls txtE W (.slice sa sl sc) l ∧ ∀ p ∈ l, p.size ≤ maxLen := by
  rcases open_strings Tryd.underlying29 Tryd.underlying9 (by kernel_rfl) h with ⟨hcs, _⟩ | ⟨a, len, cap, ss, hcs, hb, hl, hm, hlen, _, hcell, hz⟩
  · simp [Value.cells] at hcs
    obtain ⟨rfl, rfl, rfl⟩ := hcs
    exact ⟨[], Sls.ofP ⟨Option.none, 0, rfl, Nat.le_refl _, Nat.zero_le _, fun h => absurd h (by simp)⟩, fun f hf => by cases hf⟩
  · simp [Value.cells] at hcs
    obtain ⟨rfl, rfl, rfl⟩ := hcs
    have hls : sl ≤ ss.length := by rw [hlen]; split <;> omega
    have htl : (ss.take sl).length = sl := by rw [List.length_take]; omega
    refine ⟨ss.take sl, Sls.ofP ⟨some a, sc, by rw [htl], by omega, hm, fun h0 => ?_⟩, fun p hp => hz p (List.mem_of_mem_take hp)⟩
    have h0' : 0 < sl := by omega
    have c0 := hcell 0 (by omega)
    obtain ⟨b, o, sp⟩ := a
    have hsp : sp = Option.none := by
      have : W.cell? ⟨b, o, sp⟩ = some (.string (ss.getD 0 ByteArray.empty)) := by simpa [Addr.add] using c0
      exact Go.Proofs.cell_spot this
    subst hsp
    rw [addr_add] at c0
    refine ⟨b, o, rfl, World.block_lt_of_cell? W ⟨b, o + 0, Option.none⟩ c0, fun j hj => ?_⟩
    have hj' : j < ss.length := by omega
    have c1 := hcell j hj'
    rw [addr_add] at c1
    rw [c1]
    simp [hj']
end Go.Proofs.YtdbeoloonoodkaaDoor
