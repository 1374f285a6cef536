/-
  Rows of numbers that came in, opened.
-/
import Derived.Test.YtdoolnaekmffbaaRomM
import Derived.ChangeSlices
import Derived.ChangeArms
import Derived.ProofKit
import Derived.OpenShut
import Derived.ShutString
import Derived.Lib.SmallJoins
import Derived.Lib.LaidU8
namespace Go.Proofs.Ytdoolnaekmffbaa
open Go.RowKit Go.ChangeShapes Go.WideShapes Go.ChangeAt Go.Joins
set_option linter.unusedVariables false

theorem cell_ltO {w : World} {b o : Nat} {v : Value} (h : w.cell? ⟨b, o, Option.none⟩ = some v) : b < w.heap.size := by
  cases e : w.heap[b]? with
  | none => simp [World.cell?, e] at h
  | some x => exact (Array.getElem?_eq_some_iff.1 e).1
theorem open_nums {H : Type} {enc : TypeId × Value → H} {W : World} {base : Nat} {spare : Nat → Bool} {held : Bool} {fuel : Nat} {sa : Option Addr} {sl sc : Nat} {x : DataW H × List MemPlace}
    (h : DataW.trod enc Try.prog W base spare held fuel 24 (Value.cells (.slice sa sl sc)).toList = some x) :
    ∃ l : List Int, Sls intE W (.slice sa sl sc) l := by
  rcases open_ints Try.underlying24 Try.underlying2 (by kernel_rfl) h with ⟨hcs, _⟩ | ⟨a, l, c, zs, hcs, _, hl, hm, hz, _, hcell, hwz⟩
  · simp [Value.cells] at hcs
    obtain ⟨rfl, rfl, rfl⟩ := hcs
    exact ⟨[], Sls.nil (Nat.zero_le _)⟩
  · simp [Value.cells] at hcs
    obtain ⟨rfl, rfl, rfl⟩ := hcs
    have hlz : sl ≤ zs.length := by rw [hz]; split <;> omega
    have hlt : (zs.take sl).length = sl := by rw [List.length_take]; omega
    refine ⟨zs.take sl, some a, sc, by rw [hlt], by rw [hlt]; exact hl, hm, fun h0 => ?_⟩
    rw [hlt] at h0
    obtain ⟨b, o, sp⟩ := a
    have c0 := hcell 0 (by omega)
    have hsp : sp = Option.none := by
      have : W.cell? ⟨b, o, sp⟩ = some (.int .i64 (zs.getD 0 0)) := by simpa [Addr.add] using c0
      exact Go.Proofs.cell_spot this
    subst hsp
    have hb : b < W.heap.size := by
      rw [addr_add] at c0
      exact cell_ltO c0
    refine ⟨b, o, rfl, hb, fun j u hu => ?_⟩
    have hj : j < sl := by
      have := (List.getElem?_eq_some_iff.1 hu).1
      rw [cellsE_length, hlt] at this
      simpa [intE] using this
    rw [cellsN_at _ j (by rw [hlt]; exact hj)] at hu
    have c1 := hcell j (by omega)
    rw [addr_add] at c1
    rw [c1, ← hu]
    have hjz : j < zs.length := by omega
    simp [List.getD, hjz]
end Go.Proofs.Ytdoolnaekmffbaa
