/-
  A slice of bytes that came in, as the drawing functions take it.
-/
import Derived.Test.YtcibdipdnmlhhaaDoorDec
import Derived.OpenShut
namespace Go.Proofs.YtcibdipdnmlhhaaDoor
open Go.RowKit

/-- What a walk is told of a slice of bytes that came in: it is nil, or it leads to a row of its bytes. -/
def IsRow (w : World) (a : Option Addr) (len cap : Nat) (zs : List Int) : Prop :=
  (a = none ∧ len = 0 ∧ cap = 0 ∧ zs = []) ∨
  ∃ x, a = some x ∧ len ≤ cap ∧ cap ≤ maxLen ∧ zs.length = cap ∧ (∀ i, i < zs.length → w.cell? (x.add i) = some (.int .u8 (zs.getD i 0))) ∧ ∀ n ∈ zs, (Lit.int .u8 n).wf = true

theorem IsRow.code {w : World} {a : Option Addr} {len cap : Nat} {zs : List Int} (h : IsRow w a len cap zs) : CodeZ w w.heap.size a len zs := by
  intro j hj
  rcases h with ⟨rfl, rfl, _⟩ | ⟨x, rfl, h1, h2, h3, hcell, hwf⟩
  · omega
  · obtain ⟨b, off, rfl, hc⟩ := ints_at hcell (by omega)
    have hj' : j < zs.length := by omega
    have hcj := hc j hj'
    have hg : b < w.heap.size := World.block_lt_of_cell? w ⟨b, off + j, none⟩ hcj
    have hmem : zs.getD j 0 ∈ zs := by
      rw [List.getD_eq_getElem?_getD, List.getElem?_eq_getElem hj']
      exact List.getElem_mem hj'
    have hw := hwf _ hmem
    simp [Lit.wf, IntKind.min, IntKind.max, IntKind.signed, IntKind.bits] at hw
    exact ⟨b, off, rfl, hg, hcj, by simpa using hw.1, by simpa using hw.2⟩

theorem isBig (sa : Option Addr) (sl sc : Nat) (w : World) (h : 4096 < sl) (hl : sl ≤ maxLen) : Calls Tryd.prog 8 #[.slice sa sl sc] w fun e w' => e = .returned (.bool true) ∧ w = w' := by
  unfold maxLen at hl
  have d : decide (4096 < (sl : Int)) = true := by simp; omega
  go_enter Tryd.func8, Tryd.ntmps8
  go_wp2
  go_ret
  exact ⟨rfl, rfl⟩
theorem notBig (sa : Option Addr) (sl sc : Nat) (w : World) (h : sl ≤ 4096) : Calls Tryd.prog 8 #[.slice sa sl sc] w fun e w' => e = .returned (.bool false) ∧ w = w' := by
  have d : decide (4096 < (sl : Int)) = false := by simp; omega
  go_enter Tryd.func8, Tryd.ntmps8
  go_wp2
  go_ret
  exact ⟨rfl, rfl⟩
theorem IsRow.len {w : World} {a : Option Addr} {len cap : Nat} {zs : List Int} (h : IsRow w a len cap zs) : len ≤ maxLen := by
  rcases h with ⟨_, rfl, _⟩ | ⟨_, _, h1, h2, _⟩
  · exact Nat.zero_le _
  · omega
end Go.Proofs.YtcibdipdnmlhhaaDoor
