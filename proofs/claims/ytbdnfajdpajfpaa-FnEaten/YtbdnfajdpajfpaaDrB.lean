/-
  Drawn states and bytes, drawn states and texts: whatever the code, a small state.
-/
import Derived.Test.YtbdnfajdpajfpaaDrA
namespace Go.Proofs.Ytbdnfajdpajfpaa
open Go.RowKit
set_option linter.unusedVariables false

theorem Code8.up {w : World} {b B : Nat} {sa : Option Addr} {sl : Nat} (h : Code8 w b sa sl) (hB : b ≤ B) : Code8 w B sa sl := by
  intro j hj
  obtain ⟨g, o, z, h1, h2, h3⟩ := h j hj
  exact ⟨g, o, z, h1, by omega, h3⟩
theorem Cur.drew {w : World} {b : Nat} {sa : Option Addr} {sl sc : Nat} (h : Cur w b sa sl sc) : Cur w.drew b sa sl sc := h
/-- What a drawing function with a result in memory begins with. -/
theorem born5 (sa : Option Addr) (sl sc : Nat) (w : World) (hc : Code8 w w.heap.size sa sl) (hl : sl ≤ 4096) :
    Calls Try.prog 22 #[.slice sa sl sc] (w.alloc (.cells #[.int .i64 0, .int .i64 0, .string ⟨#[]⟩, .string ⟨#[]⟩] 25)) fun e w' => e = .returned (.pointer (some ⟨w.heap.size + 1, 0, none⟩)) ∧ Cur w' (w.heap.size + 1) sa sl sc ∧ Four w' w.heap.size zeroC ∧ Below w.heap.size w w' := by
  have hz : (w.alloc (.cells #[.int .i64 0, .int .i64 0, .string ⟨#[]⟩, .string ⟨#[]⟩] 25)).heap.size = w.heap.size + 1 := by simp
  have hb0 : Below w.heap.size w (w.alloc (.cells #[.int .i64 0, .int .i64 0, .string ⟨#[]⟩, .string ⟨#[]⟩] 25)) := (Below.refl _ w).alloc (Nat.le_refl _) _
  have hN := l1New sa sl sc (w.alloc (.cells #[.int .i64 0, .int .i64 0, .string ⟨#[]⟩, .string ⟨#[]⟩] 25)) ((hc.kept hb0 (Nat.le_refl _)).up (by omega)) hl
  rw [hz] at hN
  refine hN.mono ?_
  rintro e w1 ⟨rfl, h1, h2⟩
  exact ⟨rfl, h1, (Four.new w zeroC).kept h2 (by omega), hb0.trans (h2.mono (by omega))⟩

end Go.Proofs.Ytbdnfajdpajfpaa
