/-
  The specification's spans by their contracts: which are right, the greater of two numbers, Merged.
-/
import Derived.Test.YtamfgjgmnnnjpaaDoorSpnM
namespace Go.Proofs.YtamfgjgmnnnjpaaDoor
open Go.RowKit Go.Sort
set_option linter.unusedVariables false

theorem specSpn (x : Sp) (w : World) : Calls Tryd.prog 39 #[spV x] w fun e w' => e = .returned (.bool (spB x)) ∧ Below w.heap.size w w' := by
  have B0 : Hid (Below w.heap.size w (w.alloc (.cells #[.int .i64 x.1, .int .i64 x.2] 30))) := (Below.refl _ w).alloc (Nat.le_refl _) _
  obtain ⟨a, b⟩ := x
  have HS : Hid (spB (a, b) = decide (0 ≤ a ∧ a ≤ b)) := rfl
  generalize spB (a, b) = S at HS ⊢
  unfold spV
  by_cases h1 : 0 ≤ a
  · by_cases h2 : a ≤ b
    · have H : Hid (true = S) := (HS.out.trans (decide_eq_true ⟨h1, h2⟩)).symm
      go_enter Tryd.func39, Tryd.ntmps39
      go_wp2
      go_ret
      exact ⟨ret_bool H.out, B0.out⟩
    · have H : Hid (false = S) := (HS.out.trans (decide_eq_false (fun h => h2 h.2))).symm
      go_enter Tryd.func39, Tryd.ntmps39
      go_wp2
      go_ret
      exact ⟨ret_bool H.out, B0.out⟩
  · have H : Hid (false = S) := (HS.out.trans (decide_eq_false (fun h => h1 h.1))).symm
    go_enter Tryd.func39, Tryd.ntmps39
    go_wp2
    go_ret
    exact ⟨ret_bool H.out, B0.out⟩
theorem specMaxI (a b : Int) (w : World) : Calls Tryd.prog 55 #[.int .i64 a, .int .i64 b] w fun e w' => e = .returned (.int .i64 (maxI a b)) ∧ w = w' := by
  unfold maxI
  by_cases h : b < a
  · rw [if_pos h]
    go_enter Tryd.func55, Tryd.ntmps55
    go_wp2
    go_ret
    exact ⟨rfl, rfl⟩
  · rw [if_neg h]
    go_enter Tryd.func55, Tryd.ntmps55
    go_wp2
    go_ret
    exact ⟨rfl, rfl⟩
/-- The elements from the k-th on, where such a slice begins. -/
theorem cutE8 {w : World} {B g n cap k : Nat} {l : List Sp} (h : OwnsS8 w B (.slice (some ⟨g, 0, Option.none⟩) n cap) l) (hn : n = l.length) (hk : k ≤ l.length) : ∃ A : Addr, (if cap = k then some (⟨g, 0, Option.none⟩ : Addr) else some ⟨g, k * 2, Option.none⟩) = some A ∧ ∀ x : World, x.heap[g]? = w.heap[g]? → ∀ j u, (cellsE spnE (l.drop k))[j]? = some u → x.cell? (A.add j) = some u := by
  subst hn
  obtain ⟨a, c, e, h1, _, _⟩ := h.form
  injection e with _ _ e3
  subst e3
  by_cases e : cap = k
  · refine ⟨⟨g, 0, Option.none⟩, by rw [if_pos e], fun x _ j u hu => ?_⟩
    rw [List.drop_of_length_le (by omega)] at hu
    simp [cellsE] at hu
  · refine ⟨⟨g, k * 2, Option.none⟩, by rw [if_neg e], fun x hx j u hu => ?_⟩
    rw [cellsE_drop spnE l k hk, List.getElem?_drop] at hu
    have k1 := World.ownsRow.cells h (g := g) rfl (k * 2 + j) u hu
    rw [addr_add] at k1 ⊢
    rw [Nat.zero_add] at k1
    rw [← k1]
    simp only [World.cell?]
    rw [hx]
theorem keepC {w w6 : World} {n b q : Nat} {j : Nat} {o : Obj} {u : Value} (hg : ((w.drewN n).alloc o).grownBy w6 (some q)) (h : w.cell? ⟨b, j, Option.none⟩ = some u) (hb : b < w.heap.size) (hne : b ≠ q) : w6.cell? ⟨b, j, Option.none⟩ = some u := by
  rw [← h]
  simp only [World.cell?]
  rw [hg.block b (by simp; omega) (fun e => hne (Option.some.inj e)), Below.heap_alloc (w.drewN n) o b hb]
  rfl
theorem ownsS_cells {w : World} {B g n cap : Nat} {l : List Sp} (h : OwnsS8 w B (.slice (some ⟨g, 0, Option.none⟩) n cap) l) : ∀ j u, (cellsE spnE l)[j]? = some u → w.cell? ((⟨g, 0, Option.none⟩ : Addr).add j) = some u := fun j u hu => World.ownsRow.cells h rfl j u hu
theorem keepO {w6 W w7 : World} {B g n cap : Nat} {l : List Sp} {o : Obj} {r : Option Nat} (h : OwnsS8 w6 B (.slice (some ⟨g, 0, Option.none⟩) n cap) l) (hg : W.grownBy w7 r) (hW : W.heap = (w6.alloc o).heap) (hne : r ≠ some g) :
    ∀ j u, (cellsE spnE l)[j]? = some u → w7.cell? ((⟨g, 0, Option.none⟩ : Addr).add j) = some u := fun j u hu => by
  have hlt := h.under g rfl
  have e : w7.heap[g]? = w6.heap[g]? := by
    rw [hg.block g (by rw [hW]; simp; omega) (fun e => hne e.symm), hW]
    exact Below.heap_alloc _ _ _ hlt
  have k1 := ownsS_cells h j u hu
  rw [addr_add] at k1 ⊢
  rw [← k1]
  simp only [World.cell?]
  rw [e]
theorem belowN {B n : Nat} {w w1 : World} (h : Below B w w1) : Below B w (w1.drewN n) := ⟨h.os, h.tape, h.output, h.size, h.block⟩
end Go.Proofs.YtamfgjgmnnnjpaaDoor
