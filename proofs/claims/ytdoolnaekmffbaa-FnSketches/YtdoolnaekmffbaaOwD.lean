/-
  The specification's Ranked, Owner and Moved, whatever they are given.
-/
import Derived.Test.YtdoolnaekmffbaaOwC
namespace Go.Proofs.Ytdoolnaekmffbaa
open Go.RowKit Go.Sort Ow
theorem rnkV_len (l : List Int) (key : ByteArray) : (rnkV l key).length ≤ 9 := by
  unfold rnkV
  split
  · rename_i h
    rw [rnk_length]
    exact (srvOk_iff.1 h).len
  · exact Nat.zero_le _
/-- One number appended, and where the new row lies. -/
theorem wpList_pushNa {ops : Array Oper} {rest : List Oper} {o : Oper} {a : Act} {Q : Exit → Act → World → Prop} (w : World) (hgd : o.guard = none) (s x : Operand)
    (ho : o.op = .call { callee := .builtin .append, args := #[s, x], argTypes := #[24, 24] }) (B g n cap : Nat) (l : List Int) (c : Int) (hs : a.eval s = .slice (some ⟨g, 0, none⟩) n cap) (hown : OwnsN w B (.slice (some ⟨g, 0, none⟩) n cap) l)
    (hx : a.eval x = .slice (some ⟨w.heap.size, 0, none⟩) 1 1) (hlen : l.length ≤ 1100000) (hB : B ≤ w.heap.size)
    (h : ∀ g' cap' w', OwnsN w' B (.slice (some ⟨g', 0, none⟩) (l.length + 1) cap') (l ++ [c]) → (g' = g ∨ w.heap.size < g') → w.grownBy w' (some g) → wpList Try.prog ops Q rest (a.put o.dst (.slice (some ⟨g', 0, none⟩) (l.length + 1) cap')) w') :
    wpList Try.prog ops Q (o :: rest) a (w.alloc (.cells #[.int .i64 c] 2)) := by
  refine wpList_rowE_at (E := intE) _ hgd s x 24 2 (.int .i64 0) 8 Try.underlying24 Try.infoN2 rfl ho B _ l hs (OwnsE.alloc hown _) ⟨w.heap.size, 0, none⟩ 1 [c] hx (fresh_cell w c #[.int .i64 c] 2 rfl) (by unfold maxLen; simp; omega) (by simp; omega) (by simp; omega) ?_
  intro v' w' h1 h2 h3 h4
  obtain ⟨g', c', rfl, h5, h6, h7⟩ := OwnsE.moved h1 (by simp) h4
  have el : (l ++ [c]).length = l.length + 1 := by simp
  rw [el] at h1 ⊢
  refine h g' c' w' h1 (by simp at h5; omega) ⟨h2.os, h2.tape, h2.output, ?_, ?_⟩
  · have := h2.size
    simp at this
    omega
  · intro k hk hne
    rw [h2.block k (by simp; omega) hne]
    exact Below.heap_alloc _ _ _ hk
theorem Sls.txO {w : World} {v : Value} {l : List ByteArray} (h : Sls txtE w v l) : ∃ a cap, v = .slice a l.length cap ∧ l.length ≤ cap ∧ cap ≤ maxLen ∧ (0 < l.length → ∃ g o, a = some ⟨g, o, Option.none⟩ ∧ g < w.heap.size ∧
    ∀ j (hj : j < l.length), w.cell? ⟨g, o + j, Option.none⟩ = some (.string l[j])) := by
  obtain ⟨a, cap, rfl, h1, h2, h3⟩ := h
  refine ⟨a, cap, rfl, h1, h2, fun h0 => ?_⟩
  obtain ⟨g, o, rfl, hg, hc⟩ := h3 h0
  refine ⟨g, o, rfl, hg, fun j hj => hc j _ ?_⟩
  have := cellsE_at txtE l j hj 0 (by decide)
  rw [show j * txtE.k + 0 = j from by show j * 1 + 0 = j; omega] at this
  exact this
/-- The specification's Moved where nothing moves, for something is not as told. -/
theorem movOk_no1 {l : List Int} {z : Int} {n : Nat} (h : srvOk l = false) : movOk l z n = false := by unfold movOk; rw [h]; rfl
theorem movOk_no2 {l : List Int} {z : Int} {n : Nat} (h : (gon l z).length = l.length) : movOk l z n = false := by unfold movOk; rw [h]; simp
theorem movOk_no3 {l : List Int} {z : Int} {n : Nat} (h : (gon l z).length < 1) : movOk l z n = false := by unfold movOk; rw [decide_eq_false (p := 1 ≤ _) (by omega)]; simp
theorem movOk_no4 {l : List Int} {z : Int} {n : Nat} (h : 100 < n) : movOk l z n = false := by unfold movOk; rw [decide_eq_false (p := n ≤ 100) (by omega)]; simp
theorem movOk_yes {l : List Int} {z : Int} {n : Nat} (h1 : srvOk l = true) (h2 : ¬ (gon l z).length = l.length) (h3 : 1 ≤ (gon l z).length) (h4 : n ≤ 100) : movOk l z n = true := by
  unfold movOk; rw [h1, decide_eq_false h2, decide_eq_true h3, decide_eq_true h4]; rfl
end Go.Proofs.Ytdoolnaekmffbaa
