/-
  One field appended: in a region that draws its order; to a slice that has no room.
-/
import Derived.Test.YtnkalamfekkmbaaDoorFldC
import Derived.Laws.Append
namespace Go.Proofs.YtnkalamfekkmbaaDoor
open Go.RowKit Go.Sort Go.Maps

/-- One field appended to an owned slice, as one step of a region that draws its order. -/
theorem step_pushF {ops : Array Oper} {o : Oper} {a : Act} {w : World} {K : Act → World → Prop} {Q : Exit → Act → World → Prop} {E : Prop} (hgd : o.guard = none) (s x : Operand)
    (ho : o.op = .call { callee := .builtin .append, args := #[s, x], argTypes := #[24, 24] }) (B : Nat) (v : Value) (l : List Fl) (f : Fl) (hs : a.eval s = v) (hown : OwnsF w B v l)
    (b : Nat) (hx : a.eval x = .slice (some ⟨b, 0, none⟩) 1 1) (c0 : w.cell? ⟨b, 0, none⟩ = some (.string f.1)) (c1 : w.cell? ⟨b, 1, none⟩ = some (.string f.2)) (hlen : l.length ≤ 1000000000000) (hB : B ≤ w.heap.size)
    (h : ∀ v' w', OwnsF w' B v' (l ++ [f]) → w.grownBy w' v.ownBlock → K (a.put o.dst v') w') :
    if Region.wanted o (yielded ops a.tmps) = true then Oper.wp Tryd.prog o a w K Q else E := by
  have hw : Region.wanted o (yielded ops a.tmps) = true := by simp [Region.wanted, hgd]
  rw [if_pos hw]
  obtain ⟨i0, hi, hz0, hz1, hz2⟩ := info_parts Tryd.infoF
  refine wp_append_own w s x 24 ho B 53 i0 (.agg #[.string ⟨#[]⟩, .string ⟨#[]⟩]) 2 32 Tryd.underlying24 hi hz0 hz1 hz2 rfl (by decide) v l.length (cellsF l) hs hown ⟨b, 0, none⟩ 1 1 [.string f.1, .string f.2] hx rfl ?_
    (by intro u hu; simp at hu; rcases hu with rfl | rfl <;> rfl) (by unfold maxLen; omega) (by omega) hB ?_
  · intro j u hu
    rw [addr_add, Nat.zero_add]
    match j, hu with
    | 0, hu => simp at hu; subst hu; exact c0
    | 1, hu => simp at hu; subst hu; exact c1
  intro v' w' h1 h2 _
  refine h v' w' ?_ h2
  unfold OwnsF
  rw [cellsF_append, List.length_append]
  exact h1

theorem cells_of (l : List Fl) {w : World} {g : Nat} (hc : ∀ j (hj : j < l.length), w.cell? ⟨g, j * 2, none⟩ = some (.string l[j].1) ∧ w.cell? ⟨g, j * 2 + 1, none⟩ = some (.string l[j].2)) : ∀ j u, (cellsF l)[j]? = some u → w.cell? ((⟨g, 0, none⟩ : Addr).add j) = some u := by
  intro j u hu
  have hj : j < (cellsF l).length := (List.getElem?_eq_some_iff.1 hu).1
  rw [cellsF_length] at hj
  rw [addr_add, Nat.zero_add, ← hu]
  obtain ⟨c1, c2⟩ := cellsF_at l (j / 2) (by omega)
  obtain ⟨d1, d2⟩ := hc (j / 2) (by omega)
  have h2 : j = j / 2 * 2 ∨ j = j / 2 * 2 + 1 := by omega
  rcases h2 with h2 | h2
  · rw [h2, c1]; exact d1
  · rw [h2, c2]; exact d2

/-- One field appended to a slice that has no room. -/
theorem wpList_growF {ops : Array Oper} {rest : List Oper} {o : Oper} {a : Act} {Q : Exit → Act → World → Prop} (w : World) (hgd : o.guard = none) (s x : Operand)
    (ho : o.op = .call { callee := .builtin .append, args := #[s, x], argTypes := #[24, 24] }) (B g : Nat) (l : List Fl) (f : Fl) (hs : a.eval s = .slice (some ⟨g, 0, none⟩) l.length l.length)
    (hown : HasF w B (.slice (some ⟨g, 0, none⟩) l.length l.length) l) (hx : a.eval x = .slice (some ⟨w.heap.size, 0, none⟩) 1 1) (hlen : l.length ≤ 1000)
    (h : ∀ g' cap w', OwnsF w' w.heap.size (.slice (some ⟨g', 0, none⟩) (l.length + 1) cap) (l ++ [f]) → l.length + 1 ≤ cap → w.grownBy w' none → wpList Tryd.prog ops Q rest (a.put o.dst (.slice (some ⟨g', 0, none⟩) (l.length + 1) cap)) w') :
    wpList Tryd.prog ops Q (o :: rest) a (w.alloc (.cells #[.string f.1, .string f.2] 53)) := by
  obtain ⟨i0, hi, hz0, hz1, hz2⟩ := info_parts Tryd.infoF
  have hk : HasF (w.alloc (.cells #[.string f.1, .string f.2] 53)) B (.slice (some ⟨g, 0, none⟩) l.length l.length) l := hown.kept ((Below.refl _ w).alloc (Nat.le_refl _) _)
  have hr := run_append_grow (P := Tryd.prog) (w.alloc (.cells #[.string f.1, .string f.2] 53)) 24 o.type 53 i0 (.agg #[.string ⟨#[]⟩, .string ⟨#[]⟩]) Tryd.underlying24 hi hz0 ⟨g, 0, none⟩ l.length l.length (cellsF l) (by rw [cellsF_length, hz1]) (cells_of l hk.at)
    ⟨w.heap.size, 0, none⟩ 1 1 [.string f.1, .string f.2] (by rw [hz1]; rfl) (by
      intro j u hu
      rw [addr_add, Nat.zero_add, World.cell?_alloc_mark]
      simpa using hu) (by omega) (by omega) (by rw [hz2]; exact growslice_fits (by omega) (by omega))
  refine wpList_plain hgd fun K hK => ?_
  unfold Oper.wp
  simp [execOp, ho, resolve, invoke, builtin, hs, hx, hr, Result.andThen]
  generalize hcap : grownCap (w.alloc (.cells #[.string f.1, .string f.2] 53)) (l.length + 1) l.length 53 = cap
  have hge : l.length + 1 ≤ cap := by rw [← hcap]; exact grownCap_ge _ _ _ _
  have hle : cap ≤ maxLen := by rw [← hcap]; exact grownCap_le_maxLen _ _ _ _ (by unfold maxLen; omega)
  refine hK _ _ (h _ cap _ ?_ hge ⟨rfl, rfl, rfl, by simp; omega, fun k hk _ => ?_⟩)
  · refine ⟨by rw [cellsF_length], .inr ⟨_, cap, _, by simp, by simp, heap_alloc_new _ _, by simpa using hge, hle, ?_, ?_⟩⟩
    · have := cellsF_length l
      simp [Builtin.zeroCells, Value.cells, this]
      omega
    · rw [cellsF_append]
      have := cellsF_length l
      rw [Array.toList_append]
      exact List.take_left' (l₁ := cellsF l ++ [.string f.1, .string f.2]) (i := (l ++ [f]).length * 2) (by simp [this]; omega)
  · rw [Below.heap_alloc _ _ _ (show k < (w.alloc (.cells #[.string f.1, .string f.2] 53)).drew.heap.size by simp; omega)]
    exact Below.heap_alloc w (.cells #[.string f.1, .string f.2] 53) _ hk
end Go.Proofs.YtnkalamfekkmbaaDoor
