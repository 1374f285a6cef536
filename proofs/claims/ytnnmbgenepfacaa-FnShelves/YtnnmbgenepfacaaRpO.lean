/-
  What lies in memory while the program's Place tells what goes.
-/
import Derived.Test.YtnnmbgenepfacaaRpM
import Derived.Test.YtnnmbgenepfacaaRpN
namespace Go.Proofs.Ytnnmbgenepfacaa
open Go.RowKit Go.Sort Go.Shelf Rom
set_option linter.unusedVariables false
set_option linter.unusedSimpArgs false

attribute [local go_sem] Oper.semAt_some

theorem wp_calmP {P : Program} {c : Code} {K : Act → World → Prop} {Q : Exit → Act → World → Prop} {a : Act} {w : World} (h : c.wp P (Exit.then K fun _ _ _ => False) a w) : c.wp P (Exit.then K Q) a w :=
  Code.wp_mono (fun e a w q => by cases e <;> first | exact q | exact q.elim) h
theorem Try.info9 : (Try.prog.info? 9).map (fun i => (i.zero, i.size, i.bytes)) = some (some (.string ⟨#[]⟩), 1, 16) := by kernel_rfl
theorem OwnsE.ty {α : Type} {E : Enc α} {ty : TypeId} {w : World} {B k : Nat} {v : Value} {l : List α} (h : OwnsE E ty w B v l) (hk : v.ownBlock = some k) : ∃ cur, w.heap[k]? = some (.cells cur ty (0, 0)) := by
  rcases h.2 with ⟨rfl, _⟩ | ⟨g, cap, cur, rfl, _, hg, _⟩
  · simp [Value.ownBlock] at hk
  · obtain rfl : g = k := by simpa [Value.ownBlock] using hk
    exact ⟨cur, hg⟩
theorem block_ty {w : World} {k : Nat} {c1 c2 : Array Value} {t1 t2 : TypeId} {z1 z2 : Nat × Nat} (h1 : w.heap[k]? = some (.cells c1 t1 z1)) (h2 : w.heap[k]? = some (.cells c2 t2 z2)) : t1 = t2 := by
  rw [h1] at h2
  injection h2 with h2
  injection h2
abbrev OwnsX := OwnsE txtE 9
abbrev HasX := HasE txtE 9
structure PlAt (w : World) (q : Int) (vs : Value) (W : World) (v : Value) (gs : List ByteArray) : Prop where
  box : Boxed W (w.heap.size + 3) 37 v
  own : OwnsX W w.heap.size v gs
  sh : W.heap[w.heap.size]? = some (.cells #[.int .i64 q, vs] 34 (0, 0))
  rs : W.heap[w.heap.size + 1]? = some (.cells #[.int .i64 0, .slice none 0 0] 34 (0, 0))
  low : Below w.heap.size w W
theorem PlAt.call {w : World} {q : Int} {vs : Value} {W W' : World} {v : Value} {gs : List ByteArray} (h : PlAt w q vs W v gs) (hb : Below W.heap.size W W') : PlAt w q vs W' v gs :=
  ⟨(hb.block _ h.box.lt).trans h.box, h.own.kept hb, (hb.block _ (Array.getElem?_eq_some_iff.1 h.sh).1).trans h.sh, (hb.block _ (Array.getElem?_eq_some_iff.1 h.rs).1).trans h.rs, h.low.trans (hb.mono h.low.size)⟩
theorem PlAt.drew {w : World} {q : Int} {vs : Value} {W : World} {v : Value} {gs : List ByteArray} (h : PlAt w q vs W v gs) : PlAt w q vs W.drew v gs :=
  ⟨h.box, h.own, h.sh, h.rs, ⟨h.low.os, h.low.tape, h.low.output, h.low.size, h.low.block⟩⟩
theorem PlAt.lt {w : World} {q : Int} {vs : Value} {W : World} {v : Value} {gs : List ByteArray} (h : PlAt w q vs W v gs) : w.heap.size + 3 < W.heap.size := h.box.lt
theorem PlAt.form {w : World} {q : Int} {vs : Value} {W : World} {v : Value} {gs : List ByteArray} (h : PlAt w q vs W v gs) : ∃ a cap, v = .slice a gs.length cap := by
  obtain ⟨a, cap, e, _⟩ := h.own.form
  exact ⟨a, cap, e⟩
theorem PlAt.kept {w : World} {q : Int} {vs : Value} {W W' : World} {v : Value} {gs : List ByteArray} {r : Option Nat} (h : PlAt w q vs W v gs) (hg : W.grownBy W' r) (hr : ∀ k, r = some k → w.heap.size ≤ k ∧ ∃ o : Obj, W.heap[k]? = some o ∧ o.isCells = false) : PlAt w q vs W' v gs := by
  have nc : ∀ k vs ty fz, W.heap[k]? = some (.cells vs ty fz) → some k ≠ r := fun k vs ty fz hk e => by
    obtain ⟨_, o, ho, hc⟩ := hr k e.symm
    rw [hk] at ho
    injection ho with ho
    subst ho
    cases hc
  exact ⟨h.box.kept hg (nc _ _ _ _ h.box), h.own.grown hg (fun k hk e => by obtain ⟨cur, hc⟩ := h.own.ty hk; exact nc k _ _ _ hc e.symm), (hg.block _ (Array.getElem?_eq_some_iff.1 h.sh).1 (nc _ _ _ _ h.sh)).trans h.sh, (hg.block _ (Array.getElem?_eq_some_iff.1 h.rs).1 (nc _ _ _ _ h.rs)).trans h.rs, belowE h.low hg h.low.size (fun k hk => (hr k hk).1)⟩
theorem PlAt.push {w : World} {q : Int} {vs : Value} {W w1 : World} {v v' : Value} {gs gs' : List ByteArray} (h : PlAt w q vs W v gs) (ho : OwnsX w1 w.heap.size v' gs') (hg : W.grownBy w1 v.ownBlock) :
    (w1.cell? ⟨w.heap.size + 3, 0, none⟩ = some v ∧ w1.frozen? ⟨w.heap.size + 3, 0, none⟩ = false) ∧ PlAt w q vs (w1.setCell ⟨w.heap.size + 3, 0, none⟩ v') v' gs' ∧ KeepsOthers W (w1.setCell ⟨w.heap.size + 3, 0, none⟩ v') ∧ KeepI W (w1.setCell ⟨w.heap.size + 3, 0, none⟩ v') := by
  have nr : ∀ k vs ty fz, ty ≠ 9 → W.heap[k]? = some (.cells vs ty fz) → some k ≠ v.ownBlock := fun k vs ty fz ht hk e => by
    obtain ⟨cur, hc⟩ := h.own.ty e.symm
    exact ht (block_ty hk hc)
  have hb1 : Boxed w1 (w.heap.size + 3) 37 v := h.box.kept hg (nr _ _ _ _ (by decide) h.box)
  have hs1 := (hg.block _ (Array.getElem?_eq_some_iff.1 h.sh).1 (nr _ _ _ _ (by decide) h.sh)).trans h.sh
  have hr1 := (hg.block _ (Array.getElem?_eq_some_iff.1 h.rs).1 (nr _ _ _ _ (by decide) h.rs)).trans h.rs
  have ko : KeepsOthers W w1 := KeepsOthers.of_grownBy hg fun j o ej hj => by
    obtain ⟨cur, hc⟩ := h.own.ty ej
    rw [hc] at hj; cases hj; rfl
  have kn : KeepI W w1 := KeepI.grown hg fun k ek vs ty fz ht hk => by
    obtain ⟨cur, hc⟩ := h.own.ty ek
    have := block_ty hk hc
    rcases ht with e | e <;> rw [e] at this <;> exact absurd this (by decide)
  have kn2 : KeepI w1 (w1.setCell ⟨w.heap.size + 3, 0, none⟩ v') := KeepI.grown (grownBy_setCell' w1 (w.heap.size + 3) v') fun k ek vs ty fz ht hk => by
    cases ek
    have := block_ty hk hb1
    rcases ht with e | e <;> rw [e] at this <;> exact absurd this (by decide)
  refine ⟨⟨hb1.cell, hb1.frozen⟩, ⟨hb1.set v', ho.other _ _ (fun k hk e => ?_), ?_, ?_, ?_⟩, ko.trans (KeepsOthers.setCell _ _ _), kn.trans kn2⟩
  · obtain ⟨cur, hc⟩ := ho.ty hk
    subst e
    exact absurd (block_ty hc hb1) (by decide)
  · rw [Below.heap_setCell _ _ _ _ (by show w.heap.size ≠ w.heap.size + 3; omega)]; exact hs1
  · rw [Below.heap_setCell _ _ _ _ (by show w.heap.size + 1 ≠ w.heap.size + 3; omega)]; exact hr1
  · exact (belowE h.low hg h.low.size (fun k hk => OwnsE.from h.own k hk)).setCell (p := ⟨w.heap.size + 3, 0, none⟩) (by show w.heap.size ≤ w.heap.size + 3; omega) v'
theorem plAt_own {α : Type} (w : World) (q : Int) (vs : Value) (f : List α → List ByteArray) (B : Nat) (hB : w.heap.size ≤ B) : OwnFrom B (fun (pre : List α) W => ∃ v, PlAt w q vs W v (f pre)) := fun s W W' row ⟨v, h⟩ hg hr => ⟨v, h.kept hg (fun k hk => ⟨Nat.le_trans hB (hr k hk).1, (hr k hk).2⟩)⟩
/-- A text appended, as one step of a region that draws its order, in a round. -/
theorem stepIn_pushX {F : Fence} {n' : Nat} {ops : Array Oper} {o : Oper} {a : Act} {K : Act → World → Prop} {Q : Exit → Act → World → Prop} {E : Prop} (w : World) (gg : Nat) (hgg : gg = w.heap.size) (hgd : o.guard = none) (s x : Operand)
    (ho : o.op = .call { callee := .builtin .append, args := #[s, x], argTypes := #[37, 37] }) (B : Nat) (v : Value) (l : List ByteArray) (t : ByteArray) (hs : a.eval s = v) (hown : OwnsX w B v l)
    (hx : a.eval x = .slice (some ⟨gg, 0, none⟩) 1 1) (hlen : l.length ≤ 1000000) (hB : B ≤ w.heap.size)
    (h : ∀ v' w', OwnsX w' B v' (l ++ [t]) → w.grownBy w' v.ownBlock → K (a.put o.dst v') w') :
    if Region.wanted o (yielded ops a.tmps) = true then Oper.wpIn F n' Try.prog o a (w.alloc (.cells #[.string t] 9)) K Q else E := by
  subst hgg
  have hw : Region.wanted o (yielded ops a.tmps) = true := by simp [Region.wanted, hgd]
  rw [if_pos hw]
  obtain ⟨i0, hi, hz0, hz1, hz2⟩ := info_parts Try.info9
  obtain ⟨v', w', hr, h2, h3, h4⟩ := run_append_own (P := Try.prog) (w.alloc (.cells #[.string t] 9)) B 37 o.type 9 i0 (.string ⟨#[]⟩) 1 16 Try.underlying37 hi hz0 hz1 hz2 rfl (by decide) v l.length (cellsE txtE l) (OwnsE.alloc hown _) ⟨w.heap.size, 0, none⟩ 1 1 (cellsE txtE [t]) (by rw [cellsE_length]; rfl) (fresh_cell w t #[.string t] 9 rfl) (cellsE_one txtE [t]) (by unfold maxLen; omega) (by omega) (by simp; omega)
  have h2' : OwnsX w' B v' (l ++ [t]) := by
    unfold OwnsX OwnsE
    rw [cellsE_append, List.length_append]
    exact h2
  have h3' : w.grownBy w' v.ownBlock := ⟨h3.os, h3.tape, h3.output, by have := h3.size; simp at this; omega, fun k hk hne => (h3.block k (by simp; omega) hne).trans (Below.heap_alloc _ _ _ hk)⟩
  unfold Oper.wpIn
  refine ⟨?_, ?_⟩
  · simp [Oper.about, ho, resolve, Target.leads, Sem.run_pure]
  · rw [Oper.semAt_plain F _ _ (by rw [ho]; intro c hc'; cases hc')]
    simp [execOp, ho, resolve, invoke, builtin, hs, hx, hr, Result.andThen]
    exact h v' w' h2' h3'
end Go.Proofs.Ytnnmbgenepfacaa
