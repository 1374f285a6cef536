/-
  Arrays of so many flags, and of so many numbers, as they lie in memory: made, laid whole, read whole, an element read.
-/
import Derived.Test.YtdoolnaekmffbaaBx
import Derived.Test.YtdoolnaekmffbaaRomM
import Derived.Test.YtdoolnaekmffbaaSkP
import Derived.Laws.Rows
import Derived.Great.Walk
import Derived.Laws.CopyOwn
import Derived.Laws.MakeOwn
import Derived.Lib.SliceRun
namespace Go.Proofs.Ytdoolnaekmffbaa
open Go.RowKit Sk
set_option linter.unusedVariables false
set_option linter.unusedSimpArgs false

/-- Five hundred and twelve flags. -/
def flgs (f : Nat → Bool) : Array Value := ((List.range 512).map fun i => Value.bool (f i)).toArray
theorem flgs_size (f : Nat → Bool) : (flgs f).size = 512 := by simp [flgs]
theorem flgs_at (f : Nat → Bool) {i : Nat} (h : i < 512) : (flgs f)[i]? = some (.bool (f i)) := by simp [flgs, h]
theorem flgs_one (f : Nat → Bool) : (flgs f).all (·.oneCell') = true := by
  rw [Array.all_eq_true_iff_forall_mem]
  intro x hx
  simp only [flgs, List.mem_toArray, List.mem_map] at hx
  obtain ⟨i, _, rfl⟩ := hx
  rfl
theorem flgs_congr {f g : Nat → Bool} (h : ∀ i, i < 512 → f i = g i) : flgs f = flgs g := by
  have e : (List.range 512).map (fun i => Value.bool (f i)) = (List.range 512).map (fun i => Value.bool (g i)) := List.map_congr_left fun i hi => by rw [h i (List.mem_range.1 hi)]
  unfold flgs
  rw [e]
theorem flgs_set (f : Nat → Bool) {i : Nat} (h : i < 512) (b : Bool) : (flgs f).setIfInBounds i (.bool b) = flgs (fun j => if j = i then b else f j) := by
  apply Array.ext_getElem?
  intro k
  rw [Array.getElem?_setIfInBounds]
  by_cases hk : k < 512
  · by_cases e : i = k
    · subst e; rw [if_pos rfl, flgs_size, if_pos hk, flgs_at _ hk, if_pos rfl]
    · rw [if_neg e, flgs_at _ hk, flgs_at _ hk, if_neg (fun h => e h.symm)]
  · have h1 : (flgs f)[k]? = none := by rw [Array.getElem?_eq_none_iff, flgs_size]; omega
    have h2 : (flgs fun j => if j = i then b else f j)[k]? = none := by rw [Array.getElem?_eq_none_iff, flgs_size]; omega
    rw [h1, h2, if_neg (by omega)]
/-- A flag for each number of the list. -/
def inF (l : List Int) (i : Nat) : Bool := decide ((i : Int) ∈ l)
theorem inF_snoc (l : List Int) (m : Nat) : (fun j => if j = m then true else inF l j) = inF (l ++ [(m : Int)]) := by
  funext j
  unfold inF
  by_cases e : j = m
  · subst e; rw [if_pos rfl]; simp
  · rw [if_neg e]
    congr 1
    simp
    omega
/-- Numbers, and noughts behind them: five hundred and twelve in all. -/
def nmsA (L : List Int) : Array Value := (L.map (fun x => Value.int .i64 x) ++ List.replicate (512 - L.length) (Value.int .i64 0)).toArray
theorem nmsA_size {L : List Int} (h : L.length ≤ 512) : (nmsA L).size = 512 := by simp [nmsA]; omega
theorem nmsA_one (L : List Int) : (nmsA L).all (·.oneCell') = true := by
  rw [Array.all_eq_true_iff_forall_mem]
  intro x hx
  simp only [nmsA, List.mem_toArray, List.mem_append, List.mem_map] at hx
  rcases hx with ⟨i, _, rfl⟩ | hx
  · rfl
  · rw [List.eq_of_mem_replicate hx]; rfl
theorem nmsA_at {L : List Int} {j : Nat} (h : j < L.length) : (nmsA L)[j]? = some (.int .i64 L[j]) := by
  simp [nmsA, List.getElem?_append, h]
theorem nmsA_some {L : List Int} {j : Nat} (h : j < 512) (hL : L.length ≤ 512) : ∃ v, (nmsA L)[j]? = some v := ⟨(nmsA L)[j]'(by rw [nmsA_size hL]; exact h), Array.getElem?_eq_getElem _⟩
theorem nmsA_put {L : List Int} (h : L.length < 512) (x : Int) : (nmsA L).setIfInBounds L.length (.int .i64 x) = nmsA (L ++ [x]) := by
  apply Array.toList_inj.1
  obtain ⟨n, hn⟩ : ∃ n, 512 - L.length = n + 1 := ⟨511 - L.length, by omega⟩
  have hn2 : 512 - (L ++ [x]).length = n := by simp; omega
  unfold nmsA
  rw [hn, hn2, Array.toList_setIfInBounds]
  simp only [List.map_append, List.map_cons, List.map_nil, List.append_assoc]
  rw [List.set_append_right _ _ (by simp)]
  simp [List.replicate_succ]
/-- The numbers whose flags are set. -/
def onL (f : Nat → Bool) (k : Nat) : List Int := ((List.range k).filter f).map (fun i : Nat => (i : Int))
theorem onL_len (f : Nat → Bool) (k : Nat) : (onL f k).length ≤ k := by
  have := List.length_filter_le f (List.range k)
  simpa [onL] using this
theorem onL_yes {f : Nat → Bool} {k : Nat} (h : f k = true) : onL f (k + 1) = onL f k ++ [(k : Int)] := by
  unfold onL; rw [List.range_succ, List.filter_append, List.map_append]; simp [h]
theorem onL_no {f : Nat → Bool} {k : Nat} (h : f k = false) : onL f (k + 1) = onL f k := by
  unfold onL; rw [List.range_succ, List.filter_append]; simp [h]
theorem onL_mem (f : Nat → Bool) (k : Nat) (y : Int) : y ∈ onL f k ↔ ∃ i : Nat, i < k ∧ f i = true ∧ y = (i : Int) := by
  unfold onL
  rw [List.mem_map]
  constructor
  · rintro ⟨i, hi, rfl⟩
    rw [List.mem_filter, List.mem_range] at hi
    exact ⟨i, hi.1, hi.2, rfl⟩
  · rintro ⟨i, h1, h2, rfl⟩
    exact ⟨i, by rw [List.mem_filter, List.mem_range]; exact ⟨h1, h2⟩, rfl⟩
theorem onL_ris (f : Nat → Bool) (k : Nat) : (onL f k).Pairwise (· < ·) := by
  unfold onL
  rw [List.pairwise_map]
  refine List.Pairwise.imp (fun h => by omega) ((List.pairwise_lt_range (n := k)).filter f)
/-- The flags of numbers that are there, read off: the numbers, once each, rising. -/
theorem onL_in {l m : List Int} (hm : m.Pairwise (· < ·)) (h : ∀ y, y ∈ m ↔ y ∈ l) (hl : ∀ x ∈ l, 0 ≤ x ∧ x < 512) : onL (inF l) 512 = m := by
  refine ris_one (onL_ris _ _) hm fun y => ?_
  rw [onL_mem, h]
  constructor
  · rintro ⟨i, _, h2, rfl⟩
    exact of_decide_eq_true h2
  · intro hy
    have := hl y hy
    refine ⟨y.toNat, by omega, decide_eq_true ?_, by omega⟩
    rw [Int.toNat_of_nonneg this.1]
    exact hy

section
variable {P : Program}
/-- A new array: its zero value's cells. -/
theorem wpList_allocA {ops : Array Oper} {rest : List Oper} {o : Oper} {a : Act} {w : World} {Q : Exit → Act → World → Prop} (hg : o.guard = none) (t : TypeId) (ho : o.op = .alloc t) (dst : Option Tmp) (hdst : o.dst = dst)
    (N : Nat) (hN : w.heap.size = N) (cells : Array Value) (hz : (P.info? t).map (·.zero) = some (some (.agg cells)))
    (h : wpList P ops Q rest (a.put dst (.pointer (some ⟨N, 0, none⟩))) (w.alloc (.cells cells t))) : wpList P ops Q (o :: rest) a w := by
  subst hN
  obtain ⟨i, hi, hz⟩ := Option.map_eq_some_iff.1 hz
  refine Go.Great.wpList_runTo hg dst hdst _ _ ?_ h
  unfold execOp
  simp [ho, Instr.alloc, zeroValue, typeInfo, hi, hz, newVar, newRow, Value.cells]
theorem wp_allocA {o : Oper} {a : Act} {w : World} {K : Act → World → Prop} {Q : Exit → Act → World → Prop} (t : TypeId) (ho : o.op = .alloc t) (cells : Array Value) (hz : (P.info? t).map (·.zero) = some (some (.agg cells)))
    (h : K (a.put o.dst (.pointer (some ⟨w.heap.size, 0, none⟩))) (w.alloc (.cells cells t))) : o.wp P a w K Q := by
  obtain ⟨i, hi, hz⟩ := Option.map_eq_some_iff.1 hz
  have hrun : (execOp a.eval o).run P w = .ok (.value (.pointer (some ⟨w.heap.size, 0, none⟩))) (w.alloc (.cells cells t)) := by
    unfold execOp
    simp [ho, Instr.alloc, zeroValue, typeInfo, hi, hz, newVar, newRow, Value.cells]
  unfold Oper.wp
  rw [hrun, Oper.upon_value]
  exact h
/-- An array of noughts, as a value. -/
theorem wpList_buildA {ops : Array Oper} {rest : List Oper} {o : Oper} {a : Act} {w : World} {Q : Exit → Act → World → Prop} (hg : o.guard = none) (t : TypeId) (ho : o.op = .build t #[]) (dst : Option Tmp) (hdst : o.dst = dst)
    (cells : Array Value) (hz : P.built t [] = some cells)
    (h : wpList P ops Q rest (a.put dst (.agg cells)) w) : wpList P ops Q (o :: rest) a w := by
  refine Go.Great.wpList_runTo hg dst hdst _ _ ?_ h
  have := run_build (P := P) w t #[] cells hz
  unfold execOp
  simp [ho, this]
theorem run_indexA (w : World) (t e : TypeId) (n : Nat) (cs : Array Value) (k : Nat) (v : Value) (hu : P.underlying t = some (.array n e)) (he : (P.info? e).map (·.size) = some 1) (ha : (isAgg e).run P w = .ok false w) (hk : k < n) (hv : cs[k]? = some v) :
    (Instr.index t (.agg cs) (.int .i64 k)).run P w = .ok v w := by
  obtain ⟨i, hi, hs⟩ := Option.map_eq_some_iff.1 he
  simp [Instr.index, asIntOf, run_underlying hu, hk, sizeOf, typeInfo, hi, hs, part, ha, hv]
end
end Go.Proofs.Ytdoolnaekmffbaa
