/-
  Rows of numbers in memory, and the laws' own helpers on them.
-/
import Derived.Test.YtkoikofaebfbjaaRowE
import Derived.Test.YtkoikofaebfbjaaRomP
import Derived.Test.YtkoikofaebfbjaaGrew
import Derived.Laws.OwnMore
namespace Go.Proofs.Ytkoikofaebfbjaa
open Go.RowKit Go.Sort
set_option linter.unusedVariables false

def intE : Enc Int where
  k := 1
  pos := by decide
  c := fun x => [.int .i64 x]
  len := fun _ => rfl
  one := fun x u hu => by simp at hu; subst hu; rfl
theorem Try.infoN2 : (Try.prog.info? 2).map (fun i => (i.zero, i.size, i.bytes)) = some (some (.int .i64 0), 1, 8) := by kernel_rfl
def In64 (x : Int) : Prop := -9223372036854775808 ≤ x ∧ x ≤ 9223372036854775807
theorem cellsN_at (l : List Int) (j : Nat) (hj : j < l.length) : (cellsE intE l)[j]? = some (.int .i64 l[j]) := by
  have := cellsE_at intE l j hj 0 (by decide)
  rw [show j * intE.k + 0 = j from by show j * 1 + 0 = j; omega] at this
  exact this
theorem Sls.one {w : World} {v : Value} {l : List Int} (h : Sls intE w v l) : ∃ a cap, v = .slice a l.length cap ∧ l.length ≤ cap ∧ cap ≤ maxLen ∧ (0 < l.length → ∃ g o, a = some ⟨g, o, Option.none⟩ ∧ g < w.heap.size ∧
    ∀ j (hj : j < l.length), w.cell? ⟨g, o + j, Option.none⟩ = some (.int .i64 l[j])) := by
  obtain ⟨a, cap, rfl, h1, h2, h3⟩ := h
  refine ⟨a, cap, rfl, h1, h2, fun h0 => ?_⟩
  obtain ⟨g, o, rfl, hg, hc⟩ := h3 h0
  exact ⟨g, o, rfl, hg, fun j hj => hc j _ (cellsN_at l j hj)⟩
abbrev OwnsN := OwnsE intE 2
abbrev HasN := HasE intE 2
theorem ownsN_at {w : World} {B g n cap : Nat} {l : List Int} (h : OwnsN w B (.slice (some ⟨g, 0, Option.none⟩) n cap) l) (j : Nat) (hj : j < l.length) : w.cell? ⟨g, j, Option.none⟩ = some (.int .i64 l[j]) := by
  have := h.at (i := 0) hj (u := .int .i64 l[j]) rfl
  rw [show j * intE.k + 0 = j from by show j * 1 + 0 = j; omega] at this
  exact this
theorem hasN_at {w : World} {B g n cap : Nat} {l : List Int} (h : HasN w B (.slice (some ⟨g, 0, Option.none⟩) n cap) l) (j : Nat) (hj : j < l.length) : w.cell? ⟨g, j, Option.none⟩ = some (.int .i64 l[j]) := by
  have := h.at (i := 0) hj (u := .int .i64 l[j]) rfl
  rw [show j * intE.k + 0 = j from by show j * 1 + 0 = j; omega] at this
  exact this
theorem ownsN_put {w : World} {B g n cap : Nat} {l : List Int} (hn : n = l.length) (h : OwnsN w B (.slice (some ⟨g, 0, Option.none⟩) n cap) l) {j : Nat} (hj : j < l.length) (x : Int) : OwnsN (w.setCell ⟨g, j, Option.none⟩ (.int .i64 x)) B (.slice (some ⟨g, 0, Option.none⟩) n cap) (l.set j x) := by
  have := h.put hn hj (i := 0) (by decide) (.int .i64 x) x rfl
  rw [show j * intE.k + 0 = j from by show j * 1 + 0 = j; omega] at this
  exact this
theorem hasN_put {w : World} {B g n cap : Nat} {l : List Int} (h : HasN w B (.slice (some ⟨g, 0, Option.none⟩) n cap) l) {j : Nat} (hj : j < l.length) (x : Int) : HasN (w.setCell ⟨g, j, Option.none⟩ (.int .i64 x)) B (.slice (some ⟨g, 0, Option.none⟩) n cap) (l.set j x) := by
  have := h.put hj (i := 0) (by decide) (.int .i64 x) x rfl
  rw [show j * intE.k + 0 = j from by show j * 1 + 0 = j; omega] at this
  exact this

/-! ### The laws' helpers -/
theorem madeN (n : Nat) : (madeCells (Value.cells (.int .i64 0)) (n * 1)).toList = cellsE intE (List.replicate n 0) := by
  rw [Nat.mul_one]
  apply List.ext_getElem?
  intro j
  by_cases hj : j < n
  · have e : (madeCells (Value.cells (.int .i64 0)) n).toList[j]? = some (.int .i64 0) := by simp [madeCells, hj, Value.cells, Nat.mod_one]
    rw [e, cellsN_at (List.replicate n 0) j (by simpa using hj)]
    simp
  · rw [List.getElem?_eq_none (by simp [madeCells]; omega), List.getElem?_eq_none (by rw [cellsE_length]; simp; show n * 1 ≤ j; omega)]
/-- Turned so far: the first k, and behind them zero ones. -/
def turnN (l : List Int) (k : Nat) : List Int := l.take k ++ List.replicate (l.length - k) 0
theorem turnN_length (l : List Int) (k : Nat) (hk : k ≤ l.length) : (turnN l k).length = l.length := by unfold turnN; simp; omega
theorem turnN_zero (l : List Int) : turnN l 0 = List.replicate l.length 0 := by simp [turnN]
theorem turnN_all (l : List Int) : turnN l l.length = l := by simp [turnN]
theorem turnN_next (l : List Int) (k : Nat) (hk : k < l.length) : (turnN l k).set k l[k] = turnN l (k + 1) := by
  unfold turnN
  have e : (l.take k).length = k := by simp; omega
  rw [List.set_append_right _ _ (by omega), e, Nat.sub_self, List.take_succ_eq_append_getElem hk, List.append_assoc]
  congr 1
  rw [show l.length - k = (l.length - (k + 1)) + 1 from by omega, List.replicate_succ, List.set_cons_zero]
  rfl
def mkN (j : Nat) : Int := 1 + (j : Int)
def markedN (l : List Int) (k : Nat) : List Int := (List.range k).map mkN ++ l.drop k
def marksN (n : Nat) : List Int := (List.range n).map mkN
theorem markedN_length (l : List Int) (k : Nat) (h : k ≤ l.length) : (markedN l k).length = l.length := by unfold markedN; simp; omega
theorem markedN_zero (l : List Int) : markedN l 0 = l := by simp [markedN]
theorem markedN_all (l : List Int) : markedN l l.length = marksN l.length := by simp [markedN, marksN]
theorem markedN_next (l : List Int) (k : Nat) (h : k < l.length) : (markedN l k).set k (mkN k) = markedN l (k + 1) := by
  unfold markedN
  have e : ((List.range k).map mkN).length = k := by simp
  rw [List.set_append_right _ _ (by omega), e, Nat.sub_self, List.range_succ, List.map_append, List.append_assoc]
  congr 1
  rw [List.drop_eq_getElem_cons h, List.set_cons_zero]
  rfl
theorem marksN_length (n : Nat) : (marksN n).length = n := by simp [marksN]
theorem marksN_at (n j : Nat) (h : j < (marksN n).length) : (marksN n)[j] = mkN j := by simp [marksN]
end Go.Proofs.Ytkoikofaebfbjaa
