/-
  Slices of texts that came in or that a call made: how they are read; the laws' own helpers for them.
-/
import Derived.Test.YtbdnfajdpajfpaaChkP
import Derived.Test.YtbdnfajdpajfpaaAps
import Derived.SliceStrings
import Derived.Deep.QuietTactic
import Derived.BigQuiet
import Derived.Laws.OwnMore
namespace Go.Proofs.Ytbdnfajdpajfpaa
open Go.RowKit

theorem Try.info9p : (Try.prog.info? 9).map (fun i => (i.zero, i.size, i.bytes)) = some (some (.string ⟨#[]⟩), 1, 16) := by kernel_rfl
/-- The slice v holds the texts l. -/
def Strs (w : World) (v : Value) (l : List ByteArray) : Prop := ∃ a cap, v = .slice a l.length cap ∧ l.length ≤ cap ∧ cap ≤ maxLen ∧ (0 < l.length → ∃ g o, a = some ⟨g, o, none⟩ ∧ g < w.heap.size ∧ ∀ j (hj : j < l.length), w.cell? ⟨g, o + j, none⟩ = some (.string l[j]))
theorem Strs.kept {w w' : World} {v : Value} {l : List ByteArray} (h : Strs w v l) (hb : Below w.heap.size w w') : Strs w' v l := by
  obtain ⟨a, cap, h1, h2, h3, h4⟩ := h
  refine ⟨a, cap, h1, h2, h3, fun h0 => ?_⟩
  obtain ⟨g, o, h5, h6, h7⟩ := h4 h0
  exact ⟨g, o, h5, Nat.lt_of_lt_of_le h6 hb.size, fun j hj => (hb.cell (p := ⟨g, o + j, none⟩) h6).trans (h7 j hj)⟩
theorem Strs.drew {w : World} {v : Value} {l : List ByteArray} (h : Strs w v l) : Strs w.drew v l := h
/-- The value v owns the texts l, in a block from B on. -/
def OwnsP (w : World) (B : Nat) (v : Value) (l : List ByteArray) : Prop := w.ownsRow B 9 1 v l.length (l.map Value.string)
theorem OwnsP.strs {w : World} {B : Nat} {v : Value} {l : List ByteArray} (h : OwnsP w B v l) : Strs w v l := by
  have hh := h
  rcases h.2 with ⟨rfl, h0⟩ | ⟨g, cap, cur, rfl, hb, hg, hc, hm, rest⟩
  · exact ⟨none, 0, by rw [h0], by omega, Nat.zero_le _, fun x => by omega⟩
  · refine ⟨_, cap, rfl, hc, hm, fun _ => ⟨g, 0, rfl, (Array.getElem?_eq_some_iff.1 hg).1, fun j hj => ?_⟩⟩
    have := World.ownsRow.cells hh (g := g) rfl j (.string l[j]) (by rw [List.getElem?_map, List.getElem?_eq_getElem hj]; rfl)
    rw [addr_add] at this
    exact this
theorem sumP_take (l : List ByteArray) (k : Nat) : sumP (l.take k) ≤ sumP l := by
  induction l generalizing k with
  | nil => simp
  | cons p l ih =>
    cases k with
    | zero => simp [sumP]
    | succ k => rw [List.take_succ_cons, sumP_cons, sumP_cons]; have := ih k; omega
theorem sumP_next {l : List ByteArray} {k : Nat} (h : k < l.length) : sumP (l.take (k + 1)) = sumP (l.take k) + l[k].size := by
  rw [List.take_succ_eq_append_getElem h, sumP_snoc]
theorem sumP_at {l : List ByteArray} {k : Nat} (h : k < l.length) : l[k].size ≤ sumP l := by
  have := sumP_next h
  have := sumP_take l (k + 1)
  omega
theorem ret_i64p {a b : Int} (h : a = b) : Ending.returned (.int .i64 a) = .returned (.int .i64 b) := by rw [h]

/-- The law's own measure. -/
def szP (l : List ByteArray) : Int := if l.length + sumP l ≤ 1048576 then 1048576 - (l.length : Int) - (sumP l : Int) else -1
theorem szP_yes {l : List ByteArray} (h : l.length + sumP l ≤ 1048576) : (1048576 : Int) - (l.length : Int) - (sumP l : Int) = szP l := by unfold szP; rw [if_pos h]
theorem szP_no {l : List ByteArray} (h : ¬ l.length + sumP l ≤ 1048576) : (-1 : Int) = szP l := by unfold szP; rw [if_neg h]
/-- Turned so far: the first k, and behind them empty ones. -/
def turnP (l : List ByteArray) (k : Nat) : List ByteArray := l.take k ++ List.replicate (l.length - k) ⟨#[]⟩
theorem turnP_length (l : List ByteArray) (k : Nat) (hk : k ≤ l.length) : (turnP l k).length = l.length := by unfold turnP; simp; omega
theorem turnP_all (l : List ByteArray) : turnP l l.length = l := by simp [turnP]
theorem turnP_next (l : List ByteArray) (k : Nat) (hk : k < l.length) : (turnP l k).set k l[k] = turnP l (k + 1) := by
  unfold turnP
  have e : (l.take k).length = k := by simp; omega
  rw [List.set_append_right _ _ (by omega), e, Nat.sub_self, List.take_succ_eq_append_getElem hk, List.append_assoc]
  congr 1
  rw [show l.length - k = (l.length - (k + 1)) + 1 from by omega, List.replicate_succ, List.set_cons_zero]
  rfl
theorem OwnsP.put {w : World} {B g cap n : Nat} {l : List ByteArray} (h : OwnsP w B (.slice (some ⟨g, 0, none⟩) n cap) l) (hn : n = l.length) (k : Nat) (s : ByteArray) : OwnsP (w.setCell ⟨g, k, none⟩ (.string s)) B (.slice (some ⟨g, 0, none⟩) n cap) (l.set k s) := by
  subst hn
  rcases h.2 with ⟨e, _⟩ | ⟨g', cap', cur, e, hb, hg, hc, hm, hz, rest⟩
  · cases e
  · obtain ⟨rfl, rfl⟩ : g = g' ∧ cap = cap' := by simpa using e
    refine ⟨by simp, .inr ⟨g, cap, cur.setIfInBounds k (.string s), by simp, hb, ?_, by simpa using hc, hm, by simpa using hz, ?_⟩⟩
    · rw [setCell_eq_setRow w g k cur 9 (0, 0) _ hg]
      exact setRow_heap w g cur _ 9 _ hg
    · simp only [Nat.mul_one] at rest ⊢
      rw [List.length_set, Array.toList_setIfInBounds, List.take_set, rest, List.map_set]
theorem OwnsP.at {w : World} {B g cap n : Nat} {l : List ByteArray} (h : OwnsP w B (.slice (some ⟨g, 0, none⟩) n cap) l) (hn : n = l.length) (k : Nat) (hk : k < l.length) : w.cell? ⟨g, k, none⟩ = some (.string l[k]) ∧ w.frozen? ⟨g, k, none⟩ = false := by
  subst hn
  refine ⟨?_, World.ownsRow.frozenAt h k⟩
  have := World.ownsRow.cells h (g := g) rfl k (.string l[k]) (by rw [List.getElem?_map, List.getElem?_eq_getElem hk]; rfl)
  rw [addr_add, Nat.zero_add] at this
  exact this
theorem made_strs (n : Nat) : (madeCells (Value.cells (.string ⟨#[]⟩)) (n * 1)).toList = (List.replicate n (⟨#[]⟩ : ByteArray)).map Value.string := by
  have e := toList_madeCells_one (.string ⟨#[]⟩) (n * 1)
  rw [show (Value.string ⟨#[]⟩).cells = #[.string ⟨#[]⟩] from rfl, e, Nat.mul_one, List.map_replicate]
theorem make_strs (w : World) (n : Nat) (hn : n ≤ 1048576) : ∃ w', (Instr.makeSlice 60 (.int .i64 (n : Int)) (.int .i64 (n : Int))).run Try.prog w = .ok (.slice (some ⟨w.heap.size, 0, none⟩) n n) w' ∧ OwnsP w' w.heap.size (.slice (some ⟨w.heap.size, 0, none⟩) n n) (List.replicate n ⟨#[]⟩) ∧ Below w.heap.size w w' := by
  obtain ⟨i0, hi, hz0, hz1, hz2⟩ := info_parts Try.info9p
  obtain ⟨w0, hrun, hown, hgr⟩ := run_make_full (P := Try.prog) w w.heap.size 60 9 i0 (.string ⟨#[]⟩) 1 Try.underlying60 hi hz0 hz1 .i64 .i64 n (by rw [hz2]; omega) (by unfold maxLen; omega) (Nat.le_refl _)
  rw [made_strs] at hown
  refine ⟨w0, hrun, ?_, (Below.refl _ w).grown hgr (Nat.le_refl _) (fun j hj => by cases hj)⟩
  unfold OwnsP
  rw [List.length_replicate]
  exact hown

end Go.Proofs.Ytbdnfajdpajfpaa
