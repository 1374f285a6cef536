/-
  A region that draws its order and ends in a store: what each operation leaves is good for as long as its block stays.
  Slices of texts that came in or that a call made: how they are read; the laws' own helpers for them.
  Plain facts on what parts are written as.
-/
import Derived.Test.YteibacmohplblaaGreatDoorG29
import Derived.Test.YteibacmohplblaaGreatDoorG12
import Derived.Test.YteibacmohplblaaGreatDoorG07
import Derived.Test.YteibacmohplblaaGreatDoorG10
import Derived.SliceStrings
import Derived.Deep.QuietTactic
import Derived.BigQuiet
import Derived.Laws.OwnMore
import Derived.Test.YteibacmohplblaaGreatDoorG19
import Derived.Deep.RegionLaw
namespace Go.Proofs.YteibacmohplblaaGreatDoor
open Go.RowKit Go.Sort
set_option linter.unusedVariables false

/-- Whichever of the operations 0 .. N - 1 are done, what they left is good; behind operation N all are done. -/
structure CondG (G : World → Nat → Value → Prop) (d : Nat → Nat) (N : Nat) (Fin : (Nat → Value) → World → Prop) (L : Nat → Bool) (t : Nat → Value) (w : World) : Prop where
  en : L N = true → (∀ i, i < N → L i = true) ∧ Fin t w
  ok : L N = false → ∀ i, i < N → L i = true → G w i (t (d i))
theorem CondG.none {G : World → Nat → Value → Prop} {d : Nat → Nat} {N : Nat} {Fin : (Nat → Value) → World → Prop} {t : Nat → Value} {w : World} : CondG G d N Fin (fun _ => false) t w :=
  ⟨fun h => (by cases h), fun _ _ _ h => (by cases h)⟩
theorem CondG.not {G : World → Nat → Value → Prop} {d : Nat → Nat} {N : Nat} {Fin : (Nat → Value) → World → Prop} {L : Nat → Bool} {t : Nat → Value} {w : World} (C : CondG G d N Fin L t w) {i : Nat} (hi : L i = false) (hN : i ≤ N) : L N = false := by
  cases h : L N with
  | false => rfl
  | true =>
    rcases Nat.lt_or_eq_of_le hN with h1 | rfl
    · rw [(C.en h).1 i h1] at hi; cases hi
    · rw [h] at hi; cases hi
theorem CondG.got {G : World → Nat → Value → Prop} {d : Nat → Nat} {N : Nat} {Fin : (Nat → Value) → World → Prop} {L : Nat → Bool} {t : Nat → Value} {w : World} (C : CondG G d N Fin L t w) {i : Nat} (hi : L i = false) (hN : i ≤ N) (j : Nat) (hj : j < N) (hl : L j = true) : G w j (t (d j)) := C.ok (C.not hi hN) j hj hl
theorem CondG.put {G : World → Nat → Value → Prop} {d : Nat → Nat} {N : Nat} {Fin : (Nat → Value) → World → Prop} {L : Nat → Bool} {t : Nat → Value} {w w' : World} (C : CondG G d N Fin L t w) {i : Nat} (hi : L i = false) (hN : i < N) {v : Value} (hd : ∀ j, j < N → j ≠ i → d j ≠ d i) (hk : ∀ j u, j < N → G w j u → G w' j u) (hg : G w' i v) : CondG G d N Fin (upd L i true) (upd t (d i) v) w' := by
  have hLN := C.not hi (Nat.le_of_lt hN)
  refine ⟨fun h => ?_, fun _ j hj hl => ?_⟩
  · rw [show upd L i true N = L N from if_neg (by omega), hLN] at h; cases h
  · by_cases e : j = i
    · subst e
      rw [show upd t (d j) v (d j) = v from if_pos rfl]
      exact hg
    · rw [show upd L i true j = L j from if_neg e] at hl
      rw [show upd t (d i) v (d j) = t (d j) from if_neg (hd j hj e)]
      exact hk j _ hj (C.ok hLN j hj hl)
theorem CondG.last {G : World → Nat → Value → Prop} {d : Nat → Nat} {N : Nat} {Fin : (Nat → Value) → World → Prop} {L : Nat → Bool} {t : Nat → Value} {w' : World} (hall : ∀ i, i < N → L i = true) (hF : Fin t w') : CondG G d N Fin (upd L N true) t w' := by
  refine ⟨fun _ => ⟨fun i hi => ?_, hF⟩, fun h => ?_⟩
  · rw [show upd L N true i = L i from if_neg (by omega)]; exact hall i hi
  · rw [show upd L N true N = true from if_pos rfl] at h; cases h

theorem OwnsF.keep {w w' : World} {B b : Nat} {v : Value} {l : List Fl} (h : OwnsF w B v l) (hk : Keep b w w') (hB : b < B) : OwnsF w' B v l := by
  refine ⟨h.1, ?_⟩
  rcases h.2 with h0 | ⟨g, cap, cur, hv, hbg, hg, rest⟩
  · exact .inl h0
  · exact .inr ⟨g, cap, cur, hv, hbg, hk g _ (by omega) hg, rest⟩
/-- A store into a block of another type leaves the row. -/
theorem OwnsF.besides {w : World} {B g k : Nat} {v : Value} {l : List Fl} {c : Array Value} {T : TypeId} {fr : Nat × Nat} (h : OwnsF w B v l) (hg : w.heap[g]? = some (.cells c T fr)) (hT : T ≠ 81) (x : Value) : OwnsF (w.setCell ⟨g, k, none⟩ x) B v l := by
  refine ⟨h.1, ?_⟩
  rcases h.2 with h0 | ⟨g', cap, cur, hv, hbg, hg', rest⟩
  · exact .inl h0
  · refine .inr ⟨g', cap, cur, hv, hbg, ?_, rest⟩
    rw [Below.heap_setCell _ _ _ _ (show g' ≠ g from fun e => by subst e; rw [hg] at hg'; injection hg' with e; injection e with _ e _; exact hT e)]
    exact hg'
/-- Few fields, each of them small. -/
def SmallG (l : List Fl) : Prop := l.length ≤ 40 ∧ ∀ f ∈ l, f.1.size ≤ 20 ∧ f.2.size ≤ 20
theorem SmallF.more {l : List Fl} (h : SmallF l) : SmallG l := ⟨by have := h.1; omega, fun f hf => by have := h.2 f hf; omega⟩
theorem SmallG.sz {l : List Fl} (h : SmallG l) : szL l ≤ 1600 := by
  have : ∀ (l : List Fl), (∀ f ∈ l, f.1.size ≤ 20 ∧ f.2.size ≤ 20) → szL l ≤ 40 * l.length := by
    intro l
    induction l with
    | nil => intro _; exact Nat.zero_le _
    | cons f l ih =>
      intro h
      have h1 := h f (by simp)
      have h2 := ih fun g hg => h g (by simp [hg])
      have e : szL (f :: l) = szF f + szL l := by simp [szL]
      rw [e, List.length_cons]
      unfold szF
      omega
  have h2 := this l h.2
  have := h.1
  omega
def hasFl (n : Nat) (w : World) (v : Value) : Prop := ∃ l, OwnsF w n v l ∧ SmallG l
end Go.Proofs.YteibacmohplblaaGreatDoor
namespace Go.Proofs.YteibacmohplblaaGreatDoor
open Go.RowKit

theorem Tryz.info9p : (Tryz.prog.info? 9).map (fun i => (i.zero, i.size, i.bytes)) = some (some (.string ⟨#[]⟩), 1, 16) := by kernel_rfl
/-- The slice v holds the texts l. -/
def StrsP (w : World) (v : Value) (l : List ByteArray) : Prop := ∃ a cap, v = .slice a l.length cap ∧ l.length ≤ cap ∧ cap ≤ maxLen ∧ (0 < l.length → ∃ g o, a = some ⟨g, o, none⟩ ∧ g < w.heap.size ∧ ∀ j (hj : j < l.length), w.cell? ⟨g, o + j, none⟩ = some (.string l[j]))
theorem StrsP.kept {w w' : World} {v : Value} {l : List ByteArray} (h : StrsP w v l) (hb : Below w.heap.size w w') : StrsP w' v l := by
  obtain ⟨a, cap, h1, h2, h3, h4⟩ := h
  refine ⟨a, cap, h1, h2, h3, fun h0 => ?_⟩
  obtain ⟨g, o, h5, h6, h7⟩ := h4 h0
  exact ⟨g, o, h5, Nat.lt_of_lt_of_le h6 hb.size, fun j hj => (hb.cell (p := ⟨g, o + j, none⟩) h6).trans (h7 j hj)⟩
theorem StrsP.drew {w : World} {v : Value} {l : List ByteArray} (h : StrsP w v l) : StrsP w.drew v l := h
/-- The value v owns the texts l, in a block from B on. -/
def OwnsP (w : World) (B : Nat) (v : Value) (l : List ByteArray) : Prop := w.ownsRow B 9 1 v l.length (l.map Value.string)
theorem OwnsP.strs {w : World} {B : Nat} {v : Value} {l : List ByteArray} (h : OwnsP w B v l) : StrsP w v l := by
  have hh := h
  rcases h.2 with ⟨rfl, h0⟩ | ⟨g, cap, cur, rfl, hb, hg, hc, hm, rest⟩
  · exact ⟨none, 0, by rw [h0], by omega, Nat.zero_le _, fun x => by omega⟩
  · refine ⟨_, cap, rfl, hc, hm, fun _ => ⟨g, 0, rfl, (Array.getElem?_eq_some_iff.1 hg).1, fun j hj => ?_⟩⟩
    have := World.ownsRow.cells hh (g := g) rfl j (.string l[j]) (by rw [List.getElem?_map, List.getElem?_eq_getElem hj]; rfl)
    rw [addr_add] at this
    exact this
theorem sumP_take (l : List ByteArray) (k : Nat) : sumP (l.take k) ≤ sumP l := by
  induction l generalizing k with
  | nil => simp
  | cons p l ih =>
    cases k with
    | zero => simp [sumP]
    | succ k => rw [List.take_succ_cons, sumP_cons, sumP_cons]; have := ih k; omega
theorem sumP_next {l : List ByteArray} {k : Nat} (h : k < l.length) : sumP (l.take (k + 1)) = sumP (l.take k) + l[k].size := by
  rw [List.take_succ_eq_append_getElem h, sumP_snoc]
theorem sumP_at {l : List ByteArray} {k : Nat} (h : k < l.length) : l[k].size ≤ sumP l := by
  have := sumP_next h
  have := sumP_take l (k + 1)
  omega
theorem ret_i64p {a b : Int} (h : a = b) : Ending.returned (.int .i64 a) = .returned (.int .i64 b) := by rw [h]

/-- The law's own measure. -/
def szP (l : List ByteArray) : Int := if l.length + sumP l ≤ 1048576 then 1048576 - (l.length : Int) - (sumP l : Int) else -1
theorem szP_yes {l : List ByteArray} (h : l.length + sumP l ≤ 1048576) : (1048576 : Int) - (l.length : Int) - (sumP l : Int) = szP l := by unfold szP; rw [if_pos h]
theorem szP_no {l : List ByteArray} (h : ¬ l.length + sumP l ≤ 1048576) : (-1 : Int) = szP l := by unfold szP; rw [if_neg h]
/-- Turned so far: the first k, and behind them empty ones. -/
def turnP (l : List ByteArray) (k : Nat) : List ByteArray := l.take k ++ List.replicate (l.length - k) ⟨#[]⟩
theorem turnP_length (l : List ByteArray) (k : Nat) (hk : k ≤ l.length) : (turnP l k).length = l.length := by unfold turnP; simp; omega
theorem turnP_all (l : List ByteArray) : turnP l l.length = l := by simp [turnP]
theorem turnP_next (l : List ByteArray) (k : Nat) (hk : k < l.length) : (turnP l k).set k l[k] = turnP l (k + 1) := by
  unfold turnP
  have e : (l.take k).length = k := by simp; omega
  rw [List.set_append_right _ _ (by omega), e, Nat.sub_self, List.take_succ_eq_append_getElem hk, List.append_assoc]
  congr 1
  rw [show l.length - k = (l.length - (k + 1)) + 1 from by omega, List.replicate_succ, List.set_cons_zero]
  rfl
theorem OwnsP.put {w : World} {B g cap n : Nat} {l : List ByteArray} (h : OwnsP w B (.slice (some ⟨g, 0, none⟩) n cap) l) (hn : n = l.length) (k : Nat) (s : ByteArray) : OwnsP (w.setCell ⟨g, k, none⟩ (.string s)) B (.slice (some ⟨g, 0, none⟩) n cap) (l.set k s) := by
  subst hn
  rcases h.2 with ⟨e, _⟩ | ⟨g', cap', cur, e, hb, hg, hc, hm, hz, rest⟩
  · cases e
  · obtain ⟨rfl, rfl⟩ : g = g' ∧ cap = cap' := by simpa using e
    refine ⟨by simp, .inr ⟨g, cap, cur.setIfInBounds k (.string s), by simp, hb, ?_, by simpa using hc, hm, by simpa using hz, ?_⟩⟩
    · rw [setCell_eq_setRow w g k cur 9 (0, 0) _ hg]
      exact setRow_heap w g cur _ 9 _ hg
    · simp only [Nat.mul_one] at rest ⊢
      rw [List.length_set, Array.toList_setIfInBounds, List.take_set, rest, List.map_set]
theorem OwnsP.at {w : World} {B g cap n : Nat} {l : List ByteArray} (h : OwnsP w B (.slice (some ⟨g, 0, none⟩) n cap) l) (hn : n = l.length) (k : Nat) (hk : k < l.length) : w.cell? ⟨g, k, none⟩ = some (.string l[k]) ∧ w.frozen? ⟨g, k, none⟩ = false := by
  subst hn
  refine ⟨?_, World.ownsRow.frozenAt h k⟩
  have := World.ownsRow.cells h (g := g) rfl k (.string l[k]) (by rw [List.getElem?_map, List.getElem?_eq_getElem hk]; rfl)
  rw [addr_add, Nat.zero_add] at this
  exact this
theorem made_strs (n : Nat) : (madeCells (Value.cells (.string ⟨#[]⟩)) (n * 1)).toList = (List.replicate n (⟨#[]⟩ : ByteArray)).map Value.string := by
  have e := toList_madeCells_one (.string ⟨#[]⟩) (n * 1)
  rw [show (Value.string ⟨#[]⟩).cells = #[.string ⟨#[]⟩] from rfl, e, Nat.mul_one, List.map_replicate]
theorem make_strs (w : World) (n : Nat) (hn : n ≤ 1048576) : ∃ w', (Instr.makeSlice 74 (.int .i64 (n : Int)) (.int .i64 (n : Int))).run Tryz.prog w = .ok (.slice (some ⟨w.heap.size, 0, none⟩) n n) w' ∧ OwnsP w' w.heap.size (.slice (some ⟨w.heap.size, 0, none⟩) n n) (List.replicate n ⟨#[]⟩) ∧ Below w.heap.size w w' := by
  obtain ⟨i0, hi, hz0, hz1, hz2⟩ := info_parts Tryz.info9p
  obtain ⟨w0, hrun, hown, hgr⟩ := run_make_full (P := Tryz.prog) w w.heap.size 74 9 i0 (.string ⟨#[]⟩) 1 Tryz.underlying74 hi hz0 hz1 .i64 .i64 n (by rw [hz2]; omega) (by unfold maxLen; omega) (Nat.le_refl _)
  rw [made_strs] at hown
  refine ⟨w0, hrun, ?_, (Below.refl _ w).grown hgr (Nat.le_refl _) (fun j hj => by cases hj)⟩
  unfold OwnsP
  rw [List.length_replicate]
  exact hown

end Go.Proofs.YteibacmohplblaaGreatDoor
namespace Go.Proofs.YteibacmohplblaaGreatDoor
open Go.RowKit

theorem hexL_list {n : Nat} (h : n ≤ 4503599627370496) : (hexA (n : Int)).data.toList = hexF 13 n := by rw [← hexA_yes h]; rfl
theorem hexA_fits {n : Nat} (h : n ≤ 4503599627370496) : (hexA (n : Int)).size ≤ 14 := hexA_size n h
theorem oneL_none {p : ByteArray} (h : p.size = 0) : oneL p = [] := by unfold oneL; rw [if_pos h]
theorem oneL_some {p : ByteArray} (h : ¬ p.size = 0) : oneL p = hexF 13 p.size ++ [13, 10] ++ p.data.toList ++ [13, 10] := by unfold oneL; rw [if_neg h]
theorem flat_next {l : List ByteArray} {k : Nat} (h : k < l.length) : (l.take (k + 1)).flatMap oneL = (l.take k).flatMap oneL ++ oneL l[k] := by
  rw [List.take_succ_eq_append_getElem h, List.flatMap_append]
  simp
theorem oneL_length (p : ByteArray) : (oneL p).length ≤ p.size + 18 := by
  by_cases h0 : p.size = 0
  · rw [oneL_none h0]; simp
  · rw [oneL_some h0]
    have h1 := hexF_most 13 p.size
    have h2 : p.data.toList.length = p.size := by simp
    simp only [List.length_append, h2]
    simp
    omega
theorem flat_length (l : List ByteArray) (h : sumP l ≤ 100000000) : (l.flatMap oneL).length ≤ sumP l + 18 * l.length := by
  induction l with
  | nil => simp [sumP]
  | cons p l ih =>
    rw [sumP_cons] at h ⊢
    rw [List.flatMap_cons, List.length_append, List.length_cons]
    have := ih (by omega)
    have := oneL_length p
    omega
theorem few_take {l : List ByteArray} (h : fewP l) (k : Nat) : ((l.take k).flatMap oneL).length ≤ 5800 := by
  have h1 := sumP_take l k
  have h2 := h.1
  have h3 := h.2
  have h4 := flat_length (l.take k) (by omega)
  have h5 : (l.take k).length ≤ l.length := by rw [List.length_take]; exact Nat.min_le_right _ _
  omega
theorem full5 {x : ByteArray} (h : ¬ x.size = 0) : ¬ x.toList = [] := full' (by omega)
theorem void5 {x : ByteArray} (h : x.size = 0) : x.toList = [] := void' (by omega)
theorem crlf_list : (⟨#[13, 10]⟩ : ByteArray).data.toList = [13, 10] := rfl
theorem crlf_size : (⟨#[13, 10]⟩ : ByteArray).size = 2 := rfl
theorem zero_list : (⟨#[48]⟩ : ByteArray).data.toList = [48] := rfl
theorem ret_str {a b : ByteArray} (h : a = b) : Ending.returned (.string a) = .returned (.string b) := by rw [h]

end Go.Proofs.YteibacmohplblaaGreatDoor
