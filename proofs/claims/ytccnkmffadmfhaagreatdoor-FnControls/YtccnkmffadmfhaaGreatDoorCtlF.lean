/-
  The specification's ShowControl by its contract.
-/
import Derived.Test.YtccnkmffadmfhaaGreatDoorCtlE
import Derived.Test.YtccnkmffadmfhaaGreatDoorRowA
import Derived.Test.YtccnkmffadmfhaaGreatDoorIntZ
namespace Go.Proofs.YtccnkmffadmfhaaGreatDoor
open Go.RowKit Go.Sort
set_option linter.unusedVariables false
set_option linter.unusedSimpArgs false

def NL (c : Ct) : List (ByteArray × Int) := [(nmA, c.a), (nmS, c.s), (nmT, c.t)]
def FL (c : Ct) : List (ByteArray × Bool) := [(wdS, c.ns), (wdC, c.nc), (wdP, c.pr), (wdM, c.mu)]
def outN (l : List (ByteArray × Int)) : List ByteArray := l.flatMap fun p => numP p.1 p.2
def outF (l : List (ByteArray × Bool)) : List ByteArray := l.flatMap fun p => flgP p.1 p.2
theorem prt_two (c : Ct) : prtC c = outN (NL c) ++ outF (FL c) := by simp [prtC, outN, outF, NL, FL, List.flatMap_cons, List.append_assoc]
theorem take9 {α : Type} (l : List α) (k : Nat) (h : k < l.length) : l.take (k + 1) = l.take k ++ [l[k]] := by
  rw [List.take_add_one, List.getElem?_eq_getElem h]; rfl
theorem outN_step (l : List (ByteArray × Int)) (k : Nat) (h : k < l.length) : outN (l.take (k + 1)) = outN (l.take k) ++ numP l[k].1 l[k].2 := by
  unfold outN
  rw [take9 l k h, List.flatMap_append]
  simp
theorem outF_step (l : List (ByteArray × Bool)) (k : Nat) (h : k < l.length) : outF (l.take (k + 1)) = outF (l.take k) ++ flgP l[k].1 l[k].2 := by
  unfold outF
  rw [take9 l k h, List.flatMap_append]
  simp
theorem joinC_snoc (l : List ByteArray) (y : ByteArray) (h : l ≠ []) : joinC (l ++ [y]) = joinC l ++ sep8 ++ y := by
  cases l with
  | nil => exact absurd rfl h
  | cons x l => simp [joinC, List.foldl_append]
theorem joinC_step (l : List ByteArray) (k : Nat) (h : k < l.length) (hk : 0 < k) : joinC (l.take (k + 1)) = joinC (l.take k) ++ sep8 ++ l[k] := by
  rw [take9 l k h]
  exact joinC_snoc _ _ (fun e => by have h2 := congrArg List.length e; rw [List.length_take] at h2; simp only [List.length_nil] at h2; omega)
theorem joinC_first (l : List ByteArray) (h : 0 < l.length) : joinC (l.take 1) = l[0] := by
  cases l with
  | nil => simp at h
  | cons x l => rfl
theorem numP_size {s : ByteArray} {n : Int} (hs : s.size ≤ 10) (hn : n ≤ 1000000000) : ∀ p ∈ numP s n, p.size ≤ 29 := by
  intro p hp
  unfold numP at hp
  split at hp
  · have : p = s ++ itoS n.toNat := by simpa using hp
    have h2 := itoS_size (n := n.toNat) (by omega)
    rw [this, ByteArray.size_append]
    omega
  · simp at hp
theorem flgP_size {s : ByteArray} {b : Bool} (hs : s.size ≤ 15) : ∀ p ∈ flgP s b, p.size ≤ 29 := by
  intro p hp
  unfold flgP at hp
  split at hp
  · have : p = s := by simpa using hp
    rw [this]
    omega
  · simp at hp
theorem prt_size {c : Ct} (h : ctB c = true) : (∀ p ∈ prtC c, p.size ≤ 29) := by
  obtain ⟨h1, h2, h3⟩ := ctB_iff.1 h
  have h1 := (secB_iff.1 h1).2
  have h2 := (secB_iff.1 h2).2
  have h3 := (secB_iff.1 h3).2
  intro p hp
  unfold prtC at hp
  simp only [List.mem_append] at hp
  rcases hp with hp | hp | hp | hp | hp | hp | hp
  · exact numP_size (s := nmA) (by decide) h1 p hp
  · exact numP_size (s := nmS) (by decide) h2 p hp
  · exact numP_size (s := nmT) (by decide) h3 p hp
  · exact flgP_size (s := wdS) (by decide) p hp
  · exact flgP_size (s := wdC) (by decide) p hp
  · exact flgP_size (s := wdP) (by decide) p hp
  · exact flgP_size (s := wdM) (by decide) p hp
theorem numP_len (s : ByteArray) (n : Int) : (numP s n).length ≤ 1 := by unfold numP; split <;> simp
theorem flgP_len (s : ByteArray) (b : Bool) : (flgP s b).length ≤ 1 := by unfold flgP; split <;> simp
theorem outN_len (l : List (ByteArray × Int)) : (outN l).length ≤ l.length := by
  induction l with
  | nil => simp [outN]
  | cons p l ih =>
    have := numP_len p.1 p.2
    unfold outN at ih ⊢
    rw [List.flatMap_cons, List.length_append, List.length_cons]
    omega
theorem outF_len (l : List (ByteArray × Bool)) : (outF l).length ≤ l.length := by
  induction l with
  | nil => simp [outF]
  | cons p l ih =>
    have := flgP_len p.1 p.2
    unfold outF at ih ⊢
    rw [List.flatMap_cons, List.length_append, List.length_cons]
    omega
/-- Two rows beside each other, texts and what belongs to them. -/
structure TabB {α : Type} (w : World) (b : Nat) (f : α → Value) (l : List (ByteArray × α)) : Prop where
  hi : b + 1 < w.heap.size
  at1 : ∀ j (hj : j < l.length), w.cell? ⟨b, j, Option.none⟩ = some (.string l[j].1)
  at2 : ∀ j (hj : j < l.length), w.cell? ⟨b + 1, j, Option.none⟩ = some (f l[j].2)
theorem TabB.same {α : Type} {w w' : World} {b : Nat} {f : α → Value} {l : List (ByteArray × α)} (h : TabB w b f l) (e1 : w'.heap[b]? = w.heap[b]?) (e2 : w'.heap[b + 1]? = w.heap[b + 1]?) (hs : w.heap.size ≤ w'.heap.size) : TabB w' b f l where
  hi := Nat.lt_of_lt_of_le h.hi hs
  at1 := fun j hj => (World.cell?_of_block (a := ⟨b, j, Option.none⟩) e1).trans (h.at1 j hj)
  at2 := fun j hj => (World.cell?_of_block (a := ⟨b + 1, j, Option.none⟩) e2).trans (h.at2 j hj)
theorem TabB.kept {α : Type} {w w' : World} {b : Nat} {f : α → Value} {l : List (ByteArray × α)} (h : TabB w b f l) (hb : Below w.heap.size w w') : TabB w' b f l :=
  h.same (hb.block b (by have := h.hi; omega)) (hb.block (b + 1) h.hi) hb.size
theorem TabB.grown {α : Type} {w w' : World} {b g : Nat} {f : α → Value} {l : List (ByteArray × α)} (h : TabB w b f l) (hg : w.grownBy w' (some g)) (h1 : g ≠ b) (h2 : g ≠ b + 1) : TabB w' b f l :=
  h.same (hg.block b (by have := h.hi; omega) (fun e => h1 (Option.some.inj e).symm)) (hg.block (b + 1) h.hi (fun e => h2 (Option.some.inj e).symm)) hg.size
theorem TabB.born {α : Type} (w : World) (f : α → Value) (l : List (ByteArray × α)) (c1 c2 : Array Value) (t1 t2 : TypeId) (h1 : c1.toList = l.map fun p => Value.string p.1) (h2 : c2.toList = l.map fun p => f p.2) : TabB ((w.alloc (.cells c1 t1)).alloc (.cells c2 t2)) w.heap.size f l where
  hi := by simp
  at1 := fun j hj => by
    rw [World.cell?_of_block (w := w.alloc (.cells c1 t1)) (a := ⟨w.heap.size, j, Option.none⟩) (Below.heap_alloc (w.alloc (.cells c1 t1)) _ _ (by simp)), World.cell?_alloc_mark]
    have : c1[j]? = some (Value.string l[j].1) := by rw [← Array.getElem?_toList, h1]; simp [hj]
    simpa using this
  at2 := fun j hj => by
    have e : w.heap.size + 1 = (w.alloc (.cells c1 t1)).heap.size := by simp
    rw [e, World.cell?_alloc_mark]
    have : c2[j]? = some (f l[j].2) := by rw [← Array.getElem?_toList, h2]; simp [hj]
    simpa using this
end Go.Proofs.YtccnkmffadmfhaaGreatDoor
