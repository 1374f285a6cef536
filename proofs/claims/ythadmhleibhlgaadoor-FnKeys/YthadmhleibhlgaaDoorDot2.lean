/-
  The contracts of the program's stack of texts: push and drop.
-/
import Derived.Test.YthadmhleibhlgaaDoorStr
namespace Go.Proofs.YthadmhleibhlgaaDoor
open Go.RowKit

/-- All blocks below B but b are as they were. -/
def But (b B : Nat) (w w' : World) : Prop := w'.os = w.os ∧ w'.tape = w.tape ∧ w'.output = w.output ∧ w.heap.size ≤ w'.heap.size ∧ ∀ k, k < B → k ≠ b → w'.heap[k]? = w.heap[k]?
theorem But.refl (b B : Nat) (w : World) : But b B w w := ⟨rfl, rfl, rfl, Nat.le_refl _, fun _ _ _ => rfl⟩
theorem But.trans {b B : Nat} {w w' w'' : World} (h : But b B w w') (h' : But b B w' w'') : But b B w w'' :=
  ⟨h'.1.trans h.1, h'.2.1.trans h.2.1, h'.2.2.1.trans h.2.2.1, Nat.le_trans h.2.2.2.1 h'.2.2.2.1, fun k hk hne => (h'.2.2.2.2 k hk hne).trans (h.2.2.2.2 k hk hne)⟩
theorem But.below {b B n : Nat} {w w' : World} (h : But b B w w') (h1 : n ≤ b) (h2 : n ≤ B) : Below n w w' :=
  ⟨h.1, h.2.1, h.2.2.1, h.2.2.2.1, fun k hk => h.2.2.2.2 k (by omega) (by omega)⟩
theorem But.put {b B : Nat} {w : World} (v : Value) : But b B w (w.setCell ⟨b, 0, none⟩ v) := by
  have h := (Below.refl b w).setCell (show b ≤ (⟨b, 0, none⟩ : Addr).block from Nat.le_refl _) v
  exact ⟨h.os, h.tape, h.output, h.size, fun k hk hne => Below.heap_setCell w ⟨b, 0, none⟩ v k hne⟩
theorem But.drew {b B : Nat} {w w' : World} (h : But b B w w') : But b B w w'.drew := h
theorem But.grown {b B : Nat} {w w' : World} {r : Option Nat} (h : w.grownBy w' r) (hr : ∀ k, r = some k → B ≤ k) (hB : B ≤ w.heap.size) : But b B w w' :=
  ⟨h.os, h.tape, h.output, h.size, fun k hk _ => h.block k (by omega) (fun e => by have := hr k e.symm; omega)⟩
/-- A stack in block b: its texts l, in a block from B on. -/
def Stk (w : World) (b B : Nat) (l : List ByteArray) : Prop := ∃ v, w.cell? ⟨b, 0, none⟩ = some v ∧ w.frozen? ⟨b, 0, none⟩ = false ∧ OwnsT w B v l ∧ b < B ∧ b < w.heap.size ∧ B ≤ w.heap.size
/-- What is owned elsewhere is owned behind a store into block b. -/
theorem OwnsT.put {w : World} {B b : Nat} {v : Value} {l : List ByteArray} (h : OwnsT w B v l) (hb : b < B) (u : Value) : OwnsT (w.setCell ⟨b, 0, none⟩ u) B v l := by
  refine ⟨h.1, ?_⟩
  rcases h.2 with h0 | ⟨g, cap, cur, hv, hbg, hg, rest⟩
  · exact .inl h0
  · exact .inr ⟨g, cap, cur, hv, hbg, by rw [Below.heap_setCell w ⟨b, 0, none⟩ u g (by show g ≠ b; omega)]; exact hg, rest⟩
theorem Stk.put {w : World} {b B : Nat} {l : List ByteArray} {v u : Value} (h1 : w.cell? ⟨b, 0, none⟩ = some u) (h2 : w.frozen? ⟨b, 0, none⟩ = false) (h3 : OwnsT w B v l) (h4 : b < B) (h5 : b < w.heap.size) (h6 : B ≤ w.heap.size) : Stk (w.setCell ⟨b, 0, none⟩ v) b B l :=
  ⟨v, World.cell?_setCell_same _ _ _ h1, by rw [World.frozen?_setCell]; exact h2, h3.put h4 v, h4, by rw [World.size_setCell]; exact h5, by rw [World.size_setCell]; exact h6⟩

set_option maxHeartbeats 1000000 in
theorem stkPush (b B : Nat) (l : List ByteArray) (x : ByteArray) (w : World) (h : Stk w b B l) (hl : l.length ≤ 1000000) :
    Calls Tryd.prog 68 #[.pointer (some ⟨b, 0, none⟩), .string x] w fun e w' => e = .returned (.tuple #[]) ∧ Stk w' b B (l ++ [x]) ∧ But b B w w' := by
  obtain ⟨v, hc, hf, hown, hbB, hbw, hBw⟩ := h
  go_enter Tryd.func68, Tryd.ntmps68
  go_wp2_with (at_builtin; refine wpList_pushT _ rfl (.tmp 8) (.tmp 10) rfl B _ _ _ rfl hown rfl (by omega) hBw ?_; intro v2 w2 ho2 hg2; have hne2 : some b ≠ v.ownBlock := (fun e => by have := hown.from b e.symm; omega); have hc2 := hg2.cell (a := ⟨b, 0, none⟩) hc hne2; have hf2 : w2.frozen? ⟨b, 0, none⟩ = false := (World.frozen?_of_block (a := ⟨b, 0, none⟩) (hg2.block b hbw hne2)).trans hf; obtain ⟨a2, cp2, hv2⟩ := ho2.form; rw [List.length_append, List.length_singleton] at hv2; subst hv2)
  first | (refine bodyPost_ret (results_none rfl _ _ _) rfl ?_) | (refine bodyPost_end (results_none rfl _ _ _) rfl ?_)
  exact ⟨rfl, Stk.put hc2 hf2 ho2 hbB (Nat.lt_of_lt_of_le hbw hg2.size) (Nat.le_trans hBw hg2.size), (But.grown hg2 hown.from hBw).trans (But.put _)⟩

set_option maxHeartbeats 1000000 in
theorem stkDrop (b B : Nat) (l : List ByteArray) (w : World) (h : Stk w b B l) (hl : l.length ≤ 1000000) :
    Calls Tryd.prog 67 #[.pointer (some ⟨b, 0, none⟩)] w fun e w' => e = .returned (.tuple #[]) ∧ Stk w' b B l.dropLast ∧ But b B w w' := by
  have h' := h
  obtain ⟨v, hc, hf, hown, hbB, hbw, hBw⟩ := h
  by_cases h0 : l = []
  · subst h0
    obtain ⟨a, cp, hv⟩ := hown.form
    subst hv
    go_enter Tryd.func67, Tryd.ntmps67
    go_wp2
    first | (refine bodyPost_ret (results_none rfl _ _ _) rfl ?_) | (refine bodyPost_end (results_none rfl _ _ _) rfl ?_)
    exact ⟨rfl, h', But.refl _ _ _⟩
  · obtain ⟨g2, cp, rfl, hB2, hz2, hc2, -⟩ := hown.open h0
    have hl0 : 0 < l.length := List.length_pos_iff.2 h0
    have hless := hown.less rfl h0
    have e1 : ((l.length : Int) - 1).toNat = l.length - 1 := by omega
    have e2 : (l.length : Int) - 1 ≤ (cp : Int) := by omega
    have e3 : 0 ≤ (l.length : Int) - 1 := by omega
    have e4 : IntKind.i64.wrap ((l.length : Int) - 1) = (l.length : Int) - 1 := by rw [IntKind.wrap_i64]; omega
    have HS := Stk.put hc hf hless hbB hbw hBw
    have HS' : Hid (Stk (w.setCell ⟨b, 0, none⟩ (.slice (some ⟨g2, 0, none⟩) (l.length - 1) cp)) b B l.dropLast) := HS
    clear HS
    go_enter Tryd.func67, Tryd.ntmps67
    go_wp2
    go_region
    all_goals
      first | (refine bodyPost_ret (results_none rfl _ _ _) rfl ?_) | (refine bodyPost_end (results_none rfl _ _ _) rfl ?_)
      exact ⟨rfl, HS'.out, (But.put _).drew⟩
end Go.Proofs.YthadmhleibhlgaaDoor
