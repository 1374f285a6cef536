/-
  Drawn lists of spans: whatever the code, few spans of int64.
-/
import Derived.Test.YtamfgjgmnnnjpaaDoorSpnM
import Derived.Test.YtamfgjgmnnnjpaaDoorDrT
namespace Go.Proofs.YtamfgjgmnnnjpaaDoor
open Go.RowKit Go.Sort
set_option linter.unusedVariables false

theorem OwnsE.bs {α : Type} {E : Enc α} {ty : TypeId} {w w' : World} {B b : Nat} {v : Value} {l : List α} (h : OwnsE E ty w B v l) (hb : Beside b w w') (hB : b < B) : OwnsE E ty w' B v l := by
  refine ⟨h.1, ?_⟩
  rcases h.2 with h0 | ⟨g, cap, cur, hv, hbg, hg, rest⟩
  · exact .inl h0
  · exact .inr ⟨g, cap, cur, hv, hbg, by rw [hb.2.2.2.2 g (Array.getElem?_eq_some_iff.1 hg).1 (by omega)]; exact hg, rest⟩
theorem Cur.more8 {w : World} {b : Nat} {sa : Option Addr} {sl sc : Nat} (h : Cur w b sa sl sc) (o : Obj) : Cur (w.alloc o) b sa sl sc := h.kept ((Below.refl _ w).alloc (Nat.le_refl _) _) h.2.2.1
theorem Beside.more8 {g : Nat} {a w : World} (h : Beside g a w) (o : Obj) : Beside g a (w.alloc o) := h.below ((Below.refl _ w).alloc (Nat.le_refl _) _)
theorem Code8.up8 {w : World} {b b' : Nat} {sa : Option Addr} {sl : Nat} (h : Code8 w b sa sl) (hb : b ≤ b') : Code8 w b' sa sl := by
  intro j hj
  obtain ⟨g, o, z, h1, h2, h3⟩ := h j hj
  exact ⟨g, o, z, h1, by omega, h3⟩
theorem l1FromZ (b : Nat) (sa : Option Addr) (sl sc : Nat) (lo hi : Int) (h1 : -1000 ≤ lo) (h2 : lo ≤ hi) (h3 : hi ≤ 1000) (w : World) (hc : Cur w b sa sl sc) :
    Calls Tryd.prog 34 #[.pointer (some ⟨b, 0, Option.none⟩), .int .i64 lo, .int .i64 hi] w fun e w' => ∃ x : Int, e = .returned (.int .i64 x) ∧ lo ≤ x ∧ x ≤ hi ∧ Cur w' b sa sl sc ∧ Beside b w w' := by
  have e1 : IntKind.i64.wrap (hi - lo) = hi - lo := by rw [IntKind.wrap_i64]; omega
  have e2 : IntKind.i64.wrap (hi - lo + 1) = hi - lo + 1 := by rw [IntKind.wrap_i64]; omega
  have hB := fun W hW => l1Below b sa sl sc (hi - lo + 1) (by omega) (by omega) W hW
  go_enter Tryd.func34, Tryd.ntmps34
  go_wp2_with fail
  refine (hB _ hc).mono ?_
  rintro e w1 ⟨x, rfl, hx0, hx1, hc1, hb1⟩
  have e3 : IntKind.i64.wrap (lo + x) = lo + x := by rw [IntKind.wrap_i64]; omega
  clear hB hc
  go_wp2
  go_ret
  exact ⟨_, rfl, by omega, by omega, hc1, hb1⟩
/-- One more drawn span behind those that there are: what stays, and what is there. -/
theorem drawn_push {w w4 w6 : World} {b : Nat} {sa : Option Addr} {sl sc : Nat} {o : Obj} {v : Value} {l : List Sp} (hc : Cur w4 b sa sl sc) (hb : Beside b w w4) (hbz : b < w.heap.size) (hown : OwnsS8 w4 w.heap.size v l) (hg : (w4.alloc o).grownBy w6 v.ownBlock) : Cur w6 b sa sl sc ∧ Beside b w w6 := by
  have h1 : Below w.heap.size w4 w6 := belowE ((Below.refl _ w4).alloc hb.2.2.2.1 _) hg (by have := hb.2.2.2.1; simp; omega) hown.from
  exact ⟨hc.kept h1 hbz, hb.grow h1 (Nat.le_refl _)⟩
def Few (l : List Sp) (n : Nat) : Prop := l.length ≤ n ∧ ∀ x ∈ l, InR x
theorem Few.more {l : List Sp} {n : Nat} (h : Few l n) {x : Sp} (hx : InR x) : Few (l ++ [x]) (n + 1) :=
  ⟨by have := h.1; simp; omega, fun y hy => by rcases List.mem_append.1 hy with hy | hy; exact h.2 y hy; rw [List.mem_singleton.1 hy]; exact hx⟩
theorem Few.up {l : List Sp} {n m : Nat} (h : Few l n) (hm : n ≤ m) : Few l m := ⟨Nat.le_trans h.1 hm, h.2⟩
def isI8 (v : Value) : Bool := match v with | .int .i64 z => decide (-9223372036854775808 ≤ z ∧ z ≤ 9223372036854775807) | _ => false
theorem isI8_out {v : Value} (h : isI8 v = true) : ∃ z : Int, v = .int .i64 z ∧ -9223372036854775808 ≤ z ∧ z ≤ 9223372036854775807 := by
  unfold isI8 at h
  split at h
  · exact ⟨_, rfl, of_decide_eq_true h⟩
  · cases h
theorem tabI8 {b : Nat} {w w' : World} {C : Array Value} {t : TypeId} (hb : Beside b (w.alloc (.cells C t)) w') (hne : w.heap.size ≠ b) (y : Nat) (hy : y < C.size) (hall : C.toList.all isI8 = true) : ∃ z : Int, w'.cell? ⟨w.heap.size, y, Option.none⟩ = some (.int .i64 z) ∧ -9223372036854775808 ≤ z ∧ z ≤ 9223372036854775807 := by
  have hm : C[y] ∈ C.toList := by simp
  obtain ⟨z, hz, hs⟩ := isI8_out (List.all_eq_true.1 hall _ hm)
  refine ⟨z, besideCell hb hne ?_, hs⟩
  rw [World.cell?_alloc_mark, Array.getElem?_eq_getElem hy, hz]
theorem sl_of {w : World} {B : Nat} {v : Value} {l : List Sp} (h : OwnsS8 w B v l) (hl : 0 < l.length) : ∃ g c, v = .slice (some ⟨g, 0, Option.none⟩) l.length c := by
  obtain ⟨a, c, rfl, h1, h2, h3⟩ := h.form
  rcases h3 with ⟨rfl, rfl⟩ | ⟨g, rfl⟩
  · omega
  · exact ⟨g, c, rfl⟩
def lenV8 (v : Value) : Nat := match v with | .slice _ n _ => n | _ => 0
end Go.Proofs.YtamfgjgmnnnjpaaDoor
