/-
  What the operations of a region that draws from a cursor leave, good for as long as all blocks but the cursor's stay (as RgV, without fields).
  Drawn traces and rooms: whatever the code, few numbers.
-/
import Derived.Test.YtdbeoloonoodkaaDoorG09
import Derived.Test.YtdbeoloonoodkaaDoorG33
import Derived.Shelf.Abstract
import Derived.Test.YtdbeoloonoodkaaDoorG06
namespace Go.Proofs.YtdbeoloonoodkaaDoor.Rw
open Go.RowKit Go.Sort
set_option linter.unusedVariables false

theorem newAt (x : World) (o : Obj) : (x.alloc o).heap[x.heap.size]? = some o := heap_alloc_new x o
theorem rowCell {w : World} {g k : Nat} {c : Array Value} {ty : TypeId} {fr : Nat × Nat} (h : w.heap[g]? = some (.cells c ty fr)) : w.cell? ⟨g, k, none⟩ = c[k]? := by simp [World.cell?, h]
theorem besAt {b : Nat} {x y : World} (h : Beside b x y) {g : Nat} {o : Obj} (hg : x.heap[g]? = some o) (hne : g ≠ b) : y.heap[g]? = some o := (h.2.2.2.2 g (Array.getElem?_eq_some_iff.1 hg).1 hne).trans hg
theorem besAlloc (b : Nat) (x : World) (o : Obj) : Beside b x (x.alloc o) := (Beside.refl b x).below ((Below.refl _ x).alloc (Nat.le_refl _) _)
/-- A table of numbers, of texts; a place in it. -/
def gTabI (b : Nat) (L : List Int) (x : World) (v : Value) : Prop := ∃ g, v = .slice (some ⟨g, 0, none⟩) L.length L.length ∧ x.heap[g]? = some (.cells (L.map (Value.int .i64)).toArray 2 (0, 0)) ∧ g ≠ b
def gPtI (b : Nat) (L : List Int) (x : World) (v : Value) : Prop := ∃ g k, v = .pointer (some ⟨g, k, none⟩) ∧ k < L.length ∧ x.heap[g]? = some (.cells (L.map (Value.int .i64)).toArray 2 (0, 0)) ∧ g ≠ b
def gTabS (b : Nat) (L : List ByteArray) (x : World) (v : Value) : Prop := ∃ g, v = .slice (some ⟨g, 0, none⟩) L.length L.length ∧ x.heap[g]? = some (.cells (L.map Value.string).toArray 9 (0, 0)) ∧ g ≠ b
def gPtS (b : Nat) (L : List ByteArray) (x : World) (v : Value) : Prop := ∃ g k, v = .pointer (some ⟨g, k, none⟩) ∧ k < L.length ∧ x.heap[g]? = some (.cells (L.map Value.string).toArray 9 (0, 0)) ∧ g ≠ b
theorem gTabI.keep {b : Nat} {L : List Int} {x y : World} {v : Value} (h : gTabI b L x v) (hb : Beside b x y) : gTabI b L y v := by obtain ⟨g, h1, h2, h3⟩ := h; exact ⟨g, h1, besAt hb h2 h3, h3⟩
theorem gPtI.keep {b : Nat} {L : List Int} {x y : World} {v : Value} (h : gPtI b L x v) (hb : Beside b x y) : gPtI b L y v := by obtain ⟨g, k, h1, h2, h3, h4⟩ := h; exact ⟨g, k, h1, h2, besAt hb h3 h4, h4⟩
theorem gTabS.keep {b : Nat} {L : List ByteArray} {x y : World} {v : Value} (h : gTabS b L x v) (hb : Beside b x y) : gTabS b L y v := by obtain ⟨g, h1, h2, h3⟩ := h; exact ⟨g, h1, besAt hb h2 h3, h3⟩
theorem gPtS.keep {b : Nat} {L : List ByteArray} {x y : World} {v : Value} (h : gPtS b L x v) (hb : Beside b x y) : gPtS b L y v := by obtain ⟨g, k, h1, h2, h3, h4⟩ := h; exact ⟨g, k, h1, h2, besAt hb h3 h4, h4⟩
theorem tabS_at {x : World} {g k : Nat} {L : List ByteArray} (h : x.heap[g]? = some (.cells (L.map Value.string).toArray 9 (0, 0))) (hk : k < L.length) : x.cell? ⟨g, k, none⟩ = some (.string L[k]) := by rw [rowCell h]; simp [hk]
def gNum (n : Nat) (v : Value) : Prop := ∃ k : Nat, v = .int .i64 k ∧ k < n
def gTxt (n : Nat) (v : Value) : Prop := ∃ s : ByteArray, v = .string s ∧ s.size ≤ n
/-- A struct in a block of its own, from B on. -/
def gBox (b B : Nat) (c : Array Value) (ty : TypeId) (x : World) (v : Value) : Prop := ∃ g, v = .pointer (some ⟨g, 0, none⟩) ∧ x.heap[g]? = some (.cells c ty (0, 0)) ∧ g ≠ b ∧ B ≤ g
theorem gBox.keep {b B : Nat} {c : Array Value} {ty : TypeId} {x y : World} {v : Value} (h : gBox b B c ty x v) (hb : Beside b x y) : gBox b B c ty y v := by obtain ⟨g, h1, h2, h3, h4⟩ := h; exact ⟨g, h1, besAt hb h2 h3, h3, h4⟩
/-- What holds of the world all along. -/
def SCur (b : Nat) (sa : Option Addr) (sl sc : Nat) (w0 x : World) : Prop := Cur x b sa sl sc ∧ Beside b w0 x
theorem SCur.more {b : Nat} {sa : Option Addr} {sl sc : Nat} {w0 x : World} (h : SCur b sa sl sc w0 x) (o : Obj) : SCur b sa sl sc w0 (x.alloc o) := ⟨h.1.kept ((Below.refl _ x).alloc (Nat.le_refl _) _) h.1.2.2.1, h.2.below ((Below.refl _ x).alloc (Nat.le_refl _) _)⟩
theorem SCur.lt {b : Nat} {sa : Option Addr} {sl sc : Nat} {w0 x : World} (h : SCur b sa sl sc w0 x) : b < x.heap.size := h.1.2.2.1
theorem SCur.size {b : Nat} {sa : Option Addr} {sl sc : Nat} {w0 x : World} (h : SCur b sa sl sc w0 x) : w0.heap.size ≤ x.heap.size := h.2.2.2.2.1
/-- A drawn number below n, as one step. -/
theorem step_below {ops : Array Oper} {o : Oper} {a : Act} {x : World} {K : Act → World → Prop} {Q : Exit → Act → World → Prop} {E : Prop} {b : Nat} {sa : Option Addr} {sl sc : Nat} {w0 : World} (hgd : o.guard = none) (n : Nat) (h1 : 0 < n) (h2 : n ≤ 100000) (p : Operand) (ts : Array TypeId)
    (ho : o.op = .call { callee := .value (.func 41), args := #[p, .const (.int .i64 (n : Int))], argTypes := ts }) (hp : a.eval p = .pointer (some ⟨b, 0, none⟩)) (hS : SCur b sa sl sc w0 x)
    (h : ∀ v y, SCur b sa sl sc w0 y → Beside b x y → gNum n v → K (a.put o.dst v) y) : if Region.wanted o (yielded ops a.tmps) = true then Oper.wp Tryd.prog o a x K Q else E := by
  have hent : ∀ args w, (callFunc 41 args).run Tryd.prog w = .ok (.enter 41 args) w := Go.Proofs.enters_of Tryd.func41 (by kernel_rfl) rfl
  refine callG2 (by simp [Region.wanted, hgd]) 41 p (.const (.int .i64 (n : Int))) ts ho (.pointer (some ⟨b, 0, none⟩)) (.int .i64 (n : Int)) hp rfl (hent _) (fun u y => SCur b sa sl sc w0 y ∧ Beside b x y ∧ gNum n u) ((l1Below b sa sl sc n (by omega) (by omega) x hS.1).mono ?_) ?_
  · rintro e y ⟨z, h0, hz0, hz1, hc, hb⟩
    exact ⟨_, h0, ⟨hc, hS.2.trans hb⟩, hb, z.toNat, by rw [Int.toNat_of_nonneg hz0], by omega⟩
  · rintro v y ⟨k1, k2, k3⟩
    exact h v y k1 k2 k3
end Go.Proofs.YtdbeoloonoodkaaDoor.Rw
namespace Go.Proofs.YtdbeoloonoodkaaDoor
open Go.RowKit Go.Sort Rom
set_option linter.unusedVariables false
set_option linter.unusedSimpArgs false

theorem OwnsE.bsN {α : Type} {E : Enc α} {ty : TypeId} {w w' : World} {B b : Nat} {v : Value} {l : List α} (h : OwnsE E ty w B v l) (hb : Beside b w w') (hB : b < B) : OwnsE E ty w' B v l := by
  refine ⟨h.1, ?_⟩
  rcases h.2 with h0 | ⟨g, cap, cur, hv, hbg, hg, rest⟩
  · exact .inl h0
  · exact .inr ⟨g, cap, cur, hv, hbg, by rw [hb.2.2.2.2 g (Array.getElem?_eq_some_iff.1 hg).1 (by omega)]; exact hg, rest⟩
theorem Cur.moreN {w : World} {b : Nat} {sa : Option Addr} {sl sc : Nat} (h : Cur w b sa sl sc) (o : Obj) : Cur (w.alloc o) b sa sl sc := h.kept ((Below.refl _ w).alloc (Nat.le_refl _) _) h.2.2.1
theorem Beside.moreN {g : Nat} {a w : World} (h : Beside g a w) (o : Obj) : Beside g a (w.alloc o) := h.below ((Below.refl _ w).alloc (Nat.le_refl _) _)
/-- One more drawn number behind those that there are. -/
theorem drawn_pushN {w w4 w6 : World} {b : Nat} {sa : Option Addr} {sl sc : Nat} {v : Value} {l : List Int} (hc : Cur w4 b sa sl sc) (hb : Beside b w w4) (hbz : b < w.heap.size) (hown : OwnsN w4 w.heap.size v l) (hg : w4.grownBy w6 v.ownBlock) : Cur w6 b sa sl sc ∧ Beside b w w6 := by
  have h1 : Below w.heap.size w4 w6 := belowE (Below.refl _ w4) hg hb.2.2.2.1 hown.from
  exact ⟨hc.kept h1 hbz, hb.grow h1 (Nat.le_refl _)⟩
def isIN (v : Value) : Bool := match v with | .int .i64 z => decide (-9223372036854775808 ≤ z ∧ z ≤ 9223372036854775807) | _ => false
theorem isIN_out {v : Value} (h : isIN v = true) : ∃ z : Int, v = .int .i64 z ∧ -9223372036854775808 ≤ z ∧ z ≤ 9223372036854775807 := by
  unfold isIN at h
  split at h
  · exact ⟨_, rfl, of_decide_eq_true h⟩
  · cases h
theorem tabIN {b : Nat} {w w' : World} {C : Array Value} {t : TypeId} (hb : Beside b (w.alloc (.cells C t)) w') (hne : w.heap.size ≠ b) (y : Nat) (hy : y < C.size) (hall : C.toList.all isIN = true) : ∃ z : Int, w'.cell? ⟨w.heap.size, y, Option.none⟩ = some (.int .i64 z) ∧ -9223372036854775808 ≤ z ∧ z ≤ 9223372036854775807 := by
  have hm : C[y] ∈ C.toList := by simp
  obtain ⟨z, hz, hs⟩ := isIN_out (List.all_eq_true.1 hall _ hm)
  refine ⟨z, besideCell hb hne ?_, hs⟩
  rw [World.cell?_alloc_mark, Array.getElem?_eq_getElem hy, hz]
theorem slN_of {w : World} {B : Nat} {v : Value} {l : List Int} (h : OwnsN w B v l) (hl : 0 < l.length) : ∃ g c, v = .slice (some ⟨g, 0, Option.none⟩) l.length c := by
  obtain ⟨a, c, rfl, h1, h2, h3⟩ := h.form
  rcases h3 with ⟨rfl, rfl⟩ | ⟨g, rfl⟩
  · exfalso
    rcases h.2 with ⟨_, e⟩ | ⟨g, cap, cur, e, _⟩
    · omega
    · cases e
  · exact ⟨g, c, rfl⟩
end Go.Proofs.YtdbeoloonoodkaaDoor
