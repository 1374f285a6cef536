/-
  What the operations of a region that draws from a cursor leave, good for as long as all blocks but the cursor's stay (as RgV, without fields).
-/
import Derived.Test.YtdoolnaekmffbaaRgS
import Derived.Test.YtdoolnaekmffbaaDrT
import Derived.Shelf.Abstract
namespace Go.Proofs.Ytdoolnaekmffbaa.Rw
open Go.RowKit Go.Sort
set_option linter.unusedVariables false

theorem newAt (x : World) (o : Obj) : (x.alloc o).heap[x.heap.size]? = some o := heap_alloc_new x o
theorem rowCell {w : World} {g k : Nat} {c : Array Value} {ty : TypeId} {fr : Nat × Nat} (h : w.heap[g]? = some (.cells c ty fr)) : w.cell? ⟨g, k, none⟩ = c[k]? := by simp [World.cell?, h]
theorem besAt {b : Nat} {x y : World} (h : Beside b x y) {g : Nat} {o : Obj} (hg : x.heap[g]? = some o) (hne : g ≠ b) : y.heap[g]? = some o := (h.2.2.2.2 g (Array.getElem?_eq_some_iff.1 hg).1 hne).trans hg
theorem besRefl (b : Nat) (x : World) : Beside b x x := Beside.refl b x
theorem besAlloc (b : Nat) (x : World) (o : Obj) : Beside b x (x.alloc o) := (Beside.refl b x).below ((Below.refl _ x).alloc (Nat.le_refl _) _)
/-- A table of numbers, of texts; a place in it. -/
def gTabI (b : Nat) (L : List Int) (x : World) (v : Value) : Prop := ∃ g, v = .slice (some ⟨g, 0, none⟩) L.length L.length ∧ x.heap[g]? = some (.cells (L.map (Value.int .i64)).toArray 2 (0, 0)) ∧ g ≠ b
def gPtI (b : Nat) (L : List Int) (x : World) (v : Value) : Prop := ∃ g k, v = .pointer (some ⟨g, k, none⟩) ∧ k < L.length ∧ x.heap[g]? = some (.cells (L.map (Value.int .i64)).toArray 2 (0, 0)) ∧ g ≠ b
def gTabS (b : Nat) (L : List ByteArray) (x : World) (v : Value) : Prop := ∃ g, v = .slice (some ⟨g, 0, none⟩) L.length L.length ∧ x.heap[g]? = some (.cells (L.map Value.string).toArray 9 (0, 0)) ∧ g ≠ b
def gPtS (b : Nat) (L : List ByteArray) (x : World) (v : Value) : Prop := ∃ g k, v = .pointer (some ⟨g, k, none⟩) ∧ k < L.length ∧ x.heap[g]? = some (.cells (L.map Value.string).toArray 9 (0, 0)) ∧ g ≠ b
theorem gTabI.keep {b : Nat} {L : List Int} {x y : World} {v : Value} (h : gTabI b L x v) (hb : Beside b x y) : gTabI b L y v := by obtain ⟨g, h1, h2, h3⟩ := h; exact ⟨g, h1, besAt hb h2 h3, h3⟩
theorem gPtI.keep {b : Nat} {L : List Int} {x y : World} {v : Value} (h : gPtI b L x v) (hb : Beside b x y) : gPtI b L y v := by obtain ⟨g, k, h1, h2, h3, h4⟩ := h; exact ⟨g, k, h1, h2, besAt hb h3 h4, h4⟩
theorem gTabS.keep {b : Nat} {L : List ByteArray} {x y : World} {v : Value} (h : gTabS b L x v) (hb : Beside b x y) : gTabS b L y v := by obtain ⟨g, h1, h2, h3⟩ := h; exact ⟨g, h1, besAt hb h2 h3, h3⟩
theorem gPtS.keep {b : Nat} {L : List ByteArray} {x y : World} {v : Value} (h : gPtS b L x v) (hb : Beside b x y) : gPtS b L y v := by obtain ⟨g, k, h1, h2, h3, h4⟩ := h; exact ⟨g, k, h1, h2, besAt hb h3 h4, h4⟩
theorem tabI_at {x : World} {g k : Nat} {L : List Int} (h : x.heap[g]? = some (.cells (L.map (Value.int .i64)).toArray 2 (0, 0))) (hk : k < L.length) : x.cell? ⟨g, k, none⟩ = some (.int .i64 L[k]) := by rw [rowCell h]; simp [hk]
theorem tabS_at {x : World} {g k : Nat} {L : List ByteArray} (h : x.heap[g]? = some (.cells (L.map Value.string).toArray 9 (0, 0))) (hk : k < L.length) : x.cell? ⟨g, k, none⟩ = some (.string L[k]) := by rw [rowCell h]; simp [hk]
def gNum (n : Nat) (v : Value) : Prop := ∃ k : Nat, v = .int .i64 k ∧ k < n
def gInt (lo hi : Int) (v : Value) : Prop := ∃ z : Int, v = .int .i64 z ∧ lo ≤ z ∧ z ≤ hi
def gTxt (n : Nat) (v : Value) : Prop := ∃ s : ByteArray, v = .string s ∧ s.size ≤ n
/-- A struct in a block of its own, from B on. -/
def gBox (b B : Nat) (c : Array Value) (ty : TypeId) (x : World) (v : Value) : Prop := ∃ g, v = .pointer (some ⟨g, 0, none⟩) ∧ x.heap[g]? = some (.cells c ty (0, 0)) ∧ g ≠ b ∧ B ≤ g
theorem gBox.keep {b B : Nat} {c : Array Value} {ty : TypeId} {x y : World} {v : Value} (h : gBox b B c ty x v) (hb : Beside b x y) : gBox b B c ty y v := by obtain ⟨g, h1, h2, h3, h4⟩ := h; exact ⟨g, h1, besAt hb h2 h3, h3, h4⟩
/-- What holds of the world all along. -/
def SCur (b : Nat) (sa : Option Addr) (sl sc : Nat) (w0 x : World) : Prop := Cur x b sa sl sc ∧ Beside b w0 x
theorem SCur.more {b : Nat} {sa : Option Addr} {sl sc : Nat} {w0 x : World} (h : SCur b sa sl sc w0 x) (o : Obj) : SCur b sa sl sc w0 (x.alloc o) := ⟨h.1.kept ((Below.refl _ x).alloc (Nat.le_refl _) _) h.1.2.2.1, h.2.below ((Below.refl _ x).alloc (Nat.le_refl _) _)⟩
theorem SCur.lt {b : Nat} {sa : Option Addr} {sl sc : Nat} {w0 x : World} (h : SCur b sa sl sc w0 x) : b < x.heap.size := h.1.2.2.1
theorem SCur.size {b : Nat} {sa : Option Addr} {sl sc : Nat} {w0 x : World} (h : SCur b sa sl sc w0 x) : w0.heap.size ≤ x.heap.size := h.2.2.2.2.1
/-- A drawn number below n, as one step. -/
theorem step_below {ops : Array Oper} {o : Oper} {a : Act} {x : World} {K : Act → World → Prop} {Q : Exit → Act → World → Prop} {E : Prop} {b : Nat} {sa : Option Addr} {sl sc : Nat} {w0 : World} (hgd : o.guard = none) (n : Nat) (h1 : 0 < n) (h2 : n ≤ 100000) (p : Operand) (ts : Array TypeId)
    (ho : o.op = .call { callee := .value (.func 42), args := #[p, .const (.int .i64 (n : Int))], argTypes := ts }) (hp : a.eval p = .pointer (some ⟨b, 0, none⟩)) (hS : SCur b sa sl sc w0 x)
    (h : ∀ v y, SCur b sa sl sc w0 y → Beside b x y → gNum n v → K (a.put o.dst v) y) : if Region.wanted o (yielded ops a.tmps) = true then Oper.wp Try.prog o a x K Q else E := by
  have hent : ∀ args w, (callFunc 42 args).run Try.prog w = .ok (.enter 42 args) w := Go.Proofs.enters_of Try.func42 (by kernel_rfl) rfl
  refine callG2 (by simp [Region.wanted, hgd]) 42 p (.const (.int .i64 (n : Int))) ts ho (.pointer (some ⟨b, 0, none⟩)) (.int .i64 (n : Int)) hp rfl (hent _) (fun u y => SCur b sa sl sc w0 y ∧ Beside b x y ∧ gNum n u) ((l1Below b sa sl sc n (by omega) (by omega) x hS.1).mono ?_) ?_
  · rintro e y ⟨z, h0, hz0, hz1, hc, hb⟩
    exact ⟨_, h0, ⟨hc, hS.2.trans hb⟩, hb, z.toNat, by rw [Int.toNat_of_nonneg hz0], by omega⟩
  · rintro v y ⟨k1, k2, k3⟩
    exact h v y k1 k2 k3
/-- Any function of the program that draws from the cursor alone, as one step. -/
theorem step_draw1 {ops : Array Oper} {o : Oper} {a : Act} {x : World} {K : Act → World → Prop} {Q : Exit → Act → World → Prop} {E : Prop} {b : Nat} {sa : Option Addr} {sl sc : Nat} {w0 : World} (hgd : o.guard = none) (f : FuncId) (p : Operand) (ts : Array TypeId)
    (ho : o.op = .call { callee := .value (.func f), args := #[p], argTypes := ts }) (hp : a.eval p = .pointer (some ⟨b, 0, none⟩)) (hS : SCur b sa sl sc w0 x) (hent : ∀ args w, (callFunc f args).run Try.prog w = .ok (.enter f args) w) (R : World → Value → Prop)
    (hf : Calls Try.prog f #[.pointer (some ⟨b, 0, none⟩)] x fun e y => (∃ v, e = .returned v ∧ R y v) ∧ Cur y b sa sl sc ∧ Beside b x y)
    (h : ∀ v y, SCur b sa sl sc w0 y → Beside b x y → R y v → K (a.put o.dst v) y) : if Region.wanted o (yielded ops a.tmps) = true then Oper.wp Try.prog o a x K Q else E := by
  refine callG1 (by simp [Region.wanted, hgd]) f p ts ho (.pointer (some ⟨b, 0, none⟩)) hp (hent _) (fun u y => SCur b sa sl sc w0 y ∧ Beside b x y ∧ R y u) (hf.mono ?_) ?_
  · rintro e y ⟨⟨v, h0, hr⟩, hc, hb⟩
    exact ⟨v, h0, ⟨hc, hS.2.trans hb⟩, hb, hr⟩
  · rintro v y ⟨k1, k2, k3⟩
    exact h v y k1 k2 k3
end Go.Proofs.Ytdoolnaekmffbaa.Rw
