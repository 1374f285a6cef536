/-
  Drawn fields: whatever the code, they are some fields, none of them large.
-/
import Derived.Test.YtnkalamfekkmbaaDoorBend
import Derived.Test.YtnkalamfekkmbaaDoorRgI
import Derived.Test.YtnkalamfekkmbaaDoorFldU
namespace Go.Proofs.YtnkalamfekkmbaaDoor
open Go.RowKit Go.Sort

/-- The table of names, and that of values. -/
def tabA : Array Value := #[.string ⟨#[97]⟩, .string ⟨#[65, 99, 99, 101, 112, 116]⟩, .string ⟨#[97, 99, 99, 101, 112, 116]⟩, .string ⟨#[120, 45, 98]⟩, .string ⟨#[67, 111, 110, 110, 101, 99, 116, 105, 111, 110]⟩, .string ⟨#[116, 101]⟩, .string ⟨#[118, 97, 114, 121]⟩]
def tabB : Array Value := #[.string ⟨#[49]⟩, .string ⟨#[97, 44, 32, 98]⟩, .string ⟨#[]⟩, .string ⟨#[120, 45, 98]⟩, .string ⟨#[113, 61, 34, 97, 44, 98, 34]⟩, .string ⟨#[97]⟩]
theorem tabA_at (x : Nat) (h : x < 7) : ∃ s : ByteArray, tabA[x]? = some (.string s) ∧ s.size ≤ 10 := by
  rcases (show x = 0 ∨ x = 1 ∨ x = 2 ∨ x = 3 ∨ x = 4 ∨ x = 5 ∨ x = 6 by omega) with rfl | rfl | rfl | rfl | rfl | rfl | rfl <;> exact ⟨_, rfl, by decide⟩
theorem tabB_at (x : Nat) (h : x < 6) : ∃ s : ByteArray, tabB[x]? = some (.string s) ∧ s.size ≤ 7 := by
  rcases (show x = 0 ∨ x = 1 ∨ x = 2 ∨ x = 3 ∨ x = 4 ∨ x = 5 by omega) with rfl | rfl | rfl | rfl | rfl | rfl <;> exact ⟨_, rfl, by decide⟩
/-- A table in a block of its own. -/
def TabAt (b : Nat) (w : World) (g : Nat) (tab : Array Value) : Prop := w.heap[g]? = some (.cells tab 9 (0, 0)) ∧ g ≠ b
/-- Two texts in a block of their own. -/
def TwoAt (b n : Nat) (w : World) (g : Nat) (p q : ByteArray) : Prop := w.heap[g]? = some (.cells #[.string p, .string q] 53 (0, 0)) ∧ g ≠ b ∧ n ≤ g
/-- What stays. -/
def Keep (b : Nat) (w w' : World) : Prop := ∀ g o, g ≠ b → w.heap[g]? = some o → w'.heap[g]? = some o
theorem Keep.refl (b : Nat) (w : World) : Keep b w w := fun _ _ _ h => h
theorem Keep.alloc (b : Nat) (w : World) (o : Obj) : Keep b w (w.alloc o) := fun g x _ h => by rw [Below.heap_alloc w o g (Array.getElem?_eq_some_iff.1 h).1]; exact h
theorem Beside.keep {b : Nat} {w w' : World} (h : Beside b w w') : Keep b w w' := fun g x hg hx => by rw [h.2.2.2.2 g (Array.getElem?_eq_some_iff.1 hx).1 hg]; exact hx
theorem TabAt.keep {b : Nat} {w w' : World} {g : Nat} {tab : Array Value} (h : TabAt b w g tab) (k : Keep b w w') : TabAt b w' g tab := ⟨k g _ h.2 h.1, h.2⟩
theorem TwoAt.keep {b n : Nat} {w w' : World} {g : Nat} {p q : ByteArray} (h : TwoAt b n w g p q) (k : Keep b w w') : TwoAt b n w' g p q := ⟨k g _ h.2.1 h.1, h.2⟩

def frF (b n : Nat) (t : Nat → Value) : Act := { tmps := #[.pointer (some ⟨b, 0, none⟩), undef, .pointer (some ⟨n, 0, none⟩), t 3, t 4, t 5, t 6, t 7, t 8, t 9, t 10, t 11, t 12, t 13, t 14, undef, undef, undef, undef, undef, undef, undef, undef, undef, undef, undef, undef, undef, undef, undef, undef, undef, undef, undef, undef, undef], defers := [] }
def hasTab (b : Nat) (w : World) (v : Value) (n : Nat) (tab : Array Value) : Prop := ∃ g, v = .slice (some ⟨g, 0, none⟩) n n ∧ TabAt b w g tab
def hasNum (v : Value) (n : Nat) : Prop := ∃ x : Nat, v = .int .i64 x ∧ x < n
def hasPt (b : Nat) (w : World) (v : Value) (n : Nat) (tab : Array Value) : Prop := ∃ g x, v = .pointer (some ⟨g, x, none⟩) ∧ x < n ∧ TabAt b w g tab
def hasTxt (v : Value) (n : Nat) : Prop := ∃ s : ByteArray, v = .string s ∧ s.size ≤ n
def hasTwo (b n : Nat) (w : World) (v : Value) : Prop := ∃ g p q, v = .pointer (some ⟨g, 0, none⟩) ∧ TwoAt b n w g p q
theorem hasTab.keep {b : Nat} {w w' : World} {v : Value} {n : Nat} {tab : Array Value} (h : hasTab b w v n tab) (k : Keep b w w') : hasTab b w' v n tab := by obtain ⟨g, h1, h2⟩ := h; exact ⟨g, h1, h2.keep k⟩
theorem hasPt.keep {b : Nat} {w w' : World} {v : Value} {n : Nat} {tab : Array Value} (h : hasPt b w v n tab) (k : Keep b w w') : hasPt b w' v n tab := by obtain ⟨g, x, h1, h2, h3⟩ := h; exact ⟨g, x, h1, h2, h3.keep k⟩
theorem hasTwo.keep {b n : Nat} {w w' : World} {v : Value} (h : hasTwo b n w v) (k : Keep b w w') : hasTwo b n w' v := by obtain ⟨g, p, q, h1, h2⟩ := h; exact ⟨g, p, q, h1, h2.keep k⟩
/-- What holds, whichever of the operations have been carried out. -/
structure CondF (b n : Nat) (L : Nat → Bool) (t : Nat → Value) (w : World) : Prop where
  a0 : L 0 = true → L 3 = false → hasTab b w (t 4) 7 tabA
  a1 : L 1 = true → L 2 = false → t 5 = .pointer (some ⟨b, 0, none⟩)
  a2 : L 2 = true → L 3 = false → hasNum (t 6) 7
  a3 : L 3 = true → L 4 = false → hasPt b w (t 7) 7 tabA
  a4 : L 4 = true → L 10 = false → hasTxt (t 8) 10
  b0 : L 5 = true → L 8 = false → hasTab b w (t 9) 6 tabB
  b1 : L 6 = true → L 7 = false → t 10 = .pointer (some ⟨b, 0, none⟩)
  b2 : L 7 = true → L 8 = false → hasNum (t 11) 6
  b3 : L 8 = true → L 9 = false → hasPt b w (t 12) 6 tabB
  b4 : L 9 = true → L 10 = false → hasTxt (t 13) 7
  d0 : L 10 = true → L 12 = false → ∃ p q : ByteArray, t 14 = .agg #[.string p, .string q] ∧ p.size ≤ 10 ∧ q.size ≤ 7
  d1 : L 11 = true → L 12 = false → hasTwo b (n + 1) w (t 3)
  e0 : L 12 = true → L 11 = true
  d2 : L 12 = true → ∃ g p q, t 3 = .pointer (some ⟨g, 0, none⟩) ∧ TwoAt b (n + 1) w g p q ∧ p.size ≤ 10 ∧ q.size ≤ 7
def InvF (b n : Nat) (sa : Option Addr) (sl sc : Nat) (w0 : World) (L : Nat → Bool) (a : Act) (w : World) : Prop :=
  ∃ t, a = frF b n t ∧ Cur w b sa sl sc ∧ Beside b w0 w ∧ n + 1 ≤ w.heap.size ∧ CondF b n L t w
theorem no_of {P : Prop} (h : true = false) : P := by cases h
def tabC : Array Value := #[.string ⟨#[]⟩, .string ⟨#[97, 32, 98]⟩, .string ⟨#[97, 58]⟩, .string ⟨#[0]⟩]
def tabD : Array Value := #[.string ⟨#[32, 97]⟩, .string ⟨#[97, 10]⟩, .string ⟨#[97, 127]⟩, .string ⟨#[97, 9]⟩]
theorem tabC_at (x : Nat) (h : x < 4) : ∃ s : ByteArray, tabC[x]? = some (.string s) ∧ s.size ≤ 7 := by
  rcases (show x = 0 ∨ x = 1 ∨ x = 2 ∨ x = 3 by omega) with rfl | rfl | rfl | rfl <;> exact ⟨_, rfl, by decide⟩
theorem tabD_at (x : Nat) (h : x < 4) : ∃ s : ByteArray, tabD[x]? = some (.string s) ∧ s.size ≤ 7 := by
  rcases (show x = 0 ∨ x = 1 ∨ x = 2 ∨ x = 3 by omega) with rfl | rfl | rfl | rfl <;> exact ⟨_, rfl, by decide⟩
theorem Beside.at {b g : Nat} {w w' : World} {o : Obj} (h : Beside b w w') (hg : g ≠ b) (ho : w.heap[g]? = some o) : w'.heap[g]? = some o := by
  rw [h.2.2.2.2 g (Array.getElem?_eq_some_iff.1 ho).1 hg]; exact ho
end Go.Proofs.YtnkalamfekkmbaaDoor
