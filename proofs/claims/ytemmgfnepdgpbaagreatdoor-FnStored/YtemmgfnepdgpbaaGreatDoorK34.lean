/-
  What the operations of a region that draws from a cursor leave, good for as long as all blocks but the cursor's stay.
  The contracts of Leap, of the lengths of months and of a range, the specification's and the program's.
  The days ahead of a year: the specification's and the program's contracts.
  The calendar: days and moments of dates, and that one moment has one date.
-/
import Derived.Test.YtemmgfnepdgpbaaGreatDoorK30
import Derived.Test.YtemmgfnepdgpbaaGreatDoorK33
import Derived.Test.YtemmgfnepdgpbaaGreatDoorK17
import Derived.Test.YtemmgfnepdgpbaaGreatDoorRows
import Derived.WalkKit
import Derived.WalkSpells
import Derived.Below
import Derived.BigQuiet
import Derived.Deep.QuietTactic
namespace Go.Proofs.YtemmgfnepdgpbaaGreatDoor
open Go.RowKit Go.Sort
set_option linter.unusedVariables false

theorem besAt {b : Nat} {x y : World} (h : Beside b x y) {g : Nat} {o : Obj} (hg : x.heap[g]? = some o) (hne : g ≠ b) : y.heap[g]? = some o := (h.2.2.2.2 g (Array.getElem?_eq_some_iff.1 hg).1 hne).trans hg
theorem besAlloc (b : Nat) (x : World) (o : Obj) : Beside b x (x.alloc o) := (Beside.refl b x).more9 o
/-- A table of numbers, of texts; a place in it. -/
def gTabI (b : Nat) (L : List Int) (x : World) (v : Value) : Prop := ∃ g, v = .slice (some ⟨g, 0, none⟩) L.length L.length ∧ x.heap[g]? = some (.cells (L.map (Value.int .i64)).toArray 2 (0, 0)) ∧ g ≠ b
def gPtI (b : Nat) (L : List Int) (x : World) (v : Value) : Prop := ∃ g k, v = .pointer (some ⟨g, k, none⟩) ∧ k < L.length ∧ x.heap[g]? = some (.cells (L.map (Value.int .i64)).toArray 2 (0, 0)) ∧ g ≠ b
def gTabS (b : Nat) (L : List ByteArray) (x : World) (v : Value) : Prop := ∃ g, v = .slice (some ⟨g, 0, none⟩) L.length L.length ∧ x.heap[g]? = some (.cells (L.map Value.string).toArray 9 (0, 0)) ∧ g ≠ b
def gPtS (b : Nat) (L : List ByteArray) (x : World) (v : Value) : Prop := ∃ g k, v = .pointer (some ⟨g, k, none⟩) ∧ k < L.length ∧ x.heap[g]? = some (.cells (L.map Value.string).toArray 9 (0, 0)) ∧ g ≠ b
theorem gTabI.keep {b : Nat} {L : List Int} {x y : World} {v : Value} (h : gTabI b L x v) (hb : Beside b x y) : gTabI b L y v := by obtain ⟨g, h1, h2, h3⟩ := h; exact ⟨g, h1, besAt hb h2 h3, h3⟩
theorem gPtI.keep {b : Nat} {L : List Int} {x y : World} {v : Value} (h : gPtI b L x v) (hb : Beside b x y) : gPtI b L y v := by obtain ⟨g, k, h1, h2, h3, h4⟩ := h; exact ⟨g, k, h1, h2, besAt hb h3 h4, h4⟩
theorem gTabS.keep {b : Nat} {L : List ByteArray} {x y : World} {v : Value} (h : gTabS b L x v) (hb : Beside b x y) : gTabS b L y v := by obtain ⟨g, h1, h2, h3⟩ := h; exact ⟨g, h1, besAt hb h2 h3, h3⟩
theorem gPtS.keep {b : Nat} {L : List ByteArray} {x y : World} {v : Value} (h : gPtS b L x v) (hb : Beside b x y) : gPtS b L y v := by obtain ⟨g, k, h1, h2, h3, h4⟩ := h; exact ⟨g, k, h1, h2, besAt hb h3 h4, h4⟩
theorem tabI_at {x : World} {g k : Nat} {L : List Int} (h : x.heap[g]? = some (.cells (L.map (Value.int .i64)).toArray 2 (0, 0))) (hk : k < L.length) : x.cell? ⟨g, k, none⟩ = some (.int .i64 L[k]) := by rw [rowCell h]; simp [hk]
theorem tabS_at {x : World} {g k : Nat} {L : List ByteArray} (h : x.heap[g]? = some (.cells (L.map Value.string).toArray 9 (0, 0))) (hk : k < L.length) : x.cell? ⟨g, k, none⟩ = some (.string L[k]) := by rw [rowCell h]; simp [hk]
def gNum (n : Nat) (v : Value) : Prop := ∃ k : Nat, v = .int .i64 k ∧ k < n
def gInt (lo hi : Int) (v : Value) : Prop := ∃ z : Int, v = .int .i64 z ∧ lo ≤ z ∧ z ≤ hi
def gTxt (n : Nat) (v : Value) : Prop := ∃ s : ByteArray, v = .string s ∧ s.size ≤ n
def gFl (B m : Nat) (x : World) (v : Value) : Prop := ∃ l, OwnsF x B v l ∧ FewF m l
theorem gFl.keep {b B m : Nat} {x y : World} {v : Value} (h : gFl B m x v) (hb : Beside b x y) (hB : b < B) : gFl B m y v := by obtain ⟨l, h1, h2⟩ := h; exact ⟨l, h1.beside10 hb hB, h2⟩
/-- A struct in a block of its own, from B on. -/
def gBox (b B : Nat) (c : Array Value) (ty : TypeId) (x : World) (v : Value) : Prop := ∃ g, v = .pointer (some ⟨g, 0, none⟩) ∧ x.heap[g]? = some (.cells c ty (0, 0)) ∧ g ≠ b ∧ B ≤ g
theorem gBox.keep {b B : Nat} {c : Array Value} {ty : TypeId} {x y : World} {v : Value} (h : gBox b B c ty x v) (hb : Beside b x y) : gBox b B c ty y v := by obtain ⟨g, h1, h2, h3, h4⟩ := h; exact ⟨g, h1, besAt hb h2 h3, h3, h4⟩
/-- What holds of the world all along. -/
def SCur (b : Nat) (sa : Option Addr) (sl sc : Nat) (w0 x : World) : Prop := Cur x b sa sl sc ∧ Beside b w0 x
theorem SCur.more {b : Nat} {sa : Option Addr} {sl sc : Nat} {w0 x : World} (h : SCur b sa sl sc w0 x) (o : Obj) : SCur b sa sl sc w0 (x.alloc o) := ⟨h.1.more9 o, h.2.more9 o⟩
theorem SCur.lt {b : Nat} {sa : Option Addr} {sl sc : Nat} {w0 x : World} (h : SCur b sa sl sc w0 x) : b < x.heap.size := h.1.2.2.1
theorem SCur.size {b : Nat} {sa : Option Addr} {sl sc : Nat} {w0 x : World} (h : SCur b sa sl sc w0 x) : w0.heap.size ≤ x.heap.size := h.2.2.2.2.1
/-- A drawn number below n, as one step. -/
theorem step_below {ops : Array Oper} {o : Oper} {a : Act} {x : World} {K : Act → World → Prop} {Q : Exit → Act → World → Prop} {E : Prop} {b : Nat} {sa : Option Addr} {sl sc : Nat} {w0 : World} (hgd : o.guard = none) (n : Nat) (h1 : 0 < n) (h2 : n ≤ 100000) (p : Operand) (ts : Array TypeId)
    (ho : o.op = .call { callee := .value (.func 75), args := #[p, .const (.int .i64 (n : Int))], argTypes := ts }) (hp : a.eval p = .pointer (some ⟨b, 0, none⟩)) (hS : SCur b sa sl sc w0 x)
    (h : ∀ v y, SCur b sa sl sc w0 y → Beside b x y → gNum n v → K (a.put o.dst v) y) : if Region.wanted o (yielded ops a.tmps) = true then Oper.wp Tryz.prog o a x K Q else E := by
  have hent : ∀ args w, (callFunc 75 args).run Tryz.prog w = .ok (.enter 75 args) w := Go.Proofs.enters_of Tryz.func75 (by kernel_rfl) rfl
  refine step_call2 hgd 75 p (.const (.int .i64 (n : Int))) ts ho (.pointer (some ⟨b, 0, none⟩)) (.int .i64 (n : Int)) hp rfl (hent _) (fun u y => SCur b sa sl sc w0 y ∧ Beside b x y ∧ gNum n u) ((l1Below b sa sl sc n (by omega) (by omega) x hS.1).mono ?_) ?_
  · rintro e y ⟨z, h0, hz0, hz1, hc, hb⟩
    exact ⟨_, h0, ⟨hc, hS.2.trans hb⟩, hb, z.toNat, by rw [Int.toNat_of_nonneg hz0], by omega⟩
  · rintro v y ⟨k1, k2, k3⟩
    exact h v y k1 k2 k3
/-- Any function of the program that draws from the cursor alone, as one step. -/
theorem step_draw1 {ops : Array Oper} {o : Oper} {a : Act} {x : World} {K : Act → World → Prop} {Q : Exit → Act → World → Prop} {E : Prop} {b : Nat} {sa : Option Addr} {sl sc : Nat} {w0 : World} (hgd : o.guard = none) (f : FuncId) (p : Operand) (ts : Array TypeId)
    (ho : o.op = .call { callee := .value (.func f), args := #[p], argTypes := ts }) (hp : a.eval p = .pointer (some ⟨b, 0, none⟩)) (hS : SCur b sa sl sc w0 x) (hent : ∀ args w, (callFunc f args).run Tryz.prog w = .ok (.enter f args) w) (R : World → Value → Prop)
    (hf : Calls Tryz.prog f #[.pointer (some ⟨b, 0, none⟩)] x fun e y => (∃ v, e = .returned v ∧ R y v) ∧ Cur y b sa sl sc ∧ Beside b x y)
    (h : ∀ v y, SCur b sa sl sc w0 y → Beside b x y → R y v → K (a.put o.dst v) y) : if Region.wanted o (yielded ops a.tmps) = true then Oper.wp Tryz.prog o a x K Q else E := by
  refine step_call1 hgd f p ts ho (.pointer (some ⟨b, 0, none⟩)) hp (hent _) (fun u y => SCur b sa sl sc w0 y ∧ Beside b x y ∧ R y u) (hf.mono ?_) ?_
  · rintro e y ⟨⟨v, h0, hr⟩, hc, hb⟩
    exact ⟨v, h0, ⟨hc, hS.2.trans hb⟩, hb, hr⟩
  · rintro v y ⟨k1, k2, k3⟩
    exact h v y k1 k2 k3
end Go.Proofs.YtemmgfnepdgpbaaGreatDoor
namespace Go.Proofs.YtemmgfnepdgpbaaGreatDoor.Dd
open Go.RowKit

theorem ret_bool {a b : Bool} (h : a = b) : Ending.returned (.bool a) = .returned (.bool b) := by rw [h]
theorem ret_int {a b : Int} (h : a = b) : Ending.returned (.int .i64 a) = .returned (.int .i64 b) := by rw [h]

/-- A leap year. -/
def leapB (y : Int) : Bool := (decide (y.tmod 4 = 0) && !decide (y.tmod 100 = 0)) || decide (y.tmod 400 = 0)

theorem specLeap (y : Int) (w : World) :
    Calls Tryz.prog 193 #[.int .i64 y] w fun e w' => e = .returned (.bool (leapB y)) ∧ w = w' := by
  go_enter Tryz.func193, Tryz.ntmps193
  go_wp2
  all_goals (go_ret; exact ⟨ret_bool (by simp [leapB, *] <;> rfl), rfl⟩)

/-- How many days a month has. -/
def mdays (y m : Int) : Int := if m = 2 then (if leapB y = true then 29 else 28) else if m = 4 ∨ m = 6 ∨ m = 9 ∨ m = 11 then 30 else 31
theorem mdays_bd (y m : Int) : 28 ≤ mdays y m ∧ mdays y m ≤ 31 := by
  unfold mdays
  split
  · split <;> omega
  · split <;> omega

/-- n lies between lo and hi. -/
def inR (n lo hi : Int) : Bool := decide (lo ≤ n ∧ n ≤ hi)
theorem inRange (n lo hi : Int) (w : World) : Calls Tryz.prog 33 #[.int .i64 n, .int .i64 lo, .int .i64 hi] w fun e w' => e = .returned (.bool (inR n lo hi)) ∧ w = w' := by
  unfold inR
  by_cases h1 : lo ≤ n
  · by_cases h2 : n ≤ hi
    · have e : decide (lo ≤ n ∧ n ≤ hi) = true := decide_eq_true ⟨h1, h2⟩
      rw [e]
      clear e
      go_enter Tryz.func33, Tryz.ntmps33
      go_wp2
      go_ret
      exact ⟨by simp, rfl⟩
    · have e : decide (lo ≤ n ∧ n ≤ hi) = false := decide_eq_false (fun x => h2 x.2)
      rw [e]
      clear e
      go_enter Tryz.func33, Tryz.ntmps33
      go_wp2
      go_ret
      exact ⟨by simp, rfl⟩
  · have e : decide (lo ≤ n ∧ n ≤ hi) = false := decide_eq_false (fun x => h1 x.1)
    rw [e]
    clear e
    go_enter Tryz.func33, Tryz.ntmps33
    go_wp2
    go_ret
    exact ⟨rfl, rfl⟩

end Go.Proofs.YtemmgfnepdgpbaaGreatDoor.Dd
namespace Go.Proofs.YtemmgfnepdgpbaaGreatDoor.Dd
open Go.RowKit

/-- How many days lie ahead of a year's first one. -/
def yr (y : Int) : Int := 365 * (y - 1970) + (y - 1) / 4 - (y - 1) / 100 + (y - 1) / 400 - 477
theorem yr_is {y : Int} (h : 1 ≤ y) : yr y = 365 * (y - 1970) + (y - 1).tdiv 4 - (y - 1).tdiv 100 + (y - 1).tdiv 400 - 477 := by
  unfold yr
  rw [Int.tdiv_eq_ediv_of_nonneg (by omega), Int.tdiv_eq_ediv_of_nonneg (by omega), Int.tdiv_eq_ediv_of_nonneg (by omega)]
theorem specYear (y : Int) (w : World) (h : 1970 ≤ y ∧ y ≤ 10001) :
    Calls Tryz.prog 188 #[.int .i64 y] w fun e w' => e = .returned (.int .i64 (yr y)) ∧ w = w' := by
  have e := yr_is (y := y) (by omega)
  have b4 : 0 ≤ (y - 1).tdiv 4 ∧ (y - 1).tdiv 4 ≤ 3000 := by rw [Int.tdiv_eq_ediv_of_nonneg (by omega)]; omega
  have b100 : 0 ≤ (y - 1).tdiv 100 ∧ (y - 1).tdiv 100 ≤ 3000 := by rw [Int.tdiv_eq_ediv_of_nonneg (by omega)]; omega
  have b400 : 0 ≤ (y - 1).tdiv 400 ∧ (y - 1).tdiv 400 ≤ 3000 := by rw [Int.tdiv_eq_ediv_of_nonneg (by omega)]; omega
  have E : Hid (yr y = 365 * (y - 1970) + (y - 1).tdiv 4 - (y - 1).tdiv 100 + (y - 1).tdiv 400 - 477) := e
  clear e
  go_enter Tryz.func188, Tryz.ntmps188
  go_wp2
  go_ret
  exact ⟨ret_int (by rw [E.out]), rfl⟩
end Go.Proofs.YtemmgfnepdgpbaaGreatDoor.Dd
namespace Go.Proofs.YtemmgfnepdgpbaaGreatDoor.Dd

/-- The days of a year ahead of its month k + 1. -/
def cum (y : Int) : Nat → Int
  | 0 => 0
  | k + 1 => cum y k + mdays y ((k : Int) + 1)
def lpN (y : Int) : Int := if leapB y = true then 1 else 0
theorem lpN_is {y : Int} (h : 0 ≤ y) : lpN y = if (y % 4 = 0 ∧ y % 100 ≠ 0) ∨ y % 400 = 0 then 1 else 0 := by
  unfold lpN leapB
  rw [Int.tmod_eq_emod_of_nonneg h, Int.tmod_eq_emod_of_nonneg h, Int.tmod_eq_emod_of_nonneg h]
  simp
theorem yr_next {y : Int} (h : 1970 ≤ y) : yr (y + 1) = yr y + 365 + lpN y := by
  rw [lpN_is (by omega)]
  unfold yr
  split <;> omega
theorem yr_mono {a b : Int} (h : a ≤ b) : yr a ≤ yr b := by unfold yr; omega
theorem yr_first {n : Int} (h0 : 0 ≤ n) : yr (1970 + n / 366) ≤ n := by unfold yr; omega
theorem yr_last {y : Int} (h : 10000 ≤ y) : 2932897 ≤ yr y := by unfold yr; omega
theorem yr_nonneg {y : Int} (h : 1970 ≤ y) : 0 ≤ yr y := by unfold yr; omega
theorem yr_top {y : Int} (h : y ≤ 10001) : yr y ≤ 2933300 := by unfold yr; omega
theorem cum_mono (y : Int) {a b : Nat} (h : a ≤ b) : cum y a ≤ cum y b := by
  induction b with
  | zero => rw [Nat.le_zero.1 h]; exact Int.le_refl _
  | succ b ih =>
    by_cases e : a = b + 1
    · rw [e]; exact Int.le_refl _
    · have := ih (by omega)
      have hb := mdays_bd y ((b : Int) + 1)
      show cum y a ≤ cum y b + mdays y ((b : Int) + 1)
      omega
theorem cum_12 (y : Int) : cum y 12 = 365 + lpN y := by
  simp only [cum, mdays, lpN]
  cases leapB y <;> decide
theorem lpN_bd (y : Int) : 0 ≤ lpN y ∧ lpN y ≤ 1 := by unfold lpN; split <;> omega
theorem cum_nonneg (y : Int) (k : Nat) : 0 ≤ cum y k := cum_mono y (Nat.zero_le k)
theorem cum_top (y : Int) {k : Nat} (h : k ≤ 12) : cum y k ≤ 366 := by
  have h1 := cum_mono y h
  have h2 := lpN_bd y
  rw [cum_12] at h1
  omega
theorem cum_at (y : Int) {m : Int} (h : 1 ≤ m) : cum y m.toNat = cum y (m - 1).toNat + mdays y m := by
  obtain ⟨k, rfl⟩ : ∃ k : Nat, m = (k : Int) + 1 := ⟨(m - 1).toNat, by omega⟩
  rw [show ((k : Int) + 1).toNat = k + 1 from by omega, show ((k : Int) + 1 - 1).toNat = k from by omega]
  rfl

/-- The number of a day. -/
def dayN (y m d : Int) : Int := yr y + d - 1 + cum y (m - 1).toNat
def momN (y m d h i s : Int) : Int := dayN y m d * 86400 + h * 3600 + i * 60 + s
/-- A day as it is. -/
def dayOk (y m d : Int) : Prop := (1970 ≤ y ∧ y ≤ 9999) ∧ (1 ≤ m ∧ m ≤ 12) ∧ (1 ≤ d ∧ d ≤ mdays y m)
theorem day_lo {y m d : Int} (h : dayOk y m d) : yr y ≤ dayN y m d := by
  have := cum_nonneg y (m - 1).toNat
  unfold dayOk at h; unfold dayN; omega
theorem day_hi {y m d : Int} (h : dayOk y m d) : dayN y m d < yr (y + 1) := by
  have h1 := cum_at y h.2.1.1
  have h2 := cum_mono y (show m.toNat ≤ 12 from by have := h.2.1.2; omega)
  rw [cum_12] at h2
  rw [yr_next h.1.1]
  unfold dayOk at h; unfold dayN; omega
theorem day_bd {y m d : Int} (h : dayOk y m d) : 0 ≤ dayN y m d ∧ dayN y m d ≤ 2932896 := by
  have h1 := day_lo h
  have h2 := day_hi h
  have h3 := yr_nonneg h.1.1
  have h4 := yr_mono (show y + 1 ≤ 10000 from by have := h.1.2; omega)
  rw [show yr 10000 = 2932897 from by decide] at h4
  omega
end Go.Proofs.YtemmgfnepdgpbaaGreatDoor.Dd
