/-
  The specification's l1Int of a number that is not negative: its decimal digits.
  Control as plain data: what is right, what is read, what it is shown as, what is tighter.
  Rows of like elements in memory, each in so many cells: rows that are read, rows that a call owns, rows that it has for itself. Whatever the elements.
  A struct in a block, whatever its cells.
-/
import Derived.Test.YtnachhmhjodbhaaGreatDoorG04
import Derived.Lib.ItoaNum
import Derived.WalkKit
import Derived.WalkSpells
import Derived.Test.YtnachhmhjodbhaaGreatDoorG26
import Derived.Deep.QuietTactic
import Derived.BigQuiet
namespace Go.Proofs.YtnachhmhjodbhaaGreatDoor
open Go.RowKit
set_option linter.unusedVariables false

def itoS (n : Nat) : ByteArray := ⟨(Lib.decDigits n).toArray⟩
theorem dec_small {u : Nat} (h : u < 10) : Lib.decDigits u = [UInt8.ofNat (48 + u)] := by rw [Lib.decDigits, dif_pos h]
theorem dec_big {u : Nat} (h : ¬ u < 10) : Lib.decDigits u = Lib.decDigits (u / 10) ++ [UInt8.ofNat (48 + u % 10)] := by rw [Lib.decDigits, dif_neg h]
theorem dec_len : ∀ (f u : Nat), u < 10 ^ (f + 1) → (Lib.decDigits u).length ≤ f + 1
  | 0, u, h => by rw [dec_small (by simpa using h)]; simp
  | f + 1, u, h => by
    by_cases h10 : u < 10
    · rw [dec_small h10]; simp
    · rw [dec_big h10, List.length_append]
      have := dec_len f (u / 10) (Nat.div_lt_of_lt_mul (by rw [Nat.mul_comm, ← Nat.pow_succ]; exact h))
      simp
      omega
theorem itoS_size {n : Nat} (h : n < 10000000000000000000) : (itoS n).size ≤ 19 := by
  have := dec_len 18 n (by simpa using h)
  unfold itoS
  show ((Lib.decDigits n).toArray).size ≤ 19
  simpa using this
theorem itoS_is {n : Nat} {x : ByteArray} (h : Lib.decDigits n = x.data.toList) : x = itoS n := by
  unfold itoS
  have : x.data = (Lib.decDigits n).toArray := Array.ext' (by rw [h])
  cases x
  exact congrArg _ this
theorem void8 (x : ByteArray) : x.toList.isEmpty = decide (x.size = 0) := by
  have e : x.toList = x.data.toList := by rw [ByteArray.toList_eq]
  rw [e]
  have h : x.data.toList.length = x.size := by simp
  cases hx : x.data.toList with
  | nil => rw [hx] at h; simp at h; simp [← h]
  | cons a b =>
    rw [hx] at h
    have h2 : ¬ x.size = 0 := by rw [← h]; simp
    rw [decide_eq_false h2]; rfl
/-- How far digits are written. -/
def DecZ (u m : Nat) (x : ByteArray) : Prop := (x.size = 0 ∧ m = u) ∨ (0 < x.size ∧ Lib.decDigits u = (if m = 0 then [] else Lib.decDigits m) ++ x.data.toList)
theorem cat8 (c : UInt8) (x : ByteArray) : ((⟨#[c]⟩ : ByteArray) ++ x).data.toList = c :: x.data.toList := by simp
theorem DecZ.next {u m : Nat} {x : ByteArray} (h : DecZ u m x) (h2 : x.size = 0 ∨ 0 < m) : DecZ u (m / 10) ((⟨#[UInt8.ofNat (48 + m % 10)]⟩ : ByteArray) ++ x) := by
  have hs : ((⟨#[UInt8.ofNat (48 + m % 10)]⟩ : ByteArray) ++ x).size = 1 + x.size := by rw [ByteArray.size_append]; rfl
  have hd : Lib.decDigits u = Lib.decDigits m ++ x.data.toList := by
    rcases h with ⟨h1, rfl⟩ | ⟨h1, h3⟩
    · have : x.data.toList = [] := List.eq_nil_of_length_eq_zero (by rw [← h1]; simp)
      rw [this, List.append_nil]
    · rw [if_neg (by omega)] at h3; exact h3
  refine .inr ⟨by omega, ?_⟩
  rw [hd, cat8]
  by_cases h10 : m < 10
  · rw [if_pos (by omega), dec_small h10, Nat.mod_eq_of_lt h10]; rfl
  · rw [if_neg (by omega), dec_big h10]; simp
theorem DecZ.size {u m : Nat} {x : ByteArray} (h : DecZ u m x) (hu : u < 10000000000000000000) : x.size ≤ 19 := by
  have hl : x.data.toList.length = x.size := by simp
  rcases h with ⟨h1, _⟩ | ⟨_, h3⟩
  · omega
  · have := dec_len 18 u (by simpa using hu)
    rw [h3, List.length_append] at this
    omega
theorem byte8 (w : World) (n : Int) (c : UInt8) (h : n = (c.toNat : Int)) : (convert 22 9 (.slice (some ⟨w.heap.size, 0, none⟩) 1 1)).run Tryz.prog (w.alloc (.cells #[.int .u8 n] 5)) = .ok (.string ⟨#[c]⟩) (w.alloc (.cells #[.int .u8 n] 5)) := by
  subst h
  exact OwnsB.text (OwnsB.one w c)
theorem dig8 {d : Nat} (h : d < 10) : ((UInt8.ofNat (48 + d)).toNat : Int) = 48 + (d : Int) := by
  have k : ∀ j : Fin 10, ((UInt8.ofNat (48 + j.val)).toNat : Int) = 48 + (j.val : Int) := by decide +kernel
  exact k ⟨d, h⟩
def decMu8 (a b : Value) : Nat := 2 * (intOf a).toNat + (match b with | .string s => if s.size = 0 then 1 else 0 | _ => 0)
theorem ret_str8 {a b : ByteArray} (h : a = b) : Ending.returned (.string a) = .returned (.string b) := by rw [h]
set_option maxHeartbeats 1000000 in
theorem specIntZ (n : Nat) (w : World) (hn : n ≤ 9223372036854775807) :
    Calls Tryz.prog 119 #[.int .i64 (n : Int)] w fun e w' => e = .returned (.string (itoS n)) ∧ Below w.heap.size w w' := by
  have H0 : Hid (DecZ n n ⟨#[]⟩) := .inl ⟨rfl, rfl⟩
  have hneg : decide ((n : Int) < 0) = false := by simp
  go_enter Tryz.func119, Tryz.ntmps119
  go_wp2
  go_loopw [0, 3, 5] (fun a b _ wr => ∃ (m : Nat) (x : ByteArray), a = .int .i64 m ∧ b = .string x ∧ m ≤ 9223372036854775807 ∧ Hid (DecZ n m x) ∧ Hid (Below w.heap.size w wr)) (fun a b _ _ => decMu8 a b)
  case atStart => exact ⟨n, ⟨#[]⟩, rfl, rfl, hn, H0, Below.refl _ _⟩
  case round =>
    obtain ⟨m, x, rfl, rfl, hm, hx, hb⟩ := hrel
    have hxs := hx.out.size (by omega)
    have hmod : m % 10 < 10 := Nat.mod_lt _ (by decide)
    by_cases hend : 0 < x.size ∧ m = 0
    · obtain ⟨h1, rfl⟩ := hend
      have hfe : x.toList.isEmpty = false := by rw [void8]; exact decide_eq_false (by omega)
      have HX : Hid (x = itoS n) := by
        rcases hx.out with ⟨h, _⟩ | ⟨_, h⟩
        · omega
        · exact itoS_is (by simpa using h)
      clear hx
      go_wp2
      go_ret
      exact ⟨ret_str8 HX.out, hb.out⟩
    · have hc : x.size = 0 ∨ 0 < m := by omega
      have HN : Hid (DecZ n (m / 10) ((⟨#[UInt8.ofNat (48 + m % 10)]⟩ : ByteArray) ++ x)) := hx.out.next hc
      have hby := dig8 hmod
      obtain ⟨q, hq⟩ : ∃ q, m % 10 = q := ⟨_, rfl⟩
      obtain ⟨p, hp⟩ : ∃ p, m / 10 = p := ⟨_, rfl⟩
      rw [hq] at HN hby hmod
      rw [hp] at HN
      have hpq : m = 10 * p + q := by omega
      have e3 : (m : Int) % 10 = (q : Int) := by omega
      have e4 : (m : Int) / 10 = (p : Int) := by omega
      have e1 : (m : Int).tmod 10 = (q : Int) := by rw [Int.tmod_eq_emod_of_nonneg (by omega)]; exact e3
      have e2 : (m : Int).tdiv 10 = (p : Int) := by rw [Int.tdiv_eq_ediv_of_nonneg (by omega)]; exact e4
      have d1 : ¬ (q : Int) < 0 := by omega
      have hwr : IntKind.u8.wrap (48 + (q : Int)) = 48 + (q : Int) := by rw [show IntKind.u8.wrap (48 + (q : Int)) = (48 + (q : Int)) % 256 from rfl]; omega
      have htx := fun W => byte8 W (48 + (q : Int)) (UInt8.ofNat (48 + q)) hby.symm
      have hsz : ((⟨#[UInt8.ofNat (48 + q)]⟩ : ByteArray) ++ x).size = 1 + x.size := by rw [ByteArray.size_append]; rfl
      have hsz1 : (⟨#[UInt8.ofNat (48 + q)]⟩ : ByteArray).size = 1 := rfl
      have HM : Hid (decMu8 (.int .i64 (p : Int)) (.string ((⟨#[UInt8.ofNat (48 + q)]⟩ : ByteArray) ++ x)) < decMu8 (.int .i64 (m : Int)) (.string x)) := by
        show 2 * (p : Int).toNat + (if ((⟨#[UInt8.ofNat (48 + q)]⟩ : ByteArray) ++ x).size = 0 then 1 else 0) < 2 * (m : Int).toNat + (if x.size = 0 then 1 else 0)
        rw [hsz, if_neg (by omega), Int.toNat_natCast, Int.toNat_natCast]
        rcases hc with hc | hc
        · rw [if_pos hc]; omega
        · omega
      have HP : Hid (p ≤ 9223372036854775807) := by show p ≤ _; omega
      clear hby hx hend hq hp hpq
      generalize UInt8.ofNat (48 + q) = c at HN htx hsz HM hsz1
      by_cases hv : x.size = 0
      · have hfe : x.toList.isEmpty = true := by rw [void8]; exact decide_eq_true hv
        go_wp2
        go_roundw
        case rel => exact ⟨p, _, rfl, rfl, HP.out, HN, hb.out.alloc hb.out.size _⟩
        case measure => exact HM.out
      · have hfe : x.toList.isEmpty = false := by rw [void8]; exact decide_eq_false hv
        have hne : ((m : Int) != 0) = true := by simp; omega
        have hne2 : ¬ (m : Int) = 0 := by omega
        go_wp2
        go_roundw
        case rel => exact ⟨p, _, rfl, rfl, HP.out, HN, hb.out.alloc hb.out.size _⟩
        case measure => exact HM.out
end Go.Proofs.YtnachhmhjodbhaaGreatDoor
namespace Go.Proofs.YtnachhmhjodbhaaGreatDoor
open Go.RowKit
set_option linter.unusedVariables false

structure Ct where
  a : Int
  s : Int
  t : Int
  ns : Bool
  nc : Bool
  pr : Bool
  mu : Bool
/-! ### What is tighter -/
/-! ### Showing -/
end Go.Proofs.YtnachhmhjodbhaaGreatDoor
namespace Go.Proofs.YtnachhmhjodbhaaGreatDoor
open Go.RowKit
set_option linter.unusedVariables false

/-- How an element lies in memory. -/
structure Enc (α : Type) where
  k : Nat
  pos : 0 < k
  c : α → List Value
  len : ∀ x, (c x).length = k
  one : ∀ x, ∀ u ∈ c x, u.oneCell' = true
def cellsE {α : Type} (E : Enc α) (l : List α) : List Value := l.flatMap E.c
theorem cellsE_cons {α : Type} (E : Enc α) (x : α) (l : List α) : cellsE E (x :: l) = E.c x ++ cellsE E l := rfl
theorem cellsE_single {α : Type} (E : Enc α) (x : α) : cellsE E [x] = E.c x := by simp [cellsE]
theorem cellsE_append {α : Type} (E : Enc α) (a b : List α) : cellsE E (a ++ b) = cellsE E a ++ cellsE E b := by simp [cellsE]
theorem cellsE_length {α : Type} (E : Enc α) (l : List α) : (cellsE E l).length = l.length * E.k := by
  induction l with
  | nil => simp [cellsE]
  | cons x l ih => rw [cellsE_cons, List.length_append, ih, E.len, List.length_cons, Nat.succ_mul]; omega
theorem cellsE_at {α : Type} (E : Enc α) (l : List α) : ∀ j (hj : j < l.length) i, i < E.k → (cellsE E l)[j * E.k + i]? = (E.c l[j])[i]? := by
  induction l with
  | nil => intro j hj; simp at hj
  | cons x l ih =>
    intro j hj i hi
    rw [cellsE_cons]
    cases j with
    | zero => rw [Nat.zero_mul, Nat.zero_add, List.getElem?_append_left (by rw [E.len]; exact hi)]; rfl
    | succ j =>
      rw [List.getElem?_append_right (by rw [E.len, Nat.succ_mul]; omega), E.len, show (j + 1) * E.k + i - E.k = j * E.k + i by rw [Nat.succ_mul]; omega]
      exact ih j (by simpa using hj) i hi
theorem cellsE_set {α : Type} (E : Enc α) (l : List α) : ∀ j (hj : j < l.length) i (_ : i < E.k) (u : Value) (y : α), E.c y = (E.c l[j]).set i u → (cellsE E l).set (j * E.k + i) u = cellsE E (l.set j y) := by
  induction l with
  | nil => intro j hj; simp at hj
  | cons x l ih =>
    intro j hj i hi u y hy
    rw [cellsE_cons]
    cases j with
    | zero => rw [Nat.zero_mul, Nat.zero_add, List.set_append_left _ _ (by rw [E.len]; exact hi), List.set_cons_zero, cellsE_cons, hy]; rfl
    | succ j =>
      rw [List.set_append_right _ _ (by rw [E.len, Nat.succ_mul]; omega), E.len, show (j + 1) * E.k + i - E.k = j * E.k + i by rw [Nat.succ_mul]; omega, List.set_cons_succ, cellsE_cons, ih j (by simpa using hj) i hi u y hy]
theorem cellsE_one {α : Type} (E : Enc α) (l : List α) : ∀ u ∈ cellsE E l, u.oneCell' = true := by
  intro u hu
  obtain ⟨x, _, h⟩ := List.mem_flatMap.1 hu
  exact E.one x u h

/-- The slice v reads as the elements l. -/
def Sls {α : Type} (E : Enc α) (w : World) (v : Value) (l : List α) : Prop :=
  ∃ a cap, v = .slice a l.length cap ∧ l.length ≤ cap ∧ cap ≤ maxLen ∧ (0 < l.length → ∃ g o, a = some ⟨g, o, none⟩ ∧ g < w.heap.size ∧
    ∀ j u, (cellsE E l)[j]? = some u → w.cell? ⟨g, o + j, none⟩ = some u)
theorem Sls.kept {α : Type} {E : Enc α} {w w' : World} {v : Value} {l : List α} (h : Sls E w v l) (hb : Below w.heap.size w w') : Sls E w' v l := by
  obtain ⟨a, cap, hv, h1, h2, h3⟩ := h
  refine ⟨a, cap, hv, h1, h2, fun h0 => ?_⟩
  obtain ⟨g, o, ha, hg, hc⟩ := h3 h0
  exact ⟨g, o, ha, Nat.lt_of_lt_of_le hg hb.size, fun j u hu => (hb.cell (p := ⟨g, o + j, none⟩) hg).trans (hc j u hu)⟩
theorem Sls.drewN {α : Type} {E : Enc α} {w : World} {v : Value} {l : List α} (h : Sls E w v l) (n : Nat) : Sls E (w.drewN n) v l := h
theorem Sls.grown {α : Type} {E : Enc α} {w w' : World} {v : Value} {l : List α} {r : Option Nat} (h : Sls E w v l) (hg : w.grownBy w' r) (hne : ∀ k, v.ownBlock = some k → r ≠ some k) : Sls E w' v l := by
  obtain ⟨a, cap, rfl, h1, h2, h3⟩ := h
  refine ⟨a, cap, rfl, h1, h2, fun h0 => ?_⟩
  obtain ⟨g, o, rfl, hgl, hc⟩ := h3 h0
  refine ⟨g, o, rfl, Nat.lt_of_lt_of_le hgl hg.size, fun j u hu => ?_⟩
  rw [← hc j u hu]
  simp only [World.cell?]
  rw [hg.block g hgl (fun e => hne g rfl e.symm)]
theorem Sls.nil {α : Type} {E : Enc α} {w : World} {a : Option Addr} {cap : Nat} (h : cap ≤ maxLen) : Sls E w (.slice a 0 cap) ([] : List α) :=
  ⟨a, cap, rfl, Nat.zero_le _, h, fun h0 => absurd h0 (Nat.lt_irrefl 0)⟩

/-- The value v owns the elements l, in a block from B on. -/
def OwnsE {α : Type} (E : Enc α) (ty : TypeId) (w : World) (B : Nat) (v : Value) (l : List α) : Prop := w.ownsRow B ty E.k v l.length (cellsE E l)
theorem OwnsE.none {α : Type} {E : Enc α} {ty : TypeId} (w : World) (B : Nat) : OwnsE E ty w B (.slice Option.none 0 0) ([] : List α) := ⟨by simp [cellsE], .inl ⟨rfl, rfl⟩⟩
theorem OwnsE.born {α : Type} {E : Enc α} {ty : TypeId} (w : World) : OwnsE E ty (w.alloc (.cells #[] ty)) w.heap.size (.slice (some ⟨w.heap.size, 0, Option.none⟩) 0 0) ([] : List α) :=
  World.ownsRow_lit w #[] 0 (Nat.le_refl _) (by unfold maxLen; decide) (by simp)
theorem OwnsE.alloc {α : Type} {E : Enc α} {ty : TypeId} {w : World} {B : Nat} {v : Value} {l : List α} (h : OwnsE E ty w B v l) (o : Obj) : OwnsE E ty (w.alloc o) B v l := World.ownsRow.alloc h o
theorem OwnsE.drew {α : Type} {E : Enc α} {ty : TypeId} {w : World} {B : Nat} {v : Value} {l : List α} (h : OwnsE E ty w B v l) : OwnsE E ty w.drew B v l := h
theorem OwnsE.drewN {α : Type} {E : Enc α} {ty : TypeId} {w : World} {B : Nat} {v : Value} {l : List α} (h : OwnsE E ty w B v l) (n : Nat) : OwnsE E ty (w.drewN n) B v l := h
theorem OwnsE.kept {α : Type} {E : Enc α} {ty : TypeId} {w w' : World} {B : Nat} {v : Value} {l : List α} (h : OwnsE E ty w B v l) (hb : Below w.heap.size w w') : OwnsE E ty w' B v l := by
  refine ⟨h.1, ?_⟩
  rcases h.2 with h0 | ⟨g, cap, cur, hv, hbg, hg, rest⟩
  · exact .inl h0
  · exact .inr ⟨g, cap, cur, hv, hbg, by rw [hb.block g (Array.getElem?_eq_some_iff.1 hg).1]; exact hg, rest⟩
theorem OwnsE.grown {α : Type} {E : Enc α} {ty : TypeId} {w w' : World} {B : Nat} {v : Value} {l : List α} {r : Option Nat} (h : OwnsE E ty w B v l) (hg : w.grownBy w' r) (hne : ∀ k, v.ownBlock = some k → r ≠ some k) : OwnsE E ty w' B v l := by
  refine ⟨h.1, ?_⟩
  rcases h.2 with h0 | ⟨g, cap, cur, hv, hbg, hh, rest⟩
  · exact .inl h0
  · exact .inr ⟨g, cap, cur, hv, hbg, by rw [hg.block g (Array.getElem?_eq_some_iff.1 hh).1 (fun e => hne g (by rw [hv]; rfl) e.symm)]; exact hh, rest⟩
theorem OwnsE.from {α : Type} {E : Enc α} {ty : TypeId} {w : World} {B : Nat} {v : Value} {l : List α} (h : OwnsE E ty w B v l) : ∀ k, v.ownBlock = some k → B ≤ k := fun k hk => (World.ownsRow.lt h k hk).1
theorem OwnsE.under {α : Type} {E : Enc α} {ty : TypeId} {w : World} {B : Nat} {v : Value} {l : List α} (h : OwnsE E ty w B v l) : ∀ k, v.ownBlock = some k → k < w.heap.size := fun k hk => (World.ownsRow.lt h k hk).2
theorem OwnsE.low {α : Type} {E : Enc α} {ty : TypeId} {w : World} {B B' : Nat} {v : Value} {l : List α} (h : OwnsE E ty w B v l) (hB : B' ≤ B) : OwnsE E ty w B' v l := by
  refine ⟨h.1, ?_⟩
  rcases h.2 with h0 | ⟨g, cap, cur, hv, hb, hg, rest⟩
  · exact .inl h0
  · exact .inr ⟨g, cap, cur, hv, by omega, hg, rest⟩
theorem OwnsE.form {α : Type} {E : Enc α} {ty : TypeId} {w : World} {B : Nat} {v : Value} {l : List α} (h : OwnsE E ty w B v l) : ∃ a cap, v = .slice a l.length cap ∧ l.length ≤ cap ∧ cap ≤ maxLen ∧ ((a = Option.none ∧ cap = 0) ∨ ∃ g, a = some ⟨g, 0, Option.none⟩) := by
  rcases h.2 with ⟨rfl, h0⟩ | ⟨g, cap, cur, rfl, hb, hg, hc, hm, rest⟩
  · exact ⟨Option.none, 0, by rw [h0], by omega, Nat.zero_le _, .inl ⟨rfl, rfl⟩⟩
  · exact ⟨_, cap, rfl, hc, hm, .inr ⟨g, rfl⟩⟩
theorem OwnsE.sls {α : Type} {E : Enc α} {ty : TypeId} {w : World} {B : Nat} {v : Value} {l : List α} (h : OwnsE E ty w B v l) : Sls E w v l := by
  have hh := h
  rcases h.2 with ⟨rfl, h0⟩ | ⟨g, cap, cur, rfl, hb, hg, hc, hm, rest⟩
  · exact ⟨Option.none, 0, by rw [h0], by omega, Nat.zero_le _, fun h1 => by omega⟩
  · refine ⟨some ⟨g, 0, Option.none⟩, cap, rfl, hc, hm, fun _ => ⟨g, 0, rfl, (Array.getElem?_eq_some_iff.1 hg).1, fun j u hu => ?_⟩⟩
    have k1 := World.ownsRow.cells hh (g := g) rfl j u hu
    rw [addr_add] at k1
    exact k1
theorem OwnsE.at {α : Type} {E : Enc α} {ty : TypeId} {w : World} {B g n cap : Nat} {l : List α} (h : OwnsE E ty w B (.slice (some ⟨g, 0, Option.none⟩) n cap) l) {j i : Nat} (hj : j < l.length) {u : Value} (hu : (E.c l[j])[i]? = some u) : w.cell? ⟨g, j * E.k + i, Option.none⟩ = some u := by
  have hi : i < E.k := by rw [← E.len l[j]]; exact (List.getElem?_eq_some_iff.1 hu).1
  have k1 := World.ownsRow.cells h (g := g) rfl (j * E.k + i) u (by rw [cellsE_at E l j hj i hi]; exact hu)
  rw [addr_add, Nat.zero_add] at k1
  exact k1
/-- One cell stored. -/
theorem OwnsE.put {α : Type} {E : Enc α} {ty : TypeId} {w : World} {B g n cap : Nat} {l : List α} (hn : n = l.length) (h : OwnsE E ty w B (.slice (some ⟨g, 0, Option.none⟩) n cap) l) {j i : Nat} (hj : j < l.length) (hi : i < E.k) (u : Value) (y : α) (hy : E.c y = (E.c l[j]).set i u) :
    OwnsE E ty (w.setCell ⟨g, j * E.k + i, Option.none⟩ u) B (.slice (some ⟨g, 0, Option.none⟩) n cap) (l.set j y) := by
  subst hn
  have h2 := (World.ownsRow.stored h (j * E.k + i) u).1
  unfold OwnsE
  rw [List.length_set, ← cellsE_set E l j hj i hi u y hy]
  exact h2
/-- A cell of another block stored. -/
theorem OwnsE.other {α : Type} {E : Enc α} {ty : TypeId} {w : World} {B : Nat} {v : Value} {l : List α} (h : OwnsE E ty w B v l) (a : Addr) (u : Value) (hne : ∀ k, v.ownBlock = some k → k ≠ a.block) : OwnsE E ty (w.setCell a u) B v l := by
  refine ⟨h.1, ?_⟩
  rcases h.2 with h0 | ⟨g, cap, cur, hv, hbg, hg, rest⟩
  · exact .inl h0
  · exact .inr ⟨g, cap, cur, hv, hbg, by rw [Below.heap_setCell _ _ _ _ (hne g (by rw [hv]; rfl))]; exact hg, rest⟩
/-- The value v has the elements l, in a block from B on, whatever room lies behind them. -/
def HasE {α : Type} (E : Enc α) (ty : TypeId) (w : World) (B : Nat) (v : Value) (l : List α) : Prop :=
  (v = .slice Option.none 0 0 ∧ l = []) ∨ ∃ g cap cur, v = .slice (some ⟨g, 0, Option.none⟩) l.length cap ∧ B ≤ g ∧ w.heap[g]? = some (.cells cur ty (0, 0)) ∧ l.length ≤ cap ∧ cap ≤ maxLen ∧ cap * E.k ≤ cur.size ∧ cur.toList.take (l.length * E.k) = cellsE E l
theorem OwnsE.has {α : Type} {E : Enc α} {ty : TypeId} {w : World} {B : Nat} {v : Value} {l : List α} (h : OwnsE E ty w B v l) : HasE E ty w B v l := by
  rcases h.2 with ⟨h0, h1⟩ | ⟨g, cap, cur, hv, hb, hg, hc, hm, hz, ht⟩
  · exact .inl ⟨h0, List.eq_nil_of_length_eq_zero h1⟩
  · exact .inr ⟨g, cap, cur, hv, hb, hg, hc, hm, by omega, ht⟩
theorem HasE.kept {α : Type} {E : Enc α} {ty : TypeId} {w w' : World} {B : Nat} {v : Value} {l : List α} (h : HasE E ty w B v l) (hb : Below w.heap.size w w') : HasE E ty w' B v l := by
  rcases h with h0 | ⟨g, cap, cur, hv, hbg, hg, rest⟩
  · exact .inl h0
  · exact .inr ⟨g, cap, cur, hv, hbg, by rw [hb.block g (Array.getElem?_eq_some_iff.1 hg).1]; exact hg, rest⟩
theorem HasE.grown {α : Type} {E : Enc α} {ty : TypeId} {w w' : World} {B : Nat} {v : Value} {l : List α} {r : Option Nat} (h : HasE E ty w B v l) (hg : w.grownBy w' r) (hne : ∀ k, v.ownBlock = some k → r ≠ some k) : HasE E ty w' B v l := by
  rcases h with h0 | ⟨g, cap, cur, hv, hbg, hh, rest⟩
  · exact .inl h0
  · exact .inr ⟨g, cap, cur, hv, hbg, by rw [hg.block g (Array.getElem?_eq_some_iff.1 hh).1 (fun e => hne g (by rw [hv]; rfl) e.symm)]; exact hh, rest⟩
theorem HasE.low {α : Type} {E : Enc α} {ty : TypeId} {w : World} {B B' : Nat} {v : Value} {l : List α} (h : HasE E ty w B v l) (hB : B' ≤ B) : HasE E ty w B' v l := by
  rcases h with h0 | ⟨g, cap, cur, hv, hb, rest⟩
  · exact .inl h0
  · exact .inr ⟨g, cap, cur, hv, by omega, rest⟩
theorem HasE.from {α : Type} {E : Enc α} {ty : TypeId} {w : World} {B : Nat} {v : Value} {l : List α} (h : HasE E ty w B v l) : ∀ k, v.ownBlock = some k → B ≤ k := by
  intro k hk
  rcases h with ⟨rfl, _⟩ | ⟨g, cap, cur, rfl, hb, _⟩
  · simp [Value.ownBlock] at hk
  · simp [Value.ownBlock] at hk; omega
theorem HasE.under {α : Type} {E : Enc α} {ty : TypeId} {w : World} {B : Nat} {v : Value} {l : List α} (h : HasE E ty w B v l) : ∀ k, v.ownBlock = some k → k < w.heap.size := by
  intro k hk
  rcases h with ⟨rfl, _⟩ | ⟨g, cap, cur, rfl, hb, hg, _⟩
  · simp [Value.ownBlock] at hk
  · simp [Value.ownBlock] at hk; subst hk; exact (Array.getElem?_eq_some_iff.1 hg).1
theorem HasE.form {α : Type} {E : Enc α} {ty : TypeId} {w : World} {B : Nat} {v : Value} {l : List α} (h : HasE E ty w B v l) : ∃ a cap, v = .slice a l.length cap ∧ l.length ≤ cap ∧ cap ≤ maxLen ∧ (0 < l.length → ∃ g, a = some ⟨g, 0, Option.none⟩) := by
  rcases h with ⟨rfl, rfl⟩ | ⟨g, cap, cur, rfl, hb, hg, hc, hm, _⟩
  · exact ⟨Option.none, 0, rfl, Nat.le_refl _, Nat.zero_le _, fun h => absurd h (by simp)⟩
  · exact ⟨_, cap, rfl, hc, hm, fun _ => ⟨g, rfl⟩⟩
theorem HasE.at {α : Type} {E : Enc α} {ty : TypeId} {w : World} {B g n cap : Nat} {l : List α} (h : HasE E ty w B (.slice (some ⟨g, 0, Option.none⟩) n cap) l) {j i : Nat} (hj : j < l.length) {u : Value} (hu : (E.c l[j])[i]? = some u) : w.cell? ⟨g, j * E.k + i, Option.none⟩ = some u := by
  rcases h with ⟨h0, _⟩ | ⟨g', cap', cur, hv, hb, hg, hc, hm, hz, ht⟩
  · cases h0
  · simp only [Value.slice.injEq, Option.some.injEq, Addr.mk.injEq, and_true] at hv
    obtain ⟨rfl, _⟩ := hv
    have hi : i < E.k := by rw [← E.len l[j]]; exact (List.getElem?_eq_some_iff.1 hu).1
    have hlt : j * E.k + i < l.length * E.k := by
      have : (j + 1) * E.k ≤ l.length * E.k := Nat.mul_le_mul_right _ hj
      rw [Nat.succ_mul] at this
      omega
    have c1 : (cellsE E l)[j * E.k + i]? = some u := by rw [cellsE_at E l j hj i hi]; exact hu
    rw [← ht, List.getElem?_take_of_lt hlt] at c1
    rw [cell_of_row w g _ cur _ _ hg]
    simpa using c1
theorem HasE.sls {α : Type} {E : Enc α} {ty : TypeId} {w : World} {B : Nat} {v : Value} {l : List α} (h : HasE E ty w B v l) : Sls E w v l := by
  rcases h with ⟨rfl, rfl⟩ | ⟨g, cap, cur, rfl, hb, hg, hc, hm, hz, ht⟩
  · exact Sls.nil (Nat.zero_le _)
  · refine ⟨_, cap, rfl, hc, hm, fun _ => ⟨g, 0, rfl, (Array.getElem?_eq_some_iff.1 hg).1, fun j u hu => ?_⟩⟩
    have hlt : j < l.length * E.k := by rw [← cellsE_length E l]; exact (List.getElem?_eq_some_iff.1 hu).1
    rw [← ht, List.getElem?_take_of_lt hlt] at hu
    rw [Nat.zero_add, cell_of_row w g _ cur _ _ hg]
    simpa using hu
theorem HasE.put {α : Type} {E : Enc α} {ty : TypeId} {w : World} {B g n cap : Nat} {l : List α} (h : HasE E ty w B (.slice (some ⟨g, 0, Option.none⟩) n cap) l) {j i : Nat} (hj : j < l.length) (hi : i < E.k) (u : Value) (y : α) (hy : E.c y = (E.c l[j]).set i u) :
    HasE E ty (w.setCell ⟨g, j * E.k + i, Option.none⟩ u) B (.slice (some ⟨g, 0, Option.none⟩) n cap) (l.set j y) := by
  rcases h with ⟨h0, _⟩ | ⟨g', cap', cur, hv, hb, hg, hc, hm, hz, ht⟩
  · cases h0
  · simp only [Value.slice.injEq, Option.some.injEq, Addr.mk.injEq, and_true] at hv
    obtain ⟨rfl, rfl, rfl⟩ := hv
    refine .inr ⟨g, cap, cur.setIfInBounds (j * E.k + i) u, by rw [List.length_set], hb, heap_setCell_same w g _ cur _ _ hg, by rw [List.length_set]; exact hc, hm, by simpa using hz, ?_⟩
    rw [List.length_set, ← cellsE_set E l j hj i hi u y hy, Array.toList_setIfInBounds, ← ht, List.take_set]
end Go.Proofs.YtnachhmhjodbhaaGreatDoor
namespace Go.Proofs.YtnachhmhjodbhaaGreatDoor
open Go.RowKit
set_option linter.unusedVariables false

/-- The struct x lies in the block b. -/
structure BlkE {α : Type} (E : Enc α) (w : World) (b : Nat) (x : α) : Prop where
  c : ∀ i u, (E.c x)[i]? = some u → w.cell? ⟨b, i, Option.none⟩ = some u
  fz : ∀ k, w.frozen? ⟨b, k, Option.none⟩ = false
  hi : b < w.heap.size
theorem BlkE.new {α : Type} {E : Enc α} (w : World) (x : α) (C : Array Value) (t : TypeId) (h : C.toList = E.c x) : BlkE E (w.alloc (.cells C t)) w.heap.size x where
  c := fun i u hu => by rw [World.cell?_alloc_mark]; rw [← h] at hu; simpa using hu
  fz := fun k => by rw [World.frozen?_alloc_mark]; simp
  hi := by simp
theorem BlkE.same {α : Type} {E : Enc α} {w w' : World} {b : Nat} {x : α} (h : BlkE E w b x) (e : w'.heap[b]? = w.heap[b]?) (hs : w.heap.size ≤ w'.heap.size) : BlkE E w' b x where
  c := fun i u hu => (World.cell?_of_block (a := ⟨b, i, Option.none⟩) e).trans (h.c i u hu)
  fz := fun k => (World.frozen?_of_block (a := ⟨b, k, Option.none⟩) e).trans (h.fz k)
  hi := Nat.lt_of_lt_of_le h.hi hs
theorem BlkE.kept {α : Type} {E : Enc α} {w w' : World} {b : Nat} {x : α} (h : BlkE E w b x) (hb : Below w.heap.size w w') : BlkE E w' b x := h.same (hb.block b h.hi) hb.size
theorem BlkE.alloc {α : Type} {E : Enc α} {w : World} {b : Nat} {x : α} (h : BlkE E w b x) (o : Obj) : BlkE E (w.alloc o) b x := h.kept ((Below.refl _ w).alloc (Nat.le_refl _) o)
theorem BlkE.drewN {α : Type} {E : Enc α} {w : World} {b : Nat} {x : α} (h : BlkE E w b x) (n : Nat) : BlkE E (w.drewN n) b x := h.same rfl (Nat.le_refl _)
/-- One cell stored. -/
theorem BlkE.put {α : Type} {E : Enc α} {w : World} {b : Nat} {x : α} (h : BlkE E w b x) {i : Nat} (hi : i < E.k) (u : Value) (y : α) (hy : E.c y = (E.c x).set i u) : BlkE E (w.setCell ⟨b, i, Option.none⟩ u) b y where
  c := fun j v hv => by
    rw [hy] at hv
    by_cases e : j = i
    · subst e
      have hlt : j < (E.c x).length := by rw [E.len]; exact hi
      have e2 : v = u := by rw [List.getElem?_set_self hlt] at hv; exact (Option.some.inj hv).symm
      subst e2
      exact World.cell?_setCell_same _ _ _ (h.c j ((E.c x)[j]'hlt) (List.getElem?_eq_getElem hlt))
    · rw [List.getElem?_set_ne (fun h => e h.symm)] at hv
      rw [World.cell?_setCell_other _ _ _ _ (by simp <;> omega)]
      exact h.c j v hv
  fz := fun k => by rw [World.frozen?_setCell]; exact h.fz k
  hi := by rw [World.size_setCell]; exact h.hi
/-- A cell of another block stored. -/
theorem BlkE.other {α : Type} {E : Enc α} {w : World} {b : Nat} {x : α} (h : BlkE E w b x) (a : Addr) (u : Value) (hne : b ≠ a.block) : BlkE E (w.setCell a u) b x := h.same (Below.heap_setCell _ _ _ _ hne) (by rw [World.size_setCell]; exact Nat.le_refl _)
/-- All its cells stored, one behind the other. -/
def putL (w : World) (b : Nat) : List Value → Nat → World
  | [], _ => w
  | v :: vs, i => putL (w.setCell ⟨b, i, Option.none⟩ v) b vs (i + 1)
theorem putL_block (b : Nat) : ∀ (vs : List Value) (i : Nat) (w : World) (k : Nat), k ≠ b → (putL w b vs i).heap[k]? = w.heap[k]?
  | [], _, _, _, _ => rfl
  | v :: vs, i, w, k, hk => (putL_block b vs (i + 1) _ k hk).trans (Below.heap_setCell _ _ _ _ hk)
theorem putL_size (b : Nat) : ∀ (vs : List Value) (i : Nat) (w : World), (putL w b vs i).heap.size = w.heap.size
  | [], _, _ => rfl
  | v :: vs, i, w => (putL_size b vs (i + 1) _).trans (World.size_setCell _ _ _)
theorem putL_below {B b : Nat} (hB : B ≤ b) {w0 : World} : ∀ (vs : List Value) (i : Nat) {w : World}, Below B w0 w → Below B w0 (putL w b vs i)
  | [], _, _, h => h
  | v :: vs, i, _, h => putL_below hB vs (i + 1) (h.setCell (p := ⟨b, i, Option.none⟩) hB v)
theorem putL_cells {w0 : World} (b : Nat) : ∀ (vs : List Value) (i : Nat) (w : World), (∀ j, i ≤ j → j < i + vs.length → ∃ u, w.cell? ⟨b, j, Option.none⟩ = some u) → ∀ j, (∀ v, (vs[j - i]? = some v ∧ i ≤ j) → (putL w b vs i).cell? ⟨b, j, Option.none⟩ = some v) ∧ (j < i → (putL w b vs i).cell? ⟨b, j, Option.none⟩ = w.cell? ⟨b, j, Option.none⟩)
  | [], i, w, _, j => ⟨fun v h => by simp at h, fun _ => rfl⟩
  | v :: vs, i, w, hc, j => by
    have ih := putL_cells (w0 := w0) b vs (i + 1) (w.setCell ⟨b, i, Option.none⟩ v) (fun q h1 h2 => by
      obtain ⟨u, hu⟩ := hc q (by omega) (by simp at h2 ⊢; omega)
      exact ⟨u, by rw [World.cell?_setCell_other _ _ _ _ (by simp <;> omega)]; exact hu⟩) j
    obtain ⟨u0, hu0⟩ := hc i (Nat.le_refl _) (by simp)
    refine ⟨fun x hx => ?_, fun hj => ?_⟩
    · by_cases e : j = i
      · subst e
        have : x = v := by have := hx.1; simp at this; exact this.symm
        subst this
        show (putL (w.setCell ⟨b, j, Option.none⟩ x) b vs (j + 1)).cell? _ = _
        rw [ih.2 (by omega)]
        exact World.cell?_setCell_same _ _ _ hu0
      · refine ih.1 x ⟨?_, by omega⟩
        have h1 := hx.1
        rw [show j - i = (j - (i + 1)) + 1 by omega, List.getElem?_cons_succ] at h1
        exact h1
    · show (putL (w.setCell ⟨b, i, Option.none⟩ v) b vs (i + 1)).cell? _ = _
      rw [ih.2 (by omega), World.cell?_setCell_other _ _ _ _ (by simp <;> omega)]
theorem putL_frozen (b : Nat) : ∀ (vs : List Value) (i : Nat) (w : World) (k : Nat), (putL w b vs i).frozen? ⟨b, k, Option.none⟩ = w.frozen? ⟨b, k, Option.none⟩
  | [], _, _, _ => rfl
  | v :: vs, i, w, k => (putL_frozen b vs (i + 1) _ k).trans (World.frozen?_setCell _ _ _ _)
theorem BlkE.puts {α : Type} {E : Enc α} {w : World} {b : Nat} {x : α} (h : BlkE E w b x) (y : α) : BlkE E (putL w b (E.c y) 0) b y where
  c := fun i u hu => by
    refine (putL_cells (w0 := w) b (E.c y) 0 w (fun j _ h2 => ?_) i).1 u ⟨by simpa using hu, Nat.zero_le _⟩
    have hlt : j < (E.c x).length := by rw [E.len]; rw [E.len] at h2; omega
    exact ⟨_, h.c j _ (List.getElem?_eq_getElem hlt)⟩
  fz := fun k => by rw [putL_frozen]; exact h.fz k
  hi := by rw [putL_size]; exact h.hi
end Go.Proofs.YtnachhmhjodbhaaGreatDoor
