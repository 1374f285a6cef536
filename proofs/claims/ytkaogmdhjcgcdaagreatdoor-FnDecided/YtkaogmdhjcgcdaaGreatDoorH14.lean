/-
  The specification's l1Int of a number that is not negative: its decimal digits.
  Control as plain data: what is right, what is read, what it is shown as, what is tighter.
  Rows of like elements in memory, each in so many cells: rows that are read, rows that a call owns, rows that it has for itself. Whatever the elements.
  A struct in a block, whatever its cells.
  A region that draws its order, whose operations only read but for a few at its end that wait for all the others, walked once: what is read first, in the text's order, then the end.
  The specification's ControlOk and Tighter by their contracts; the laws' own helpers on control.
  The specification's policy by its contracts: keys, moments, what is a right object.
-/
import Derived.Test.YtkaogmdhjcgcdaaGreatDoorH05
import Derived.Lib.ItoaNum
import Derived.WalkKit
import Derived.WalkSpells
import Derived.Test.YtkaogmdhjcgcdaaGreatDoorH13
import Derived.Deep.QuietTactic
import Derived.BigQuiet
import Derived.Test.YtkaogmdhjcgcdaaGreatDoorRows
import Derived.StillTail
import Derived.Lib.QuietBelow
import Derived.Test.YtkaogmdhjcgcdaaGreatDoorH12
import Derived.Test.YtkaogmdhjcgcdaaGreatDoorH10
import Derived.Test.YtkaogmdhjcgcdaaGreatDoorH07
namespace Go.Proofs.YtkaogmdhjcgcdaaGreatDoor
open Go.RowKit
set_option linter.unusedVariables false

def itoS (n : Nat) : ByteArray := ⟨(Lib.decDigits n).toArray⟩
theorem dec_small {u : Nat} (h : u < 10) : Lib.decDigits u = [UInt8.ofNat (48 + u)] := by rw [Lib.decDigits, dif_pos h]
theorem dec_big {u : Nat} (h : ¬ u < 10) : Lib.decDigits u = Lib.decDigits (u / 10) ++ [UInt8.ofNat (48 + u % 10)] := by rw [Lib.decDigits, dif_neg h]
theorem dec_len : ∀ (f u : Nat), u < 10 ^ (f + 1) → (Lib.decDigits u).length ≤ f + 1
  | 0, u, h => by rw [dec_small (by simpa using h)]; simp
  | f + 1, u, h => by
    by_cases h10 : u < 10
    · rw [dec_small h10]; simp
    · rw [dec_big h10, List.length_append]
      have := dec_len f (u / 10) (Nat.div_lt_of_lt_mul (by rw [Nat.mul_comm, ← Nat.pow_succ]; exact h))
      simp
      omega
theorem itoS_size {n : Nat} (h : n < 10000000000000000000) : (itoS n).size ≤ 19 := by
  have := dec_len 18 n (by simpa using h)
  unfold itoS
  show ((Lib.decDigits n).toArray).size ≤ 19
  simpa using this
theorem itoS_is {n : Nat} {x : ByteArray} (h : Lib.decDigits n = x.data.toList) : x = itoS n := by
  unfold itoS
  have : x.data = (Lib.decDigits n).toArray := Array.ext' (by rw [h])
  cases x
  exact congrArg _ this
theorem void8 (x : ByteArray) : x.toList.isEmpty = decide (x.size = 0) := by
  have e : x.toList = x.data.toList := by rw [ByteArray.toList_eq]
  rw [e]
  have h : x.data.toList.length = x.size := by simp
  cases hx : x.data.toList with
  | nil => rw [hx] at h; simp at h; simp [← h]
  | cons a b =>
    rw [hx] at h
    have h2 : ¬ x.size = 0 := by rw [← h]; simp
    rw [decide_eq_false h2]; rfl
/-- How far digits are written. -/
def DecZ (u m : Nat) (x : ByteArray) : Prop := (x.size = 0 ∧ m = u) ∨ (0 < x.size ∧ Lib.decDigits u = (if m = 0 then [] else Lib.decDigits m) ++ x.data.toList)
theorem cat8 (c : UInt8) (x : ByteArray) : ((⟨#[c]⟩ : ByteArray) ++ x).data.toList = c :: x.data.toList := by simp
theorem DecZ.next {u m : Nat} {x : ByteArray} (h : DecZ u m x) (h2 : x.size = 0 ∨ 0 < m) : DecZ u (m / 10) ((⟨#[UInt8.ofNat (48 + m % 10)]⟩ : ByteArray) ++ x) := by
  have hs : ((⟨#[UInt8.ofNat (48 + m % 10)]⟩ : ByteArray) ++ x).size = 1 + x.size := by rw [ByteArray.size_append]; rfl
  have hd : Lib.decDigits u = Lib.decDigits m ++ x.data.toList := by
    rcases h with ⟨h1, rfl⟩ | ⟨h1, h3⟩
    · have : x.data.toList = [] := List.eq_nil_of_length_eq_zero (by rw [← h1]; simp)
      rw [this, List.append_nil]
    · rw [if_neg (by omega)] at h3; exact h3
  refine .inr ⟨by omega, ?_⟩
  rw [hd, cat8]
  by_cases h10 : m < 10
  · rw [if_pos (by omega), dec_small h10, Nat.mod_eq_of_lt h10]; rfl
  · rw [if_neg (by omega), dec_big h10]; simp
theorem DecZ.size {u m : Nat} {x : ByteArray} (h : DecZ u m x) (hu : u < 10000000000000000000) : x.size ≤ 19 := by
  have hl : x.data.toList.length = x.size := by simp
  rcases h with ⟨h1, _⟩ | ⟨_, h3⟩
  · omega
  · have := dec_len 18 u (by simpa using hu)
    rw [h3, List.length_append] at this
    omega
theorem byte8 (w : World) (n : Int) (c : UInt8) (h : n = (c.toNat : Int)) : (convert 22 9 (.slice (some ⟨w.heap.size, 0, none⟩) 1 1)).run Tryz.prog (w.alloc (.cells #[.int .u8 n] 5)) = .ok (.string ⟨#[c]⟩) (w.alloc (.cells #[.int .u8 n] 5)) := by
  subst h
  exact OwnsB.text (OwnsB.one w c)
theorem dig8 {d : Nat} (h : d < 10) : ((UInt8.ofNat (48 + d)).toNat : Int) = 48 + (d : Int) := by
  have k : ∀ j : Fin 10, ((UInt8.ofNat (48 + j.val)).toNat : Int) = 48 + (j.val : Int) := by decide +kernel
  exact k ⟨d, h⟩
def decMu8 (a b : Value) : Nat := 2 * (intOf a).toNat + (match b with | .string s => if s.size = 0 then 1 else 0 | _ => 0)
theorem ret_str8 {a b : ByteArray} (h : a = b) : Ending.returned (.string a) = .returned (.string b) := by rw [h]
set_option maxHeartbeats 1000000 in
theorem specIntZ (n : Nat) (w : World) (hn : n ≤ 9223372036854775807) :
    Calls Tryz.prog 110 #[.int .i64 (n : Int)] w fun e w' => e = .returned (.string (itoS n)) ∧ Below w.heap.size w w' := by
  have H0 : Hid (DecZ n n ⟨#[]⟩) := .inl ⟨rfl, rfl⟩
  have hneg : decide ((n : Int) < 0) = false := by simp
  go_enter Tryz.func110, Tryz.ntmps110
  go_wp2
  go_loopw [0, 3, 5] (fun a b _ wr => ∃ (m : Nat) (x : ByteArray), a = .int .i64 m ∧ b = .string x ∧ m ≤ 9223372036854775807 ∧ Hid (DecZ n m x) ∧ Hid (Below w.heap.size w wr)) (fun a b _ _ => decMu8 a b)
  case atStart => exact ⟨n, ⟨#[]⟩, rfl, rfl, hn, H0, Below.refl _ _⟩
  case round =>
    obtain ⟨m, x, rfl, rfl, hm, hx, hb⟩ := hrel
    have hxs := hx.out.size (by omega)
    have hmod : m % 10 < 10 := Nat.mod_lt _ (by decide)
    by_cases hend : 0 < x.size ∧ m = 0
    · obtain ⟨h1, rfl⟩ := hend
      have hfe : x.toList.isEmpty = false := by rw [void8]; exact decide_eq_false (by omega)
      have HX : Hid (x = itoS n) := by
        rcases hx.out with ⟨h, _⟩ | ⟨_, h⟩
        · omega
        · exact itoS_is (by simpa using h)
      clear hx
      go_wp2
      go_ret
      exact ⟨ret_str8 HX.out, hb.out⟩
    · have hc : x.size = 0 ∨ 0 < m := by omega
      have HN : Hid (DecZ n (m / 10) ((⟨#[UInt8.ofNat (48 + m % 10)]⟩ : ByteArray) ++ x)) := hx.out.next hc
      have hby := dig8 hmod
      obtain ⟨q, hq⟩ : ∃ q, m % 10 = q := ⟨_, rfl⟩
      obtain ⟨p, hp⟩ : ∃ p, m / 10 = p := ⟨_, rfl⟩
      rw [hq] at HN hby hmod
      rw [hp] at HN
      have hpq : m = 10 * p + q := by omega
      have e3 : (m : Int) % 10 = (q : Int) := by omega
      have e4 : (m : Int) / 10 = (p : Int) := by omega
      have e1 : (m : Int).tmod 10 = (q : Int) := by rw [Int.tmod_eq_emod_of_nonneg (by omega)]; exact e3
      have e2 : (m : Int).tdiv 10 = (p : Int) := by rw [Int.tdiv_eq_ediv_of_nonneg (by omega)]; exact e4
      have d1 : ¬ (q : Int) < 0 := by omega
      have hwr : IntKind.u8.wrap (48 + (q : Int)) = 48 + (q : Int) := by rw [show IntKind.u8.wrap (48 + (q : Int)) = (48 + (q : Int)) % 256 from rfl]; omega
      have htx := fun W => byte8 W (48 + (q : Int)) (UInt8.ofNat (48 + q)) hby.symm
      have hsz : ((⟨#[UInt8.ofNat (48 + q)]⟩ : ByteArray) ++ x).size = 1 + x.size := by rw [ByteArray.size_append]; rfl
      have hsz1 : (⟨#[UInt8.ofNat (48 + q)]⟩ : ByteArray).size = 1 := rfl
      have HM : Hid (decMu8 (.int .i64 (p : Int)) (.string ((⟨#[UInt8.ofNat (48 + q)]⟩ : ByteArray) ++ x)) < decMu8 (.int .i64 (m : Int)) (.string x)) := by
        show 2 * (p : Int).toNat + (if ((⟨#[UInt8.ofNat (48 + q)]⟩ : ByteArray) ++ x).size = 0 then 1 else 0) < 2 * (m : Int).toNat + (if x.size = 0 then 1 else 0)
        rw [hsz, if_neg (by omega), Int.toNat_natCast, Int.toNat_natCast]
        rcases hc with hc | hc
        · rw [if_pos hc]; omega
        · omega
      have HP : Hid (p ≤ 9223372036854775807) := by show p ≤ _; omega
      clear hby hx hend hq hp hpq
      generalize UInt8.ofNat (48 + q) = c at HN htx hsz HM hsz1
      by_cases hv : x.size = 0
      · have hfe : x.toList.isEmpty = true := by rw [void8]; exact decide_eq_true hv
        go_wp2
        go_roundw
        case rel => exact ⟨p, _, rfl, rfl, HP.out, HN, hb.out.alloc hb.out.size _⟩
        case measure => exact HM.out
      · have hfe : x.toList.isEmpty = false := by rw [void8]; exact decide_eq_false hv
        have hne : ((m : Int) != 0) = true := by simp; omega
        have hne2 : ¬ (m : Int) = 0 := by omega
        go_wp2
        go_roundw
        case rel => exact ⟨p, _, rfl, rfl, HP.out, HN, hb.out.alloc hb.out.size _⟩
        case measure => exact HM.out
end Go.Proofs.YtkaogmdhjcgcdaaGreatDoor
namespace Go.Proofs.YtkaogmdhjcgcdaaGreatDoor
open Go.RowKit
set_option linter.unusedVariables false

structure Ct where
  a : Int
  s : Int
  t : Int
  ns : Bool
  nc : Bool
  pr : Bool
  mu : Bool
def ctV (c : Ct) : Value := .agg #[.int .i64 c.a, .int .i64 c.s, .int .i64 c.t, .bool c.ns, .bool c.nc, .bool c.pr, .bool c.mu]
def ctZ : Ct := ⟨0, 0, 0, false, false, false, false⟩
def ctN : Ct := ⟨-1, -1, -1, false, false, false, false⟩
def secB (n : Int) : Bool := decide (-1 ≤ n) && decide (n ≤ 1000000000)
theorem secB_iff {n : Int} : secB n = true ↔ -1 ≤ n ∧ n ≤ 1000000000 := by
  unfold secB; rw [Bool.and_eq_true, decide_eq_true_iff, decide_eq_true_iff]
def ctB (c : Ct) : Bool := secB c.a && (secB c.s && secB c.t)
theorem ctB_iff {c : Ct} : ctB c = true ↔ secB c.a = true ∧ secB c.s = true ∧ secB c.t = true := by unfold ctB; rw [Bool.and_eq_true, Bool.and_eq_true]
/-! ### What is tighter -/
theorem ct_low {a : Ct} (h : ctB a = true) : -1 ≤ a.a ∧ -1 ≤ a.s ∧ -1 ≤ a.t := by
  rw [ctB_iff, secB_iff, secB_iff, secB_iff] at h; exact ⟨h.1.1, h.2.1.1, h.2.2.1⟩
def nmA : ByteArray := ⟨#[109, 97, 120, 45, 97, 103, 101, 61]⟩
def nmS : ByteArray := ⟨#[115, 45, 109, 97, 120, 97, 103, 101, 61]⟩
def nmT : ByteArray := ⟨#[109, 97, 120, 45, 115, 116, 97, 108, 101, 61]⟩
def wdT : ByteArray := ⟨#[109, 97, 120, 45, 115, 116, 97, 108, 101]⟩
def wdS : ByteArray := ⟨#[110, 111, 45, 115, 116, 111, 114, 101]⟩
def wdC : ByteArray := ⟨#[110, 111, 45, 99, 97, 99, 104, 101]⟩
def wdP : ByteArray := ⟨#[112, 114, 105, 118, 97, 116, 101]⟩
def wdM : ByteArray := ⟨#[109, 117, 115, 116, 45, 114, 101, 118, 97, 108, 105, 100, 97, 116, 101]⟩
/-! ### Showing -/
end Go.Proofs.YtkaogmdhjcgcdaaGreatDoor
namespace Go.Proofs.YtkaogmdhjcgcdaaGreatDoor
open Go.RowKit
set_option linter.unusedVariables false

/-- How an element lies in memory. -/
structure Enc (α : Type) where
  k : Nat
  pos : 0 < k
  c : α → List Value
  len : ∀ x, (c x).length = k
  one : ∀ x, ∀ u ∈ c x, u.oneCell' = true
def cellsE {α : Type} (E : Enc α) (l : List α) : List Value := l.flatMap E.c
theorem cellsE_cons {α : Type} (E : Enc α) (x : α) (l : List α) : cellsE E (x :: l) = E.c x ++ cellsE E l := rfl
theorem cellsE_at {α : Type} (E : Enc α) (l : List α) : ∀ j (hj : j < l.length) i, i < E.k → (cellsE E l)[j * E.k + i]? = (E.c l[j])[i]? := by
  induction l with
  | nil => intro j hj; simp at hj
  | cons x l ih =>
    intro j hj i hi
    rw [cellsE_cons]
    cases j with
    | zero => rw [Nat.zero_mul, Nat.zero_add, List.getElem?_append_left (by rw [E.len]; exact hi)]; rfl
    | succ j =>
      rw [List.getElem?_append_right (by rw [E.len, Nat.succ_mul]; omega), E.len, show (j + 1) * E.k + i - E.k = j * E.k + i by rw [Nat.succ_mul]; omega]
      exact ih j (by simpa using hj) i hi
theorem cellsE_set {α : Type} (E : Enc α) (l : List α) : ∀ j (hj : j < l.length) i (_ : i < E.k) (u : Value) (y : α), E.c y = (E.c l[j]).set i u → (cellsE E l).set (j * E.k + i) u = cellsE E (l.set j y) := by
  induction l with
  | nil => intro j hj; simp at hj
  | cons x l ih =>
    intro j hj i hi u y hy
    rw [cellsE_cons]
    cases j with
    | zero => rw [Nat.zero_mul, Nat.zero_add, List.set_append_left _ _ (by rw [E.len]; exact hi), List.set_cons_zero, cellsE_cons, hy]; rfl
    | succ j =>
      rw [List.set_append_right _ _ (by rw [E.len, Nat.succ_mul]; omega), E.len, show (j + 1) * E.k + i - E.k = j * E.k + i by rw [Nat.succ_mul]; omega, List.set_cons_succ, cellsE_cons, ih j (by simpa using hj) i hi u y hy]
/-- The slice v reads as the elements l. -/
def Sls {α : Type} (E : Enc α) (w : World) (v : Value) (l : List α) : Prop :=
  ∃ a cap, v = .slice a l.length cap ∧ l.length ≤ cap ∧ cap ≤ maxLen ∧ (0 < l.length → ∃ g o, a = some ⟨g, o, none⟩ ∧ g < w.heap.size ∧
    ∀ j u, (cellsE E l)[j]? = some u → w.cell? ⟨g, o + j, none⟩ = some u)
theorem Sls.kept {α : Type} {E : Enc α} {w w' : World} {v : Value} {l : List α} (h : Sls E w v l) (hb : Below w.heap.size w w') : Sls E w' v l := by
  obtain ⟨a, cap, hv, h1, h2, h3⟩ := h
  refine ⟨a, cap, hv, h1, h2, fun h0 => ?_⟩
  obtain ⟨g, o, ha, hg, hc⟩ := h3 h0
  exact ⟨g, o, ha, Nat.lt_of_lt_of_le hg hb.size, fun j u hu => (hb.cell (p := ⟨g, o + j, none⟩) hg).trans (hc j u hu)⟩
theorem Sls.drewN {α : Type} {E : Enc α} {w : World} {v : Value} {l : List α} (h : Sls E w v l) (n : Nat) : Sls E (w.drewN n) v l := h
theorem Sls.grown {α : Type} {E : Enc α} {w w' : World} {v : Value} {l : List α} {r : Option Nat} (h : Sls E w v l) (hg : w.grownBy w' r) (hne : ∀ k, v.ownBlock = some k → r ≠ some k) : Sls E w' v l := by
  obtain ⟨a, cap, rfl, h1, h2, h3⟩ := h
  refine ⟨a, cap, rfl, h1, h2, fun h0 => ?_⟩
  obtain ⟨g, o, rfl, hgl, hc⟩ := h3 h0
  refine ⟨g, o, rfl, Nat.lt_of_lt_of_le hgl hg.size, fun j u hu => ?_⟩
  rw [← hc j u hu]
  simp only [World.cell?]
  rw [hg.block g hgl (fun e => hne g rfl e.symm)]
theorem Sls.nil {α : Type} {E : Enc α} {w : World} {a : Option Addr} {cap : Nat} (h : cap ≤ maxLen) : Sls E w (.slice a 0 cap) ([] : List α) :=
  ⟨a, cap, rfl, Nat.zero_le _, h, fun h0 => absurd h0 (Nat.lt_irrefl 0)⟩

/-- The value v owns the elements l, in a block from B on. -/
def OwnsE {α : Type} (E : Enc α) (ty : TypeId) (w : World) (B : Nat) (v : Value) (l : List α) : Prop := w.ownsRow B ty E.k v l.length (cellsE E l)
theorem OwnsE.none {α : Type} {E : Enc α} {ty : TypeId} (w : World) (B : Nat) : OwnsE E ty w B (.slice Option.none 0 0) ([] : List α) := ⟨by simp [cellsE], .inl ⟨rfl, rfl⟩⟩
theorem OwnsE.born {α : Type} {E : Enc α} {ty : TypeId} (w : World) : OwnsE E ty (w.alloc (.cells #[] ty)) w.heap.size (.slice (some ⟨w.heap.size, 0, Option.none⟩) 0 0) ([] : List α) :=
  World.ownsRow_lit w #[] 0 (Nat.le_refl _) (by unfold maxLen; decide) (by simp)
theorem OwnsE.alloc {α : Type} {E : Enc α} {ty : TypeId} {w : World} {B : Nat} {v : Value} {l : List α} (h : OwnsE E ty w B v l) (o : Obj) : OwnsE E ty (w.alloc o) B v l := World.ownsRow.alloc h o
theorem OwnsE.drew {α : Type} {E : Enc α} {ty : TypeId} {w : World} {B : Nat} {v : Value} {l : List α} (h : OwnsE E ty w B v l) : OwnsE E ty w.drew B v l := h
theorem OwnsE.drewN {α : Type} {E : Enc α} {ty : TypeId} {w : World} {B : Nat} {v : Value} {l : List α} (h : OwnsE E ty w B v l) (n : Nat) : OwnsE E ty (w.drewN n) B v l := h
theorem OwnsE.kept {α : Type} {E : Enc α} {ty : TypeId} {w w' : World} {B : Nat} {v : Value} {l : List α} (h : OwnsE E ty w B v l) (hb : Below w.heap.size w w') : OwnsE E ty w' B v l := by
  refine ⟨h.1, ?_⟩
  rcases h.2 with h0 | ⟨g, cap, cur, hv, hbg, hg, rest⟩
  · exact .inl h0
  · exact .inr ⟨g, cap, cur, hv, hbg, by rw [hb.block g (Array.getElem?_eq_some_iff.1 hg).1]; exact hg, rest⟩
theorem OwnsE.grown {α : Type} {E : Enc α} {ty : TypeId} {w w' : World} {B : Nat} {v : Value} {l : List α} {r : Option Nat} (h : OwnsE E ty w B v l) (hg : w.grownBy w' r) (hne : ∀ k, v.ownBlock = some k → r ≠ some k) : OwnsE E ty w' B v l := by
  refine ⟨h.1, ?_⟩
  rcases h.2 with h0 | ⟨g, cap, cur, hv, hbg, hh, rest⟩
  · exact .inl h0
  · exact .inr ⟨g, cap, cur, hv, hbg, by rw [hg.block g (Array.getElem?_eq_some_iff.1 hh).1 (fun e => hne g (by rw [hv]; rfl) e.symm)]; exact hh, rest⟩
theorem OwnsE.from {α : Type} {E : Enc α} {ty : TypeId} {w : World} {B : Nat} {v : Value} {l : List α} (h : OwnsE E ty w B v l) : ∀ k, v.ownBlock = some k → B ≤ k := fun k hk => (World.ownsRow.lt h k hk).1
theorem OwnsE.under {α : Type} {E : Enc α} {ty : TypeId} {w : World} {B : Nat} {v : Value} {l : List α} (h : OwnsE E ty w B v l) : ∀ k, v.ownBlock = some k → k < w.heap.size := fun k hk => (World.ownsRow.lt h k hk).2
theorem OwnsE.low {α : Type} {E : Enc α} {ty : TypeId} {w : World} {B B' : Nat} {v : Value} {l : List α} (h : OwnsE E ty w B v l) (hB : B' ≤ B) : OwnsE E ty w B' v l := by
  refine ⟨h.1, ?_⟩
  rcases h.2 with h0 | ⟨g, cap, cur, hv, hb, hg, rest⟩
  · exact .inl h0
  · exact .inr ⟨g, cap, cur, hv, by omega, hg, rest⟩
theorem OwnsE.form {α : Type} {E : Enc α} {ty : TypeId} {w : World} {B : Nat} {v : Value} {l : List α} (h : OwnsE E ty w B v l) : ∃ a cap, v = .slice a l.length cap ∧ l.length ≤ cap ∧ cap ≤ maxLen ∧ ((a = Option.none ∧ cap = 0) ∨ ∃ g, a = some ⟨g, 0, Option.none⟩) := by
  rcases h.2 with ⟨rfl, h0⟩ | ⟨g, cap, cur, rfl, hb, hg, hc, hm, rest⟩
  · exact ⟨Option.none, 0, by rw [h0], by omega, Nat.zero_le _, .inl ⟨rfl, rfl⟩⟩
  · exact ⟨_, cap, rfl, hc, hm, .inr ⟨g, rfl⟩⟩
theorem OwnsE.at {α : Type} {E : Enc α} {ty : TypeId} {w : World} {B g n cap : Nat} {l : List α} (h : OwnsE E ty w B (.slice (some ⟨g, 0, Option.none⟩) n cap) l) {j i : Nat} (hj : j < l.length) {u : Value} (hu : (E.c l[j])[i]? = some u) : w.cell? ⟨g, j * E.k + i, Option.none⟩ = some u := by
  have hi : i < E.k := by rw [← E.len l[j]]; exact (List.getElem?_eq_some_iff.1 hu).1
  have k1 := World.ownsRow.cells h (g := g) rfl (j * E.k + i) u (by rw [cellsE_at E l j hj i hi]; exact hu)
  rw [addr_add, Nat.zero_add] at k1
  exact k1
/-- One cell stored. -/
theorem OwnsE.put {α : Type} {E : Enc α} {ty : TypeId} {w : World} {B g n cap : Nat} {l : List α} (hn : n = l.length) (h : OwnsE E ty w B (.slice (some ⟨g, 0, Option.none⟩) n cap) l) {j i : Nat} (hj : j < l.length) (hi : i < E.k) (u : Value) (y : α) (hy : E.c y = (E.c l[j]).set i u) :
    OwnsE E ty (w.setCell ⟨g, j * E.k + i, Option.none⟩ u) B (.slice (some ⟨g, 0, Option.none⟩) n cap) (l.set j y) := by
  subst hn
  have h2 := (World.ownsRow.stored h (j * E.k + i) u).1
  unfold OwnsE
  rw [List.length_set, ← cellsE_set E l j hj i hi u y hy]
  exact h2
/-- A cell of another block stored. -/
theorem OwnsE.other {α : Type} {E : Enc α} {ty : TypeId} {w : World} {B : Nat} {v : Value} {l : List α} (h : OwnsE E ty w B v l) (a : Addr) (u : Value) (hne : ∀ k, v.ownBlock = some k → k ≠ a.block) : OwnsE E ty (w.setCell a u) B v l := by
  refine ⟨h.1, ?_⟩
  rcases h.2 with h0 | ⟨g, cap, cur, hv, hbg, hg, rest⟩
  · exact .inl h0
  · exact .inr ⟨g, cap, cur, hv, hbg, by rw [Below.heap_setCell _ _ _ _ (hne g (by rw [hv]; rfl))]; exact hg, rest⟩
/-- The value v has the elements l, in a block from B on, whatever room lies behind them. -/
def HasE {α : Type} (E : Enc α) (ty : TypeId) (w : World) (B : Nat) (v : Value) (l : List α) : Prop :=
  (v = .slice Option.none 0 0 ∧ l = []) ∨ ∃ g cap cur, v = .slice (some ⟨g, 0, Option.none⟩) l.length cap ∧ B ≤ g ∧ w.heap[g]? = some (.cells cur ty (0, 0)) ∧ l.length ≤ cap ∧ cap ≤ maxLen ∧ cap * E.k ≤ cur.size ∧ cur.toList.take (l.length * E.k) = cellsE E l
theorem OwnsE.has {α : Type} {E : Enc α} {ty : TypeId} {w : World} {B : Nat} {v : Value} {l : List α} (h : OwnsE E ty w B v l) : HasE E ty w B v l := by
  rcases h.2 with ⟨h0, h1⟩ | ⟨g, cap, cur, hv, hb, hg, hc, hm, hz, ht⟩
  · exact .inl ⟨h0, List.eq_nil_of_length_eq_zero h1⟩
  · exact .inr ⟨g, cap, cur, hv, hb, hg, hc, hm, by omega, ht⟩
theorem HasE.cut {α : Type} {E : Enc α} {ty : TypeId} {w : World} {B g cap n : Nat} {l : List α} (h : HasE E ty w B (.slice (some ⟨g, 0, Option.none⟩) n cap) l) (hn : n = l.length) : HasE E ty w B (.slice (some ⟨g, 0, Option.none⟩) n n) l := by
  subst hn
  rcases h with ⟨h0, _⟩ | ⟨g', cap', cur, hv, hb, hg, hc, hm, hz, ht⟩
  · cases h0
  · simp only [Value.slice.injEq, Option.some.injEq, Addr.mk.injEq, and_true, true_and] at hv
    obtain ⟨rfl, rfl⟩ := hv
    exact .inr ⟨g, l.length, cur, rfl, hb, hg, Nat.le_refl _, Nat.le_trans hc hm, Nat.le_trans (Nat.mul_le_mul_right _ hc) hz, ht⟩
theorem HasE.kept {α : Type} {E : Enc α} {ty : TypeId} {w w' : World} {B : Nat} {v : Value} {l : List α} (h : HasE E ty w B v l) (hb : Below w.heap.size w w') : HasE E ty w' B v l := by
  rcases h with h0 | ⟨g, cap, cur, hv, hbg, hg, rest⟩
  · exact .inl h0
  · exact .inr ⟨g, cap, cur, hv, hbg, by rw [hb.block g (Array.getElem?_eq_some_iff.1 hg).1]; exact hg, rest⟩
theorem HasE.grown {α : Type} {E : Enc α} {ty : TypeId} {w w' : World} {B : Nat} {v : Value} {l : List α} {r : Option Nat} (h : HasE E ty w B v l) (hg : w.grownBy w' r) (hne : ∀ k, v.ownBlock = some k → r ≠ some k) : HasE E ty w' B v l := by
  rcases h with h0 | ⟨g, cap, cur, hv, hbg, hh, rest⟩
  · exact .inl h0
  · exact .inr ⟨g, cap, cur, hv, hbg, by rw [hg.block g (Array.getElem?_eq_some_iff.1 hh).1 (fun e => hne g (by rw [hv]; rfl) e.symm)]; exact hh, rest⟩
theorem HasE.low {α : Type} {E : Enc α} {ty : TypeId} {w : World} {B B' : Nat} {v : Value} {l : List α} (h : HasE E ty w B v l) (hB : B' ≤ B) : HasE E ty w B' v l := by
  rcases h with h0 | ⟨g, cap, cur, hv, hb, rest⟩
  · exact .inl h0
  · exact .inr ⟨g, cap, cur, hv, by omega, rest⟩
theorem HasE.from {α : Type} {E : Enc α} {ty : TypeId} {w : World} {B : Nat} {v : Value} {l : List α} (h : HasE E ty w B v l) : ∀ k, v.ownBlock = some k → B ≤ k := by
  intro k hk
  rcases h with ⟨rfl, _⟩ | ⟨g, cap, cur, rfl, hb, _⟩
  · simp [Value.ownBlock] at hk
  · simp [Value.ownBlock] at hk; omega
theorem HasE.under {α : Type} {E : Enc α} {ty : TypeId} {w : World} {B : Nat} {v : Value} {l : List α} (h : HasE E ty w B v l) : ∀ k, v.ownBlock = some k → k < w.heap.size := by
  intro k hk
  rcases h with ⟨rfl, _⟩ | ⟨g, cap, cur, rfl, hb, hg, _⟩
  · simp [Value.ownBlock] at hk
  · simp [Value.ownBlock] at hk; subst hk; exact (Array.getElem?_eq_some_iff.1 hg).1
theorem HasE.form {α : Type} {E : Enc α} {ty : TypeId} {w : World} {B : Nat} {v : Value} {l : List α} (h : HasE E ty w B v l) : ∃ a cap, v = .slice a l.length cap ∧ l.length ≤ cap ∧ cap ≤ maxLen ∧ (0 < l.length → ∃ g, a = some ⟨g, 0, Option.none⟩) := by
  rcases h with ⟨rfl, rfl⟩ | ⟨g, cap, cur, rfl, hb, hg, hc, hm, _⟩
  · exact ⟨Option.none, 0, rfl, Nat.le_refl _, Nat.zero_le _, fun h => absurd h (by simp)⟩
  · exact ⟨_, cap, rfl, hc, hm, fun _ => ⟨g, rfl⟩⟩
theorem HasE.at {α : Type} {E : Enc α} {ty : TypeId} {w : World} {B g n cap : Nat} {l : List α} (h : HasE E ty w B (.slice (some ⟨g, 0, Option.none⟩) n cap) l) {j i : Nat} (hj : j < l.length) {u : Value} (hu : (E.c l[j])[i]? = some u) : w.cell? ⟨g, j * E.k + i, Option.none⟩ = some u := by
  rcases h with ⟨h0, _⟩ | ⟨g', cap', cur, hv, hb, hg, hc, hm, hz, ht⟩
  · cases h0
  · simp only [Value.slice.injEq, Option.some.injEq, Addr.mk.injEq, and_true] at hv
    obtain ⟨rfl, _⟩ := hv
    have hi : i < E.k := by rw [← E.len l[j]]; exact (List.getElem?_eq_some_iff.1 hu).1
    have hlt : j * E.k + i < l.length * E.k := by
      have : (j + 1) * E.k ≤ l.length * E.k := Nat.mul_le_mul_right _ hj
      rw [Nat.succ_mul] at this
      omega
    have c1 : (cellsE E l)[j * E.k + i]? = some u := by rw [cellsE_at E l j hj i hi]; exact hu
    rw [← ht, List.getElem?_take_of_lt hlt] at c1
    rw [cell_of_row w g _ cur _ _ hg]
    simpa using c1
theorem HasE.put {α : Type} {E : Enc α} {ty : TypeId} {w : World} {B g n cap : Nat} {l : List α} (h : HasE E ty w B (.slice (some ⟨g, 0, Option.none⟩) n cap) l) {j i : Nat} (hj : j < l.length) (hi : i < E.k) (u : Value) (y : α) (hy : E.c y = (E.c l[j]).set i u) :
    HasE E ty (w.setCell ⟨g, j * E.k + i, Option.none⟩ u) B (.slice (some ⟨g, 0, Option.none⟩) n cap) (l.set j y) := by
  rcases h with ⟨h0, _⟩ | ⟨g', cap', cur, hv, hb, hg, hc, hm, hz, ht⟩
  · cases h0
  · simp only [Value.slice.injEq, Option.some.injEq, Addr.mk.injEq, and_true] at hv
    obtain ⟨rfl, rfl, rfl⟩ := hv
    refine .inr ⟨g, cap, cur.setIfInBounds (j * E.k + i) u, by rw [List.length_set], hb, heap_setCell_same w g _ cur _ _ hg, by rw [List.length_set]; exact hc, hm, by simpa using hz, ?_⟩
    rw [List.length_set, ← cellsE_set E l j hj i hi u y hy, Array.toList_setIfInBounds, ← ht, List.take_set]
/-- What a row that grows leaves as it was. -/
theorem grownE_put {a w : World} {g : Nat} (h : a.grownBy w (some g)) (j : Nat) (v : Value) : a.grownBy (w.setCell ⟨g, j, Option.none⟩ v) (some g) :=
  ⟨h.os, h.tape, h.output, by simpa [World.setCell] using h.size, fun k hk hne => (Below.heap_setCell _ _ _ _ (fun e => hne (by rw [e]))).trans (h.block k hk hne)⟩
theorem grownE_below {a w w' : World} {r : Option Nat} (h : a.grownBy w r) (hb : Below w.heap.size w w') : a.grownBy w' r :=
  ⟨hb.os.trans h.os, hb.tape.trans h.tape, hb.output.trans h.output, Nat.le_trans h.size hb.size, fun k hk hne => (hb.block k (Nat.lt_of_lt_of_le hk h.size)).trans (h.block k hk hne)⟩
theorem grownE_self (w : World) (r : Option Nat) : w.grownBy w r := ⟨rfl, rfl, rfl, Nat.le_refl _, fun _ _ _ => rfl⟩
/-- A row that lies from B on grows: below B all stays. -/
theorem belowE {B : Nat} {w w1 w2 : World} {r : Option Nat} (hb : Below B w w1) (hg : w1.grownBy w2 r) (hB : B ≤ w1.heap.size) (hr : ∀ k, r = some k → B ≤ k) : Below B w w2 :=
  ⟨hg.os.trans hb.os, hg.tape.trans hb.tape, hg.output.trans hb.output, Nat.le_trans hb.size hg.size, fun k hk => (hg.block k (by omega) (fun e => by have := hr k e.symm; omega)).trans (hb.block k hk)⟩
end Go.Proofs.YtkaogmdhjcgcdaaGreatDoor
namespace Go.Proofs.YtkaogmdhjcgcdaaGreatDoor
open Go.RowKit
set_option linter.unusedVariables false

/-- The struct x lies in the block b. -/
structure BlkE {α : Type} (E : Enc α) (w : World) (b : Nat) (x : α) : Prop where
  c : ∀ i u, (E.c x)[i]? = some u → w.cell? ⟨b, i, Option.none⟩ = some u
  fz : ∀ k, w.frozen? ⟨b, k, Option.none⟩ = false
  hi : b < w.heap.size
theorem BlkE.new {α : Type} {E : Enc α} (w : World) (x : α) (C : Array Value) (t : TypeId) (h : C.toList = E.c x) : BlkE E (w.alloc (.cells C t)) w.heap.size x where
  c := fun i u hu => by rw [World.cell?_alloc_mark]; rw [← h] at hu; simpa using hu
  fz := fun k => by rw [World.frozen?_alloc_mark]; simp
  hi := by simp
theorem BlkE.same {α : Type} {E : Enc α} {w w' : World} {b : Nat} {x : α} (h : BlkE E w b x) (e : w'.heap[b]? = w.heap[b]?) (hs : w.heap.size ≤ w'.heap.size) : BlkE E w' b x where
  c := fun i u hu => (World.cell?_of_block (a := ⟨b, i, Option.none⟩) e).trans (h.c i u hu)
  fz := fun k => (World.frozen?_of_block (a := ⟨b, k, Option.none⟩) e).trans (h.fz k)
  hi := Nat.lt_of_lt_of_le h.hi hs
theorem BlkE.kept {α : Type} {E : Enc α} {w w' : World} {b : Nat} {x : α} (h : BlkE E w b x) (hb : Below w.heap.size w w') : BlkE E w' b x := h.same (hb.block b h.hi) hb.size
theorem BlkE.alloc {α : Type} {E : Enc α} {w : World} {b : Nat} {x : α} (h : BlkE E w b x) (o : Obj) : BlkE E (w.alloc o) b x := h.kept ((Below.refl _ w).alloc (Nat.le_refl _) o)
theorem BlkE.drewN {α : Type} {E : Enc α} {w : World} {b : Nat} {x : α} (h : BlkE E w b x) (n : Nat) : BlkE E (w.drewN n) b x := h.same rfl (Nat.le_refl _)
/-- One cell stored. -/
theorem BlkE.put {α : Type} {E : Enc α} {w : World} {b : Nat} {x : α} (h : BlkE E w b x) {i : Nat} (hi : i < E.k) (u : Value) (y : α) (hy : E.c y = (E.c x).set i u) : BlkE E (w.setCell ⟨b, i, Option.none⟩ u) b y where
  c := fun j v hv => by
    rw [hy] at hv
    by_cases e : j = i
    · subst e
      have hlt : j < (E.c x).length := by rw [E.len]; exact hi
      have e2 : v = u := by rw [List.getElem?_set_self hlt] at hv; exact (Option.some.inj hv).symm
      subst e2
      exact World.cell?_setCell_same _ _ _ (h.c j ((E.c x)[j]'hlt) (List.getElem?_eq_getElem hlt))
    · rw [List.getElem?_set_ne (fun h => e h.symm)] at hv
      rw [World.cell?_setCell_other _ _ _ _ (by simp <;> omega)]
      exact h.c j v hv
  fz := fun k => by rw [World.frozen?_setCell]; exact h.fz k
  hi := by rw [World.size_setCell]; exact h.hi
/-- A cell of another block stored. -/
theorem BlkE.other {α : Type} {E : Enc α} {w : World} {b : Nat} {x : α} (h : BlkE E w b x) (a : Addr) (u : Value) (hne : b ≠ a.block) : BlkE E (w.setCell a u) b x := h.same (Below.heap_setCell _ _ _ _ hne) (by rw [World.size_setCell]; exact Nat.le_refl _)
/-- All its cells stored, one behind the other. -/
def putL (w : World) (b : Nat) : List Value → Nat → World
  | [], _ => w
  | v :: vs, i => putL (w.setCell ⟨b, i, Option.none⟩ v) b vs (i + 1)
theorem putL_block (b : Nat) : ∀ (vs : List Value) (i : Nat) (w : World) (k : Nat), k ≠ b → (putL w b vs i).heap[k]? = w.heap[k]?
  | [], _, _, _, _ => rfl
  | v :: vs, i, w, k, hk => (putL_block b vs (i + 1) _ k hk).trans (Below.heap_setCell _ _ _ _ hk)
theorem putL_size (b : Nat) : ∀ (vs : List Value) (i : Nat) (w : World), (putL w b vs i).heap.size = w.heap.size
  | [], _, _ => rfl
  | v :: vs, i, w => (putL_size b vs (i + 1) _).trans (World.size_setCell _ _ _)
theorem putL_below {B b : Nat} (hB : B ≤ b) {w0 : World} : ∀ (vs : List Value) (i : Nat) {w : World}, Below B w0 w → Below B w0 (putL w b vs i)
  | [], _, _, h => h
  | v :: vs, i, _, h => putL_below hB vs (i + 1) (h.setCell (p := ⟨b, i, Option.none⟩) hB v)
theorem putL_cells {w0 : World} (b : Nat) : ∀ (vs : List Value) (i : Nat) (w : World), (∀ j, i ≤ j → j < i + vs.length → ∃ u, w.cell? ⟨b, j, Option.none⟩ = some u) → ∀ j, (∀ v, (vs[j - i]? = some v ∧ i ≤ j) → (putL w b vs i).cell? ⟨b, j, Option.none⟩ = some v) ∧ (j < i → (putL w b vs i).cell? ⟨b, j, Option.none⟩ = w.cell? ⟨b, j, Option.none⟩)
  | [], i, w, _, j => ⟨fun v h => by simp at h, fun _ => rfl⟩
  | v :: vs, i, w, hc, j => by
    have ih := putL_cells (w0 := w0) b vs (i + 1) (w.setCell ⟨b, i, Option.none⟩ v) (fun q h1 h2 => by
      obtain ⟨u, hu⟩ := hc q (by omega) (by simp at h2 ⊢; omega)
      exact ⟨u, by rw [World.cell?_setCell_other _ _ _ _ (by simp <;> omega)]; exact hu⟩) j
    obtain ⟨u0, hu0⟩ := hc i (Nat.le_refl _) (by simp)
    refine ⟨fun x hx => ?_, fun hj => ?_⟩
    · by_cases e : j = i
      · subst e
        have : x = v := by have := hx.1; simp at this; exact this.symm
        subst this
        show (putL (w.setCell ⟨b, j, Option.none⟩ x) b vs (j + 1)).cell? _ = _
        rw [ih.2 (by omega)]
        exact World.cell?_setCell_same _ _ _ hu0
      · refine ih.1 x ⟨?_, by omega⟩
        have h1 := hx.1
        rw [show j - i = (j - (i + 1)) + 1 by omega, List.getElem?_cons_succ] at h1
        exact h1
    · show (putL (w.setCell ⟨b, i, Option.none⟩ v) b vs (i + 1)).cell? _ = _
      rw [ih.2 (by omega), World.cell?_setCell_other _ _ _ _ (by simp <;> omega)]
theorem putL_frozen (b : Nat) : ∀ (vs : List Value) (i : Nat) (w : World) (k : Nat), (putL w b vs i).frozen? ⟨b, k, Option.none⟩ = w.frozen? ⟨b, k, Option.none⟩
  | [], _, _, _ => rfl
  | v :: vs, i, w, k => (putL_frozen b vs (i + 1) _ k).trans (World.frozen?_setCell _ _ _ _)
theorem BlkE.puts {α : Type} {E : Enc α} {w : World} {b : Nat} {x : α} (h : BlkE E w b x) (y : α) : BlkE E (putL w b (E.c y) 0) b y where
  c := fun i u hu => by
    refine (putL_cells (w0 := w) b (E.c y) 0 w (fun j _ h2 => ?_) i).1 u ⟨by simpa using hu, Nat.zero_le _⟩
    have hlt : j < (E.c x).length := by rw [E.len]; rw [E.len] at h2; omega
    exact ⟨_, h.c j _ (List.getElem?_eq_getElem hlt)⟩
  fz := fun k => by rw [putL_frozen]; exact h.fz k
  hi := by rw [putL_size]; exact h.hi
end Go.Proofs.YtkaogmdhjcgcdaaGreatDoor
namespace Go.Proofs.YtkaogmdhjcgcdaaGreatDoor
open Go Go.RowKit Go.Sort
set_option linter.unusedVariables false

section
variable {P : Program} {ops : Array Oper} {md : Region.Mode} {C : World → Prop}
/-- So many operations ahead of number n are still to come, whichever comes next; then L. -/
def Ahead (P : Program) (md : Region.Mode) (ops : Array Oper) (C : World → Prop) (n : Nat) (L : Array Bool → Act → Prop) : Nat → Array Bool → Act → Prop
  | 0, listed, a => L listed a
  | f + 1, listed, a => ¬ Region.ready md ops listed = [] ∧ ∀ i ∈ Region.ready md ops listed, i < n ∧ qOp P ops C i (fun a' => Ahead P md ops C n L f (listed.setIfInBounds i true) a') a
theorem Ahead.any {n g : Nat} {L : Array Bool → Act → Prop} {Q : Exit → Act → World → Prop} (hL : ∀ listed a w, C w → L listed a → wpAny P md ops Q g listed a w) :
    ∀ (f : Nat) (listed : Array Bool) (a : Act) (w : World), C w → Ahead P md ops C n L f listed a → wpAny P md ops Q (f + g) listed a w := by
  intro f
  induction f with
  | zero => intro listed a w hw h; rw [Nat.zero_add]; exact hL _ _ _ hw h
  | succ f ih =>
    intro listed a w hw h
    rw [show f + 1 + g = (f + g) + 1 by omega]
    exact ⟨fun h0 => absurd h0 h.1, fun i hi => wpOp_of_qOp hw (fun a' w' hw' h' => ih _ a' w' hw' h') (h.2 i hi).2⟩
/-- None of the end may come up while one ahead of it has not. -/
theorem ahead_lt {n i : Nat} {listed : Array Bool} (hs : Region.sinkB md ops n = true) (hc : Region.chainB md ops n = true) (hn : n < ops.size) (inv : HeadInv md ops n listed) (hin : i < n) (hr : i ∈ Region.ready md ops listed) {j : Nat} (hj : j ∈ Region.ready md ops listed) : j < n := by
  rcases Nat.lt_or_ge j n with h | h
  · exact h
  · exact absurd hj (tail_waits hs hc hn inv _ i rfl hin (mem_ready.1 hr).1 j h)
theorem Ahead.first {n i : Nat} {oi : Oper} {v : Value} {L : Array Bool → Act → Prop} (hi : ops[i]? = some oi) (hsel : ∀ (j : Nat) (o : Oper) cs b, ops[j]? = some o → o.op ≠ .select cs b)
    (hs : Region.sinkB md ops n = true) (hc : Region.chainB md ops n = true) (hn : n < ops.size) (hin : i < n) (hdone : ∀ listed a, L listed a → ∀ j ∈ Region.ready md ops listed, n ≤ j) :
    ∀ (f : Nat) (listed : Array Bool) (a : Act), HeadInv md ops n listed →
      (∀ j oj, ops[j]? = some oj → j ≠ i → listed.getD j true = false → (∀ e ∈ oj.after, Region.binds md e = true → e.on ≠ i) → oi.apart ops oj = true) →
      i ∈ Region.ready md ops listed → YieldsIn P ops C oi v a → Ahead P md ops C n L f (listed.setIfInBounds i true) (a.put oi.dst v) → Ahead P md ops C n L (f + 1) listed a := by
  intro f
  induction f with
  | zero =>
    intro listed a inv _ hr hy H
    refine ⟨fun h => (by rw [h] at hr; cases hr), fun j hj => ⟨ahead_lt hs hc hn inv hin hr hj, ?_⟩⟩
    by_cases hji : j = i
    · subst hji; exact hy.qOp hi H
    · have h1 := hdone _ _ H j (ready_mono hj hji)
      have h2 := ahead_lt hs hc hn inv hin hr hj
      omega
  | succ f ih =>
    intro listed a inv hfree hr hy H
    have hun := (mem_ready.1 hr).1
    refine ⟨fun h => (by rw [h] at hr; cases hr), fun j hj => ⟨ahead_lt hs hc hn inv hin hr hj, ?_⟩⟩
    by_cases hji : j = i
    · subst hji; exact hy.qOp hi H
    · have h1 := (H.2 j (ready_mono hj hji)).2
      obtain ⟨hjun, oj, hoj, hall⟩ := mem_ready.1 hj
      have hnot : ∀ e ∈ oj.after, Region.binds md e = true → e.on ≠ i := fun e he hb heq => by
        have h3 := hall e he hb
        rw [heq, getD_both hun] at h3
        cases h3
      have h2 := qOp_put hoj (hfree j oj hoj hji hjun hnot) (fun cs b => hsel i oi cs b hi) (fun cs b => hsel j oj cs b hoj) hy h1
      refine qOp_mono (fun a' h3 => ih (listed.setIfInBounds j true) a' (inv.set hj (ahead_lt hs hc hn inv hin hr hj)) (fun k ok hk hki hku hno => ?_) (ready_mono hr (Ne.symm hji)) h3.1 ?_) h2
      · refine hfree k ok hk hki ?_ hno
        by_cases hjk : j = k
        · subst hjk; exact hjun
        · rw [getD_set_ne true hjk] at hku; exact hku
      · rw [Array.setIfInBounds_comm _ _ hji]
        exact h3.2
end
end Go.Proofs.YtkaogmdhjcgcdaaGreatDoor
namespace Go.Proofs.YtkaogmdhjcgcdaaGreatDoor
open Go.RowKit Go.Sort
set_option linter.unusedVariables false

def ctE : Enc Ct where
  k := 7
  pos := by decide
  c := fun x => [.int .i64 x.a, .int .i64 x.s, .int .i64 x.t, .bool x.ns, .bool x.nc, .bool x.pr, .bool x.mu]
  len := fun _ => rfl
  one := fun x u hu => by simp at hu; rcases hu with rfl | rfl | rfl | rfl | rfl | rfl | rfl <;> rfl
abbrev CtB := BlkE ctE
theorem CtB.born (w : World) (x : Ct) (t : TypeId) : CtB (w.alloc (.cells #[.int .i64 x.a, .int .i64 x.s, .int .i64 x.t, .bool x.ns, .bool x.nc, .bool x.pr, .bool x.mu] t)) w.heap.size x := BlkE.new w x _ t rfl
theorem CtB.all {w : World} {b : Nat} {x : Ct} (h : CtB w b x) : w.cell? ⟨b, 0, Option.none⟩ = some (.int .i64 x.a) ∧ w.cell? ⟨b, 1, Option.none⟩ = some (.int .i64 x.s) ∧ w.cell? ⟨b, 2, Option.none⟩ = some (.int .i64 x.t) ∧ w.cell? ⟨b, 3, Option.none⟩ = some (.bool x.ns) ∧ w.cell? ⟨b, 4, Option.none⟩ = some (.bool x.nc) ∧ w.cell? ⟨b, 5, Option.none⟩ = some (.bool x.pr) ∧ w.cell? ⟨b, 6, Option.none⟩ = some (.bool x.mu) :=
  ⟨h.c 0 _ rfl, h.c 1 _ rfl, h.c 2 _ rfl, h.c 3 _ rfl, h.c 4 _ rfl, h.c 5 _ rfl, h.c 6 _ rfl⟩
theorem past9 {w w1 w2 : World} (h : Below w.heap.size w w1) (hb : Below w1.heap.size w1 w2) : Below w.heap.size w w2 := h.trans (hb.mono h.size)
theorem specIn9 (x lo hi : Int) (w : World) : Calls Tryz.prog 63 #[.int .i64 x, .int .i64 lo, .int .i64 hi] w fun e w' => e = .returned (.bool (decide (lo ≤ x) && decide (x ≤ hi))) ∧ w = w' := by
  by_cases h : lo ≤ x
  · rw [decide_eq_true h]
    by_cases h2 : x ≤ hi
    · rw [decide_eq_true h2]
      go_enter Tryz.func63, Tryz.ntmps63
      go_wp2
      go_ret
      exact ⟨rfl, rfl⟩
    · rw [decide_eq_false h2]
      go_enter Tryz.func63, Tryz.ntmps63
      go_wp2
      go_ret
      exact ⟨rfl, rfl⟩
  · rw [decide_eq_false h]
    go_enter Tryz.func63, Tryz.ntmps63
    go_wp2
    go_ret
    exact ⟨rfl, rfl⟩
theorem specMin9 (a b : Int) (w : World) : Calls Tryz.prog 53 #[.int .i64 a, .int .i64 b] w fun e w' => e = .returned (.int .i64 (minI a b)) ∧ w = w' := by
  unfold minI
  by_cases h : a < b
  · rw [if_pos h]
    go_enter Tryz.func53, Tryz.ntmps53
    go_wp2
    go_ret
    exact ⟨rfl, rfl⟩
  · rw [if_neg h]
    go_enter Tryz.func53, Tryz.ntmps53
    go_wp2
    go_ret
    exact ⟨rfl, rfl⟩
theorem ret_i9 {a b : Int} (h : a = b) : Ending.returned (.int .i64 a) = .returned (.int .i64 b) := by rw [h]
theorem ctE_c (x : Ct) : ctE.c x = [.int .i64 x.a, .int .i64 x.s, .int .i64 x.t, .bool x.ns, .bool x.nc, .bool x.pr, .bool x.mu] := rfl
end Go.Proofs.YtkaogmdhjcgcdaaGreatDoor
namespace Go.Proofs.YtkaogmdhjcgcdaaGreatDoor
open Go.RowKit Go.Sort
set_option linter.unusedVariables false

set_option maxHeartbeats 1000000 in
theorem specKeyO (s : ByteArray) (w : World) (hs : s.size ≤ 1048576) :
    Calls Tryz.prog 61 #[.string s] w fun e w' => e = .returned (.bool (keyO s)) ∧ w = w' := by
  have HK : Hid (keyO s = (allB keyN s.data.toList && decide (s.size ≤ 500))) := rfl
  generalize keyO s = K at HK ⊢
  go_enter Tryz.func61, Tryz.ntmps61
  go_wp2
  go_loop [3] (fun i => ∃ k : Nat, k ≤ s.size ∧ i = .int .i64 k ∧ Hid (allB keyN (s.data.toList.take k) = true)) (fun i => s.size - (intOf i).toNat)
  case atStart => exact ⟨0, Nat.zero_le _, rfl, allB_nil _ _⟩
  case round =>
    obtain ⟨k, hk, rfl, ha⟩ := hrel
    by_cases hlt : k < s.size
    · by_cases hl : (s[k].toNat : Int) < 33
      · have HF : Hid (false = K) := by show _ = _; rw [HK.out, ← allB_not (p := keyN) hlt (keyN_no (by omega))]; rfl
        go_wp2
        go_ret
        exact ⟨ret_bool HF.out, rfl⟩
      · by_cases hg : 126 < (s[k].toNat : Int)
        · have HF : Hid (false = K) := by show _ = _; rw [HK.out, ← allB_not (p := keyN) hlt (keyN_no (by omega))]; rfl
          go_wp2
          go_ret
          exact ⟨ret_bool HF.out, rfl⟩
        · have HV : Hid (allB keyN (s.data.toList.take (k + 1)) = true) := allB_step hlt ha.out (keyN_yes (by omega))
          go_wp2
          go_round
          case rel => exact ⟨k + 1, by omega, by go_num, HV⟩
          case measure => simp [intOf]; omega
    · have HE : Hid (decide ((s.size : Int) ≤ 500) = K) := by
        show _ = _
        have e : s.data.toList.take k = s.data.toList := List.take_of_length_le (by simp; omega)
        have h2 := ha.out
        rw [e] at h2
        rw [HK.out, h2, Bool.true_and]
        by_cases h5 : s.size ≤ 500
        · rw [decide_eq_true h5, decide_eq_true (by omega)]
        · rw [decide_eq_false h5, decide_eq_false (by omega)]
      go_wp2
      go_ret
      exact ⟨ret_bool HE.out, rfl⟩
theorem specMomB (n : Int) (w : World) : Calls Tryz.prog 48 #[.int .i64 n] w fun e w' => e = .returned (.bool (momB n)) ∧ w = w' := by
  have h := fun W => specIn9 n 0 253402300799 W
  change ∀ W, Calls _ _ _ _ fun e w' => e = .returned (.bool (momB n)) ∧ W = w' at h
  generalize momB n = b at h ⊢
  go_enter Tryz.func48, Tryz.ntmps48
  go_wp2_with (go_at_call 63; refine (h _).mono ?_; rintro e w1 ⟨rfl, rfl⟩)
  go_ret
  exact ⟨rfl, rfl⟩
/-- The cells of an object in block b. -/
structure ObB (w : World) (b : Nat) (o : Ob) (v u : Value) : Prop where
  c0 : w.cell? ⟨b, 0, none⟩ = some (.string o.k)
  c1 : w.cell? ⟨b, 1, none⟩ = some v
  c2 : w.cell? ⟨b, 2, none⟩ = some (.int .i64 o.r.s)
  c3 : w.cell? ⟨b, 3, none⟩ = some u
  c4 : w.cell? ⟨b, 4, none⟩ = some (.string o.r.b)
  c5 : w.cell? ⟨b, 5, none⟩ = some (.int .i64 o.asked)
  c6 : w.cell? ⟨b, 6, none⟩ = some (.int .i64 o.got)
  c7 : w.cell? ⟨b, 7, none⟩ = some (.int .i64 o.ep)
  fz : ∀ k, w.frozen? ⟨b, k, none⟩ = false
  hi : b < w.heap.size
theorem ObB.new (w : World) (o : Ob) (v u : Value) (t : TypeId) : ObB (w.alloc (.cells #[.string o.k, v, .int .i64 o.r.s, u, .string o.r.b, .int .i64 o.asked, .int .i64 o.got, .int .i64 o.ep] t)) w.heap.size o v u where
  c0 := World.cell?_alloc_mark _ _ _ _ _
  c1 := World.cell?_alloc_mark _ _ _ _ _
  c2 := World.cell?_alloc_mark _ _ _ _ _
  c3 := World.cell?_alloc_mark _ _ _ _ _
  c4 := World.cell?_alloc_mark _ _ _ _ _
  c5 := World.cell?_alloc_mark _ _ _ _ _
  c6 := World.cell?_alloc_mark _ _ _ _ _
  c7 := World.cell?_alloc_mark _ _ _ _ _
  fz := fun k => by rw [World.frozen?_alloc_mark]; simp
  hi := by simp
theorem ObB.next {w w' : World} {b : Nat} {o : Ob} {v u : Value} (h : ObB w b o v u) (hb : Below w.heap.size w w') : ObB w' b o v u := by
  have e : w'.heap[b]? = w.heap[b]? := hb.block b h.hi
  have k : ∀ k, w'.cell? ⟨b, k, none⟩ = w.cell? ⟨b, k, none⟩ := fun k => World.cell?_of_block (a := ⟨b, k, none⟩) e
  exact ⟨(k 0).trans h.c0, (k 1).trans h.c1, (k 2).trans h.c2, (k 3).trans h.c3, (k 4).trans h.c4, (k 5).trans h.c5, (k 6).trans h.c6, (k 7).trans h.c7, fun j => (World.frozen?_of_block (a := ⟨b, j, none⟩) e).trans (h.fz j), Nat.lt_of_lt_of_le h.hi hb.size⟩
/-- What a walk is told of an object that came in. -/
def ObIn (w : World) (v u : Value) (o : Ob) : Prop := Fits w v o.l ∧ RsIn w u o.r ∧ o.k.size ≤ 1048576
theorem ObIn.kept {w w' : World} {v u : Value} {o : Ob} (h : ObIn w v u o) (hb : Below w.heap.size w w') : ObIn w' v u o := ⟨h.1.kept hb, h.2.1.kept hb, h.2.2⟩
theorem Fits.form {w : World} {v : Value} {l : List Fl} (h : Fits w v l) : ∃ a cap, v = .slice a l.length cap := by
  obtain ⟨a, cap, hv, _⟩ := h.1
  exact ⟨a, cap, hv⟩
set_option maxHeartbeats 4000000 in
theorem specObOk (o : Ob) (v u : Value) (w : World) (h : ObIn w v u o) :
    Calls Tryz.prog 20 #[obV o v u] w fun e w' => e = .returned (.bool (obB o)) ∧ Below w.heap.size w w' := by
  have HB : Hid (obB o = (keyO o.k && (fldsOk o.l && (rsOk o.r && (momB o.asked && (momB o.got && (decide (o.asked ≤ o.got) && (decide (0 ≤ o.ep) && decide (o.ep ≤ 100000))))))))) := rfl
  have j1 := fun W => specKeyO o.k W h.2.2
  have j2 := fun W (hW : Fits W v o.l) => specOk v o.l W hW.1 hW.2.1
  have j3 := fun W hW => specRsOk o.r u W hW
  have j4 := fun W => specMomB o.asked W
  have j5 := fun W => specMomB o.got W
  have j6 := fun W => specIn9 o.ep 0 100000 W
  generalize (decide (0 ≤ o.ep) && decide (o.ep ≤ 100000)) = b6 at HB j6
  generalize obB o = R at HB ⊢
  generalize keyO o.k = b1 at HB j1
  generalize fldsOk o.l = b2 at HB j2
  generalize rsOk o.r = b3 at HB j3
  generalize momB o.asked = b4 at HB j4
  generalize momB o.got = b5 at HB j5
  obtain ⟨va, vc, rfl⟩ := h.1.form
  obtain ⟨ua, uc, rfl⟩ := h.2.1.1.form
  have Q0 : Hid (ObB (w.alloc (.cells #[.string o.k, .slice va o.l.length vc, .int .i64 o.r.s, .slice ua o.r.l.length uc, .string o.r.b, .int .i64 o.asked, .int .i64 o.got, .int .i64 o.ep] 28)) w.heap.size o (.slice va o.l.length vc) (.slice ua o.r.l.length uc)) := ObB.new w o _ _ _
  have B0 : Hid (Below w.heap.size w (w.alloc (.cells #[.string o.k, .slice va o.l.length vc, .int .i64 o.r.s, .slice ua o.r.l.length uc, .string o.r.b, .int .i64 o.asked, .int .i64 o.got, .int .i64 o.ep] 28))) := (Below.refl _ w).alloc (Nat.le_refl _) _
  have I0 : Hid (ObIn (w.alloc (.cells #[.string o.k, .slice va o.l.length vc, .int .i64 o.r.s, .slice ua o.r.l.length uc, .string o.r.b, .int .i64 o.asked, .int .i64 o.got, .int .i64 o.ep] 28)) (.slice va o.l.length vc) (.slice ua o.r.l.length uc) o) := h.kept B0.out
  clear h
  unfold obV
  unfold rsV at j3
  go_enter Tryz.func20, Tryz.ntmps20
  go_wp2_with fail
  refine (j1 _).mono ?_
  rintro e w1 ⟨rfl, rfl⟩
  clear j1
  cases b1 with
  | false =>
    have HR : Hid (false = R) := HB.out.symm
    go_wp2
    go_ret
    exact ⟨ret_bool HR.out, B0.out⟩
  | true =>
    go_wp2_with fail
    refine (j2 _ I0.out.1).mono ?_
    rintro e w2 ⟨rfl, hb2⟩
    have Q2 : Hid (ObB w2 w.heap.size o (.slice va o.l.length vc) (.slice ua o.r.l.length uc)) := Q0.out.next hb2
    have B2 : Hid (Below w.heap.size w w2) := past6 B0.out hb2
    have I2 : Hid (ObIn w2 (.slice va o.l.length vc) (.slice ua o.r.l.length uc) o) := I0.out.kept hb2
    clear hb2 Q0 B0 I0 j2
    cases b2 with
    | false =>
      have HR : Hid (false = R) := HB.out.symm
      go_wp2
      go_ret
      exact ⟨ret_bool HR.out, B2.out⟩
    | true =>
      have d2 := Q2.out.c2
      have d3 := Q2.out.c3
      have d4 := Q2.out.c4
      go_wp2_with fail
      refine (j3 _ I2.out.2.1).mono ?_
      rintro e w3 ⟨rfl, hb3⟩
      have Q3 : Hid (ObB w3 w.heap.size o (.slice va o.l.length vc) (.slice ua o.r.l.length uc)) := Q2.out.next hb3
      have B3 : Hid (Below w.heap.size w w3) := past6 B2.out hb3
      clear hb3 Q2 B2 I2 j3 d2 d3 d4
      have d5 := Q3.out.c5
      have d6 := Q3.out.c6
      have d7 := Q3.out.c7
      cases b3 with
      | false =>
        have HR : Hid (false = R) := HB.out.symm
        go_wp2
        go_ret
        exact ⟨ret_bool HR.out, B3.out⟩
      | true =>
        go_wp2_with fail
        refine (j4 _).mono ?_
        rintro e w4 ⟨rfl, rfl⟩
        clear j4
        cases b4 with
        | false =>
          have HR : Hid (false = R) := HB.out.symm
          go_wp2
          go_ret
          exact ⟨ret_bool HR.out, B3.out⟩
        | true =>
          go_wp2_with fail
          refine (j5 _).mono ?_
          rintro e w5 ⟨rfl, rfl⟩
          clear j5
          cases b5 with
          | false =>
            have HR : Hid (false = R) := HB.out.symm
            go_wp2
            go_ret
            exact ⟨ret_bool HR.out, B3.out⟩
          | true =>
            by_cases hag : o.asked ≤ o.got
            · have da : decide (o.asked ≤ o.got) = true := decide_eq_true hag
              have HR : Hid (b6 = R) := by show _ = _; rw [HB.out, da]; simp
              go_wp2_with (go_at_call 63; refine (j6 _).mono ?_; rintro e w6 ⟨rfl, rfl⟩)
              go_ret
              exact ⟨ret_bool HR.out, B3.out⟩
            · have da : decide (o.asked ≤ o.got) = false := decide_eq_false hag
              have HR : Hid (false = R) := by show _ = _; rw [HB.out, da]; simp
              go_wp2
              go_ret
              exact ⟨ret_bool HR.out, B3.out⟩
end Go.Proofs.YtkaogmdhjcgcdaaGreatDoor
