/-
  Plain facts on messages: which are right, where one ends, what it is shown as, what is read.
  The specification's l1Int of a number that is not negative: its decimal digits.
  The store as plain data: lines, numbers of a line, fields by their count, what is shown of an object and read.
-/
import Derived.Test.YtemmgfnepdgpbaaDoorR03
import Derived.Test.YtemmgfnepdgpbaaDoorR04
import Derived.Test.YtemmgfnepdgpbaaDoorRows
import Derived.Test.YtemmgfnepdgpbaaDoorR02
import Derived.WalkKit
import Derived.WalkSpells
import Derived.Laws.RangeAny
import Derived.Lib.SlBytesConst
import Derived.Test.YtemmgfnepdgpbaaDoorR01
import Derived.Test.YtemmgfnepdgpbaaDoorR05
import Derived.Lib.ItoaNum
namespace Go.Proofs.YtemmgfnepdgpbaaDoor
open Go.RowKit

/-! ### Decimal digits -/
/-! ### What is right -/
/-! ### Where it ends -/
/-! ### What it is shown as -/
/-! ### What is read -/
def wrdL : List UInt8 → List (List UInt8)
  | [] => [[]]
  | c :: r => if c = 32 then [] :: wrdL r else match wrdL r with
    | x :: xs => (c :: x) :: xs
    | [] => [[c]]
def txtL (l : List UInt8) : ByteArray := ⟨l.toArray⟩
end Go.Proofs.YtemmgfnepdgpbaaDoor
namespace Go.Proofs.YtemmgfnepdgpbaaDoor
open Go.RowKit
set_option linter.unusedVariables false

def itoS (n : Nat) : ByteArray := ⟨(Lib.decDigits n).toArray⟩
theorem dec_small {u : Nat} (h : u < 10) : Lib.decDigits u = [UInt8.ofNat (48 + u)] := by rw [Lib.decDigits, dif_pos h]
theorem dec_big {u : Nat} (h : ¬ u < 10) : Lib.decDigits u = Lib.decDigits (u / 10) ++ [UInt8.ofNat (48 + u % 10)] := by rw [Lib.decDigits, dif_neg h]
theorem dec_len : ∀ (f u : Nat), u < 10 ^ (f + 1) → (Lib.decDigits u).length ≤ f + 1
  | 0, u, h => by rw [dec_small (by simpa using h)]; simp
  | f + 1, u, h => by
    by_cases h10 : u < 10
    · rw [dec_small h10]; simp
    · rw [dec_big h10, List.length_append]
      have := dec_len f (u / 10) (Nat.div_lt_of_lt_mul (by rw [Nat.mul_comm, ← Nat.pow_succ]; exact h))
      simp
      omega
theorem itoS_size {n : Nat} (h : n < 10000000000000000000) : (itoS n).size ≤ 19 := by
  have := dec_len 18 n (by simpa using h)
  unfold itoS
  show ((Lib.decDigits n).toArray).size ≤ 19
  simpa using this
theorem itoS_is {n : Nat} {x : ByteArray} (h : Lib.decDigits n = x.data.toList) : x = itoS n := by
  unfold itoS
  have : x.data = (Lib.decDigits n).toArray := Array.ext' (by rw [h])
  cases x
  exact congrArg _ this
theorem void8 (x : ByteArray) : x.toList.isEmpty = decide (x.size = 0) := by
  have e : x.toList = x.data.toList := by rw [ByteArray.toList_eq]
  rw [e]
  have h : x.data.toList.length = x.size := by simp
  cases hx : x.data.toList with
  | nil => rw [hx] at h; simp at h; simp [← h]
  | cons a b =>
    rw [hx] at h
    have h2 : ¬ x.size = 0 := by rw [← h]; simp
    rw [decide_eq_false h2]; rfl
/-- How far digits are written. -/
def DecZ (u m : Nat) (x : ByteArray) : Prop := (x.size = 0 ∧ m = u) ∨ (0 < x.size ∧ Lib.decDigits u = (if m = 0 then [] else Lib.decDigits m) ++ x.data.toList)
theorem cat8 (c : UInt8) (x : ByteArray) : ((⟨#[c]⟩ : ByteArray) ++ x).data.toList = c :: x.data.toList := by simp
theorem DecZ.next {u m : Nat} {x : ByteArray} (h : DecZ u m x) (h2 : x.size = 0 ∨ 0 < m) : DecZ u (m / 10) ((⟨#[UInt8.ofNat (48 + m % 10)]⟩ : ByteArray) ++ x) := by
  have hs : ((⟨#[UInt8.ofNat (48 + m % 10)]⟩ : ByteArray) ++ x).size = 1 + x.size := by rw [ByteArray.size_append]; rfl
  have hd : Lib.decDigits u = Lib.decDigits m ++ x.data.toList := by
    rcases h with ⟨h1, rfl⟩ | ⟨h1, h3⟩
    · have : x.data.toList = [] := List.eq_nil_of_length_eq_zero (by rw [← h1]; simp)
      rw [this, List.append_nil]
    · rw [if_neg (by omega)] at h3; exact h3
  refine .inr ⟨by omega, ?_⟩
  rw [hd, cat8]
  by_cases h10 : m < 10
  · rw [if_pos (by omega), dec_small h10, Nat.mod_eq_of_lt h10]; rfl
  · rw [if_neg (by omega), dec_big h10]; simp
theorem DecZ.size {u m : Nat} {x : ByteArray} (h : DecZ u m x) (hu : u < 10000000000000000000) : x.size ≤ 19 := by
  have hl : x.data.toList.length = x.size := by simp
  rcases h with ⟨h1, _⟩ | ⟨_, h3⟩
  · omega
  · have := dec_len 18 u (by simpa using hu)
    rw [h3, List.length_append] at this
    omega
theorem byte8 (w : World) (n : Int) (c : UInt8) (h : n = (c.toNat : Int)) : (convert 64 9 (.slice (some ⟨w.heap.size, 0, none⟩) 1 1)).run Tryd.prog (w.alloc (.cells #[.int .u8 n] 5)) = .ok (.string ⟨#[c]⟩) (w.alloc (.cells #[.int .u8 n] 5)) := by
  subst h
  exact OwnsB.text (OwnsB.one w c)
theorem dig8 {d : Nat} (h : d < 10) : ((UInt8.ofNat (48 + d)).toNat : Int) = 48 + (d : Int) := by
  have k : ∀ j : Fin 10, ((UInt8.ofNat (48 + j.val)).toNat : Int) = 48 + (j.val : Int) := by decide +kernel
  exact k ⟨d, h⟩
def decMu8 (a b : Value) : Nat := 2 * (intOf a).toNat + (match b with | .string s => if s.size = 0 then 1 else 0 | _ => 0)
theorem ret_str8 {a b : ByteArray} (h : a = b) : Ending.returned (.string a) = .returned (.string b) := by rw [h]
set_option maxHeartbeats 1000000 in
theorem specIntZ (n : Nat) (w : World) (hn : n ≤ 9223372036854775807) :
    Calls Tryd.prog 23 #[.int .i64 (n : Int)] w fun e w' => e = .returned (.string (itoS n)) ∧ Below w.heap.size w w' := by
  have H0 : Hid (DecZ n n ⟨#[]⟩) := .inl ⟨rfl, rfl⟩
  have hneg : decide ((n : Int) < 0) = false := by simp
  go_enter Tryd.func23, Tryd.ntmps23
  go_wp2
  go_loopw [0, 3, 5] (fun a b _ wr => ∃ (m : Nat) (x : ByteArray), a = .int .i64 m ∧ b = .string x ∧ m ≤ 9223372036854775807 ∧ Hid (DecZ n m x) ∧ Hid (Below w.heap.size w wr)) (fun a b _ _ => decMu8 a b)
  case atStart => exact ⟨n, ⟨#[]⟩, rfl, rfl, hn, H0, Below.refl _ _⟩
  case round =>
    obtain ⟨m, x, rfl, rfl, hm, hx, hb⟩ := hrel
    have hxs := hx.out.size (by omega)
    have hmod : m % 10 < 10 := Nat.mod_lt _ (by decide)
    by_cases hend : 0 < x.size ∧ m = 0
    · obtain ⟨h1, rfl⟩ := hend
      have hfe : x.toList.isEmpty = false := by rw [void8]; exact decide_eq_false (by omega)
      have HX : Hid (x = itoS n) := by
        rcases hx.out with ⟨h, _⟩ | ⟨_, h⟩
        · omega
        · exact itoS_is (by simpa using h)
      clear hx
      go_wp2
      go_ret
      exact ⟨ret_str8 HX.out, hb.out⟩
    · have hc : x.size = 0 ∨ 0 < m := by omega
      have HN : Hid (DecZ n (m / 10) ((⟨#[UInt8.ofNat (48 + m % 10)]⟩ : ByteArray) ++ x)) := hx.out.next hc
      have hby := dig8 hmod
      obtain ⟨q, hq⟩ : ∃ q, m % 10 = q := ⟨_, rfl⟩
      obtain ⟨p, hp⟩ : ∃ p, m / 10 = p := ⟨_, rfl⟩
      rw [hq] at HN hby hmod
      rw [hp] at HN
      have hpq : m = 10 * p + q := by omega
      have e3 : (m : Int) % 10 = (q : Int) := by omega
      have e4 : (m : Int) / 10 = (p : Int) := by omega
      have e1 : (m : Int).tmod 10 = (q : Int) := by rw [Int.tmod_eq_emod_of_nonneg (by omega)]; exact e3
      have e2 : (m : Int).tdiv 10 = (p : Int) := by rw [Int.tdiv_eq_ediv_of_nonneg (by omega)]; exact e4
      have d1 : ¬ (q : Int) < 0 := by omega
      have hwr : IntKind.u8.wrap (48 + (q : Int)) = 48 + (q : Int) := by rw [show IntKind.u8.wrap (48 + (q : Int)) = (48 + (q : Int)) % 256 from rfl]; omega
      have htx := fun W => byte8 W (48 + (q : Int)) (UInt8.ofNat (48 + q)) hby.symm
      have hsz : ((⟨#[UInt8.ofNat (48 + q)]⟩ : ByteArray) ++ x).size = 1 + x.size := by rw [ByteArray.size_append]; rfl
      have hsz1 : (⟨#[UInt8.ofNat (48 + q)]⟩ : ByteArray).size = 1 := rfl
      have HM : Hid (decMu8 (.int .i64 (p : Int)) (.string ((⟨#[UInt8.ofNat (48 + q)]⟩ : ByteArray) ++ x)) < decMu8 (.int .i64 (m : Int)) (.string x)) := by
        show 2 * (p : Int).toNat + (if ((⟨#[UInt8.ofNat (48 + q)]⟩ : ByteArray) ++ x).size = 0 then 1 else 0) < 2 * (m : Int).toNat + (if x.size = 0 then 1 else 0)
        rw [hsz, if_neg (by omega), Int.toNat_natCast, Int.toNat_natCast]
        rcases hc with hc | hc
        · rw [if_pos hc]; omega
        · omega
      have HP : Hid (p ≤ 9223372036854775807) := by show p ≤ _; omega
      clear hby hx hend hq hp hpq
      generalize UInt8.ofNat (48 + q) = c at HN htx hsz HM hsz1
      by_cases hv : x.size = 0
      · have hfe : x.toList.isEmpty = true := by rw [void8]; exact decide_eq_true hv
        go_wp2
        go_roundw
        case rel => exact ⟨p, _, rfl, rfl, HP.out, HN, hb.out.alloc hb.out.size _⟩
        case measure => exact HM.out
      · have hfe : x.toList.isEmpty = false := by rw [void8]; exact decide_eq_false hv
        have hne : ((m : Int) != 0) = true := by simp; omega
        have hne2 : ¬ (m : Int) = 0 := by omega
        go_wp2
        go_roundw
        case rel => exact ⟨p, _, rfl, rfl, HP.out, HN, hb.out.alloc hb.out.size _⟩
        case measure => exact HM.out
end Go.Proofs.YtemmgfnepdgpbaaDoor
namespace Go.Proofs.YtemmgfnepdgpbaaDoor.St
open Go.RowKit
set_option linter.unusedVariables false

/-! ### Lines -/
def ln10 : List UInt8 → Option (List UInt8 × List UInt8)
  | [] => none
  | c :: r => if c = 10 then some ([], r) else (ln10 r).map fun p => (c :: p.1, p.2)
theorem ln10_at : ∀ {x : List UInt8} (r : List UInt8), (10 : UInt8) ∉ x → ln10 (x ++ 10 :: r) = some (x, r)
  | [], r, _ => by simp [ln10]
  | c :: x, r, h => by
    have hc : c ≠ 10 := fun e => h (by simp [e])
    rw [List.cons_append, ln10, if_neg hc, ln10_at r (fun e => h (by simp [e]))]
    rfl
/-! ### Numbers -/
def dd (n : Int) : List UInt8 := Lib.decDigits n.toNat
theorem dd_len {n : Int} (h1 : n < 1000000000000000) : (dd n).length ≤ 15 := dec_len 14 n.toNat (by omega)
/-- Just so many numbers. -/
def numsL (c : Nat) (x : List UInt8) : Option (List Int) :=
  if (wrdL x).length = c ∧ (wrdL x).all (fun y => numOk 10 15 (txtL y)) = true then some ((wrdL x).map fun y => numV 10 15 (txtL y)) else none
def few (n : Int) : Prop := 0 ≤ n ∧ n < 1000000000000000
/-! ### Fields by their count -/
/-! ### Objects -/
end Go.Proofs.YtemmgfnepdgpbaaDoor.St
