/-
  Plain facts on messages: which are right, where one ends, what it is shown as, what is read.
  Objects as plain data: what is a right one.
  The specification's l1Int of a number that is not negative: its decimal digits.
  The store as plain data: lines, numbers of a line, fields by their count, what is shown of an object and read.
-/
import Derived.Test.YtemmgfnepdgpbaaGreatDoorK07
import Derived.Test.YtemmgfnepdgpbaaGreatDoorK09
import Derived.Test.YtemmgfnepdgpbaaGreatDoorK04
import Derived.Lib.ItoaNum
import Derived.WalkKit
import Derived.WalkSpells
namespace Go.Proofs.YtemmgfnepdgpbaaGreatDoor
open Go.RowKit

/-! ### Decimal digits -/
/-! ### What is right -/
/-- content-length, transfer-encoding, chunked. -/
def clS : ByteArray := ⟨#[99, 111, 110, 116, 101, 110, 116, 45, 108, 101, 110, 103, 116, 104]⟩
def teS : ByteArray := ⟨#[116, 114, 97, 110, 115, 102, 101, 114, 45, 101, 110, 99, 111, 100, 105, 110, 103]⟩
def chS : ByteArray := ⟨#[99, 104, 117, 110, 107, 101, 100]⟩
def ownB (l : List Fl) : Bool := fldsOk l && (!(getF l clS).2 && !(getF l teS).2)
/-- A request. -/
structure Rq where
  m : ByteArray
  t : ByteArray
  l : List Fl
  b : ByteArray
/-- A response. -/
structure Rs where
  s : Int
  l : List Fl
  b : ByteArray
def bareB (s : Int) : Bool := decide (s = 204 ∨ s = 304)
def rsOk (r : Rs) : Bool := decide (200 ≤ r.s ∧ r.s ≤ 599) && (ownB r.l && (decide (r.b.size ≤ 4000) && (!bareB r.s || decide (r.b.size = 0))))

/-! ### Where it ends -/
def frm (l : List Fl) : Int × Int :=
  if fldsOk l = true then
    if (getF l clS).2 = true then
      if (getF l teS).2 = true then (3, 0)
      else if numOk 10 15 (getF l clS).1 = true ∧ numV 10 15 (getF l clS).1 ≤ 4000 then (1, numV 10 15 (getF l clS).1) else (3, 0)
    else if (getF l teS).2 = true then if lowS (getF l teS).1 = chS then (2, 0) else (3, 0)
    else (0, 0)
  else (3, 0)

/-! ### What it is shown as -/
/-! ### What is read -/
def wrdL : List UInt8 → List (List UInt8)
  | [] => [[]]
  | c :: r => if c = 32 then [] :: wrdL r else match wrdL r with
    | x :: xs => (c :: x) :: xs
    | [] => [[c]]
def txtL (l : List UInt8) : ByteArray := ⟨l.toArray⟩
def noS : Rs := ⟨0, [], ⟨#[]⟩⟩
end Go.Proofs.YtemmgfnepdgpbaaGreatDoor
namespace Go.Proofs.YtemmgfnepdgpbaaGreatDoor
open Go.RowKit
set_option linter.unusedVariables false

structure Ob where
  k : ByteArray
  l : List Fl
  r : Rs
  asked : Int
  got : Int
  ep : Int
def obV (o : Ob) (v u : Value) : Value := .agg #[.string o.k, v, .int .i64 o.r.s, u, .string o.r.b, .int .i64 o.asked, .int .i64 o.got, .int .i64 o.ep]
def keyN (n : Int) : Bool := decide (33 ≤ n ∧ n ≤ 126)
theorem keyN_yes {n : Int} (h : 33 ≤ n ∧ n ≤ 126) : keyN n = true := decide_eq_true h
theorem keyN_no {n : Int} (h : ¬ (33 ≤ n ∧ n ≤ 126)) : keyN n = false := decide_eq_false h
def keyO (s : ByteArray) : Bool := allB keyN s.data.toList && decide (s.size ≤ 500)
def momB (n : Int) : Bool := decide (0 ≤ n) && decide (n ≤ 253402300799)
theorem momB_iff {n : Int} : momB n = true ↔ 0 ≤ n ∧ n ≤ 253402300799 := by unfold momB; rw [Bool.and_eq_true, decide_eq_true_iff, decide_eq_true_iff]
def obB (o : Ob) : Bool := keyO o.k && (fldsOk o.l && (rsOk o.r && (momB o.asked && (momB o.got && (decide (o.asked ≤ o.got) && (decide (0 ≤ o.ep) && decide (o.ep ≤ 100000)))))))
end Go.Proofs.YtemmgfnepdgpbaaGreatDoor
namespace Go.Proofs.YtemmgfnepdgpbaaGreatDoor
open Go.RowKit
set_option linter.unusedVariables false

def itoS (n : Nat) : ByteArray := ⟨(Lib.decDigits n).toArray⟩
theorem dec_small {u : Nat} (h : u < 10) : Lib.decDigits u = [UInt8.ofNat (48 + u)] := by rw [Lib.decDigits, dif_pos h]
theorem dec_big {u : Nat} (h : ¬ u < 10) : Lib.decDigits u = Lib.decDigits (u / 10) ++ [UInt8.ofNat (48 + u % 10)] := by rw [Lib.decDigits, dif_neg h]
theorem dec_len : ∀ (f u : Nat), u < 10 ^ (f + 1) → (Lib.decDigits u).length ≤ f + 1
  | 0, u, h => by rw [dec_small (by simpa using h)]; simp
  | f + 1, u, h => by
    by_cases h10 : u < 10
    · rw [dec_small h10]; simp
    · rw [dec_big h10, List.length_append]
      have := dec_len f (u / 10) (Nat.div_lt_of_lt_mul (by rw [Nat.mul_comm, ← Nat.pow_succ]; exact h))
      simp
      omega
theorem itoS_size {n : Nat} (h : n < 10000000000000000000) : (itoS n).size ≤ 19 := by
  have := dec_len 18 n (by simpa using h)
  unfold itoS
  show ((Lib.decDigits n).toArray).size ≤ 19
  simpa using this
theorem itoS_is {n : Nat} {x : ByteArray} (h : Lib.decDigits n = x.data.toList) : x = itoS n := by
  unfold itoS
  have : x.data = (Lib.decDigits n).toArray := Array.ext' (by rw [h])
  cases x
  exact congrArg _ this
theorem void8 (x : ByteArray) : x.toList.isEmpty = decide (x.size = 0) := by
  have e : x.toList = x.data.toList := by rw [ByteArray.toList_eq]
  rw [e]
  have h : x.data.toList.length = x.size := by simp
  cases hx : x.data.toList with
  | nil => rw [hx] at h; simp at h; simp [← h]
  | cons a b =>
    rw [hx] at h
    have h2 : ¬ x.size = 0 := by rw [← h]; simp
    rw [decide_eq_false h2]; rfl
/-- How far digits are written. -/
def DecZ (u m : Nat) (x : ByteArray) : Prop := (x.size = 0 ∧ m = u) ∨ (0 < x.size ∧ Lib.decDigits u = (if m = 0 then [] else Lib.decDigits m) ++ x.data.toList)
theorem cat8 (c : UInt8) (x : ByteArray) : ((⟨#[c]⟩ : ByteArray) ++ x).data.toList = c :: x.data.toList := by simp
theorem DecZ.next {u m : Nat} {x : ByteArray} (h : DecZ u m x) (h2 : x.size = 0 ∨ 0 < m) : DecZ u (m / 10) ((⟨#[UInt8.ofNat (48 + m % 10)]⟩ : ByteArray) ++ x) := by
  have hs : ((⟨#[UInt8.ofNat (48 + m % 10)]⟩ : ByteArray) ++ x).size = 1 + x.size := by rw [ByteArray.size_append]; rfl
  have hd : Lib.decDigits u = Lib.decDigits m ++ x.data.toList := by
    rcases h with ⟨h1, rfl⟩ | ⟨h1, h3⟩
    · have : x.data.toList = [] := List.eq_nil_of_length_eq_zero (by rw [← h1]; simp)
      rw [this, List.append_nil]
    · rw [if_neg (by omega)] at h3; exact h3
  refine .inr ⟨by omega, ?_⟩
  rw [hd, cat8]
  by_cases h10 : m < 10
  · rw [if_pos (by omega), dec_small h10, Nat.mod_eq_of_lt h10]; rfl
  · rw [if_neg (by omega), dec_big h10]; simp
theorem DecZ.size {u m : Nat} {x : ByteArray} (h : DecZ u m x) (hu : u < 10000000000000000000) : x.size ≤ 19 := by
  have hl : x.data.toList.length = x.size := by simp
  rcases h with ⟨h1, _⟩ | ⟨_, h3⟩
  · omega
  · have := dec_len 18 u (by simpa using hu)
    rw [h3, List.length_append] at this
    omega
theorem byte8 (w : World) (n : Int) (c : UInt8) (h : n = (c.toNat : Int)) : (convert 22 9 (.slice (some ⟨w.heap.size, 0, none⟩) 1 1)).run Tryz.prog (w.alloc (.cells #[.int .u8 n] 5)) = .ok (.string ⟨#[c]⟩) (w.alloc (.cells #[.int .u8 n] 5)) := by
  subst h
  exact OwnsB.text (OwnsB.one w c)
theorem dig8 {d : Nat} (h : d < 10) : ((UInt8.ofNat (48 + d)).toNat : Int) = 48 + (d : Int) := by
  have k : ∀ j : Fin 10, ((UInt8.ofNat (48 + j.val)).toNat : Int) = 48 + (j.val : Int) := by decide +kernel
  exact k ⟨d, h⟩
def decMu8 (a b : Value) : Nat := 2 * (intOf a).toNat + (match b with | .string s => if s.size = 0 then 1 else 0 | _ => 0)
theorem ret_str8 {a b : ByteArray} (h : a = b) : Ending.returned (.string a) = .returned (.string b) := by rw [h]
set_option maxHeartbeats 1000000 in
theorem specIntZ (n : Nat) (w : World) (hn : n ≤ 9223372036854775807) :
    Calls Tryz.prog 64 #[.int .i64 (n : Int)] w fun e w' => e = .returned (.string (itoS n)) ∧ Below w.heap.size w w' := by
  have H0 : Hid (DecZ n n ⟨#[]⟩) := .inl ⟨rfl, rfl⟩
  have hneg : decide ((n : Int) < 0) = false := by simp
  go_enter Tryz.func64, Tryz.ntmps64
  go_wp2
  go_loopw [0, 3, 5] (fun a b _ wr => ∃ (m : Nat) (x : ByteArray), a = .int .i64 m ∧ b = .string x ∧ m ≤ 9223372036854775807 ∧ Hid (DecZ n m x) ∧ Hid (Below w.heap.size w wr)) (fun a b _ _ => decMu8 a b)
  case atStart => exact ⟨n, ⟨#[]⟩, rfl, rfl, hn, H0, Below.refl _ _⟩
  case round =>
    obtain ⟨m, x, rfl, rfl, hm, hx, hb⟩ := hrel
    have hxs := hx.out.size (by omega)
    have hmod : m % 10 < 10 := Nat.mod_lt _ (by decide)
    by_cases hend : 0 < x.size ∧ m = 0
    · obtain ⟨h1, rfl⟩ := hend
      have hfe : x.toList.isEmpty = false := by rw [void8]; exact decide_eq_false (by omega)
      have HX : Hid (x = itoS n) := by
        rcases hx.out with ⟨h, _⟩ | ⟨_, h⟩
        · omega
        · exact itoS_is (by simpa using h)
      clear hx
      go_wp2
      go_ret
      exact ⟨ret_str8 HX.out, hb.out⟩
    · have hc : x.size = 0 ∨ 0 < m := by omega
      have HN : Hid (DecZ n (m / 10) ((⟨#[UInt8.ofNat (48 + m % 10)]⟩ : ByteArray) ++ x)) := hx.out.next hc
      have hby := dig8 hmod
      obtain ⟨q, hq⟩ : ∃ q, m % 10 = q := ⟨_, rfl⟩
      obtain ⟨p, hp⟩ : ∃ p, m / 10 = p := ⟨_, rfl⟩
      rw [hq] at HN hby hmod
      rw [hp] at HN
      have hpq : m = 10 * p + q := by omega
      have e3 : (m : Int) % 10 = (q : Int) := by omega
      have e4 : (m : Int) / 10 = (p : Int) := by omega
      have e1 : (m : Int).tmod 10 = (q : Int) := by rw [Int.tmod_eq_emod_of_nonneg (by omega)]; exact e3
      have e2 : (m : Int).tdiv 10 = (p : Int) := by rw [Int.tdiv_eq_ediv_of_nonneg (by omega)]; exact e4
      have d1 : ¬ (q : Int) < 0 := by omega
      have hwr : IntKind.u8.wrap (48 + (q : Int)) = 48 + (q : Int) := by rw [show IntKind.u8.wrap (48 + (q : Int)) = (48 + (q : Int)) % 256 from rfl]; omega
      have htx := fun W => byte8 W (48 + (q : Int)) (UInt8.ofNat (48 + q)) hby.symm
      have hsz : ((⟨#[UInt8.ofNat (48 + q)]⟩ : ByteArray) ++ x).size = 1 + x.size := by rw [ByteArray.size_append]; rfl
      have hsz1 : (⟨#[UInt8.ofNat (48 + q)]⟩ : ByteArray).size = 1 := rfl
      have HM : Hid (decMu8 (.int .i64 (p : Int)) (.string ((⟨#[UInt8.ofNat (48 + q)]⟩ : ByteArray) ++ x)) < decMu8 (.int .i64 (m : Int)) (.string x)) := by
        show 2 * (p : Int).toNat + (if ((⟨#[UInt8.ofNat (48 + q)]⟩ : ByteArray) ++ x).size = 0 then 1 else 0) < 2 * (m : Int).toNat + (if x.size = 0 then 1 else 0)
        rw [hsz, if_neg (by omega), Int.toNat_natCast, Int.toNat_natCast]
        rcases hc with hc | hc
        · rw [if_pos hc]; omega
        · omega
      have HP : Hid (p ≤ 9223372036854775807) := by show p ≤ _; omega
      clear hby hx hend hq hp hpq
      generalize UInt8.ofNat (48 + q) = c at HN htx hsz HM hsz1
      by_cases hv : x.size = 0
      · have hfe : x.toList.isEmpty = true := by rw [void8]; exact decide_eq_true hv
        go_wp2
        go_roundw
        case rel => exact ⟨p, _, rfl, rfl, HP.out, HN, hb.out.alloc hb.out.size _⟩
        case measure => exact HM.out
      · have hfe : x.toList.isEmpty = false := by rw [void8]; exact decide_eq_false hv
        have hne : ((m : Int) != 0) = true := by simp; omega
        have hne2 : ¬ (m : Int) = 0 := by omega
        go_wp2
        go_roundw
        case rel => exact ⟨p, _, rfl, rfl, HP.out, HN, hb.out.alloc hb.out.size _⟩
        case measure => exact HM.out
end Go.Proofs.YtemmgfnepdgpbaaGreatDoor
namespace Go.Proofs.YtemmgfnepdgpbaaGreatDoor.St
open Go.RowKit
set_option linter.unusedVariables false

/-! ### Lines -/
def ln10 : List UInt8 → Option (List UInt8 × List UInt8)
  | [] => none
  | c :: r => if c = 10 then some ([], r) else (ln10 r).map fun p => (c :: p.1, p.2)
theorem ln10_at : ∀ {x : List UInt8} (r : List UInt8), (10 : UInt8) ∉ x → ln10 (x ++ 10 :: r) = some (x, r)
  | [], r, _ => by simp [ln10]
  | c :: x, r, h => by
    have hc : c ≠ 10 := fun e => h (by simp [e])
    rw [List.cons_append, ln10, if_neg hc, ln10_at r (fun e => h (by simp [e]))]
    rfl
theorem ln10_is : ∀ {l x r : List UInt8}, ln10 l = some (x, r) → l = x ++ 10 :: r ∧ (10 : UInt8) ∉ x
  | [], x, r, h => by simp [ln10] at h
  | c :: l, x, r, h => by
    rw [ln10] at h
    by_cases hc : c = 10
    · rw [if_pos hc] at h
      simp only [Option.some.injEq, Prod.mk.injEq] at h
      obtain ⟨rfl, rfl⟩ := h
      exact ⟨by simp [hc], by simp⟩
    · rw [if_neg hc] at h
      cases e : ln10 l with
      | none => rw [e] at h; cases h
      | some p =>
        obtain ⟨y, q⟩ := p
        rw [e] at h
        simp only [Option.map_some, Option.some.injEq, Prod.mk.injEq] at h
        obtain ⟨rfl, rfl⟩ := h
        obtain ⟨h1, h2⟩ := ln10_is e
        exact ⟨by rw [h1]; rfl, by simp [Ne.symm hc, h2]⟩
/-! ### Numbers -/
def dd (n : Int) : List UInt8 := Lib.decDigits n.toNat
theorem dig_oneS {d : Nat} (h : d < 10) : digV ((UInt8.ofNat (48 + d)).toNat : Int) = (d : Int) ∧ digN 10 ((UInt8.ofNat (48 + d)).toNat : Int) = true ∧ 48 ≤ (UInt8.ofNat (48 + d)).toNat ∧ (UInt8.ofNat (48 + d)).toNat ≤ 57 := by
  have k : ∀ j : Fin 10, digV ((UInt8.ofNat (48 + j.val)).toNat : Int) = (j.val : Int) ∧ digN 10 ((UInt8.ofNat (48 + j.val)).toNat : Int) = true ∧ 48 ≤ (UInt8.ofNat (48 + j.val)).toNat ∧ (UInt8.ofNat (48 + j.val)).toNat ≤ 57 := by decide +kernel
  exact k ⟨d, h⟩
theorem dec_numS : ∀ (f n : Nat), n ≤ f → numL 10 (Lib.decDigits n) = (n : Int) ∧ (∀ c ∈ Lib.decDigits n, digN 10 (c.toNat : Int) = true ∧ 48 ≤ c.toNat ∧ c.toNat ≤ 57) ∧ 0 < (Lib.decDigits n).length := by
  intro f
  induction f with
  | zero =>
    intro n hn
    obtain rfl : n = 0 := by omega
    rw [dec_small (by decide)]
    have := dig_oneS (d := 0) (by decide)
    exact ⟨by simpa [numL] using this.1, fun c hc => by rw [List.mem_singleton.1 hc]; exact this.2, by simp⟩
  | succ f ih =>
    intro n hn
    by_cases h : n < 10
    · rw [dec_small h]
      have := dig_oneS h
      exact ⟨by simpa [numL] using this.1, fun c hc => by rw [List.mem_singleton.1 hc]; exact this.2, by simp⟩
    · obtain ⟨i1, i2, i3⟩ := ih (n / 10) (by omega)
      have := dig_oneS (Nat.mod_lt n (by decide : 0 < 10))
      rw [dec_big h, numL_snoc, i1, this.1]
      refine ⟨by omega, fun c hc => ?_, by simp⟩
      rcases List.mem_append.1 hc with hc | hc
      · exact i2 c hc
      · rw [List.mem_singleton.1 hc]; exact this.2
theorem dd_bytes (n : Int) : ∀ c ∈ dd n, 48 ≤ c.toNat ∧ c.toNat ≤ 57 := fun c hc => ((dec_numS n.toNat n.toNat (Nat.le_refl _)).2.1 c hc).2
theorem dd_pos (n : Int) : 0 < (dd n).length := (dec_numS n.toNat n.toNat (Nat.le_refl _)).2.2
theorem dd_not (n : Int) {c : UInt8} (h : c.toNat < 48) : c ∉ dd n := fun hc => by have := dd_bytes n c hc; omega
theorem dd_len {n : Int} (h1 : n < 1000000000000000) : (dd n).length ≤ 15 := dec_len 14 n.toNat (by omega)
theorem dd_num {n : Int} (h0 : 0 ≤ n) (h1 : n < 1000000000000000) : numOk 10 15 (txtL (dd n)) = true ∧ numV 10 15 (txtL (dd n)) = n := by
  obtain ⟨i1, i2, i3⟩ := dec_numS n.toNat n.toNat (Nat.le_refl _)
  have hl := dd_len h1
  have hp := dd_pos n
  have hs : (txtL (dd n)).size = (dd n).length := by show (dd n).toArray.size = _; simp
  have hd : (txtL (dd n)).data.toList = dd n := by show (dd n).toArray.toList = _; simp
  have ho : numOk 10 15 (txtL (dd n)) = true := by
    unfold numOk
    rw [Bool.and_eq_true, decide_eq_true_eq, hs, hd]
    refine ⟨by omega, ?_⟩
    unfold allB
    rw [List.all_eq_true]
    exact fun c hc => (i2 c hc).1
  refine ⟨ho, ?_⟩
  rw [num_yes ho, hd]
  show numL 10 (Lib.decDigits n.toNat) = n
  rw [i1]
  omega
theorem wrd_cut : ∀ {x : List UInt8} (r : List UInt8), (32 : UInt8) ∉ x → wrdL (x ++ 32 :: r) = x :: wrdL r
  | [], r, _ => by simp [wrdL]
  | c :: x, r, h => by
    have hc : c ≠ 32 := fun e => h (by simp [e])
    rw [List.cons_append, wrdL, if_neg hc, wrd_cut r (fun e => h (by simp [e]))]
theorem wrd_lone : ∀ {x : List UInt8}, (32 : UInt8) ∉ x → wrdL x = [x]
  | [], _ => rfl
  | c :: x, h => by
    have hc : c ≠ 32 := fun e => h (by simp [e])
    rw [wrdL, if_neg hc, wrd_lone (fun e => h (by simp [e]))]
/-- Just so many numbers. -/
def numsL (c : Nat) (x : List UInt8) : Option (List Int) :=
  if (wrdL x).length = c ∧ (wrdL x).all (fun y => numOk 10 15 (txtL y)) = true then some ((wrdL x).map fun y => numV 10 15 (txtL y)) else none
def few (n : Int) : Prop := 0 ≤ n ∧ n < 1000000000000000
theorem nums_of {c : Nat} {x : List UInt8} {ns : List Int} (h : wrdL x = ns.map dd) (hc : ns.length = c) (hf : ∀ n ∈ ns, few n) : numsL c x = some ns := by
  unfold numsL
  rw [h]
  have h1 : (ns.map dd).all (fun y => numOk 10 15 (txtL y)) = true := by
    rw [List.all_map, List.all_eq_true]
    exact fun n hn => (dd_num (hf n hn).1 (hf n hn).2).1
  rw [if_pos ⟨by simpa using hc, h1⟩, List.map_map]
  congr 1
  conv => rhs; rw [← List.map_id ns]
  exact List.map_congr_left fun n hn => (dd_num (hf n hn).1 (hf n hn).2).2
theorem nums_3 {a b c : Int} (ha : few a) (hb : few b) (hc : few c) : numsL 3 (dd a ++ 32 :: (dd b ++ 32 :: dd c)) = some [a, b, c] :=
  nums_of (by rw [wrd_cut _ (dd_not a (by decide)), wrd_cut _ (dd_not b (by decide)), wrd_lone (dd_not c (by decide))]; rfl) rfl (by simp [ha, hb, hc])
theorem nums_4 {a b c d : Int} (ha : few a) (hb : few b) (hc : few c) (hd : few d) : numsL 4 (dd a ++ 32 :: (dd b ++ 32 :: (dd c ++ 32 :: dd d))) = some [a, b, c, d] :=
  nums_of (by rw [wrd_cut _ (dd_not a (by decide)), wrd_cut _ (dd_not b (by decide)), wrd_cut _ (dd_not c (by decide)), wrd_lone (dd_not d (by decide))]; rfl) rfl (by simp [ha, hb, hc, hd])
theorem nums_len {c : Nat} {x : List UInt8} {ns : List Int} (h : numsL c x = some ns) : ns.length = c := by
  unfold numsL at h
  split at h
  · rename_i hh
    simp only [Option.some.injEq] at h
    rw [← h, List.length_map]
    exact hh.1
  · cases h
theorem numV_few (s : ByteArray) : few (numV 10 15 s) := by
  unfold numV
  split
  · rename_i h
    unfold numOk at h
    rw [Bool.and_eq_true, decide_eq_true_eq] at h
    have hl : s.data.toList.length = s.size := by simp
    have := numL_bd 10 (by decide) s s.size (Nat.le_refl _) (by rw [← hl, List.take_length]; exact h.2)
    rw [← hl, List.take_length] at this
    have hp := pow_le10 s.data.toList.length (by omega)
    exact ⟨this.1, by omega⟩
  · exact ⟨Int.le_refl _, by decide⟩
theorem nums_few {c : Nat} {x : List UInt8} {ns : List Int} (h : numsL c x = some ns) : ∀ n ∈ ns, few n := by
  unfold numsL at h
  split at h
  · simp only [Option.some.injEq] at h
    intro n hn
    rw [← h] at hn
    obtain ⟨y, _, rfl⟩ := List.mem_map.1 hn
    exact numV_few _
  · cases h

/-! ### Fields by their count -/
theorem lnS_clean : ∀ {x : List UInt8} (r : List UInt8), clean x → lnS (x ++ [13, 10] ++ r) = some (x, r)
  | [], r, _ => lnS_end rfl rfl
  | c :: x, r, h => by
    have hc := h c (List.mem_cons_self ..)
    rw [List.cons_append, List.cons_append, lnS_more hc.1 hc.2, lnS_clean r (fun d hd => h d (List.mem_cons_of_mem _ hd))]
    rfl
/-- Where the first colon stands. -/
def colK : List UInt8 → Nat
  | [] => 0
  | c :: r => if c = 58 then 0 else colK r + 1
theorem colK_le : ∀ l : List UInt8, colK l ≤ l.length
  | [] => Nat.le_refl _
  | c :: r => by
    unfold colK
    split
    · exact Nat.zero_le _
    · have := colK_le r
      simp
      omega
theorem colK_at : ∀ {a : List UInt8} (b : List UInt8), (∀ c ∈ a, c ≠ 58) → colK (a ++ 58 :: b) = a.length
  | [], b, _ => by simp [colK]
  | c :: a, b, h => by
    rw [List.cons_append, colK, if_neg (h c (List.mem_cons_self ..)), colK_at b (fun d hd => h d (List.mem_cons_of_mem _ hd))]
    rfl
def fldAt (x : List UInt8) : Fl := (txtL (x.take (colK x)), txtL (x.drop (colK x + 2)))
def fdL : Nat → List UInt8 → Option (List Fl × List UInt8)
  | 0, l => some ([], l)
  | n + 1, l => match lnS l with
    | none => none
    | some (x, r) => if colK x + 2 ≤ x.length then (fdL n r).map fun p => (fldAt x :: p.1, p.2) else none
theorem txt_id (s : ByteArray) : txtL s.data.toList = s := by unfold txtL; cases s; simp
theorem fld_line {f : Fl} (h : fldOk f = true) : colK (lineF f) = f.1.size ∧ fldAt (lineF f) = f ∧ colK (lineF f) + 2 ≤ (lineF f).length := by
  have ht := (fldOk_parts h).1
  have hl : f.1.data.toList.length = f.1.size := by simp
  have e : lineF f = f.1.data.toList ++ 58 :: (32 :: f.2.data.toList) := by unfold lineF; simp
  have hk : colK (lineF f) = f.1.size := by rw [e, colK_at _ (fun c hc => (tok_bytes ht hc).2.2), hl]
  refine ⟨hk, ?_, ?_⟩
  · unfold fldAt
    rw [hk, e]
    have e1 : (f.1.data.toList ++ 58 :: 32 :: f.2.data.toList).take f.1.size = f.1.data.toList := by rw [← hl]; simp
    have e2 : (f.1.data.toList ++ 58 :: 32 :: f.2.data.toList).drop (f.1.size + 2) = f.2.data.toList := by rw [← hl, ← List.drop_drop]; simp
    rw [e1, e2, txt_id, txt_id]
  · rw [hk, e, List.length_append, hl]
    simp
theorem fd_show : ∀ (l : List Fl) (t : List UInt8), (∀ f ∈ l, fldOk f = true) → fdL l.length (showL l ++ t) = some (l, t)
  | [], t, _ => rfl
  | f :: l, t, h => by
    have hf := h f (List.mem_cons_self ..)
    have e : showL (f :: l) ++ t = lineF f ++ [13, 10] ++ (showL l ++ t) := by
      show (showF f ++ showL l) ++ t = _
      rw [showF_line]
      simp
    rw [List.length_cons, fdL, e, lnS_clean _ (lineF_clean hf)]
    simp only
    rw [if_pos (fld_line hf).2.2, fd_show l t (fun g hg => h g (List.mem_cons_of_mem _ hg)), (fld_line hf).2.1]
    rfl

/-! ### Objects -/
def hdL (o : Ob) : List UInt8 :=
  o.k.data.toList ++ 10 :: ((dd o.asked ++ 32 :: (dd o.got ++ 32 :: dd o.ep)) ++ 10 :: ((dd (o.l.length : Int) ++ 32 :: (dd o.r.s ++ 32 :: (dd (o.r.l.length : Int) ++ 32 :: dd (o.r.b.size : Int)))) ++ [10]))
def shoL (o : Ob) : List UInt8 := hdL o ++ (showL o.l ++ (showL o.r.l ++ (o.r.b.data.toList ++ [10])))
def mkO (k : List UInt8) (a b : List Int) (l m : List Fl) (y : List UInt8) : Ob := ⟨txtL k, l, ⟨b.getD 1 0, m, txtL y⟩, a.getD 0 0, a.getD 1 0, a.getD 2 0⟩
/-- The last step: is it right, and does the text begin with it? -/
def lastO (t : List UInt8) (o : Ob) : Option Ob := if obB o = true ∧ shoL o <+: t then some o else none
def rdO (t : List UInt8) : Option Ob :=
  (ln10 t).bind fun p => (ln10 p.2).bind fun q => (ln10 q.2).bind fun s => (numsL 3 q.1).bind fun a => (numsL 4 s.1).bind fun b =>
    if b.getD 0 0 ≤ 30 ∧ b.getD 2 0 ≤ 30 then
      (fdL (b.getD 0 0).toNat s.2).bind fun x => (fdL (b.getD 2 0).toNat x.2).bind fun y =>
        if b.getD 3 0 ≤ (y.2.length : Int) then lastO t (mkO p.1 a b x.1 y.1 (y.2.take (b.getD 3 0).toNat)) else none
    else none
theorem last_ok {t : List UInt8} {o p : Ob} (h : lastO t o = some p) : p = o ∧ obB o = true ∧ shoL o <+: t := by
  unfold lastO at h
  split at h
  · rename_i hh
    simp only [Option.some.injEq] at h
    exact ⟨h.symm, hh⟩
  · cases h
/-- What is read is right, and the text begins with what is shown of it. -/
theorem rdO_ok {t : List UInt8} {o : Ob} (h : rdO t = some o) : obB o = true ∧ shoL o <+: t := by
  unfold rdO at h
  simp only [Option.bind_eq_some_iff] at h
  obtain ⟨p, _, q, _, s, _, a, _, b, _, h⟩ := h
  split at h
  · simp only [Option.bind_eq_some_iff] at h
    obtain ⟨x, _, y, _, h⟩ := h
    split at h
    · obtain ⟨rfl, h1, h2⟩ := last_ok h
      exact ⟨h1, h2⟩
    · cases h
  · cases h
theorem own_flds {l : List Fl} (h : ownB l = true) : fldsOk l = true := by
  unfold ownB at h
  simp only [Bool.and_eq_true] at h
  exact h.1
structure ObOk (o : Ob) : Prop where
  key : ∀ c ∈ o.k.data.toList, 33 ≤ c.toNat ∧ c.toNat ≤ 126
  ksz : o.k.size ≤ 500
  fl : fldsOk o.l = true
  rl : fldsOk o.r.l = true
  st : 200 ≤ o.r.s ∧ o.r.s ≤ 599
  bd : o.r.b.size ≤ 4000
  asked : 0 ≤ o.asked ∧ o.asked ≤ 253402300799
  got : 0 ≤ o.got ∧ o.got ≤ 253402300799
  ep : 0 ≤ o.ep ∧ o.ep ≤ 100000
theorem obOk {o : Ob} (h : obB o = true) : ObOk o := by
  unfold obB keyO rsOk at h
  simp only [Bool.and_eq_true, decide_eq_true_eq] at h
  obtain ⟨⟨h1, h2⟩, h3, ⟨h4, h5, h6, h7⟩, h8, h9, h10, h11, h12⟩ := h
  refine ⟨fun c hc => ?_, h2, h3, own_flds h5, h4, h6, momB_iff.1 h8, momB_iff.1 h9, ⟨h11, h12⟩⟩
  have := allB_at h1 hc
  unfold keyN at this
  rw [decide_eq_true_eq] at this
  omega
theorem few_of {n m : Int} (h : 0 ≤ n ∧ n ≤ m) (hm : m < 1000000000000000) : few n := ⟨h.1, by omega⟩
/-- What is shown of a right one is read as it is, whatever stands behind it. -/
theorem rdO_sho {o : Ob} (h : obB o = true) (t : List UInt8) : rdO (shoL o ++ t) = some o := by
  have hk := obOk h
  obtain ⟨hn, hf⟩ := fldsOk_parts hk.fl
  obtain ⟨hrn, hrf⟩ := fldsOk_parts hk.rl
  have k10 : (10 : UInt8) ∉ o.k.data.toList := fun hc => by have := hk.key 10 hc; simp at this
  have nd : ∀ n : Int, (10 : UInt8) ∉ dd n := fun n => dd_not n (by decide)
  have hbl : o.r.b.data.toList.length = o.r.b.size := by simp
  have hbz := hk.bd
  have e1 : shoL o ++ t = o.k.data.toList ++ 10 :: ((dd o.asked ++ 32 :: (dd o.got ++ 32 :: dd o.ep)) ++ 10 :: ((dd (o.l.length : Int) ++ 32 :: (dd o.r.s ++ 32 :: (dd (o.r.l.length : Int) ++ 32 :: dd (o.r.b.size : Int)))) ++ 10 :: (showL o.l ++ (showL o.r.l ++ (o.r.b.data.toList ++ 10 :: t))))) := by
    unfold shoL hdL
    simp
  have l1 := ln10_at ((dd o.asked ++ 32 :: (dd o.got ++ 32 :: dd o.ep)) ++ 10 :: ((dd (o.l.length : Int) ++ 32 :: (dd o.r.s ++ 32 :: (dd (o.r.l.length : Int) ++ 32 :: dd (o.r.b.size : Int)))) ++ 10 :: (showL o.l ++ (showL o.r.l ++ (o.r.b.data.toList ++ 10 :: t))))) k10
  have l2 := ln10_at (x := dd o.asked ++ 32 :: (dd o.got ++ 32 :: dd o.ep)) ((dd (o.l.length : Int) ++ 32 :: (dd o.r.s ++ 32 :: (dd (o.r.l.length : Int) ++ 32 :: dd (o.r.b.size : Int)))) ++ 10 :: (showL o.l ++ (showL o.r.l ++ (o.r.b.data.toList ++ 10 :: t)))) (by simp [nd])
  have l3 := ln10_at (x := dd (o.l.length : Int) ++ 32 :: (dd o.r.s ++ 32 :: (dd (o.r.l.length : Int) ++ 32 :: dd (o.r.b.size : Int)))) (showL o.l ++ (showL o.r.l ++ (o.r.b.data.toList ++ 10 :: t))) (by simp [nd])
  have n1 := nums_3 (few_of hk.asked (by decide)) (few_of hk.got (by decide)) (few_of hk.ep (by decide))
  have n2 := nums_4 (a := (o.l.length : Int)) (b := o.r.s) (c := (o.r.l.length : Int)) (d := (o.r.b.size : Int)) ⟨by omega, by omega⟩ ⟨by have := hk.st; omega, by have := hk.st; omega⟩ ⟨by omega, by omega⟩ ⟨by omega, by omega⟩
  have f1 := fd_show o.l (showL o.r.l ++ (o.r.b.data.toList ++ 10 :: t)) hf
  have f2 := fd_show o.r.l (o.r.b.data.toList ++ 10 :: t) hrf
  have hpre : shoL o <+: shoL o ++ t := List.prefix_append _ _
  have key : ∀ T, T = shoL o ++ t → rdO T = some o := by
    intro T hT
    have hpT : shoL o <+: T := hT ▸ hpre
    have l1' : ln10 T = some (o.k.data.toList, (dd o.asked ++ 32 :: (dd o.got ++ 32 :: dd o.ep)) ++ 10 :: ((dd (o.l.length : Int) ++ 32 :: (dd o.r.s ++ 32 :: (dd (o.r.l.length : Int) ++ 32 :: dd (o.r.b.size : Int)))) ++ 10 :: (showL o.l ++ (showL o.r.l ++ (o.r.b.data.toList ++ 10 :: t))))) := by rw [hT, e1]; exact l1
    unfold rdO
    rw [l1']
    simp only [Option.bind_some, l2, l3, n1, n2, List.getD_cons_zero, List.getD_cons_succ]
    rw [if_pos ⟨by omega, by omega⟩]
    simp only [Int.toNat_natCast, f1, f2, Option.bind_some]
    rw [if_pos (by rw [List.length_append, hbl]; simp; omega)]
    have e2 : (o.r.b.data.toList ++ 10 :: t).take o.r.b.size = o.r.b.data.toList := by rw [← hbl]; simp
    rw [e2]
    have e3 : mkO o.k.data.toList [o.asked, o.got, o.ep] [(o.l.length : Int), o.r.s, (o.r.l.length : Int), (o.r.b.size : Int)] o.l o.r.l o.r.b.data.toList = o := by
      unfold mkO
      rw [txt_id, txt_id]
      rfl
    rw [e3]
    unfold lastO
    rw [if_pos ⟨h, hpT⟩]
  exact key _ rfl
/-- No two right ones begin one text. -/
theorem sho_one {o p : Ob} {t : List UInt8} (ho : obB o = true) (hp : obB p = true) (h1 : shoL o <+: t) (h2 : shoL p <+: t) : o = p := by
  obtain ⟨x, hx⟩ := h1
  obtain ⟨y, hy⟩ := h2
  have e1 := rdO_sho ho x
  have e2 := rdO_sho hp y
  rw [hx] at e1
  rw [hy, e1] at e2
  exact Option.some.inj e2
theorem rdO_iff {t : List UInt8} {o : Ob} : rdO t = some o ↔ obB o = true ∧ shoL o <+: t := by
  constructor
  · exact rdO_ok
  · rintro ⟨h, x, rfl⟩
    exact rdO_sho h x
theorem rdO_none {t : List UInt8} (h : ∀ o, obB o = true → ¬ shoL o <+: t) : rdO t = none := by
  cases e : rdO t with
  | none => rfl
  | some o => exact absurd (rdO_ok e).2 (h o (rdO_ok e).1)
/-- Of no part of it. -/
theorem rdO_part {o : Ob} (h : obB o = true) {n : Nat} (hn : n < (shoL o).length) : rdO ((shoL o).take n) = none := by
  refine rdO_none fun p hp hx => ?_
  have h2 : shoL p <+: shoL o := hx.trans (List.take_prefix _ _)
  have : p = o := sho_one hp h h2 (List.prefix_refl _)
  subst this
  have := hx.length_le
  rw [List.length_take] at this
  omega
theorem dec_small15 {n : Int} (h : n ≤ 253402300799) : (dd n).length ≤ 12 := dec_len 11 n.toNat (by omega)
theorem showL_len {l : List Fl} (h : fldsOk l = true) : (showL l).length ≤ 14040 := by
  obtain ⟨h1, h2⟩ := fldsOk_parts h
  have := showL_length l h2 l.length (Nat.le_refl _)
  rw [List.take_length] at this
  omega
theorem sho_len {o : Ob} (h : obB o = true) : (shoL o).length ≤ 33000 := by
  have hk := obOk h
  have a1 := showL_len hk.fl
  have a2 := showL_len hk.rl
  have hkl : o.k.data.toList.length = o.k.size := by simp
  have hbl : o.r.b.data.toList.length = o.r.b.size := by simp
  have := hk.ksz
  have := hk.bd
  have d1 := dec_small15 (show o.asked ≤ 253402300799 from hk.asked.2)
  have d2 := dec_small15 (show o.got ≤ 253402300799 from hk.got.2)
  have d3 := dec_small15 (show o.ep ≤ 253402300799 by have := hk.ep.2; omega)
  have d4 := dec_small15 (show (o.l.length : Int) ≤ 253402300799 by have := (fldsOk_parts hk.fl).1; omega)
  have d5 := dec_small15 (show o.r.s ≤ 253402300799 by have := hk.st.2; omega)
  have d6 := dec_small15 (show (o.r.l.length : Int) ≤ 253402300799 by have := (fldsOk_parts hk.rl).1; omega)
  have d7 := dec_small15 (show (o.r.b.size : Int) ≤ 253402300799 by omega)
  unfold shoL hdL
  simp only [List.length_append, List.length_cons, List.length_nil]
  omega
theorem sho_pos {o : Ob} : 0 < (shoL o).length := by
  unfold shoL hdL
  simp only [List.length_append, List.length_cons, List.length_nil]
  omega
def shwO (o : Ob) : ByteArray := if obB o = true then txtL (shoL o) else ⟨#[]⟩
end Go.Proofs.YtemmgfnepdgpbaaGreatDoor.St
