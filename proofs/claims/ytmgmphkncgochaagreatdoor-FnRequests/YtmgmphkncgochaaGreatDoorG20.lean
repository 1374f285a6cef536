/-
  The contract of the specification's Hex.
  The program's ChunkerOk by its contract.
  A state of chunks by value in a block of four cells; what all bytes of a text come to.
-/
import Derived.Test.YtmgmphkncgochaaGreatDoorG07
import Derived.Test.YtmgmphkncgochaaGreatDoorRows
import Derived.WalkKit
import Derived.WalkSpells
import Derived.Laws.Bits64b
import Derived.Laws.IdiomStrings
import Derived.Laws.Strings
import Derived.Test.YtmgmphkncgochaaGreatDoorG11
import Derived.Test.YtmgmphkncgochaaGreatDoorG02
namespace Go.Proofs.YtmgmphkncgochaaGreatDoor
open Go.RowKit

def lenS : Value → Nat | .string s => s.size | _ => 0
def hexMu (a b : Value) : Nat := 2 * (intOf a).toNat + (if lenS b = 0 then 1 else 0)

theorem full' {x : ByteArray} (h : 0 < x.size) : ¬ x.toList = [] := by
  rw [ByteArray.toList_eq]
  intro e
  have h3 : x.data.toList.length = x.size := by simp
  rw [e] at h3
  simp at h3
  omega
theorem void' {x : ByteArray} (h : ¬ 0 < x.size) : x.toList = [] := by
  rw [ByteArray.toList_eq]
  have h3 : x.data.toList.length = x.size := by simp
  exact List.eq_nil_of_length_eq_zero (by omega)

/-- n lies between lo and hi. -/
def inR (n lo hi : Int) : Bool := decide (lo ≤ n ∧ n ≤ hi)
theorem inRange (n lo hi : Int) (w : World) : Calls Tryz.prog 78 #[.int .i64 n, .int .i64 lo, .int .i64 hi] w fun e w' => e = .returned (.bool (inR n lo hi)) ∧ w = w' := by
  unfold inR
  by_cases h1 : lo ≤ n
  · by_cases h2 : n ≤ hi
    · have e : decide (lo ≤ n ∧ n ≤ hi) = true := decide_eq_true ⟨h1, h2⟩
      rw [e]
      clear e
      go_enter Tryz.func78, Tryz.ntmps78
      go_wp2
      go_ret
      exact ⟨by simp, rfl⟩
    · have e : decide (lo ≤ n ∧ n ≤ hi) = false := decide_eq_false (fun x => h2 x.2)
      rw [e]
      clear e
      go_enter Tryz.func78, Tryz.ntmps78
      go_wp2
      go_ret
      exact ⟨by simp, rfl⟩
  · have e : decide (lo ≤ n ∧ n ≤ hi) = false := decide_eq_false (fun x => h1 x.1)
    rw [e]
    clear e
    go_enter Tryz.func78, Tryz.ntmps78
    go_wp2
    go_ret
    exact ⟨rfl, rfl⟩

theorem cat16 (d : Nat) (x : ByteArray) (h : d < 16) : ((⟨#[48, 49, 50, 51, 52, 53, 54, 55, 56, 57, 97, 98, 99, 100, 101, 102]⟩ : ByteArray).extract d (d + 1) ++ x).data.toList = hexB d :: x.data.toList := by
  have e : ((⟨#[48, 49, 50, 51, 52, 53, 54, 55, 56, 57, 97, 98, 99, 100, 101, 102]⟩ : ByteArray).extract d (d + 1)).data.toList = [hexB d] := by
    rcases (show d = 0 ∨ d = 1 ∨ d = 2 ∨ d = 3 ∨ d = 4 ∨ d = 5 ∨ d = 6 ∨ d = 7 ∨ d = 8 ∨ d = 9 ∨ d = 10 ∨ d = 11 ∨ d = 12 ∨ d = 13 ∨ d = 14 ∨ d = 15 from by omega) with rfl | rfl | rfl | rfl | rfl | rfl | rfl | rfl | rfl | rfl | rfl | rfl | rfl | rfl | rfl | rfl <;> decide
  rw [ByteArray.data_append, Array.toList_append, e]
  rfl
theorem size_cons {x : ByteArray} {c : UInt8} {l : List UInt8} (h : x.data.toList = c :: l) : 0 < x.size := by
  have h3 : x.data.toList.length = x.size := by simp
  rw [h, List.length_cons] at h3
  omega
theorem hexMu_lt {a b : Nat} {x y : ByteArray} (hy : 0 < y.size) (h : a < b ∨ (a ≤ b ∧ x.size = 0)) : hexMu (.int .i64 (a : Int)) (.string y) < hexMu (.int .i64 (b : Int)) (.string x) := by
  have e1 : hexMu (.int .i64 (a : Int)) (.string y) = 2 * a := by
    show 2 * ((a : Int)).toNat + (if y.size = 0 then 1 else 0) = 2 * a
    rw [if_neg (by omega)]; simp
  have e2 : hexMu (.int .i64 (b : Int)) (.string x) = 2 * b + (if x.size = 0 then 1 else 0) := by
    show 2 * ((b : Int)).toNat + (if x.size = 0 then 1 else 0) = _
    simp
  rw [e1, e2]
  rcases h with h | ⟨h, h'⟩
  · split <;> omega
  · rw [if_pos h']; omega
theorem hexS_is {n : Nat} {x : ByteArray} (h : hexF 13 n = x.data.toList) : x = hexS n := by
  unfold hexS
  have : x.data = (hexF 13 n).toArray := Array.ext' (by rw [h])
  cases x
  exact congrArg _ this

set_option maxHeartbeats 400000 in
theorem specHex_in (n : Nat) (hn : n ≤ 4503599627370496) (w : World) :
    Calls Tryz.prog 146 #[.int .i64 n] w fun e w' => e = .returned (.string (hexA n)) ∧ w = w' := by
  have HA : Hid (hexS n = hexA (n : Int)) := hexA_yes hn
  have hin : inR (n : Int) 0 4503599627370496 = true := decide_eq_true (by omega)
  have hbound : n < 16 ^ (13 + 1) := by omega
  have HB : Hid (n < 16 ^ (13 + 1)) := hbound
  clear hbound
  go_enter Tryz.func146, Tryz.ntmps146
  go_wp2_with (go_at_call 78; refine (inRange _ _ _ _).mono ?_; rintro e w' ⟨rfl, rfl⟩)
  clear hin
  go_loop [0, 3] (fun a b => ∃ (m f : Nat) (x : ByteArray), a = .int .i64 m ∧ b = .string x ∧ m ≤ 4503599627370496 ∧ Hid ((0 < x.size ∧ m = 0 ∧ hexF 13 n = x.data.toList) ∨ ((x.size = 0 ∨ 0 < m) ∧ f + x.data.toList.length = 13 ∧ m < 16 ^ (f + 1) ∧ hexF 13 n = hexF f m ++ x.data.toList))) (fun a b => hexMu a b)
  case atStart => exact ⟨n, 13, ⟨#[]⟩, rfl, rfl, hn, Or.inr ⟨Or.inl rfl, rfl, HB, by show hexF 13 n = hexF 13 n ++ []; rw [List.append_nil]⟩⟩
  case round =>
    obtain ⟨m, f, x, rfl, rfl, hm, hx⟩ := hrel
    rcases hx.out with ⟨x1, x2, x3⟩ | ⟨x1, x2, x3, x4⟩
    · have hne := full' x1
      have hfe : x.toList.isEmpty = false := by simpa using hne
      subst x2
      have HX : Hid (hexF 13 n = x.data.toList) := x3
      clear x3 hx
      go_wp2
      go_ret
      exact ⟨ret_hex ((hexS_is HX.out).trans HA.out), rfl⟩
    · have hcond : x.toList = [] ∨ 0 < m := by
        rcases x1 with h | h
        · exact Or.inl (void' (by omega))
        · exact Or.inr h
      have hmod : m % 16 < 16 := Nat.mod_lt _ (by decide)
      have hxs : x.size ≤ 13 := by
        have h3 : x.data.toList.length = x.size := by simp
        omega
      have hcat := cat16 (m % 16) x hmod
      have HC : Hid _ := hcat
      have HZ : Hid (0 < ((⟨#[48, 49, 50, 51, 52, 53, 54, 55, 56, 57, 97, 98, 99, 100, 101, 102]⟩ : ByteArray).extract (m % 16) (m % 16 + 1) ++ x).size) := size_cons hcat
      clear hcat
      have HW : Hid (0 < m ∨ x.size = 0) := by
        rcases x1 with h | h
        · exact Or.inr h
        · exact Or.inl h
      by_cases h16 : 16 ≤ m
      · obtain ⟨f', hf', hm', hx'⟩ := hex_more x2 x3 h16 x4
        have HN : Hid (f' + (hexB (m % 16) :: x.data.toList).length = 13 ∧ m / 16 < 16 ^ (f' + 1) ∧ hexF 13 n = hexF f' (m / 16) ++ (hexB (m % 16) :: x.data.toList)) := ⟨hf', hm', hx'⟩
        clear hf' hm' hx' hx x4 x3 x2 x1 hcond
        have hpos : 0 < m := by omega
        go_wp2
        all_goals
          go_round
          case rel => exact ⟨m / 16, f', _, by go_num, rfl, by omega, Or.inr ⟨Or.inr (by omega), by rw [HC.out]; exact HN.out.1, HN.out.2.1, by rw [HC.out]; exact HN.out.2.2⟩⟩
          case measure =>
            rw [show ((m : Int) / 16) = ((m / 16 : Nat) : Int) from by omega]
            exact hexMu_lt HZ.out (Or.inl (by omega))
      · have HN : Hid (hexF 13 n = hexB (m % 16) :: x.data.toList) := by
          show hexF 13 n = hexB (m % 16) :: x.data.toList
          rw [x4, hexF_small f m (by omega), Nat.mod_eq_of_lt (by omega)]
          rfl
        have hdiv : (m : Int) / 16 = 0 := by omega
        clear hx x4 x3 x2 x1
        rcases hcond with hc | hc
        all_goals
          go_wp2
          all_goals
            go_round
            case rel => exact ⟨0, f, _, rfl, rfl, by omega, Or.inl ⟨HZ.out, rfl, by rw [HC.out]; exact HN.out⟩⟩
            case measure => exact hexMu_lt (a := 0) HZ.out (by have := HW.out; omega)

theorem specHex (n : Int) (w : World) :
    Calls Tryz.prog 146 #[.int .i64 n] w fun e w' => e = .returned (.string (hexA n)) ∧ w = w' := by
  by_cases hn : 0 ≤ n ∧ n ≤ 4503599627370496
  · obtain ⟨m, rfl⟩ := Int.eq_ofNat_of_zero_le hn.1
    exact specHex_in m (by omega) w
  · have HA : Hid ((⟨#[]⟩ : ByteArray) = hexA n) := hexA_no hn
    have hin : inR n 0 4503599627370496 = false := decide_eq_false hn
    clear hn
    go_enter Tryz.func146, Tryz.ntmps146
    go_wp2_with (go_at_call 78; refine (inRange _ _ _ _).mono ?_; rintro e w' ⟨rfl, rfl⟩)
    go_ret
    exact ⟨ret_hex HA.out, rfl⟩
end Go.Proofs.YtmgmphkncgochaaGreatDoor
namespace Go.Proofs.YtmgmphkncgochaaGreatDoor
open Go.RowKit

def leftP (c : Ck) : Prop := 0 ≤ c.lf ∧ c.lf ≤ 4000 ∧ (c.bd.size : Int) + c.lf ≤ 4000 ∧ (c.st = 3 → 0 < c.lf) ∧ (c.st ≠ 2 → c.st ≠ 3 → c.lf = 0)
def digP (c : Ck) : Prop := c.dg.size = 0 ∨ (numOk 16 13 c.dg = true ∧ c.st = 1)
theorem okP_iff (c : Ck) : okP c ↔ (1 ≤ c.st ∧ c.st ≤ 9) ∧ leftP c ∧ digP c := by
  constructor
  · rintro ⟨h0, ⟨h1, h2⟩, h3, h4, h5, h6, h7, h8, h9⟩
    refine ⟨h0, ⟨h1, h2, h4, h8, fun x y => h9 x y⟩, ?_⟩
    by_cases hz : c.dg.size = 0
    · exact .inl hz
    · by_cases hs : c.st = 1
      · exact .inr ⟨numOk_in (by omega) h3 h5.symm, hs⟩
      · exact absurd (h7 hs) hz
  · rintro ⟨h0, ⟨h1, h2, h3, h4, h5⟩, h6⟩
    have e : ∀ l : List UInt8, l.length = 0 → allB (digN 16) l = true := fun l hl => by rw [List.eq_nil_of_length_eq_zero hl]; rfl
    rcases h6 with h6 | ⟨h6, h7⟩
    · exact ⟨h0, ⟨h1, h2⟩, by omega, h3, e _ (by simpa using h6), fun x => h5 (by omega) (by omega), fun _ => h6, h4, h5⟩
    · unfold numOk at h6
      rw [Bool.and_eq_true] at h6
      have h8 := of_decide_eq_true h6.1
      exact ⟨h0, ⟨h1, h2⟩, h8.2, h3, h6.2, fun x => h5 (by omega) (by omega), fun x => absurd h7 x, h4, h5⟩
theorem size_zero {s : ByteArray} (h : s.size = 0) : s = ⟨#[]⟩ := ba_ext (by
  have : s.data.toList.length = s.size := by simp
  rw [List.eq_nil_of_length_eq_zero (this.trans h)])

set_option maxHeartbeats 1000000 in
theorem implLeft_yes (c : Ck) (w : World) (h : leftP c) (hb : c.bd.size ≤ 100000000) :
    Calls Tryz.prog 181 #[ckV c] w fun e w' => e = .returned (.bool true) ∧ Below w.heap.size w w' := by
  unfold ckV
  obtain ⟨h1, h2, h3, h4, h5⟩ := h
  have n1 : ¬ c.lf < 0 := by omega
  have n2 : ¬ 4000 < c.lf := by omega
  have n3 : ¬ 4000 < (c.bd.size : Int) + c.lf := by omega
  by_cases s3 : c.st = 3
  · have h4' := h4 s3
    clear h4 h5
    go_enter Tryz.func181, Tryz.ntmps181
    go_wp2
    go_ret
    exact ⟨rfl, (Below.refl _ w).alloc (Nat.le_refl _) _⟩
  · by_cases s2 : c.st = 2
    · clear h4 h5
      go_enter Tryz.func181, Tryz.ntmps181
      go_wp2
      go_ret
      exact ⟨rfl, (Below.refl _ w).alloc (Nat.le_refl _) _⟩
    · have h5' := h5 s2 s3
      clear h4 h5
      go_enter Tryz.func181, Tryz.ntmps181
      go_wp2
      go_ret
      exact ⟨rfl, (Below.refl _ w).alloc (Nat.le_refl _) _⟩
set_option maxHeartbeats 1000000 in
theorem implLeft_no (c : Ck) (w : World) (h : ¬ leftP c) (hb : c.bd.size ≤ 100000000) :
    Calls Tryz.prog 181 #[ckV c] w fun e w' => e = .returned (.bool false) ∧ Below w.heap.size w w' := by
  unfold ckV
  by_cases n1 : c.lf < 0
  · clear h
    go_enter Tryz.func181, Tryz.ntmps181
    go_wp2
    go_ret
    exact ⟨rfl, (Below.refl _ w).alloc (Nat.le_refl _) _⟩
  by_cases n2 : 4000 < c.lf
  · clear h
    go_enter Tryz.func181, Tryz.ntmps181
    go_wp2
    go_ret
    exact ⟨rfl, (Below.refl _ w).alloc (Nat.le_refl _) _⟩
  by_cases n3 : 4000 < (c.bd.size : Int) + c.lf
  · clear h
    go_enter Tryz.func181, Tryz.ntmps181
    go_wp2
    go_ret
    exact ⟨rfl, (Below.refl _ w).alloc (Nat.le_refl _) _⟩
  by_cases s3 : c.st = 3
  · have hl : ¬ 0 < c.lf := fun x => h ⟨by omega, by omega, by omega, fun _ => x, fun _ y => absurd s3 y⟩
    clear h
    go_enter Tryz.func181, Tryz.ntmps181
    go_wp2
    go_ret
    exact ⟨by simp; try omega, (Below.refl _ w).alloc (Nat.le_refl _) _⟩
  · by_cases s2 : c.st = 2
    · exact absurd ⟨by omega, by omega, by omega, fun x => absurd x s3, fun x => absurd s2 x⟩ h
    · have hl : ¬ c.lf = 0 := fun x => h ⟨by omega, by omega, by omega, fun y => absurd y s3, fun _ _ => x⟩
      have hbe : (c.lf == 0) = false := by simpa using hl
      clear h
      go_enter Tryz.func181, Tryz.ntmps181
      go_wp2
      go_ret
      exact ⟨rfl, (Below.refl _ w).alloc (Nat.le_refl _) _⟩

set_option maxHeartbeats 1000000 in
theorem implDg (c : Ck) (w : World) (hz : c.dg.size ≤ 100000000) (r : Bool) (hr : r = true ↔ digP c) :
    Calls Tryz.prog 182 #[ckV c] w fun e w' => e = .returned (.bool r) ∧ Below w.heap.size w w' := by
  unfold ckV
  by_cases h0 : c.dg.size = 0
  · obtain rfl : r = true := hr.2 (.inl h0)
    rw [size_zero h0]
    clear hr
    go_enter Tryz.func182, Tryz.ntmps182
    go_wp2
    go_ret
    exact ⟨rfl, (Below.refl _ w).alloc (Nat.le_refl _) _⟩
  · have hne := full' (x := c.dg) (by omega)
    have hfe : c.dg.toList.isEmpty = false := by simpa using hne
    have hx := implHexD c.dg (w.alloc (.cells #[.int .i64 c.st, .int .i64 c.lf, .string c.dg, .string c.bd] 137)) (by unfold maxLen; omega)
    have hb0 : Hid (Below w.heap.size w (w.alloc (.cells #[.int .i64 c.st, .int .i64 c.lf, .string c.dg, .string c.bd] 137))) := (Below.refl _ w).alloc (Nat.le_refl _) _
    have hc0 : (w.alloc (.cells #[.int .i64 c.st, .int .i64 c.lf, .string c.dg, .string c.bd] 137)).cell? ⟨w.heap.size, 0, none⟩ = some (.int .i64 c.st) := by rw [World.cell?_alloc_mark]; rfl
    have hlt : w.heap.size < (w.alloc (.cells #[.int .i64 c.st, .int .i64 c.lf, .string c.dg, .string c.bd] 137)).heap.size := by simp
    by_cases hn : numOk 16 13 c.dg = true
    · by_cases h1 : c.st = 1
      · obtain rfl : r = true := hr.2 (.inr ⟨hn, h1⟩)
        have hbe : (c.st == 1) = true := by simp [h1]
        clear hr h1
        go_enter Tryz.func182, Tryz.ntmps182
        go_wp2_with (go_at_call 195; refine hx.mono ?_; unfold numE; rw [hn]; rintro e w1 ⟨rfl, hb1⟩; have hc1 := (hb1.cell (p := ⟨w.heap.size, 0, none⟩) hlt).trans hc0)
        go_ret
        exact ⟨rfl, hb0.out.trans (hb1.mono hb0.out.size)⟩
      · obtain rfl : r = false := by cases r; rfl; rcases hr.1 rfl with x | x; exact absurd x h0; exact absurd x.2 h1
        have hbe : (c.st == 1) = false := by simpa using h1
        clear hr h1
        go_enter Tryz.func182, Tryz.ntmps182
        go_wp2_with (go_at_call 195; refine hx.mono ?_; unfold numE; rw [hn]; rintro e w1 ⟨rfl, hb1⟩; have hc1 := (hb1.cell (p := ⟨w.heap.size, 0, none⟩) hlt).trans hc0)
        go_ret
        exact ⟨rfl, hb0.out.trans (hb1.mono hb0.out.size)⟩
    · have hn' : numOk 16 13 c.dg = false := by simpa using hn
      obtain rfl : r = false := by cases r; rfl; rcases hr.1 rfl with x | x; exact absurd x h0; exact absurd x.1 hn
      clear hr
      go_enter Tryz.func182, Tryz.ntmps182
      go_wp2_with (go_at_call 195; refine hx.mono ?_; unfold numE; rw [hn']; rintro e w1 ⟨rfl, hb1⟩; have hc1 := (hb1.cell (p := ⟨w.heap.size, 0, none⟩) hlt).trans hc0)
      go_ret
      exact ⟨rfl, hb0.out.trans (hb1.mono hb0.out.size)⟩

set_option maxHeartbeats 1000000 in
theorem implOkC (c : Ck) (w : World) (hz : c.dg.size ≤ 100000000) (hb : c.bd.size ≤ 100000000) :
    Calls Tryz.prog 164 #[ckV c] w fun e w' => e = .returned (.bool (okC c)) ∧ Below w.heap.size w w' := by
  have hb0 : Hid (Below w.heap.size w (w.alloc (.cells #[.int .i64 c.st, .int .i64 c.lf, .string c.dg, .string c.bd] 137))) := (Below.refl _ w).alloc (Nat.le_refl _) _
  have hcc : ∀ k, (w.alloc (.cells #[.int .i64 c.st, .int .i64 c.lf, .string c.dg, .string c.bd] 137)).cell? ⟨w.heap.size, k, none⟩ = (#[.int .i64 c.st, .int .i64 c.lf, .string c.dg, .string c.bd] : Array Value)[k]? := fun k => World.cell?_alloc_mark _ _ _ _ _
  have hlt : w.heap.size < (w.alloc (.cells #[.int .i64 c.st, .int .i64 c.lf, .string c.dg, .string c.bd] 137)).heap.size := by simp
  by_cases s1 : c.st < 1
  · rw [okC_no (fun x => by have := x.1.1; omega)]
    unfold ckV
    go_enter Tryz.func164, Tryz.ntmps164
    go_wp2
    go_ret
    exact ⟨rfl, hb0.out⟩
  by_cases s2 : 9 < c.st
  · rw [okC_no (fun x => by have := x.1.2; omega)]
    unfold ckV
    go_enter Tryz.func164, Tryz.ntmps164
    go_wp2
    go_ret
    exact ⟨rfl, hb0.out⟩
  by_cases hl : leftP c
  · have h1 := implLeft_yes c (w.alloc (.cells #[.int .i64 c.st, .int .i64 c.lf, .string c.dg, .string c.bd] 137)) hl hb
    have hr : okC c = true ↔ digP c := by
      constructor
      · intro x; exact ((okP_iff c).1 (okC_is x)).2.2
      · intro x; exact okC_yes ((okP_iff c).2 ⟨by omega, hl, x⟩)
    have h2 : Hid (∀ x, Calls Tryz.prog 182 #[ckV c] x fun e w' => e = .returned (.bool (okC c)) ∧ Below x.heap.size x w') := fun x => implDg c x hz _ hr
    unfold ckV at h1 h2 ⊢
    generalize okC c = r at h2 ⊢
    clear hr hl
    go_enter Tryz.func164, Tryz.ntmps164
    go_wp2_with (first
      | (go_at_call 181; refine h1.mono ?_; rintro e w1 ⟨rfl, hb1⟩; have q0 := (hb1.cell (p := ⟨w.heap.size, 0, none⟩) hlt).trans (hcc 0); have q1 := (hb1.cell (p := ⟨w.heap.size, 1, none⟩) hlt).trans (hcc 1); have q2 := (hb1.cell (p := ⟨w.heap.size, 2, none⟩) hlt).trans (hcc 2); have q3 := (hb1.cell (p := ⟨w.heap.size, 3, none⟩) hlt).trans (hcc 3))
      | (go_at_call 182; refine (h2.out _).mono ?_; rintro e w2 ⟨rfl, hb2⟩))
    go_ret
    exact ⟨rfl, (hb0.out.trans (hb1.mono hb0.out.size)).trans (hb2.mono (hb0.out.trans (hb1.mono hb0.out.size)).size)⟩
  · have h1 := implLeft_no c (w.alloc (.cells #[.int .i64 c.st, .int .i64 c.lf, .string c.dg, .string c.bd] 137)) hl hb
    rw [okC_no (fun x => hl ((okP_iff c).1 x).2.1)]
    unfold ckV at h1 ⊢
    clear hl
    go_enter Tryz.func164, Tryz.ntmps164
    go_wp2_with (go_at_call 181; refine h1.mono ?_; rintro e w1 ⟨rfl, hb1⟩)
    go_ret
    exact ⟨rfl, hb0.out.trans (hb1.mono hb0.out.size)⟩
end Go.Proofs.YtmgmphkncgochaaGreatDoor
namespace Go.Proofs.YtmgmphkncgochaaGreatDoor
open Go.RowKit

/-- What EatAll answers. -/
def zeroC : Ck := ⟨0, 0, ⟨#[]⟩, ⟨#[]⟩⟩
def allC (c : Ck) (l : List UInt8) : Ck := if okC c = true then fin c l else zeroC
def allN (c : Ck) (l : List UInt8) : Nat := if okC c = true then cnt c l else 0
theorem allC_yes {c : Ck} (h : okC c = true) (l : List UInt8) : allC c l = fin c l := by unfold allC; rw [if_pos h]
theorem allN_yes {c : Ck} (h : okC c = true) (l : List UInt8) : allN c l = cnt c l := by unfold allN; rw [if_pos h]
theorem allC_no {c : Ck} (h : okC c = false) (l : List UInt8) : allC c l = zeroC := by unfold allC; rw [h]; rfl
theorem allN_no {c : Ck} (h : okC c = false) (l : List UInt8) : allN c l = 0 := by unfold allN; rw [h]; rfl
/-- The four cells of a state by value in block b. -/
structure Four (w : World) (b : Nat) (c : Ck) : Prop where
  c0 : w.cell? ⟨b, 0, none⟩ = some (.int .i64 c.st)
  c1 : w.cell? ⟨b, 1, none⟩ = some (.int .i64 c.lf)
  c2 : w.cell? ⟨b, 2, none⟩ = some (.string c.dg)
  c3 : w.cell? ⟨b, 3, none⟩ = some (.string c.bd)
  fz : ∀ k, w.frozen? ⟨b, k, none⟩ = false
  hi : b < w.heap.size
theorem Four.new (w : World) (c : Ck) : Four (w.alloc (.cells #[.int .i64 c.st, .int .i64 c.lf, .string c.dg, .string c.bd] 137)) w.heap.size c where
  c0 := World.cell?_alloc_mark _ _ _ _ _
  c1 := World.cell?_alloc_mark _ _ _ _ _
  c2 := World.cell?_alloc_mark _ _ _ _ _
  c3 := World.cell?_alloc_mark _ _ _ _ _
  fz := fun k => by rw [World.frozen?_alloc_mark]; simp
  hi := by simp
theorem Four.kept {w w' : World} {n b : Nat} {c : Ck} (h : Four w b c) (hb : Below n w w') (hn : b < n) : Four w' b c := by
  have e : w'.heap[b]? = w.heap[b]? := hb.block b hn
  have k : ∀ k, w'.cell? ⟨b, k, none⟩ = w.cell? ⟨b, k, none⟩ := fun k => World.cell?_of_block (a := ⟨b, k, none⟩) e
  exact ⟨(k 0).trans h.c0, (k 1).trans h.c1, (k 2).trans h.c2, (k 3).trans h.c3, fun j => (World.frozen?_of_block (a := ⟨b, j, none⟩) e).trans (h.fz j), Nat.lt_of_lt_of_le h.hi hb.size⟩
theorem Four.alloc {w : World} {b : Nat} {c : Ck} (h : Four w b c) (o : Obj) : Four (w.alloc o) b c := h.kept (n := w.heap.size) ((Below.refl _ w).alloc (Nat.le_refl _) _) h.hi

theorem Four.put {w : World} {b : Nat} {c : Ck} (h : Four w b c) (d : Ck) : Four ((((w.setCell ⟨b, 0, none⟩ (.int .i64 d.st)).setCell ⟨b, 1, none⟩ (.int .i64 d.lf)).setCell ⟨b, 2, none⟩ (.string d.dg)).setCell ⟨b, 3, none⟩ (.string d.bd)) b d where
  c0 := by rw [World.cell?_setCell_other _ _ _ _ (by simp), World.cell?_setCell_other _ _ _ _ (by simp), World.cell?_setCell_other _ _ _ _ (by simp)]; exact World.cell?_setCell_same _ _ _ h.c0
  c1 := by rw [World.cell?_setCell_other _ _ _ _ (by simp), World.cell?_setCell_other _ _ _ _ (by simp)]; exact World.cell?_setCell_same _ _ _ (by rw [World.cell?_setCell_other _ _ _ _ (by simp)]; exact h.c1)
  c2 := by rw [World.cell?_setCell_other _ _ _ _ (by simp)]; exact World.cell?_setCell_same _ _ _ (by rw [World.cell?_setCell_other _ _ _ _ (by simp), World.cell?_setCell_other _ _ _ _ (by simp)]; exact h.c2)
  c3 := World.cell?_setCell_same _ _ _ (by rw [World.cell?_setCell_other _ _ _ _ (by simp), World.cell?_setCell_other _ _ _ _ (by simp), World.cell?_setCell_other _ _ _ _ (by simp)]; exact h.c3)
  fz := fun k => by rw [World.frozen?_setCell, World.frozen?_setCell, World.frozen?_setCell, World.frozen?_setCell]; exact h.fz k
  hi := by rw [World.size_setCell, World.size_setCell, World.size_setCell, World.size_setCell]; exact h.hi

/-- One byte as a text. -/
theorem byte_text5 (w : World) (n : Int) (c : UInt8) (h : n = (c.toNat : Int)) : (convert 22 9 (.slice (some ⟨w.heap.size, 0, none⟩) 1 1)).run Tryz.prog (w.alloc (.cells #[.int .u8 n] 5)) = .ok (.string ⟨#[c]⟩) (w.alloc (.cells #[.int .u8 n] 5)) := by
  subst h
  exact OwnsB.text (OwnsB.one w c)
end Go.Proofs.YtmgmphkncgochaaGreatDoor
