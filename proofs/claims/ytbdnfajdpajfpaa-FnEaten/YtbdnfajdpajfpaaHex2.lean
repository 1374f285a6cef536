/-
  The contract of the specification's Hex.
-/
import Derived.Test.YtbdnfajdpajfpaaHexP
import Derived.Test.YtbdnfajdpajfpaaRows
import Derived.WalkKit
import Derived.WalkSpells
import Derived.Laws.Bits64b
import Derived.Laws.IdiomStrings
import Derived.Laws.Strings
namespace Go.Proofs.Ytbdnfajdpajfpaa
open Go.RowKit

def lenS : Value → Nat | .string s => s.size | _ => 0
def hexMu (a b : Value) : Nat := 2 * (intOf a).toNat + (if lenS b = 0 then 1 else 0)

theorem full' {x : ByteArray} (h : 0 < x.size) : ¬ x.toList = [] := by
  rw [ByteArray.toList_eq]
  intro e
  have h3 : x.data.toList.length = x.size := by simp
  rw [e] at h3
  simp at h3
  omega
theorem void' {x : ByteArray} (h : ¬ 0 < x.size) : x.toList = [] := by
  rw [ByteArray.toList_eq]
  have h3 : x.data.toList.length = x.size := by simp
  exact List.eq_nil_of_length_eq_zero (by omega)

/-- n lies between lo and hi. -/
def inR (n lo hi : Int) : Bool := decide (lo ≤ n ∧ n ≤ hi)
theorem inRange (n lo hi : Int) (w : World) : Calls Try.prog 29 #[.int .i64 n, .int .i64 lo, .int .i64 hi] w fun e w' => e = .returned (.bool (inR n lo hi)) ∧ w = w' := by
  unfold inR
  by_cases h1 : lo ≤ n
  · by_cases h2 : n ≤ hi
    · have e : decide (lo ≤ n ∧ n ≤ hi) = true := decide_eq_true ⟨h1, h2⟩
      rw [e]
      clear e
      go_enter Try.func29, Try.ntmps29
      go_wp2
      go_ret
      exact ⟨by simp, rfl⟩
    · have e : decide (lo ≤ n ∧ n ≤ hi) = false := decide_eq_false (fun x => h2 x.2)
      rw [e]
      clear e
      go_enter Try.func29, Try.ntmps29
      go_wp2
      go_ret
      exact ⟨by simp, rfl⟩
  · have e : decide (lo ≤ n ∧ n ≤ hi) = false := decide_eq_false (fun x => h1 x.1)
    rw [e]
    clear e
    go_enter Try.func29, Try.ntmps29
    go_wp2
    go_ret
    exact ⟨rfl, rfl⟩

theorem cat16 (d : Nat) (x : ByteArray) (h : d < 16) : ((⟨#[48, 49, 50, 51, 52, 53, 54, 55, 56, 57, 97, 98, 99, 100, 101, 102]⟩ : ByteArray).extract d (d + 1) ++ x).data.toList = hexB d :: x.data.toList := by
  have e : ((⟨#[48, 49, 50, 51, 52, 53, 54, 55, 56, 57, 97, 98, 99, 100, 101, 102]⟩ : ByteArray).extract d (d + 1)).data.toList = [hexB d] := by
    rcases (show d = 0 ∨ d = 1 ∨ d = 2 ∨ d = 3 ∨ d = 4 ∨ d = 5 ∨ d = 6 ∨ d = 7 ∨ d = 8 ∨ d = 9 ∨ d = 10 ∨ d = 11 ∨ d = 12 ∨ d = 13 ∨ d = 14 ∨ d = 15 from by omega) with rfl | rfl | rfl | rfl | rfl | rfl | rfl | rfl | rfl | rfl | rfl | rfl | rfl | rfl | rfl | rfl <;> decide
  rw [ByteArray.data_append, Array.toList_append, e]
  rfl
theorem size_cons {x : ByteArray} {c : UInt8} {l : List UInt8} (h : x.data.toList = c :: l) : 0 < x.size := by
  have h3 : x.data.toList.length = x.size := by simp
  rw [h, List.length_cons] at h3
  omega
theorem hexMu_lt {a b : Nat} {x y : ByteArray} (hy : 0 < y.size) (h : a < b ∨ (a ≤ b ∧ x.size = 0)) : hexMu (.int .i64 (a : Int)) (.string y) < hexMu (.int .i64 (b : Int)) (.string x) := by
  have e1 : hexMu (.int .i64 (a : Int)) (.string y) = 2 * a := by
    show 2 * ((a : Int)).toNat + (if y.size = 0 then 1 else 0) = 2 * a
    rw [if_neg (by omega)]; simp
  have e2 : hexMu (.int .i64 (b : Int)) (.string x) = 2 * b + (if x.size = 0 then 1 else 0) := by
    show 2 * ((b : Int)).toNat + (if x.size = 0 then 1 else 0) = _
    simp
  rw [e1, e2]
  rcases h with h | ⟨h, h'⟩
  · split <;> omega
  · rw [if_pos h']; omega
theorem hexS_is {n : Nat} {x : ByteArray} (h : hexF 13 n = x.data.toList) : x = hexS n := by
  unfold hexS
  have : x.data = (hexF 13 n).toArray := Array.ext' (by rw [h])
  cases x
  exact congrArg _ this

set_option maxHeartbeats 400000 in
theorem specHex_in (n : Nat) (hn : n ≤ 4503599627370496) (w : World) :
    Calls Try.prog 48 #[.int .i64 n] w fun e w' => e = .returned (.string (hexA n)) ∧ w = w' := by
  have HA : Hid (hexS n = hexA (n : Int)) := hexA_yes hn
  have hin : inR (n : Int) 0 4503599627370496 = true := decide_eq_true (by omega)
  have hbound : n < 16 ^ (13 + 1) := by omega
  have HB : Hid (n < 16 ^ (13 + 1)) := hbound
  clear hbound
  go_enter Try.func48, Try.ntmps48
  go_wp2_with (go_at_call 29; refine (inRange _ _ _ _).mono ?_; rintro e w' ⟨rfl, rfl⟩)
  clear hin
  go_loop [0, 3] (fun a b => ∃ (m f : Nat) (x : ByteArray), a = .int .i64 m ∧ b = .string x ∧ m ≤ 4503599627370496 ∧ Hid ((0 < x.size ∧ m = 0 ∧ hexF 13 n = x.data.toList) ∨ ((x.size = 0 ∨ 0 < m) ∧ f + x.data.toList.length = 13 ∧ m < 16 ^ (f + 1) ∧ hexF 13 n = hexF f m ++ x.data.toList))) (fun a b => hexMu a b)
  case atStart => exact ⟨n, 13, ⟨#[]⟩, rfl, rfl, hn, Or.inr ⟨Or.inl rfl, rfl, HB, by show hexF 13 n = hexF 13 n ++ []; rw [List.append_nil]⟩⟩
  case round =>
    obtain ⟨m, f, x, rfl, rfl, hm, hx⟩ := hrel
    rcases hx.out with ⟨x1, x2, x3⟩ | ⟨x1, x2, x3, x4⟩
    · have hne := full' x1
      have hfe : x.toList.isEmpty = false := by simpa using hne
      subst x2
      have HX : Hid (hexF 13 n = x.data.toList) := x3
      clear x3 hx
      go_wp2
      go_ret
      exact ⟨ret_hex ((hexS_is HX.out).trans HA.out), rfl⟩
    · have hcond : x.toList = [] ∨ 0 < m := by
        rcases x1 with h | h
        · exact Or.inl (void' (by omega))
        · exact Or.inr h
      have hmod : m % 16 < 16 := Nat.mod_lt _ (by decide)
      have hxs : x.size ≤ 13 := by
        have h3 : x.data.toList.length = x.size := by simp
        omega
      have hcat := cat16 (m % 16) x hmod
      have HC : Hid _ := hcat
      have HZ : Hid (0 < ((⟨#[48, 49, 50, 51, 52, 53, 54, 55, 56, 57, 97, 98, 99, 100, 101, 102]⟩ : ByteArray).extract (m % 16) (m % 16 + 1) ++ x).size) := size_cons hcat
      clear hcat
      have HW : Hid (0 < m ∨ x.size = 0) := by
        rcases x1 with h | h
        · exact Or.inr h
        · exact Or.inl h
      by_cases h16 : 16 ≤ m
      · obtain ⟨f', hf', hm', hx'⟩ := hex_more x2 x3 h16 x4
        have HN : Hid (f' + (hexB (m % 16) :: x.data.toList).length = 13 ∧ m / 16 < 16 ^ (f' + 1) ∧ hexF 13 n = hexF f' (m / 16) ++ (hexB (m % 16) :: x.data.toList)) := ⟨hf', hm', hx'⟩
        clear hf' hm' hx' hx x4 x3 x2 x1 hcond
        have hpos : 0 < m := by omega
        go_wp2
        all_goals
          go_round
          case rel => exact ⟨m / 16, f', _, by go_num, rfl, by omega, Or.inr ⟨Or.inr (by omega), by rw [HC.out]; exact HN.out.1, HN.out.2.1, by rw [HC.out]; exact HN.out.2.2⟩⟩
          case measure =>
            rw [show ((m : Int) / 16) = ((m / 16 : Nat) : Int) from by omega]
            exact hexMu_lt HZ.out (Or.inl (by omega))
      · have HN : Hid (hexF 13 n = hexB (m % 16) :: x.data.toList) := by
          show hexF 13 n = hexB (m % 16) :: x.data.toList
          rw [x4, hexF_small f m (by omega), Nat.mod_eq_of_lt (by omega)]
          rfl
        have hdiv : (m : Int) / 16 = 0 := by omega
        clear hx x4 x3 x2 x1
        rcases hcond with hc | hc
        all_goals
          go_wp2
          all_goals
            go_round
            case rel => exact ⟨0, f, _, rfl, rfl, by omega, Or.inl ⟨HZ.out, rfl, by rw [HC.out]; exact HN.out⟩⟩
            case measure => exact hexMu_lt (a := 0) HZ.out (by have := HW.out; omega)

theorem specHex (n : Int) (w : World) :
    Calls Try.prog 48 #[.int .i64 n] w fun e w' => e = .returned (.string (hexA n)) ∧ w = w' := by
  by_cases hn : 0 ≤ n ∧ n ≤ 4503599627370496
  · obtain ⟨m, rfl⟩ := Int.eq_ofNat_of_zero_le hn.1
    exact specHex_in m (by omega) w
  · have HA : Hid ((⟨#[]⟩ : ByteArray) = hexA n) := hexA_no hn
    have hin : inR n 0 4503599627370496 = false := decide_eq_false hn
    clear hn
    go_enter Try.func48, Try.ntmps48
    go_wp2_with (go_at_call 29; refine (inRange _ _ _ _).mono ?_; rintro e w' ⟨rfl, rfl⟩)
    go_ret
    exact ⟨ret_hex HA.out, rfl⟩
end Go.Proofs.Ytbdnfajdpajfpaa
