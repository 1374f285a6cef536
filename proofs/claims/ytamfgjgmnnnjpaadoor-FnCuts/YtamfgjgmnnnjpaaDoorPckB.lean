/-
  The law's own digits and pick.
-/
import Derived.Test.YtamfgjgmnnnjpaaDoorIntZ
import Derived.Test.YtamfgjgmnnnjpaaDoorDraw
namespace Go.Proofs.YtamfgjgmnnnjpaaDoor
open Go.RowKit
set_option linter.unusedVariables false

theorem ret_of8 {a b : Int} (h : a = b) : Ending.returned (.int .i64 a) = Ending.returned (.int .i64 b) := by rw [h]
set_option maxHeartbeats 400000 in
theorem pick8 (sa : Option Addr) (sl sc : Nat) (n : Nat) (hn1 : 1 ≤ n) (hn2 : n ≤ 10000) (w : World) (hc : Code8 w w.heap.size sa sl) (hl : sl ≤ 4096) :
    Calls Tryd.prog 17 #[.slice sa sl sc, .int .i64 1, .int .i64 (n : Int)] w fun e w' => (∃ r : Nat, e = .returned (.int .i64 r) ∧ r < n) ∧ w = w' := by
  have hnz : ((n : Int) == 0) = false := by simp; omega
  go_enter Tryd.func17, Tryd.ntmps17
  go_wp2
  go_loop [7, 8] (fun x i => ∃ (k : Nat) (p : Int), k ≤ sl ∧ i = .int .i64 k ∧ x = .int .i64 p ∧ 0 ≤ p ∧ p ≤ 1000002) (fun _ i => sl - (intOf i).toNat)
  case atStart => exact ⟨0, _, Nat.zero_le _, rfl, rfl, by omega, by omega⟩
  case round =>
    obtain ⟨k, p, hk, rfl, rfl, b0, b1⟩ := hrel
    by_cases hlt : k < sl
    · obtain ⟨g, o, z, rfl, hg, hcell, hz0, hz1⟩ := hc k hlt
      clear hc
      go_wp2
      go_round
      case rel => exact ⟨k + 1, _, by omega, by go_num, rfl, by omega, by omega⟩
      case measure => simp [intOf]; omega
    · obtain rfl : k = sl := by omega
      have e0 : p.tmod (n : Int) = p % (n : Int) := Int.tmod_eq_emod_of_nonneg b0
      have e1 : 0 ≤ p % (n : Int) := Int.emod_nonneg p (by omega)
      have e2 : p % (n : Int) < (n : Int) := Int.emod_lt_of_pos p (by omega)
      obtain ⟨r, hr⟩ := Int.eq_ofNat_of_zero_le e1
      have hrn : r < n := by omega
      have hr2 : p.tmod (n : Int) = (r : Int) := e0.trans hr
      have hw : IntKind.i64.wrap (r : Int) = (r : Int) := by rw [IntKind.wrap_i64]; omega
      go_wp2
      go_ret
      exact ⟨⟨r, by first | rfl | exact ret_of8 hr | exact ret_of8 hr2 | (simp [hr2, hw, hr]), hrn⟩, rfl⟩
set_option maxHeartbeats 1000000 in
theorem lawDig (n : Nat) (w : World) (hn : n ≤ 9223372036854775807) :
    Calls Tryd.prog 18 #[.int .i64 (n : Int)] w fun e w' => e = .returned (.string (itoS n)) ∧ Below w.heap.size w w' := by
  have H0 : Hid (DecZ n n ⟨#[]⟩) := .inl ⟨rfl, rfl⟩
  go_enter Tryd.func18, Tryd.ntmps18
  go_wp2
  go_loopw [0, 3] (fun a b wr => ∃ (m : Nat) (x : ByteArray), a = .int .i64 m ∧ b = .string x ∧ m ≤ 9223372036854775807 ∧ Hid (DecZ n m x) ∧ Hid (Below w.heap.size w wr)) (fun a b _ => decMu8 a b)
  case atStart => exact ⟨n, ⟨#[]⟩, rfl, rfl, hn, H0, Below.refl _ _⟩
  case round =>
    obtain ⟨m, x, rfl, rfl, hm, hx, hb⟩ := hrel
    have hxs := hx.out.size (by omega)
    have hmod : m % 10 < 10 := Nat.mod_lt _ (by decide)
    by_cases hend : 0 < x.size ∧ m = 0
    · obtain ⟨h1, rfl⟩ := hend
      have hfe : x.toList.isEmpty = false := by rw [void8]; exact decide_eq_false (by omega)
      have HX : Hid (x = itoS n) := by
        rcases hx.out with ⟨h, _⟩ | ⟨_, h⟩
        · omega
        · exact itoS_is (by simpa using h)
      clear hx
      go_wp2
      go_ret
      exact ⟨ret_str8 HX.out, hb.out⟩
    · have hc : x.size = 0 ∨ 0 < m := by omega
      have HN : Hid (DecZ n (m / 10) ((⟨#[UInt8.ofNat (48 + m % 10)]⟩ : ByteArray) ++ x)) := hx.out.next hc
      have hby := dig8 hmod
      obtain ⟨q, hq⟩ : ∃ q, m % 10 = q := ⟨_, rfl⟩
      obtain ⟨p, hp⟩ : ∃ p, m / 10 = p := ⟨_, rfl⟩
      rw [hq] at HN hby hmod
      rw [hp] at HN
      have hpq : m = 10 * p + q := by omega
      have e3 : (m : Int) % 10 = (q : Int) := by omega
      have e4 : (m : Int) / 10 = (p : Int) := by omega
      have e1 : (m : Int).tmod 10 = (q : Int) := by rw [Int.tmod_eq_emod_of_nonneg (by omega)]; exact e3
      have e2 : (m : Int).tdiv 10 = (p : Int) := by rw [Int.tdiv_eq_ediv_of_nonneg (by omega)]; exact e4
      have d1 : ¬ (q : Int) < 0 := by omega
      have hwr : IntKind.u8.wrap (48 + (q : Int)) = 48 + (q : Int) := by rw [show IntKind.u8.wrap (48 + (q : Int)) = (48 + (q : Int)) % 256 from rfl]; omega
      have htx := fun W => byte8 W (48 + (q : Int)) (UInt8.ofNat (48 + q)) hby.symm
      have hsz : ((⟨#[UInt8.ofNat (48 + q)]⟩ : ByteArray) ++ x).size = 1 + x.size := by rw [ByteArray.size_append]; rfl
      have hsz1 : (⟨#[UInt8.ofNat (48 + q)]⟩ : ByteArray).size = 1 := rfl
      have HM : Hid (decMu8 (.int .i64 (p : Int)) (.string ((⟨#[UInt8.ofNat (48 + q)]⟩ : ByteArray) ++ x)) < decMu8 (.int .i64 (m : Int)) (.string x)) := by
        show 2 * (p : Int).toNat + (if ((⟨#[UInt8.ofNat (48 + q)]⟩ : ByteArray) ++ x).size = 0 then 1 else 0) < 2 * (m : Int).toNat + (if x.size = 0 then 1 else 0)
        rw [hsz, if_neg (by omega), Int.toNat_natCast, Int.toNat_natCast]
        rcases hc with hc | hc
        · rw [if_pos hc]; omega
        · omega
      have HP : Hid (p ≤ 9223372036854775807) := by show p ≤ _; omega
      clear hby hx hend hq hp hpq
      generalize UInt8.ofNat (48 + q) = c at HN htx hsz HM hsz1
      by_cases hv : x.size = 0
      · have hfe : x.toList.isEmpty = true := by rw [void8]; exact decide_eq_true hv
        go_wp2
        go_roundw
        case rel => exact ⟨p, _, rfl, rfl, HP.out, HN, hb.out.alloc hb.out.size _⟩
        case measure => exact HM.out
      · have hfe : x.toList.isEmpty = false := by rw [void8]; exact decide_eq_false hv
        have hne : decide ((0 : Int) < (m : Int)) = true := by simp; omega
        go_wp2
        go_roundw
        case rel => exact ⟨p, _, rfl, rfl, HP.out, HN, hb.out.alloc hb.out.size _⟩
        case measure => exact HM.out
end Go.Proofs.YtamfgjgmnnnjpaaDoor
