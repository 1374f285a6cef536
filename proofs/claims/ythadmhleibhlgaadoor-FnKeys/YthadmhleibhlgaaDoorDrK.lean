/-
  The drawing functions of queries and keys, and the law's own pick: whatever the code, they answer, and what they answer lies in its range.
-/
import Derived.Test.YthadmhleibhlgaaDoorDrC
namespace Go.Proofs.YthadmhleibhlgaaDoor
open Go.RowKit

theorem drawQuery (sa : Option Addr) (sl sc : Nat) (w : World) (hc : Code8 w w.heap.size sa sl) (hl : sl ≤ 4096) :
    Calls Tryd.prog 40 #[.slice sa sl sc] w fun e w' => ∃ t : ByteArray, e = .returned (.string t) ∧ t.size ≤ 12 ∧ Below w.heap.size w w' := by
  go_enter Tryd.func40, Tryd.ntmps40
  go_wp2_with fail
  refine (l1New sa sl sc _ hc hl).mono ?_
  rintro e w1 ⟨rfl, hc1, hb1⟩
  go_wp2_with fail
  refine (l1DrawText _ sa sl sc _ 12 (by decide) (by decide) (by decide) _ hc1).mono ?_
  rintro e w3 ⟨t, rfl, ht, hc3, hb3⟩
  go_wp2
  go_ret
  exact ⟨t, rfl, by omega, hb1.trans (hb3.low (Nat.le_refl _) hb1.size)⟩

theorem tab5 (w : World) (y : Nat) (h : y < 5) : ∃ t : ByteArray, t.size ≤ 4 ∧ (w.alloc (.cells #[.string ⟨#[104]⟩, .string ⟨#[72, 111, 115, 116]⟩, .string ⟨#[97, 46, 98]⟩, .string ⟨#[]⟩, .string ⟨#[97, 32, 98]⟩] 9)).cell? ⟨w.heap.size, y, none⟩ = some (.string t) := by
  rw [World.cell?_alloc_mark]
  rcases (show y = 0 ∨ y = 1 ∨ y = 2 ∨ y = 3 ∨ y = 4 from by omega) with rfl | rfl | rfl | rfl | rfl <;> exact ⟨_, by decide, rfl⟩

set_option maxRecDepth 100000 in
set_option maxHeartbeats 1000000 in
theorem drawKey (sa : Option Addr) (sl sc : Nat) (w : World) (hc : Code8 w w.heap.size sa sl) (hl : sl ≤ 4096) :
    Calls Tryd.prog 42 #[.slice sa sl sc] w fun e w' => ∃ h t : ByteArray, e = .returned (.tuple #[.string h, .string t]) ∧ h.size ≤ 1000 ∧ t.size ≤ 1000 ∧ Below w.heap.size w w' := by
  go_enter Tryd.func42, Tryd.ntmps42
  go_wp2_with fail
  refine (l1New sa sl sc _ hc hl).mono ?_
  rintro e w1 ⟨rfl, hc1, hb1⟩
  have hz1 : w.heap.size < w1.heap.size := hc1.2.2.1
  have hal : Below w1.heap.size w1 (w1.alloc (.cells #[.string ⟨#[104]⟩, .string ⟨#[72, 111, 115, 116]⟩, .string ⟨#[97, 46, 98]⟩, .string ⟨#[]⟩, .string ⟨#[97, 32, 98]⟩] 9)) := (Below.refl _ w1).alloc (Nat.le_refl _) _
  go_wp2_with fail
  refine (l1Below _ sa sl sc _ (by decide) (by decide) _ (hc1.kept hal hz1)).mono ?_
  rintro e w2 ⟨y, rfl, hy0, hy1, hc2, hb2⟩
  obtain ⟨y, rfl⟩ := Int.eq_ofNat_of_zero_le hy0
  obtain ⟨h, hhz, hr⟩ := tab5 w1 y (by omega)
  have hcell := besideCell hb2 (by omega) hr
  have B2 : Below w.heap.size w w2 := hb1.trans ((((Beside.refl _ w1).below hal).trans hb2).low (Nat.le_refl _) hb1.size)
  clear hr hb2 hal hb1 hc1
  go_wp2_with fail
  refine (l3Draw _ sa sl sc _ hc2).mono ?_
  rintro e w3 ⟨s, rfl, hsz, hc3, hb3⟩
  have B3 : Below w.heap.size w w3 := B2.trans (hb3.low (Nat.le_refl _) B2.size)
  clear hb3 hc2 B2 hcell
  go_wp2_with fail
  refine (l1Once _ sa sl sc _ (by decide) (by decide) _ hc3).mono ?_
  rintro e w4 ⟨t, rfl, hc4, hb4⟩
  have B4 : Below w.heap.size w w4 := B3.trans (hb4.low (Nat.le_refl _) B3.size)
  clear hb4 hc3 B3
  cases t with
  | false =>
    go_wp2
    go_ret2
    exact ⟨h, s, rfl, by omega, by omega, B4⟩
  | true =>
    have hs1 : (s ++ ⟨#[63]⟩ : ByteArray).size ≤ 17 := by rw [ByteArray.size_append]; show s.size + 1 ≤ 17; omega
    go_wp2_with fail
    refine (l1DrawText _ sa sl sc _ 7 (by decide) (by decide) (by decide) _ hc4).mono ?_
    rintro e w5 ⟨q, rfl, hq, hc5, hb5⟩
    have B5 : Below w.heap.size w w5 := B4.trans (hb5.low (Nat.le_refl _) B4.size)
    have hs2 : (s ++ ⟨#[63]⟩ ++ q : ByteArray).size ≤ 24 := by rw [ByteArray.size_append]; omega
    have HS : Hid ((s ++ ⟨#[63]⟩ ++ q : ByteArray).size ≤ 24) := hs2
    clear hb5 hc5 hc4 B4 hs2
    go_wp2
    go_ret2
    exact ⟨h, _, rfl, by omega, by have := HS.out; omega, B5⟩

set_option maxHeartbeats 400000 in
theorem pick4 (sa : Option Addr) (sl sc : Nat) (sd : Int) (h1 : 1 ≤ sd) (h2 : sd ≤ 4) (w : World) (hc : Code8 w w.heap.size sa sl) (hl : sl ≤ 4096) :
    Calls Tryd.prog 46 #[.slice sa sl sc, .int .i64 sd, .int .i64 4] w fun e w' => ∃ y : Int, e = .returned (.int .i64 y) ∧ 0 ≤ y ∧ y < 4 ∧ w = w' := by
  go_enter Tryd.func46, Tryd.ntmps46
  go_wp2
  go_loop [7, 8] (fun x i => ∃ (k : Nat) (p : Int), k ≤ sl ∧ i = .int .i64 k ∧ x = .int .i64 p ∧ 0 ≤ p ∧ p ≤ 1000002) (fun _ i => sl - (intOf i).toNat)
  case atStart => exact ⟨0, _, Nat.zero_le _, rfl, rfl, by omega, by omega⟩
  case round =>
    obtain ⟨k, p, hk, rfl, rfl, b0, b1⟩ := hrel
    by_cases hlt : k < sl
    · obtain ⟨g, o, z, rfl, hg, hcell, hz0, hz1⟩ := hc k hlt
      clear hc
      have m1 := Int.emod_nonneg (p * 113 + z + sd) (show (1000003 : Int) ≠ 0 by decide)
      have m2 := Int.emod_lt_of_pos (p * 113 + z + sd) (show (0 : Int) < 1000003 by decide)
      have HM : Hid (0 ≤ (p * 113 + z + sd) % 1000003 ∧ (p * 113 + z + sd) % 1000003 < 1000003) := ⟨m1, m2⟩
      clear m1 m2
      go_wp2
      go_round
      case rel => exact ⟨k + 1, _, by omega, by go_num, rfl, HM.out.1, by have := HM.out.2; omega⟩
      case measure => simp [intOf]; omega
    · have HM : Hid (0 ≤ p % 4 ∧ p % 4 < 4) := ⟨by omega, by omega⟩
      go_wp2
      go_ret
      exact ⟨_, rfl, HM.out.1, HM.out.2, rfl⟩

/-- The law's own four parts of a query. -/
def tab4 : List ByteArray := [⟨#[120, 61, 49]⟩, ⟨#[121]⟩, ⟨#[107, 61, 118]⟩, ⟨#[120, 61, 50]⟩]
theorem tab4At (w : World) (y : Nat) (h : y < 4) : (w.alloc (.cells #[.string ⟨#[120, 61, 49]⟩, .string ⟨#[121]⟩, .string ⟨#[107, 61, 118]⟩, .string ⟨#[120, 61, 50]⟩] 9)).cell? ⟨w.heap.size, y, none⟩ = some (.string (tab4.getD y ⟨#[]⟩)) := by
  rw [World.cell?_alloc_mark]
  rcases (show y = 0 ∨ y = 1 ∨ y = 2 ∨ y = 3 from by omega) with rfl | rfl | rfl | rfl <;> rfl
theorem tab4_size (y : Nat) (h : y < 4) : (tab4.getD y ⟨#[]⟩).size ≤ 3 := by
  rcases (show y = 0 ∨ y = 1 ∨ y = 2 ∨ y = 3 from by omega) with rfl | rfl | rfl | rfl <;> decide
end Go.Proofs.YthadmhleibhlgaaDoor
