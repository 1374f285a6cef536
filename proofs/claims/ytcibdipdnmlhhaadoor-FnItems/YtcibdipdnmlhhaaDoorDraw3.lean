/-
  The contracts of the draws of chapter 1: whatever the code, each answers a number or a text.
-/
import Derived.Test.YtcibdipdnmlhhaaDoorDraw2
import Derived.Laws.ShiftsVar
import Derived.Laws.ShiftsVarLaws
namespace Go.Proofs.YtcibdipdnmlhhaaDoor
open Go.RowKit

theorem besideCell {b : Nat} {w w' : World} (h : Beside b w w') {g j : Nat} {v : Value} (hg : g ≠ b) (hc : w.cell? ⟨g, j, none⟩ = some v) : w'.cell? ⟨g, j, none⟩ = some v := by
  have hz : g < w.heap.size := World.block_lt_of_cell? w ⟨g, j, none⟩ hc
  rw [← hc]
  exact World.cell?_of_block (w := w) (a := ⟨g, j, none⟩) (h.2.2.2.2 g hz hg)
theorem pow_in (y : Nat) (h : y < 30) : 1 ≤ wrap64 (2 ^ (1 + y)) ∧ wrap64 (2 ^ (1 + y)) ≤ 4294967296 := by
  have k : ∀ j : Fin 30, 1 ≤ wrap64 (2 ^ (1 + j.val)) ∧ wrap64 (2 ^ (1 + j.val)) ≤ 4294967296 := by decide +kernel
  exact k ⟨y, h⟩
theorem tabHD (w : World) (y : Nat) (h : y < 6) : ∃ t : ByteArray, t.size ≤ 1000 ∧ (w.alloc (.cells #[.string ⟨#[]⟩, .string ⟨#[48, 48, 48, 48, 48, 48, 48, 48, 48, 48, 48, 48, 49]⟩, .string ⟨#[48, 48, 48, 48, 48, 48, 48, 48, 48, 48, 48, 48, 48, 49]⟩, .string ⟨#[102, 102, 102, 102, 102, 102, 102, 102, 102, 102, 102, 102, 102]⟩, .string ⟨#[70, 102, 97, 65]⟩, .string ⟨#[103]⟩] 9)).cell? ⟨w.heap.size, y, none⟩ = some (.string t) := by
  rcases (show y = 0 ∨ y = 1 ∨ y = 2 ∨ y = 3 ∨ y = 4 ∨ y = 5 from by omega) with rfl | rfl | rfl | rfl | rfl | rfl
  all_goals (refine ⟨_, ?_, (by rw [World.cell?_alloc_mark]; rfl)⟩; decide)
theorem tabDD (w : World) (y : Nat) (h : y < 7) : ∃ t : ByteArray, t.size ≤ 1000 ∧ (w.alloc (.cells #[.string ⟨#[]⟩, .string ⟨#[48, 48, 48, 48, 48, 48, 48, 48, 48, 48, 48, 48, 48, 48, 49]⟩, .string ⟨#[48, 48, 48, 48, 48, 48, 48, 48, 48, 48, 48, 48, 48, 48, 48, 49]⟩, .string ⟨#[57, 57, 57, 57, 57, 57, 57, 57, 57, 57, 57, 57, 57, 57, 57]⟩, .string ⟨#[57, 57, 57, 57, 57, 57, 57, 57, 57, 57, 57, 57, 57, 57, 57, 57]⟩, .string ⟨#[45, 49]⟩, .string ⟨#[32, 49]⟩] 9)).cell? ⟨w.heap.size, y, none⟩ = some (.string t) := by
  rcases (show y = 0 ∨ y = 1 ∨ y = 2 ∨ y = 3 ∨ y = 4 ∨ y = 5 ∨ y = 6 from by omega) with rfl | rfl | rfl | rfl | rfl | rfl | rfl
  all_goals (refine ⟨_, ?_, (by rw [World.cell?_alloc_mark]; rfl)⟩; decide)
theorem tabHX (w : World) (y : Nat) (h : y < 7) : ∃ n : Int, (w.alloc (.cells #[.int .i64 (-1), .int .i64 0, .int .i64 15, .int .i64 16, .int .i64 4503599627370496, .int .i64 4503599627370497, .int .i64 (-9223372036854775808)] 2)).cell? ⟨w.heap.size, y, none⟩ = some (.int .i64 n) := by
  rcases (show y = 0 ∨ y = 1 ∨ y = 2 ∨ y = 3 ∨ y = 4 ∨ y = 5 ∨ y = 6 from by omega) with rfl | rfl | rfl | rfl | rfl | rfl | rfl
  all_goals exact ⟨_, by rw [World.cell?_alloc_mark]; rfl⟩

set_option maxHeartbeats 1000000 in
theorem drawHexDigits (sa : Option Addr) (sl sc : Nat) (w : World) (hc : Code8 w w.heap.size sa sl) (hl : sl ≤ 4096) :
    Calls Tryd.prog 16 #[.slice sa sl sc] w fun e w' => ∃ t : ByteArray, e = .returned (.string t) ∧ t.size ≤ 1000 ∧ Below w.heap.size w w' := by
  go_enter Tryd.func16, Tryd.ntmps16
  go_wp2_with fail
  refine (l1New sa sl sc _ hc hl).mono ?_
  rintro e w1 ⟨rfl, hc1, hb1⟩
  go_wp2_with fail
  refine (l1Once _ sa sl sc _ (by decide) (by decide) _ hc1).mono ?_
  rintro e w2 ⟨t, rfl, hc2, hb2⟩
  have hz2 : w.heap.size < w2.heap.size := hc2.2.2.1
  cases t with
  | true =>
    have hal : Below w2.heap.size w2 (w2.alloc (.cells #[.string ⟨#[]⟩, .string ⟨#[48, 48, 48, 48, 48, 48, 48, 48, 48, 48, 48, 48, 49]⟩, .string ⟨#[48, 48, 48, 48, 48, 48, 48, 48, 48, 48, 48, 48, 48, 49]⟩, .string ⟨#[102, 102, 102, 102, 102, 102, 102, 102, 102, 102, 102, 102, 102]⟩, .string ⟨#[70, 102, 97, 65]⟩, .string ⟨#[103]⟩] 9)) := (Below.refl _ w2).alloc (Nat.le_refl _) _
    go_wp2_with fail
    refine (l1Below _ sa sl sc _ (by decide) (by decide) _ (hc2.kept hal hz2)).mono ?_
    rintro e w3 ⟨y, rfl, hy0, hy1, hc3, hb3⟩
    obtain ⟨y, rfl⟩ := Int.eq_ofNat_of_zero_le hy0
    obtain ⟨r, hrz, hr⟩ := tabHD w2 y (by omega)
    have hcell := besideCell hb3 (by omega) hr
    have hall : Below w.heap.size w w3 := hb1.trans (((hb2.below hal).trans hb3).low (Nat.le_refl _) hb1.size)
    clear hr hb3 hc3 hb2 hc2 hal hb1 hc1 hc
    go_wp2
    go_ret
    exact ⟨r, rfl, hrz, hall⟩
  | false =>
    go_wp2_with fail
    refine (l1DrawText _ sa sl sc _ 5 (by decide) (by decide) (by decide) _ hc2).mono ?_
    rintro e w3 ⟨t, rfl, ht, hc3, hb3⟩
    go_wp2
    go_ret
    exact ⟨t, rfl, by omega, hb1.trans ((hb2.trans hb3).low (Nat.le_refl _) hb1.size)⟩

set_option maxHeartbeats 1000000 in
theorem drawDigits (sa : Option Addr) (sl sc : Nat) (w : World) (hc : Code8 w w.heap.size sa sl) (hl : sl ≤ 4096) :
    Calls Tryd.prog 17 #[.slice sa sl sc] w fun e w' => ∃ t : ByteArray, e = .returned (.string t) ∧ t.size ≤ 1000 ∧ Below w.heap.size w w' := by
  go_enter Tryd.func17, Tryd.ntmps17
  go_wp2_with fail
  refine (l1New sa sl sc _ hc hl).mono ?_
  rintro e w1 ⟨rfl, hc1, hb1⟩
  go_wp2_with fail
  refine (l1Once _ sa sl sc _ (by decide) (by decide) _ hc1).mono ?_
  rintro e w2 ⟨t, rfl, hc2, hb2⟩
  have hz2 : w.heap.size < w2.heap.size := hc2.2.2.1
  cases t with
  | true =>
    have hal : Below w2.heap.size w2 (w2.alloc (.cells #[.string ⟨#[]⟩, .string ⟨#[48, 48, 48, 48, 48, 48, 48, 48, 48, 48, 48, 48, 48, 48, 49]⟩, .string ⟨#[48, 48, 48, 48, 48, 48, 48, 48, 48, 48, 48, 48, 48, 48, 48, 49]⟩, .string ⟨#[57, 57, 57, 57, 57, 57, 57, 57, 57, 57, 57, 57, 57, 57, 57]⟩, .string ⟨#[57, 57, 57, 57, 57, 57, 57, 57, 57, 57, 57, 57, 57, 57, 57, 57]⟩, .string ⟨#[45, 49]⟩, .string ⟨#[32, 49]⟩] 9)) := (Below.refl _ w2).alloc (Nat.le_refl _) _
    go_wp2_with fail
    refine (l1Below _ sa sl sc _ (by decide) (by decide) _ (hc2.kept hal hz2)).mono ?_
    rintro e w3 ⟨y, rfl, hy0, hy1, hc3, hb3⟩
    obtain ⟨y, rfl⟩ := Int.eq_ofNat_of_zero_le hy0
    obtain ⟨r, hrz, hr⟩ := tabDD w2 y (by omega)
    have hcell := besideCell hb3 (by omega) hr
    have hall : Below w.heap.size w w3 := hb1.trans (((hb2.below hal).trans hb3).low (Nat.le_refl _) hb1.size)
    clear hr hb3 hc3 hb2 hc2 hal hb1 hc1 hc
    go_wp2
    go_ret
    exact ⟨r, rfl, hrz, hall⟩
  | false =>
    go_wp2_with fail
    refine (l1DrawText _ sa sl sc _ 6 (by decide) (by decide) (by decide) _ hc2).mono ?_
    rintro e w3 ⟨t, rfl, ht, hc3, hb3⟩
    go_wp2
    go_ret
    exact ⟨t, rfl, by omega, hb1.trans ((hb2.trans hb3).low (Nat.le_refl _) hb1.size)⟩

set_option maxHeartbeats 1000000 in
theorem drawHex (sa : Option Addr) (sl sc : Nat) (w : World) (hc : Code8 w w.heap.size sa sl) (hl : sl ≤ 4096) :
    Calls Tryd.prog 14 #[.slice sa sl sc] w fun e w' => ∃ n : Int, e = .returned (.int .i64 n) ∧ Below w.heap.size w w' := by
  go_enter Tryd.func14, Tryd.ntmps14
  go_wp2_with fail
  refine (l1New sa sl sc _ hc hl).mono ?_
  rintro e w1 ⟨rfl, hc1, hb1⟩
  go_wp2_with fail
  refine (l1Once _ sa sl sc _ (by decide) (by decide) _ hc1).mono ?_
  rintro e w2 ⟨t, rfl, hc2, hb2⟩
  have hz2 : w.heap.size < w2.heap.size := hc2.2.2.1
  cases t with
  | true =>
    have hal : Below w2.heap.size w2 (w2.alloc (.cells #[.int .i64 (-1), .int .i64 0, .int .i64 15, .int .i64 16, .int .i64 4503599627370496, .int .i64 4503599627370497, .int .i64 (-9223372036854775808)] 2)) := (Below.refl _ w2).alloc (Nat.le_refl _) _
    go_wp2_with fail
    refine (l1Below _ sa sl sc _ (by decide) (by decide) _ (hc2.kept hal hz2)).mono ?_
    rintro e w3 ⟨y, rfl, hy0, hy1, hc3, hb3⟩
    obtain ⟨y, rfl⟩ := Int.eq_ofNat_of_zero_le hy0
    obtain ⟨r, hr⟩ := tabHX w2 y (by omega)
    have hcell := besideCell hb3 (by omega) hr
    have hall : Below w.heap.size w w3 := hb1.trans (((hb2.below hal).trans hb3).low (Nat.le_refl _) hb1.size)
    clear hr hb3 hc3 hb2 hc2 hal hb1 hc1 hc
    go_wp2
    go_ret
    exact ⟨r, rfl, hall⟩
  | false =>
    go_wp2_with fail
    refine (l1Below _ sa sl sc _ (by decide) (by decide) _ hc2).mono ?_
    rintro e w3 ⟨y, rfl, hy0, hy1, hc3, hb3⟩
    obtain ⟨y, rfl⟩ := Int.eq_ofNat_of_zero_le hy0
    have hp := pow_in y (by omega)
    go_wp2_with fail
    refine (l1Below _ sa sl sc _ hp.1 hp.2 _ hc3).mono ?_
    rintro e w4 ⟨z, rfl, hz0, hz1, hc4, hb4⟩
    have hall : Below w.heap.size w w4 := hb1.trans (((hb2.trans hb3).trans hb4).low (Nat.le_refl _) hb1.size)
    clear hp hz1 hb4 hb3 hb2 hc4 hc3 hc2
    go_wp2
    go_ret
    exact ⟨z, rfl, hall⟩
end Go.Proofs.YtcibdipdnmlhhaaDoor
