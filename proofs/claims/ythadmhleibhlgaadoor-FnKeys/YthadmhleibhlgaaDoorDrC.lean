/-
  The drawing functions of paths: whatever the code, they answer some text, and it is not long.
-/
import Derived.Test.YthadmhleibhlgaaDoorBend
import Derived.Test.YthadmhleibhlgaaDoorCod2
namespace Go.Proofs.YthadmhleibhlgaaDoor
open Go.RowKit

theorem Code8.up {w : World} {b b' : Nat} {sa : Option Addr} {sl : Nat} (h : Code8 w b sa sl) (hb : b ≤ b') : Code8 w b' sa sl := by
  intro j hj
  obtain ⟨g, o, z, h1, h2, h3⟩ := h j hj
  exact ⟨g, o, z, h1, by omega, h3⟩
theorem Code8.on {w w' : World} {sa : Option Addr} {sl : Nat} (h : Code8 w w.heap.size sa sl) (hb : Below w.heap.size w w') : Code8 w' w'.heap.size sa sl := (h.kept hb (Nat.le_refl _)).up hb.size

theorem tab3 (w : World) (y : Nat) (h : y < 10) : ∃ t : ByteArray, t.size ≤ 3 ∧ (w.alloc (.cells #[.string ⟨#[97]⟩, .string ⟨#[98]⟩, .string ⟨#[46]⟩, .string ⟨#[46, 46]⟩, .string ⟨#[]⟩, .string ⟨#[99, 32, 100]⟩, .string ⟨#[37, 52, 49]⟩, .string ⟨#[37, 50, 102]⟩, .string ⟨#[120, 37]⟩, .string ⟨#[126, 107]⟩] 9)).cell? ⟨w.heap.size, y, none⟩ = some (.string t) := by
  rw [World.cell?_alloc_mark]
  rcases (show y = 0 ∨ y = 1 ∨ y = 2 ∨ y = 3 ∨ y = 4 ∨ y = 5 ∨ y = 6 ∨ y = 7 ∨ y = 8 ∨ y = 9 from by omega) with rfl | rfl | rfl | rfl | rfl | rfl | rfl | rfl | rfl | rfl <;> exact ⟨_, by decide, rfl⟩

set_option maxRecDepth 100000 in
set_option maxHeartbeats 1000000 in
theorem l3Draw (b : Nat) (sa : Option Addr) (sl sc : Nat) (w : World) (hc : Cur w b sa sl sc) :
    Calls Tryd.prog 62 #[.pointer (some ⟨b, 0, none⟩)] w fun e w' => ∃ t : ByteArray, e = .returned (.string t) ∧ t.size ≤ 16 ∧ Cur w' b sa sl sc ∧ Beside b w w' := by
  have hbz : b < w.heap.size := hc.2.2.1
  go_enter Tryd.func62, Tryd.ntmps62
  go_wp2_with fail
  refine (l1Below b sa sl sc _ (by decide) (by decide) _ hc).mono ?_
  rintro e w1 ⟨x, rfl, hx0, hx1, hc1, hb1⟩
  obtain ⟨x, rfl⟩ := Int.eq_ofNat_of_zero_le hx0
  clear hc
  go_wp2_with fail
  go_loopw [3, 4] (fun v n wr => ∃ (k : Nat) (t : ByteArray), n = .int .i64 k ∧ v = .string t ∧ t.size + 4 * k ≤ 16 ∧ Cur wr b sa sl sc ∧ Beside b w wr) (fun _ n _ => (intOf n).toNat)
  case atStart => exact ⟨x + 1, ⟨#[]⟩, by go_num, rfl, by show 0 + 4 * (x + 1) ≤ 16; omega, hc1, hb1⟩
  case round =>
    clear hc1 hb1
    obtain ⟨k, t, rfl, rfl, htk, hc, hb⟩ := hrel
    by_cases hk : 0 < k
    · have hz : b < wr.heap.size := hc.2.2.1
      have hal : Below wr.heap.size wr (wr.alloc (.cells #[.string ⟨#[97]⟩, .string ⟨#[98]⟩, .string ⟨#[46]⟩, .string ⟨#[46, 46]⟩, .string ⟨#[]⟩, .string ⟨#[99, 32, 100]⟩, .string ⟨#[37, 52, 49]⟩, .string ⟨#[37, 50, 102]⟩, .string ⟨#[120, 37]⟩, .string ⟨#[126, 107]⟩] 9)) := (Below.refl _ wr).alloc (Nat.le_refl _) _
      have hts : t.size ≤ 16 := by omega
      go_wp2_with fail
      refine (l1Below b sa sl sc _ (by decide) (by decide) _ (hc.kept hal hz)).mono ?_
      rintro e w3 ⟨y, rfl, hy0, hy1, hc3, hb3⟩
      obtain ⟨y, rfl⟩ := Int.eq_ofNat_of_zero_le hy0
      obtain ⟨r, hrz, hr⟩ := tab3 wr y (by omega)
      have hcell := besideCell hb3 (by omega) hr
      have hbb : Beside b w w3 := (hb.below hal).trans hb3
      have hs1 : (t ++ ⟨#[47]⟩ : ByteArray).size = t.size + 1 := by rw [ByteArray.size_append]; rfl
      have hs2 : (t ++ ⟨#[47]⟩ ++ r : ByteArray).size = t.size + 1 + r.size := by rw [ByteArray.size_append, hs1]
      have HS : Hid ((t ++ ⟨#[47]⟩ ++ r : ByteArray).size = t.size + 1 + r.size) := hs2
      have hs3 : (t ++ ⟨#[47]⟩ : ByteArray).size ≤ 17 := by omega
      clear hr hb3 hal hc hb hs1 hs2
      go_wp2
      go_roundw
      case rel => exact ⟨k - 1, _, by go_num, rfl, by rw [HS.out]; omega, hc3, hbb⟩
      case measure => simp [intOf]; omega
    · obtain rfl : k = 0 := by omega
      go_wp2
      go_ret
      exact ⟨t, rfl, by omega, hc, hb⟩

/-- What make([]byte, n) lays, and the text of it. -/
theorem make_text (w : World) (n : Nat) (hn : n ≤ 1000) : ∃ w', (Instr.makeSlice 22 (.int .i64 (n : Int)) (.int .i64 (n : Int))).run Tryd.prog w = .ok (.slice (some ⟨w.heap.size, 0, none⟩) n n) w' ∧ Below w.heap.size w w' ∧ ∃ t : ByteArray, t.size = n ∧ (convert 22 9 (.slice (some ⟨w.heap.size, 0, none⟩) n n)).run Tryd.prog w' = .ok (.string t) w' := by
  obtain ⟨i0, hi, hz0, hz1, hz2⟩ := info_parts Tryd.info5
  obtain ⟨w', h1, h2, h3⟩ := run_makeSlice_full (P := Tryd.prog) w w.heap.size 22 5 i0 (.int .u8 0) 1 Tryd.underlying22 hi hz0 hz1 .i64 .i64 n (by omega) (by rw [hz2]; omega) (by unfold maxLen; omega) (Nat.le_refl _)
  have hl : (madeCells (Value.int IntKind.u8 0).cells (n * 1)).toList = bytesV (List.replicate n 0) := by
    have e := toList_madeCells_one (.int .u8 0) (n * 1)
    rw [show (Value.int IntKind.u8 0).cells = #[.int .u8 0] from rfl, e, Nat.mul_one]
    unfold bytesV
    rw [List.map_replicate]
    rfl
  rw [hl] at h2
  have ho : OwnsB w' w.heap.size (.slice (some ⟨w.heap.size, 0, none⟩) n n) (List.replicate n 0) := by
    unfold OwnsB
    rw [List.length_replicate]
    exact h2
  refine ⟨w', h1, ⟨h3.os, h3.tape, h3.output, h3.size, fun k hk => h3.block k hk (by simp)⟩, _, ?_, ho.text⟩
  show (List.replicate n (0 : UInt8)).toArray.size = n
  simp

set_option maxHeartbeats 1000000 in
theorem drawCoded (sa : Option Addr) (sl sc : Nat) (w : World) (hc : Code8 w w.heap.size sa sl) (hl : sl ≤ 4096) :
    Calls Tryd.prog 28 #[.slice sa sl sc] w fun e w' => ∃ t : ByteArray, e = .returned (.string t) ∧ t.size ≤ 1000 ∧ Below w.heap.size w w' := by
  go_enter Tryd.func28, Tryd.ntmps28
  go_wp2_with fail
  refine (l1New sa sl sc _ hc hl).mono ?_
  rintro e w1 ⟨rfl, hc1, hb1⟩
  go_wp2_with fail
  refine (l1Once _ sa sl sc _ (by decide) (by decide) _ hc1).mono ?_
  rintro e w2 ⟨t, rfl, hc2, hb2⟩
  cases t with
  | true =>
    go_wp2_with fail
    refine (l1Below _ sa sl sc _ (by decide) (by decide) _ hc2).mono ?_
    rintro e w3 ⟨y, rfl, hy0, hy1, hc3, hb3⟩
    obtain ⟨y, rfl⟩ := Int.eq_ofNat_of_zero_le hy0
    obtain ⟨w4, hm, hb4, t, htz, ht⟩ := make_text w3 (200 + y) (by omega)
    have hall : Below w.heap.size w w3 := hb1.trans ((hb2.trans hb3).low (Nat.le_refl _) hb1.size)
    have hall4 : Below w.heap.size w w4 := hall.trans (hb4.mono hall.size)
    have e1 : ((200 + y : Nat) : Int) = 200 + (y : Int) := by omega
    rw [e1] at hm
    have htz2 : t.size ≤ 1000 := by omega
    clear hc1 hb1 hc2 hb2 hc3 hb3 htz hc hall hb4 e1
    go_wp2
    go_ret
    exact ⟨t, rfl, htz2, hall4⟩
  | false =>
    go_wp2_with fail
    refine (l1DrawText _ sa sl sc _ 8 (by decide) (by decide) (by decide) _ hc2).mono ?_
    rintro e w3 ⟨t, rfl, ht, hc3, hb3⟩
    go_wp2
    go_ret
    exact ⟨t, rfl, by omega, hb1.trans ((hb2.trans hb3).low (Nat.le_refl _) hb1.size)⟩

set_option maxHeartbeats 1000000 in
theorem drawDotless (sa : Option Addr) (sl sc : Nat) (w : World) (hc : Code8 w w.heap.size sa sl) (hl : sl ≤ 4096) :
    Calls Tryd.prog 32 #[.slice sa sl sc] w fun e w' => ∃ t : ByteArray, e = .returned (.string t) ∧ t.size ≤ 1000 ∧ Below w.heap.size w w' := by
  go_enter Tryd.func32, Tryd.ntmps32
  go_wp2_with fail
  refine (l1New sa sl sc _ hc hl).mono ?_
  rintro e w1 ⟨rfl, hc1, hb1⟩
  go_wp2_with fail
  refine (l3Draw _ sa sl sc _ hc1).mono ?_
  rintro e w2 ⟨s, rfl, hsz, hc2, hb2⟩
  go_wp2_with fail
  refine (l1Once _ sa sl sc _ (by decide) (by decide) _ hc2).mono ?_
  rintro e w3 ⟨t, rfl, hc3, hb3⟩
  have B3 : Below w.heap.size w w3 := hb1.trans ((hb2.trans hb3).low (Nat.le_refl _) hb1.size)
  clear hb1 hb2 hb3 hc1 hc2
  cases t with
  | false =>
    go_wp2
    go_ret
    exact ⟨s, rfl, by omega, B3⟩
  | true =>
    go_wp2_with fail
    refine (l1Bend _ sa sl sc s _ (by omega) (by decide) (by decide) _ hc3).mono ?_
    rintro e w5 ⟨t, rfl, htz, hc5, hb5⟩
    have B5 : Below w.heap.size w w5 := B3.trans (hb5.low (Nat.le_refl _) B3.size)
    clear hb5 hc5 hc3 B3
    go_wp2
    go_ret
    exact ⟨t, rfl, by omega, B5⟩
theorem drawNormal (sa : Option Addr) (sl sc : Nat) (w : World) (hc : Code8 w w.heap.size sa sl) (hl : sl ≤ 4096) :
    Calls Tryd.prog 33 #[.slice sa sl sc] w fun e w' => ∃ t : ByteArray, e = .returned (.string t) ∧ t.size ≤ 1000 ∧ Below w.heap.size w w' := by
  go_enter Tryd.func33, Tryd.ntmps33
  go_wp2_with fail
  refine (drawDotless sa sl sc _ hc hl).mono ?_
  rintro e w1 ⟨t, rfl, htz, hb⟩
  go_wp2
  go_ret
  exact ⟨t, rfl, htz, hb⟩

set_option maxHeartbeats 1000000 in
theorem drawUncoded (sa : Option Addr) (sl sc : Nat) (w : World) (hc : Code8 w w.heap.size sa sl) (hl : sl ≤ 4096) :
    Calls Tryd.prog 30 #[.slice sa sl sc] w fun e w' => ∃ t : ByteArray, e = .returned (.string t) ∧ t.size ≤ 1000 ∧ Below w.heap.size w w' := by
  go_enter Tryd.func30, Tryd.ntmps30
  go_wp2_with fail
  refine (l1New sa sl sc _ hc hl).mono ?_
  rintro e w1 ⟨rfl, hc1, hb1⟩
  have hz1 : w.heap.size < w1.heap.size := hc1.2.2.1
  go_wp2_with fail
  refine (drawCoded sa sl sc _ (hc.on hb1) hl).mono ?_
  rintro e w2 ⟨s, rfl, hsz, hb2⟩
  go_wp2_with fail
  refine (specCoded s _ (by unfold maxLen; omega)).mono ?_
  rintro e w3 ⟨rfl, hb3⟩
  have hcz := codA_size s
  generalize codA s = c at hcz ⊢
  have B2 : Below w1.heap.size w1 w3 := hb2.trans (hb3.mono hb2.size)
  have hc3 := hc1.kept B2 hz1
  have B3 : Below w.heap.size w w3 := hb1.trans (B2.mono hb1.size)
  clear hb1 hb2 hb3 hc1 B2
  go_wp2_with fail
  refine (l1Once _ sa sl sc _ (by decide) (by decide) _ hc3).mono ?_
  rintro e w4 ⟨t, rfl, hc4, hb4⟩
  have B4 : Below w.heap.size w w4 := B3.trans (hb4.low (Nat.le_refl _) B3.size)
  clear hb4 hc3 B3
  cases t with
  | false =>
    go_wp2
    go_ret
    exact ⟨c, rfl, by omega, B4⟩
  | true =>
    go_wp2_with fail
    refine (l1Bend _ sa sl sc c _ (by omega) (by decide) (by decide) _ hc4).mono ?_
    rintro e w5 ⟨t, rfl, htz, hc5, hb5⟩
    have B5 : Below w.heap.size w w5 := B4.trans (hb5.low (Nat.le_refl _) B4.size)
    clear hb5 hc5 hc4 B4
    go_wp2
    go_ret
    exact ⟨t, rfl, by omega, B5⟩
end Go.Proofs.YthadmhleibhlgaaDoor
