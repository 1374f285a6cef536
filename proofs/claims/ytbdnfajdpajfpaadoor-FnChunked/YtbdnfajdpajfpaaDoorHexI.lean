/-
  The contract of the library's formatting of a number at base 16, and of the program's Hex.
-/
import Derived.Test.YtbdnfajdpajfpaaDoorRows
import Derived.Test.YtbdnfajdpajfpaaDoorHexP
import Derived.WalkKit
import Derived.WalkSpells
import Derived.Laws.Bits64b
import Derived.Laws.IdiomStrings
namespace Go.Proofs.YtbdnfajdpajfpaaDoor
open Go.RowKit

theorem and15 (m : Nat) (h : m < 18446744073709551616) : bits BinOp.and IntKind.u64 (m : Int) 15 = ((m % 16 : Nat) : Int) := by
  have h1 := bits_and_u64_nat m 15 h (by decide)
  rw [show m &&& 15 = m % 16 from Nat.and_two_pow_sub_one_eq_mod m 4] at h1
  exact h1

theorem dig36 (d : Nat) (h : d < 16) (w : World) : (Instr.index 9 (.string ⟨#[48, 49, 50, 51, 52, 53, 54, 55, 56, 57, 97, 98, 99, 100, 101, 102, 103, 104, 105, 106, 107, 108, 109, 110, 111, 112, 113, 114, 115, 116, 117, 118, 119, 120, 121, 122]⟩) (.int .u64 (d : Int))).run Tryd.prog w = .ok (.int .u8 ((hexB d).toNat : Int)) w := by
  rcases (show d = 0 ∨ d = 1 ∨ d = 2 ∨ d = 3 ∨ d = 4 ∨ d = 5 ∨ d = 6 ∨ d = 7 ∨ d = 8 ∨ d = 9 ∨ d = 10 ∨ d = 11 ∨ d = 12 ∨ d = 13 ∨ d = 14 ∨ d = 15 from by omega) with rfl | rfl | rfl | rfl | rfl | rfl | rfl | rfl | rfl | rfl | rfl | rfl | rfl | rfl | rfl | rfl <;> kernel_rfl

theorem digAt (d : Nat) (h : d < 16) (hs : d < (⟨#[48, 49, 50, 51, 52, 53, 54, 55, 56, 57, 97, 98, 99, 100, 101, 102, 103, 104, 105, 106, 107, 108, 109, 110, 111, 112, 113, 114, 115, 116, 117, 118, 119, 120, 121, 122]⟩ : ByteArray).size) : (⟨#[48, 49, 50, 51, 52, 53, 54, 55, 56, 57, 97, 98, 99, 100, 101, 102, 103, 104, 105, 106, 107, 108, 109, 110, 111, 112, 113, 114, 115, 116, 117, 118, 119, 120, 121, 122]⟩ : ByteArray)[d]'hs = hexB d := by
  rcases (show d = 0 ∨ d = 1 ∨ d = 2 ∨ d = 3 ∨ d = 4 ∨ d = 5 ∨ d = 6 ∨ d = 7 ∨ d = 8 ∨ d = 9 ∨ d = 10 ∨ d = 11 ∨ d = 12 ∨ d = 13 ∨ d = 14 ∨ d = 15 from by omega) with rfl | rfl | rfl | rfl | rfl | rfl | rfl | rfl | rfl | rfl | rfl | rfl | rfl | rfl | rfl | rfl <;> rfl
theorem len65 : Tryd.prog.arrayLen 79 = 65 := by kernel_rfl
theorem elem65 : Tryd.prog.elem 79 = 5 := by kernel_rfl
theorem under65 : Tryd.prog.underlying 79 = some (.array (Tryd.prog.arrayLen 79) (Tryd.prog.elem 79)) := by kernel_rfl
theorem slice65 (B i : Nat) (h : i < 65) (w : World) : (Instr.sliceAt 79 (.pointer (some ⟨B, 0, none⟩)) (some (.int .i64 (i : Int))) none none).run Tryd.prog w = .ok (.slice (some ⟨B, i, none⟩) (65 - i) (65 - i)) w := by
  rw [run_sliceAt_array_l w 79 ⟨B, 0, none⟩ under65 .i64 (i : Int) (by omega) (by rw [len65]; omega), len65, elem65, Tryd.sizeOf5]
  simp [slicedAt, Addr.add]
  rw [if_neg (by omega)]
  split
  · rename_i h0
    subst h0
    rfl
  · rfl

/-- From place j on the row of block B holds t; each of its 65 cells is there and not frozen. -/
def TailIs (w : World) (B j : Nat) (t : List UInt8) : Prop := (∀ q (h : q < t.length), w.cell? ⟨B, j + q, none⟩ = some (.int .u8 (t[q].toNat : Int))) ∧ ∀ q, q < 65 → (∃ v, w.cell? ⟨B, q, none⟩ = some v) ∧ w.frozen? ⟨B, q, none⟩ = false

theorem TailIs.put {w : World} {B j : Nat} {t : List UInt8} (h : TailIs w B (j + 1) t) (hj : j < 65) (c : UInt8) : TailIs (w.setCell ⟨B, j, none⟩ (.int .u8 (c.toNat : Int))) B j (c :: t) := by
  obtain ⟨⟨v, hv⟩, hf⟩ := h.2 j hj
  refine ⟨?_, ?_⟩
  · intro q hq
    cases q with
    | zero =>
      rw [Nat.add_zero, World.cell?_setCell_same _ _ _ hv]
      rfl
    | succ q =>
      rw [World.cell?_setCell_other _ _ _ _ (by simp)]
      have := h.1 q (by simpa using hq)
      rw [show j + (q + 1) = j + 1 + q from by omega, this]
      rfl
  · intro q hq
    refine ⟨?_, by rw [World.frozen?_setCell]; exact (h.2 q hq).2⟩
    by_cases e : q = j
    · subst e
      exact ⟨_, World.cell?_setCell_same _ _ _ hv⟩
    · obtain ⟨⟨u, hu⟩, _⟩ := h.2 q hq
      exact ⟨u, by rw [World.cell?_setCell_other _ _ _ _ (by simp <;> omega)]; exact hu⟩

theorem zero65 : Tryd.zeroCells79 = Array.replicate 65 (.int .u8 0) := by kernel_rfl
theorem TailIs.born (w : World) : TailIs (w.alloc (.cells Tryd.zeroCells79 79)) w.heap.size 65 [] := by
  refine ⟨fun q h => absurd h (Nat.not_lt_zero _), fun q hq => ⟨⟨.int .u8 0, ?_⟩, ?_⟩⟩
  · rw [zero65, World.cell?_alloc_mark]
    simp [hq]
  · rw [World.frozen?_alloc_mark]
    simp

theorem tail_text {w : World} {B j : Nat} {t : List UInt8} (h : TailIs w B j t) (cap : Nat) : (convert 22 9 (.slice (some ⟨B, j, none⟩) t.length cap)).run Tryd.prog w = .ok (.string ⟨t.toArray⟩) w := by
  refine run_convert_bytes_back (P := Tryd.prog) w 22 9 5 ⟨B, j, none⟩ cap t Tryd.underlying22 Tryd.underlying5 Tryd.underlying9 (fun q hq => ?_)
  have e : (⟨B, j, none⟩ : Addr).add q = ⟨B, j + q, none⟩ := by
    cases q with
    | zero => rfl
    | succ q => simp [Addr.add]
  rw [e]
  exact h.1 q hq

set_option maxRecDepth 100000 in
theorem tz64 (w : World) (h : w.cell? ⟨2, 15, none⟩ = some (.int .u8 4)) : Calls Tryd.prog 63 #[.int .u64 16] w fun e w' => e = .returned (.int .i64 4) ∧ w = w' := by
  have e2 : IntKind.u64.wrap (bits BinOp.and IntKind.u64 16 (IntKind.u64.wrap (-16)) * 285870213051353865) / 288230376151711744 = 15 := by decide +kernel
  go_enter Tryd.func63, Tryd.ntmps63
  go_wp2
  go_ret
  exact ⟨rfl, rfl⟩
theorem tz (w : World) (h : w.cell? ⟨2, 15, none⟩ = some (.int .u8 4)) : Calls Tryd.prog 60 #[.int .u64 16] w fun e w' => e = .returned (.int .i64 4) ∧ w = w' := by
  go_enter Tryd.func60, Tryd.ntmps60
  go_wp2_with (go_at_call 63; refine (tz64 _ h).mono ?_; rintro e w' ⟨rfl, rfl⟩)
  go_ret
  exact ⟨rfl, rfl⟩
theorem pow2 (w : World) : Calls Tryd.prog 59 #[.int .i64 16] w fun e w' => e = .returned (.bool true) ∧ w = w' := by
  have e1 : bits BinOp.and IntKind.i64 16 15 = 0 := by decide +kernel
  go_enter Tryd.func59, Tryd.ntmps59
  go_wp2
  go_ret
  exact ⟨rfl, rfl⟩

set_option maxRecDepth 100000 in
set_option maxHeartbeats 1000000 in
theorem fmt16 (n : Nat) (hn : n ≤ 4503599627370496) (w : World) (h : w.cell? ⟨2, 15, none⟩ = some (.int .u8 4)) (h5 : 2 < w.heap.size) :
    Calls Tryd.prog 50 #[.slice none 0 0, .int .u64 n, .int .i64 16, .bool false, .bool false] w fun e w' => e = .returned (.tuple #[.slice none 0 0, .string (hexS n)]) ∧ Below w.heap.size w w' := by
  have h' : (w.alloc (Obj.cells Tryd.zeroCells79 79)).cell? ⟨2, 15, none⟩ = some (.int .u8 4) := (Below.cell ((Below.refl _ w).alloc (Nat.le_refl _) _) h5).trans h
  have hbound : n < 16 ^ (13 + 1) := by omega
  have HB : Hid (n < 16 ^ (13 + 1)) := hbound
  clear hbound
  go_enter Tryd.func50, Tryd.ntmps50
  go_wp2_with (first | (go_at_call 59; refine (pow2 _).mono ?_; rintro e w' ⟨rfl, rfl⟩) | (go_at_call 60; refine (tz _ h').mono ?_; rintro e w' ⟨rfl, rfl⟩))
  clear h' h
  go_loopw [1, 13] (fun u i wr => ∃ (m f j : Nat) (t : List UInt8), u = .int .u64 m ∧ i = .int .i64 j ∧ j + t.length = 65 ∧ f + t.length = 13 ∧ m ≤ 4503599627370496 ∧ Hid (m < 16 ^ (f + 1)) ∧ Hid (hexF 13 n = hexF f m ++ t) ∧ TailIs wr w.heap.size j t ∧ Below w.heap.size w wr ∧ w.heap.size < wr.heap.size) (fun u _ _ => (intOf u).toNat)
  case atStart => exact ⟨n, 13, 65, [], rfl, rfl, rfl, rfl, hn, HB, by show hexF 13 n = hexF 13 n ++ []; rw [List.append_nil], TailIs.born w, (Below.refl _ w).alloc (Nat.le_refl _) _, by simp⟩
  case round =>
    obtain ⟨m, f, j, t, rfl, rfl, hj, hf, hm, hmf, hx, ht, hb, hz⟩ := hrel
    obtain ⟨i, rfl⟩ : ∃ i, j = i + 1 := ⟨j - 1, by omega⟩
    obtain ⟨⟨v, hv⟩, hfz⟩ := ht.2 i (by omega)
    by_cases h16 : 16 ≤ m
    · obtain ⟨f', hf', hm', hx'⟩ := hex_more hf hmf.out h16 hx.out
      have HM : Hid (m / 16 < 16 ^ (f' + 1)) := hm'
      have HX : Hid (hexF 13 n = hexF f' (m / 16) ++ (hexB (m % 16) :: t)) := hx'
      have HF : Hid (f' + (hexB (m % 16) :: t).length = 13) := hf'
      clear hm' hx' hf'
      have ht' := ht.put (by omega) (hexB (m % 16))
      have ha := and15 m (by omega)
      have hd := fun w => dig36 (m % 16) (Nat.mod_lt _ (by decide)) w
      go_wp2
      go_roundw
      case rel =>
        rw [digAt (m % 16) (Nat.mod_lt _ (by decide))]
        exact ⟨m / 16, f', i, _, by go_num, rfl, by simp; omega, HF.out, by omega, HM, HX, ht', hb.setCell (Nat.le_refl _) _, by simpa [World.setCell] using hz⟩
      case measure => simp [intOf]; omega
    · have HX : Hid ((⟨(hexB m :: t).toArray⟩ : ByteArray) = hexS n) := hex_done h16 hx.out
      have ht' := ht.put (by omega) (hexB m)
      have hd := fun w => dig36 m (by omega) w
      have hback := tail_text ht' (65 - i)
      rw [show (hexB m :: t).length = 65 - i from by simp; omega] at hback
      have hsl := fun wx => slice65 w.heap.size i (by omega) wx
      go_wp2
      go_ret2
      exact ⟨ret_two HX.out, hb.setCell (Nat.le_refl _) _⟩

theorem implHex_in (n : Nat) (hn : n ≤ 4503599627370496) (w : World) (h : w.cell? ⟨2, 15, none⟩ = some (.int .u8 4)) (h5 : 2 < w.heap.size) :
    Calls Tryd.prog 19 #[.int .i64 n] w fun e w' => e = .returned (.string (hexA n)) ∧ Below w.heap.size w w' := by
  have HA : Hid (hexS n = hexA (n : Int)) := hexA_yes hn
  have hf := fmt16 n hn w h h5
  go_enter Tryd.func19, Tryd.ntmps19
  go_wp2_with (first | (go_at_call 50; refine hf.mono ?_; rintro e w1 ⟨rfl, hb1⟩) | go_in)
  go_ret
  exact ⟨ret_hex HA.out, hb1⟩
theorem implHex_out (n : Int) (hn : n < 0 ∨ 4503599627370496 < n) (w : World) :
    Calls Tryd.prog 19 #[.int .i64 n] w fun e w' => e = .returned (.string (hexA n)) ∧ Below w.heap.size w w' := by
  have HA : Hid ((⟨#[]⟩ : ByteArray) = hexA n) := hexA_no (by omega)
  rcases hn with hn | hn
  all_goals
    go_enter Tryd.func19, Tryd.ntmps19
    go_wp2
    go_ret
    exact ⟨ret_hex HA.out, Below.refl _ _⟩
theorem implHex (n : Int) (w : World) (h : w.cell? ⟨2, 15, none⟩ = some (.int .u8 4)) (h5 : 2 < w.heap.size) :
    Calls Tryd.prog 19 #[.int .i64 n] w fun e w' => e = .returned (.string (hexA n)) ∧ Below w.heap.size w w' := by
  by_cases hn : n < 0 ∨ 4503599627370496 < n
  · exact implHex_out n hn w
  · obtain ⟨m, rfl⟩ := Int.eq_ofNat_of_zero_le (show 0 ≤ n by omega)
    exact implHex_in m (by omega) w h h5
end Go.Proofs.YtbdnfajdpajfpaaDoor
