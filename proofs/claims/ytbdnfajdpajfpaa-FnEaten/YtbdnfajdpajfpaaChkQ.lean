/-
  The program's ChunkerOk by its contract.
-/
import Derived.Test.YtbdnfajdpajfpaaChkP
import Derived.Test.YtbdnfajdpajfpaaNum
import Derived.Test.YtbdnfajdpajfpaaHex2
namespace Go.Proofs.Ytbdnfajdpajfpaa
open Go.RowKit

def leftP (c : Ck) : Prop := 0 ≤ c.lf ∧ c.lf ≤ 4000 ∧ (c.bd.size : Int) + c.lf ≤ 4000 ∧ (c.st = 3 → 0 < c.lf) ∧ (c.st ≠ 2 → c.st ≠ 3 → c.lf = 0)
def digP (c : Ck) : Prop := c.dg.size = 0 ∨ (numOk 16 13 c.dg = true ∧ c.st = 1)
theorem okP_iff (c : Ck) : okP c ↔ (1 ≤ c.st ∧ c.st ≤ 9) ∧ leftP c ∧ digP c := by
  constructor
  · rintro ⟨h0, ⟨h1, h2⟩, h3, h4, h5, h6, h7, h8, h9⟩
    refine ⟨h0, ⟨h1, h2, h4, h8, fun x y => h9 x y⟩, ?_⟩
    by_cases hz : c.dg.size = 0
    · exact .inl hz
    · by_cases hs : c.st = 1
      · exact .inr ⟨numOk_in (by omega) h3 h5.symm, hs⟩
      · exact absurd (h7 hs) hz
  · rintro ⟨h0, ⟨h1, h2, h3, h4, h5⟩, h6⟩
    have e : ∀ l : List UInt8, l.length = 0 → allB (digN 16) l = true := fun l hl => by rw [List.eq_nil_of_length_eq_zero hl]; rfl
    rcases h6 with h6 | ⟨h6, h7⟩
    · exact ⟨h0, ⟨h1, h2⟩, by omega, h3, e _ (by simpa using h6), fun x => h5 (by omega) (by omega), fun _ => h6, h4, h5⟩
    · unfold numOk at h6
      rw [Bool.and_eq_true] at h6
      have h8 := of_decide_eq_true h6.1
      exact ⟨h0, ⟨h1, h2⟩, h8.2, h3, h6.2, fun x => h5 (by omega) (by omega), fun x => absurd h7 x, h4, h5⟩
theorem size_zero {s : ByteArray} (h : s.size = 0) : s = ⟨#[]⟩ := ba_ext (by
  have : s.data.toList.length = s.size := by simp
  rw [List.eq_nil_of_length_eq_zero (this.trans h)])

set_option maxHeartbeats 1000000 in
theorem implLeft_yes (c : Ck) (w : World) (h : leftP c) (hb : c.bd.size ≤ 100000000) :
    Calls Try.prog 27 #[ckV c] w fun e w' => e = .returned (.bool true) ∧ Below w.heap.size w w' := by
  unfold ckV
  obtain ⟨h1, h2, h3, h4, h5⟩ := h
  have n1 : ¬ c.lf < 0 := by omega
  have n2 : ¬ 4000 < c.lf := by omega
  have n3 : ¬ 4000 < (c.bd.size : Int) + c.lf := by omega
  by_cases s3 : c.st = 3
  · have h4' := h4 s3
    clear h4 h5
    go_enter Try.func27, Try.ntmps27
    go_wp2
    go_ret
    exact ⟨rfl, (Below.refl _ w).alloc (Nat.le_refl _) _⟩
  · by_cases s2 : c.st = 2
    · clear h4 h5
      go_enter Try.func27, Try.ntmps27
      go_wp2
      go_ret
      exact ⟨rfl, (Below.refl _ w).alloc (Nat.le_refl _) _⟩
    · have h5' := h5 s2 s3
      clear h4 h5
      go_enter Try.func27, Try.ntmps27
      go_wp2
      go_ret
      exact ⟨rfl, (Below.refl _ w).alloc (Nat.le_refl _) _⟩
set_option maxHeartbeats 1000000 in
theorem implLeft_no (c : Ck) (w : World) (h : ¬ leftP c) (hb : c.bd.size ≤ 100000000) :
    Calls Try.prog 27 #[ckV c] w fun e w' => e = .returned (.bool false) ∧ Below w.heap.size w w' := by
  unfold ckV
  by_cases n1 : c.lf < 0
  · clear h
    go_enter Try.func27, Try.ntmps27
    go_wp2
    go_ret
    exact ⟨rfl, (Below.refl _ w).alloc (Nat.le_refl _) _⟩
  by_cases n2 : 4000 < c.lf
  · clear h
    go_enter Try.func27, Try.ntmps27
    go_wp2
    go_ret
    exact ⟨rfl, (Below.refl _ w).alloc (Nat.le_refl _) _⟩
  by_cases n3 : 4000 < (c.bd.size : Int) + c.lf
  · clear h
    go_enter Try.func27, Try.ntmps27
    go_wp2
    go_ret
    exact ⟨rfl, (Below.refl _ w).alloc (Nat.le_refl _) _⟩
  by_cases s3 : c.st = 3
  · have hl : ¬ 0 < c.lf := fun x => h ⟨by omega, by omega, by omega, fun _ => x, fun _ y => absurd s3 y⟩
    clear h
    go_enter Try.func27, Try.ntmps27
    go_wp2
    go_ret
    exact ⟨by simp; try omega, (Below.refl _ w).alloc (Nat.le_refl _) _⟩
  · by_cases s2 : c.st = 2
    · exact absurd ⟨by omega, by omega, by omega, fun x => absurd x s3, fun x => absurd s2 x⟩ h
    · have hl : ¬ c.lf = 0 := fun x => h ⟨by omega, by omega, by omega, fun y => absurd y s3, fun _ _ => x⟩
      have hbe : (c.lf == 0) = false := by simpa using hl
      clear h
      go_enter Try.func27, Try.ntmps27
      go_wp2
      go_ret
      exact ⟨rfl, (Below.refl _ w).alloc (Nat.le_refl _) _⟩

set_option maxHeartbeats 1000000 in
theorem implDg (c : Ck) (w : World) (hz : c.dg.size ≤ 100000000) (r : Bool) (hr : r = true ↔ digP c) :
    Calls Try.prog 28 #[ckV c] w fun e w' => e = .returned (.bool r) ∧ Below w.heap.size w w' := by
  unfold ckV
  by_cases h0 : c.dg.size = 0
  · obtain rfl : r = true := hr.2 (.inl h0)
    rw [size_zero h0]
    clear hr
    go_enter Try.func28, Try.ntmps28
    go_wp2
    go_ret
    exact ⟨rfl, (Below.refl _ w).alloc (Nat.le_refl _) _⟩
  · have hne := full' (x := c.dg) (by omega)
    have hfe : c.dg.toList.isEmpty = false := by simpa using hne
    have hx := implHexD c.dg (w.alloc (.cells #[.int .i64 c.st, .int .i64 c.lf, .string c.dg, .string c.bd] 25)) (by unfold maxLen; omega)
    have hb0 : Hid (Below w.heap.size w (w.alloc (.cells #[.int .i64 c.st, .int .i64 c.lf, .string c.dg, .string c.bd] 25))) := (Below.refl _ w).alloc (Nat.le_refl _) _
    have hc0 : (w.alloc (.cells #[.int .i64 c.st, .int .i64 c.lf, .string c.dg, .string c.bd] 25)).cell? ⟨w.heap.size, 0, none⟩ = some (.int .i64 c.st) := by rw [World.cell?_alloc_mark]; rfl
    have hlt : w.heap.size < (w.alloc (.cells #[.int .i64 c.st, .int .i64 c.lf, .string c.dg, .string c.bd] 25)).heap.size := by simp
    by_cases hn : numOk 16 13 c.dg = true
    · by_cases h1 : c.st = 1
      · obtain rfl : r = true := hr.2 (.inr ⟨hn, h1⟩)
        have hbe : (c.st == 1) = true := by simp [h1]
        clear hr h1
        go_enter Try.func28, Try.ntmps28
        go_wp2_with (go_at_call 36; refine hx.mono ?_; unfold numE; rw [hn]; rintro e w1 ⟨rfl, hb1⟩; have hc1 := (hb1.cell (p := ⟨w.heap.size, 0, none⟩) hlt).trans hc0)
        go_ret
        exact ⟨rfl, hb0.out.trans (hb1.mono hb0.out.size)⟩
      · obtain rfl : r = false := by cases r; rfl; rcases hr.1 rfl with x | x; exact absurd x h0; exact absurd x.2 h1
        have hbe : (c.st == 1) = false := by simpa using h1
        clear hr h1
        go_enter Try.func28, Try.ntmps28
        go_wp2_with (go_at_call 36; refine hx.mono ?_; unfold numE; rw [hn]; rintro e w1 ⟨rfl, hb1⟩; have hc1 := (hb1.cell (p := ⟨w.heap.size, 0, none⟩) hlt).trans hc0)
        go_ret
        exact ⟨rfl, hb0.out.trans (hb1.mono hb0.out.size)⟩
    · have hn' : numOk 16 13 c.dg = false := by simpa using hn
      obtain rfl : r = false := by cases r; rfl; rcases hr.1 rfl with x | x; exact absurd x h0; exact absurd x.1 hn
      clear hr
      go_enter Try.func28, Try.ntmps28
      go_wp2_with (go_at_call 36; refine hx.mono ?_; unfold numE; rw [hn']; rintro e w1 ⟨rfl, hb1⟩; have hc1 := (hb1.cell (p := ⟨w.heap.size, 0, none⟩) hlt).trans hc0)
      go_ret
      exact ⟨rfl, hb0.out.trans (hb1.mono hb0.out.size)⟩

set_option maxHeartbeats 1000000 in
theorem implOk (c : Ck) (w : World) (hz : c.dg.size ≤ 100000000) (hb : c.bd.size ≤ 100000000) :
    Calls Try.prog 12 #[ckV c] w fun e w' => e = .returned (.bool (okC c)) ∧ Below w.heap.size w w' := by
  have hb0 : Hid (Below w.heap.size w (w.alloc (.cells #[.int .i64 c.st, .int .i64 c.lf, .string c.dg, .string c.bd] 25))) := (Below.refl _ w).alloc (Nat.le_refl _) _
  have hcc : ∀ k, (w.alloc (.cells #[.int .i64 c.st, .int .i64 c.lf, .string c.dg, .string c.bd] 25)).cell? ⟨w.heap.size, k, none⟩ = (#[.int .i64 c.st, .int .i64 c.lf, .string c.dg, .string c.bd] : Array Value)[k]? := fun k => World.cell?_alloc_mark _ _ _ _ _
  have hlt : w.heap.size < (w.alloc (.cells #[.int .i64 c.st, .int .i64 c.lf, .string c.dg, .string c.bd] 25)).heap.size := by simp
  by_cases s1 : c.st < 1
  · rw [okC_no (fun x => by have := x.1.1; omega)]
    unfold ckV
    go_enter Try.func12, Try.ntmps12
    go_wp2
    go_ret
    exact ⟨rfl, hb0.out⟩
  by_cases s2 : 9 < c.st
  · rw [okC_no (fun x => by have := x.1.2; omega)]
    unfold ckV
    go_enter Try.func12, Try.ntmps12
    go_wp2
    go_ret
    exact ⟨rfl, hb0.out⟩
  by_cases hl : leftP c
  · have h1 := implLeft_yes c (w.alloc (.cells #[.int .i64 c.st, .int .i64 c.lf, .string c.dg, .string c.bd] 25)) hl hb
    have hr : okC c = true ↔ digP c := by
      constructor
      · intro x; exact ((okP_iff c).1 (okC_is x)).2.2
      · intro x; exact okC_yes ((okP_iff c).2 ⟨by omega, hl, x⟩)
    have h2 : Hid (∀ x, Calls Try.prog 28 #[ckV c] x fun e w' => e = .returned (.bool (okC c)) ∧ Below x.heap.size x w') := fun x => implDg c x hz _ hr
    unfold ckV at h1 h2 ⊢
    generalize okC c = r at h2 ⊢
    clear hr hl
    go_enter Try.func12, Try.ntmps12
    go_wp2_with (first
      | (go_at_call 27; refine h1.mono ?_; rintro e w1 ⟨rfl, hb1⟩; have q0 := (hb1.cell (p := ⟨w.heap.size, 0, none⟩) hlt).trans (hcc 0); have q1 := (hb1.cell (p := ⟨w.heap.size, 1, none⟩) hlt).trans (hcc 1); have q2 := (hb1.cell (p := ⟨w.heap.size, 2, none⟩) hlt).trans (hcc 2); have q3 := (hb1.cell (p := ⟨w.heap.size, 3, none⟩) hlt).trans (hcc 3))
      | (go_at_call 28; refine (h2.out _).mono ?_; rintro e w2 ⟨rfl, hb2⟩))
    go_ret
    exact ⟨rfl, (hb0.out.trans (hb1.mono hb0.out.size)).trans (hb2.mono (hb0.out.trans (hb1.mono hb0.out.size)).size)⟩
  · have h1 := implLeft_no c (w.alloc (.cells #[.int .i64 c.st, .int .i64 c.lf, .string c.dg, .string c.bd] 25)) hl hb
    rw [okC_no (fun x => hl ((okP_iff c).1 x).2.1)]
    unfold ckV at h1 ⊢
    clear hl
    go_enter Try.func12, Try.ntmps12
    go_wp2_with (go_at_call 27; refine h1.mono ?_; rintro e w1 ⟨rfl, hb1⟩)
    go_ret
    exact ⟨rfl, hb0.out.trans (hb1.mono hb0.out.size)⟩
end Go.Proofs.Ytbdnfajdpajfpaa
