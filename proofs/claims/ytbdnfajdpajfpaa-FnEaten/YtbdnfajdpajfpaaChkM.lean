/-
  The states of the program's reading of chunks, each by its contract.
-/
import Derived.Test.YtbdnfajdpajfpaaChkE
namespace Go.Proofs.Ytbdnfajdpajfpaa
open Go.RowKit

theorem byte_ne {x y : UInt8} (h : x ≠ y) : ¬ ((x.toNat : Int) = (y.toNat : Int)) := fun e => h (UInt8.toNat_inj.1 (by omega))
theorem byte_is {x : UInt8} {n : Nat} (h : x.toNat = n) : ((x.toNat : Int) = (n : Int)) := by omega

theorem ckExpect (S : Nat → Prop) (b : Nat) (c : Ck) (x y : UInt8) (s : Int) (w : World) (h : Etr w S b c) :
    Calls Try.prog 53 #[.pointer (some ⟨b, 0, none⟩), .int .u8 (x.toNat : Int), .int .u8 (y.toNat : Int), .int .i64 s] w fun e w' => e = .returned (.tuple #[]) ∧ Etr w' S b (if x.toNat = y.toNat then ⟨s, c.lf, c.dg, c.bd⟩ else badC c) ∧ Kp S w w' := by
  by_cases hx : x.toNat = y.toNat
  · rw [if_pos hx]
    obtain ⟨vd, vb, hv⟩ := h
    have h1 := hv.st s
    have hc0 := hv.c0
    have hf := hv.fz
    have hx' : (x.toNat : Int) = (y.toNat : Int) := by omega
    have H1 : Hid _ := h1
    have HL : Hid (¬ S b) := hv.lo
    clear h1 hv hx
    go_enter Try.func53, Try.ntmps53
    go_wp2
    first | (refine bodyPost_ret (results_none rfl _ _ _) rfl ?_) | (refine bodyPost_end (results_none rfl _ _ _) rfl ?_)
    exact ⟨rfl, ⟨_, _, H1.out⟩, Kp.set HL.out _⟩
  · rw [if_neg hx]
    have hx' : ¬ (x.toNat : Int) = (y.toNat : Int) := by omega
    have hs := ckSpoil S b c w h
    clear h hx
    go_enter Try.func53, Try.ntmps53
    go_wp2_with (go_at_call 52; refine hs.mono ?_; rintro e w' ⟨rfl, hE, hB⟩)
    first | (refine bodyPost_ret (results_none rfl _ _ _) rfl ?_) | (refine bodyPost_end (results_none rfl _ _ _) rfl ?_)
    exact ⟨rfl, hE, hB⟩
theorem ck_dataEnd (S : Nat → Prop) (b : Nat) (c : Ck) (x : UInt8) (w : World) (h : Etr w S b c) (hst : c.st = 4) :
    Calls Try.prog 43 #[.pointer (some ⟨b, 0, none⟩), .int .u8 (x.toNat : Int)] w fun e w' => e = .returned (.tuple #[]) ∧ Etr w' S b (eat1 c x) ∧ Kp S w w' := by
  have he : (if x.toNat = UInt8.toNat 13 then (⟨5, c.lf, c.dg, c.bd⟩ : Ck) else badC c) = eat1 c x := by
    by_cases hx : x.toNat = 13
    · rw [eat_4 hst hx, if_pos (show x.toNat = UInt8.toNat 13 from hx)]
    · rw [eat_4' hst hx, if_neg (show ¬ x.toNat = UInt8.toNat 13 from hx)]
  have hs := ckExpect S b c x 13 5 w h
  rw [he] at hs
  clear h he hst
  go_enter Try.func43, Try.ntmps43
  go_wp2_with (go_at_call 53; refine hs.mono ?_; rintro e w' ⟨rfl, hE, hB⟩)
  first | (refine bodyPost_ret (results_none rfl _ _ _) rfl ?_) | (refine bodyPost_end (results_none rfl _ _ _) rfl ?_)
  exact ⟨rfl, hE, hB⟩
theorem ck_dataLine (S : Nat → Prop) (b : Nat) (c : Ck) (x : UInt8) (w : World) (h : Etr w S b c) (hst : c.st = 5) :
    Calls Try.prog 44 #[.pointer (some ⟨b, 0, none⟩), .int .u8 (x.toNat : Int)] w fun e w' => e = .returned (.tuple #[]) ∧ Etr w' S b (eat1 c x) ∧ Kp S w w' := by
  have he : (if x.toNat = UInt8.toNat 10 then (⟨1, c.lf, c.dg, c.bd⟩ : Ck) else badC c) = eat1 c x := by
    by_cases hx : x.toNat = 10
    · rw [eat_5 hst hx, if_pos (show x.toNat = UInt8.toNat 10 from hx)]
    · rw [eat_5' hst hx, if_neg (show ¬ x.toNat = UInt8.toNat 10 from hx)]
  have hs := ckExpect S b c x 10 1 w h
  rw [he] at hs
  clear h he hst
  go_enter Try.func44, Try.ntmps44
  go_wp2_with (go_at_call 53; refine hs.mono ?_; rintro e w' ⟨rfl, hE, hB⟩)
  first | (refine bodyPost_ret (results_none rfl _ _ _) rfl ?_) | (refine bodyPost_end (results_none rfl _ _ _) rfl ?_)
  exact ⟨rfl, hE, hB⟩
theorem ck_last (S : Nat → Prop) (b : Nat) (c : Ck) (x : UInt8) (w : World) (h : Etr w S b c) (hst : c.st = 6) :
    Calls Try.prog 45 #[.pointer (some ⟨b, 0, none⟩), .int .u8 (x.toNat : Int)] w fun e w' => e = .returned (.tuple #[]) ∧ Etr w' S b (eat1 c x) ∧ Kp S w w' := by
  have he : (if x.toNat = UInt8.toNat 13 then (⟨7, c.lf, c.dg, c.bd⟩ : Ck) else badC c) = eat1 c x := by
    by_cases hx : x.toNat = 13
    · rw [eat_6 hst hx, if_pos (show x.toNat = UInt8.toNat 13 from hx)]
    · rw [eat_6' hst hx, if_neg (show ¬ x.toNat = UInt8.toNat 13 from hx)]
  have hs := ckExpect S b c x 13 7 w h
  rw [he] at hs
  clear h he hst
  go_enter Try.func45, Try.ntmps45
  go_wp2_with (go_at_call 53; refine hs.mono ?_; rintro e w' ⟨rfl, hE, hB⟩)
  first | (refine bodyPost_ret (results_none rfl _ _ _) rfl ?_) | (refine bodyPost_end (results_none rfl _ _ _) rfl ?_)
  exact ⟨rfl, hE, hB⟩
theorem ck_lastLine (S : Nat → Prop) (b : Nat) (c : Ck) (x : UInt8) (w : World) (h : Etr w S b c) (hst : c.st = 7) :
    Calls Try.prog 46 #[.pointer (some ⟨b, 0, none⟩), .int .u8 (x.toNat : Int)] w fun e w' => e = .returned (.tuple #[]) ∧ Etr w' S b (eat1 c x) ∧ Kp S w w' := by
  have he : (if x.toNat = UInt8.toNat 10 then (⟨8, c.lf, c.dg, c.bd⟩ : Ck) else badC c) = eat1 c x := by
    by_cases hx : x.toNat = 10
    · rw [eat_7 hst hx, if_pos (show x.toNat = UInt8.toNat 10 from hx)]
    · rw [eat_7' hst hx, if_neg (show ¬ x.toNat = UInt8.toNat 10 from hx)]
  have hs := ckExpect S b c x 10 8 w h
  rw [he] at hs
  clear h he hst
  go_enter Try.func46, Try.ntmps46
  go_wp2_with (go_at_call 53; refine hs.mono ?_; rintro e w' ⟨rfl, hE, hB⟩)
  first | (refine bodyPost_ret (results_none rfl _ _ _) rfl ?_) | (refine bodyPost_end (results_none rfl _ _ _) rfl ?_)
  exact ⟨rfl, hE, hB⟩
theorem ck_sizeEnd (S : Nat → Prop) (b : Nat) (c : Ck) (x : UInt8) (w : World) (h : Etr w S b c) (hst : c.st = 2) :
    Calls Try.prog 41 #[.pointer (some ⟨b, 0, none⟩), .int .u8 (x.toNat : Int)] w fun e w' => e = .returned (.tuple #[]) ∧ Etr w' S b (eat1 c x) ∧ Kp S w w' := by
  have hc1 : w.cell? ⟨b, 1, none⟩ = some (.int .i64 c.lf) := by obtain ⟨vd, vb, hv⟩ := h; exact hv.c1
  have he : ∀ s : Int, s = (if c.lf = 0 then 6 else 3) → (if x.toNat = UInt8.toNat 10 then (⟨s, c.lf, c.dg, c.bd⟩ : Ck) else badC c) = eat1 c x := by
    intro s hs
    subst hs
    by_cases hx : x.toNat = 10
    · rw [eat_2 hst hx, if_pos (show x.toNat = UInt8.toNat 10 from hx)]
    · rw [eat_2' hst hx, if_neg (show ¬ x.toNat = UInt8.toNat 10 from hx)]
  by_cases hl : c.lf = 0
  · have hs := ckExpect S b c x 10 6 w h
    rw [he 6 (by rw [if_pos hl])] at hs
    rw [hl] at hc1
    clear h he hst hl
    go_enter Try.func41, Try.ntmps41
    go_wp2_with (go_at_call 53; refine hs.mono ?_; rintro e w' ⟨rfl, hE, hB⟩)
    first | (refine bodyPost_ret (results_none rfl _ _ _) rfl ?_) | (refine bodyPost_end (results_none rfl _ _ _) rfl ?_)
    exact ⟨rfl, hE, hB⟩
  · have hs := ckExpect S b c x 10 3 w h
    rw [he 3 (by rw [if_neg hl])] at hs
    clear h he hst
    go_enter Try.func41, Try.ntmps41
    go_wp2_with (go_at_call 53; refine hs.mono ?_; rintro e w' ⟨rfl, hE, hB⟩)
    first | (refine bodyPost_ret (results_none rfl _ _ _) rfl ?_) | (refine bodyPost_end (results_none rfl _ _ _) rfl ?_)
    exact ⟨rfl, hE, hB⟩
end Go.Proofs.Ytbdnfajdpajfpaa
