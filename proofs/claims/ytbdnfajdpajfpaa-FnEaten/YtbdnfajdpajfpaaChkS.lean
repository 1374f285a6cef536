/-
  The specification's ChunkerOk and one byte eaten, by their contracts.
-/
import Derived.Test.YtbdnfajdpajfpaaChkQ
import Derived.Test.YtbdnfajdpajfpaaChkV
namespace Go.Proofs.Ytbdnfajdpajfpaa
open Go.RowKit

theorem okP_leaf {c : Ck} (h1 : 1 ≤ c.st ∧ c.st ≤ 9) (h2 : 0 ≤ c.lf ∧ c.lf ≤ 4000) (h3 : ¬ 13 < c.dg.size) (h4 : ¬ 4000 < (c.bd.size : Int) + c.lf) (h5 : true = allB (digN 16) c.dg.data.toList) (h6 : c.st = 1 → c.lf = 0) (h7 : c.st ≠ 1 → c.dg.size = 0) (h8 : c.st = 3 → 0 < c.lf) (h9 : c.st ≠ 2 → c.st ≠ 3 → c.lf = 0) : true = okC c :=
  (okC_yes ⟨h1, h2, by omega, by omega, h5.symm, h6, h7, h8, h9⟩).symm
theorem void2 {x : ByteArray} (h : x.size = 0) : x.toList = [] := void' (by omega)

set_option maxHeartbeats 2000000 in
theorem specOk5 (c : Ck) (w : World) (hb : c.bd.size ≤ 100000000) (hd : c.dg.size ≤ 100000000) :
    Calls Try.prog 13 #[ckV c] w fun e w' => e = .returned (.bool (okC c)) ∧ Below w.heap.size w w' := by
  have hb0 : Hid (Below w.heap.size w (w.alloc (.cells #[.int .i64 c.st, .int .i64 c.lf, .string c.dg, .string c.bd] 25))) := (Below.refl _ w).alloc (Nat.le_refl _) _
  have hin : ∀ n lo hi w, Calls Try.prog 29 #[.int .i64 n, .int .i64 lo, .int .i64 hi] w fun e w' => e = .returned (.bool (inR n lo hi)) ∧ w = w' := fun n lo hi w => inRange n lo hi w
  have HIN : Hid _ := hin
  clear hin
  unfold ckV
  by_cases h1 : 1 ≤ c.st ∧ c.st ≤ 9
  case neg =>
    have i1 : inR c.st 1 9 = false := decide_eq_false h1
    have HR : Hid (false = okC c) := (okC_no fun x => h1 x.1).symm
    clear h1
    go_enter Try.func13, Try.ntmps13
    go_wp2_with (go_at_call 29; refine (inRange _ _ _ _).mono ?_; rintro e w' ⟨rfl, rfl⟩)
    go_ret
    exact ⟨ret_bool HR.out, hb0.out⟩
  have i1 : inR c.st 1 9 = true := decide_eq_true h1
  by_cases h2 : 0 ≤ c.lf ∧ c.lf ≤ 4000
  case neg =>
    have i2 : inR c.lf 0 4000 = false := decide_eq_false h2
    have HR : Hid (false = okC c) := (okC_no fun x => h2 x.2.1).symm
    clear h1 h2
    go_enter Try.func13, Try.ntmps13
    go_wp2_with (go_at_call 29; refine (inRange _ _ _ _).mono ?_; rintro e w' ⟨rfl, rfl⟩)
    go_ret
    exact ⟨ret_bool HR.out, hb0.out⟩
  have i2 : inR c.lf 0 4000 = true := decide_eq_true h2
  by_cases h3 : 13 < c.dg.size
  · have HR : Hid (false = okC c) := (okC_no fun x => by have := x.2.2.1; omega).symm
    clear h1 h2
    go_enter Try.func13, Try.ntmps13
    go_wp2_with (go_at_call 29; refine (inRange _ _ _ _).mono ?_; rintro e w' ⟨rfl, rfl⟩)
    go_ret
    exact ⟨ret_bool HR.out, hb0.out⟩
  by_cases h4 : 4000 < (c.bd.size : Int) + c.lf
  · have HR : Hid (false = okC c) := (okC_no fun x => by have := x.2.2.2.1; omega).symm
    go_enter Try.func13, Try.ntmps13
    go_wp2_with (go_at_call 29; refine (inRange _ _ _ _).mono ?_; rintro e w' ⟨rfl, rfl⟩)
    go_ret
    exact ⟨ret_bool HR.out, hb0.out⟩
  go_enter Try.func13, Try.ntmps13
  go_wp2_with (go_at_call 29; refine (inRange _ _ _ _).mono ?_; rintro e w' ⟨rfl, rfl⟩)
  clear i1 i2
  go_loop [3] (fun i => ∃ k : Nat, i = .int .i64 k ∧ k ≤ c.dg.size ∧ Hid (allB (digN 16) (c.dg.data.toList.take k) = true)) (fun i => c.dg.size - (intOf i).toNat)
  case atStart => exact ⟨0, rfl, Nat.zero_le _, rfl⟩
  case round =>
    obtain ⟨k, rfl, hk, hall⟩ := hrel
    by_cases hlt : k < c.dg.size
    · by_cases hdv : 0 ≤ digV (c.dg[k].toNat : Int)
      · have hn : Hid (allB (digN 16) (c.dg.data.toList.take (k + 1)) = true) := allB_step hlt hall.out (digN16 hdv)
        have hdv' : ¬ digV (c.dg[k].toNat : Int) < 0 := by omega
        clear hall
        go_wp2_with (go_at_call 30; refine (specHexV _ _).mono ?_; rintro e w' ⟨rfl, hw'⟩; obtain rfl := hw'.symm; clear hw')
        go_round
        case rel => exact ⟨k + 1, by go_num, by omega, hn⟩
        case measure => simp [intOf]; omega
      · have hf : false = allB (digN 16) c.dg.data.toList := allB_not hlt (digN16_no hdv)
        have HR : Hid (false = okC c) := (okC_no fun x => by rw [x.2.2.2.2.1] at hf; cases hf).symm
        have hdv' : digV (c.dg[k].toNat : Int) < 0 := by omega
        clear hall hf
        go_wp2_with (go_at_call 30; refine (specHexV _ _).mono ?_; rintro e w' ⟨rfl, hw'⟩; obtain rfl := hw'.symm; clear hw')
        go_ret
        exact ⟨ret_bool HR.out, (Below.refl _ w).alloc (Nat.le_refl _) _⟩
    · have h5 : true = allB (digN 16) c.dg.data.toList := allB_end hlt hall.out
      obtain rfl : k = c.dg.size := by omega
      have HF : Hid (∀ (h6 : c.st = 1 → c.lf = 0) (h7 : c.st ≠ 1 → c.dg.size = 0) (h8 : c.st = 3 → 0 < c.lf) (h9 : c.st ≠ 2 → c.st ≠ 3 → c.lf = 0), true = okC c) := okP_leaf h1 h2 (by omega) (by omega) h5
      clear h5 hall
      by_cases s1 : c.st = 1
      · by_cases hl : c.lf = 0
        · have hbe : (c.lf == 0) = true := by simp [hl]
          have HR : Hid (true = okC c) := HF.out (fun _ => hl) (fun x => absurd s1 x) (fun x => by omega) (fun _ _ => hl)
          clear HF
          go_wp2
          go_ret
          exact ⟨ret_bool HR.out, (Below.refl _ w).alloc (Nat.le_refl _) _⟩
        · have hbe : (c.lf == 0) = false := by simpa using hl
          have HR : Hid (false = okC c) := (okC_no fun x => hl (x.2.2.2.2.2.1 s1)).symm
          clear HF
          go_wp2
          go_ret
          exact ⟨ret_bool HR.out, (Below.refl _ w).alloc (Nat.le_refl _) _⟩
      by_cases s2 : c.st = 2
      · by_cases hd0 : c.dg.size = 0
        · have HR : Hid (true = okC c) := HF.out (fun x => absurd x s1) (fun _ => hd0) (fun x => by omega) (fun x => absurd s2 x)
          clear HF
          have v1 := void2 hd0
          have v2 : c.dg.toList.isEmpty = true := by rw [v1]; rfl
          go_wp2
          go_ret
          exact ⟨ret_bool HR.out, (Below.refl _ w).alloc (Nat.le_refl _) _⟩
        · have HR : Hid (false = okC c) := (okC_no fun x => hd0 (x.2.2.2.2.2.2.1 s1)).symm
          clear HF
          have v1 := full' (x := c.dg) (by omega)
          have v2 : c.dg.toList.isEmpty = false := by simpa using v1
          go_wp2
          go_ret
          exact ⟨ret_bool HR.out, (Below.refl _ w).alloc (Nat.le_refl _) _⟩
      by_cases s3 : c.st = 3
      · by_cases hd0 : c.dg.size = 0
        · by_cases hl : 0 < c.lf
          · have HR : Hid (true = okC c) := HF.out (fun x => absurd x s1) (fun _ => hd0) (fun _ => hl) (fun _ x => absurd s3 x)
            clear HF
            have v1 := void2 hd0
            have v2 : c.dg.toList.isEmpty = true := by rw [v1]; rfl
            go_wp2
            go_ret
            exact ⟨ret_bool HR.out, (Below.refl _ w).alloc (Nat.le_refl _) _⟩
          · have HR : Hid (false = okC c) := (okC_no fun x => hl (x.2.2.2.2.2.2.2.1 s3)).symm
            clear HF
            have v1 := void2 hd0
            have v2 : c.dg.toList.isEmpty = true := by rw [v1]; rfl
            go_wp2
            go_ret
            exact ⟨ret_bool HR.out, (Below.refl _ w).alloc (Nat.le_refl _) _⟩
        · have HR : Hid (false = okC c) := (okC_no fun x => hd0 (x.2.2.2.2.2.2.1 s1)).symm
          clear HF
          have v1 := full' (x := c.dg) (by omega)
          have v2 : c.dg.toList.isEmpty = false := by simpa using v1
          go_wp2
          go_ret
          exact ⟨ret_bool HR.out, (Below.refl _ w).alloc (Nat.le_refl _) _⟩
      by_cases hl : c.lf = 0
      · have hbe : (c.lf == 0) = true := by simp [hl]
        by_cases hd0 : c.dg.size = 0
        · have HR : Hid (true = okC c) := HF.out (fun x => absurd x s1) (fun _ => hd0) (fun x => absurd x s3) (fun _ _ => hl)
          clear HF
          have v1 := void2 hd0
          have v2 : c.dg.toList.isEmpty = true := by rw [v1]; rfl
          go_wp2
          go_ret
          exact ⟨ret_bool HR.out, (Below.refl _ w).alloc (Nat.le_refl _) _⟩
        · have HR : Hid (false = okC c) := (okC_no fun x => hd0 (x.2.2.2.2.2.2.1 s1)).symm
          clear HF
          have v1 := full' (x := c.dg) (by omega)
          have v2 : c.dg.toList.isEmpty = false := by simpa using v1
          go_wp2
          go_ret
          exact ⟨ret_bool HR.out, (Below.refl _ w).alloc (Nat.le_refl _) _⟩
      · have hbe : (c.lf == 0) = false := by simpa using hl
        have HR : Hid (false = okC c) := (okC_no fun x => hl (x.2.2.2.2.2.2.2.2 s2 s3)).symm
        clear HF
        go_wp2
        go_ret
        exact ⟨ret_bool HR.out, (Below.refl _ w).alloc (Nat.le_refl _) _⟩
end Go.Proofs.Ytbdnfajdpajfpaa
