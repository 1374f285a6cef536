/-
  The specification's ChunkerOk and one byte eaten, by their contracts.
  The specification's eating of one byte, by its contract.
  The specification's eating of one byte where a size may end, by its contract; and of any byte.
-/
import Derived.Test.YtmgmphkncgochaaGreatDoorG20
namespace Go.Proofs.YtmgmphkncgochaaGreatDoor
open Go.RowKit

theorem okP_leaf {c : Ck} (h1 : 1 ≤ c.st ∧ c.st ≤ 9) (h2 : 0 ≤ c.lf ∧ c.lf ≤ 4000) (h3 : ¬ 13 < c.dg.size) (h4 : ¬ 4000 < (c.bd.size : Int) + c.lf) (h5 : true = allB (digN 16) c.dg.data.toList) (h6 : c.st = 1 → c.lf = 0) (h7 : c.st ≠ 1 → c.dg.size = 0) (h8 : c.st = 3 → 0 < c.lf) (h9 : c.st ≠ 2 → c.st ≠ 3 → c.lf = 0) : true = okC c :=
  (okC_yes ⟨h1, h2, by omega, by omega, h5.symm, h6, h7, h8, h9⟩).symm
theorem void2 {x : ByteArray} (h : x.size = 0) : x.toList = [] := void' (by omega)

set_option maxHeartbeats 2000000 in
theorem specOk5 (c : Ck) (w : World) (hb : c.bd.size ≤ 100000000) (hd : c.dg.size ≤ 100000000) :
    Calls Tryz.prog 148 #[ckV c] w fun e w' => e = .returned (.bool (okC c)) ∧ Below w.heap.size w w' := by
  have hb0 : Hid (Below w.heap.size w (w.alloc (.cells #[.int .i64 c.st, .int .i64 c.lf, .string c.dg, .string c.bd] 137))) := (Below.refl _ w).alloc (Nat.le_refl _) _
  have hin : ∀ n lo hi w, Calls Tryz.prog 78 #[.int .i64 n, .int .i64 lo, .int .i64 hi] w fun e w' => e = .returned (.bool (inR n lo hi)) ∧ w = w' := fun n lo hi w => inRange n lo hi w
  have HIN : Hid _ := hin
  clear hin
  unfold ckV
  by_cases h1 : 1 ≤ c.st ∧ c.st ≤ 9
  case neg =>
    have i1 : inR c.st 1 9 = false := decide_eq_false h1
    have HR : Hid (false = okC c) := (okC_no fun x => h1 x.1).symm
    clear h1
    go_enter Tryz.func148, Tryz.ntmps148
    go_wp2_with (go_at_call 78; refine (inRange _ _ _ _).mono ?_; rintro e w' ⟨rfl, rfl⟩)
    go_ret
    exact ⟨ret_bool HR.out, hb0.out⟩
  have i1 : inR c.st 1 9 = true := decide_eq_true h1
  by_cases h2 : 0 ≤ c.lf ∧ c.lf ≤ 4000
  case neg =>
    have i2 : inR c.lf 0 4000 = false := decide_eq_false h2
    have HR : Hid (false = okC c) := (okC_no fun x => h2 x.2.1).symm
    clear h1 h2
    go_enter Tryz.func148, Tryz.ntmps148
    go_wp2_with (go_at_call 78; refine (inRange _ _ _ _).mono ?_; rintro e w' ⟨rfl, rfl⟩)
    go_ret
    exact ⟨ret_bool HR.out, hb0.out⟩
  have i2 : inR c.lf 0 4000 = true := decide_eq_true h2
  by_cases h3 : 13 < c.dg.size
  · have HR : Hid (false = okC c) := (okC_no fun x => by have := x.2.2.1; omega).symm
    clear h1 h2
    go_enter Tryz.func148, Tryz.ntmps148
    go_wp2_with (go_at_call 78; refine (inRange _ _ _ _).mono ?_; rintro e w' ⟨rfl, rfl⟩)
    go_ret
    exact ⟨ret_bool HR.out, hb0.out⟩
  by_cases h4 : 4000 < (c.bd.size : Int) + c.lf
  · have HR : Hid (false = okC c) := (okC_no fun x => by have := x.2.2.2.1; omega).symm
    go_enter Tryz.func148, Tryz.ntmps148
    go_wp2_with (go_at_call 78; refine (inRange _ _ _ _).mono ?_; rintro e w' ⟨rfl, rfl⟩)
    go_ret
    exact ⟨ret_bool HR.out, hb0.out⟩
  go_enter Tryz.func148, Tryz.ntmps148
  go_wp2_with (go_at_call 78; refine (inRange _ _ _ _).mono ?_; rintro e w' ⟨rfl, rfl⟩)
  clear i1 i2
  go_loop [3] (fun i => ∃ k : Nat, i = .int .i64 k ∧ k ≤ c.dg.size ∧ Hid (allB (digN 16) (c.dg.data.toList.take k) = true)) (fun i => c.dg.size - (intOf i).toNat)
  case atStart => exact ⟨0, rfl, Nat.zero_le _, rfl⟩
  case round =>
    obtain ⟨k, rfl, hk, hall⟩ := hrel
    by_cases hlt : k < c.dg.size
    · by_cases hdv : 0 ≤ digV (c.dg[k].toNat : Int)
      · have hn : Hid (allB (digN 16) (c.dg.data.toList.take (k + 1)) = true) := allB_step hlt hall.out (digN16 hdv)
        have hdv' : ¬ digV (c.dg[k].toNat : Int) < 0 := by omega
        clear hall
        go_wp2_with (go_at_call 166; refine (specHexV _ _).mono ?_; rintro e w' ⟨rfl, hw'⟩; obtain rfl := hw'.symm; clear hw')
        go_round
        case rel => exact ⟨k + 1, by go_num, by omega, hn⟩
        case measure => simp [intOf]; omega
      · have hf : false = allB (digN 16) c.dg.data.toList := allB_not hlt (digN16_no hdv)
        have HR : Hid (false = okC c) := (okC_no fun x => by rw [x.2.2.2.2.1] at hf; cases hf).symm
        have hdv' : digV (c.dg[k].toNat : Int) < 0 := by omega
        clear hall hf
        go_wp2_with (go_at_call 166; refine (specHexV _ _).mono ?_; rintro e w' ⟨rfl, hw'⟩; obtain rfl := hw'.symm; clear hw')
        go_ret
        exact ⟨ret_bool HR.out, (Below.refl _ w).alloc (Nat.le_refl _) _⟩
    · have h5 : true = allB (digN 16) c.dg.data.toList := allB_end hlt hall.out
      obtain rfl : k = c.dg.size := by omega
      have HF : Hid (∀ (h6 : c.st = 1 → c.lf = 0) (h7 : c.st ≠ 1 → c.dg.size = 0) (h8 : c.st = 3 → 0 < c.lf) (h9 : c.st ≠ 2 → c.st ≠ 3 → c.lf = 0), true = okC c) := okP_leaf h1 h2 (by omega) (by omega) h5
      clear h5 hall
      by_cases s1 : c.st = 1
      · by_cases hl : c.lf = 0
        · have hbe : (c.lf == 0) = true := by simp [hl]
          have HR : Hid (true = okC c) := HF.out (fun _ => hl) (fun x => absurd s1 x) (fun x => by omega) (fun _ _ => hl)
          clear HF
          go_wp2
          go_ret
          exact ⟨ret_bool HR.out, (Below.refl _ w).alloc (Nat.le_refl _) _⟩
        · have hbe : (c.lf == 0) = false := by simpa using hl
          have HR : Hid (false = okC c) := (okC_no fun x => hl (x.2.2.2.2.2.1 s1)).symm
          clear HF
          go_wp2
          go_ret
          exact ⟨ret_bool HR.out, (Below.refl _ w).alloc (Nat.le_refl _) _⟩
      by_cases s2 : c.st = 2
      · by_cases hd0 : c.dg.size = 0
        · have HR : Hid (true = okC c) := HF.out (fun x => absurd x s1) (fun _ => hd0) (fun x => by omega) (fun x => absurd s2 x)
          clear HF
          have v1 := void2 hd0
          have v2 : c.dg.toList.isEmpty = true := by rw [v1]; rfl
          go_wp2
          go_ret
          exact ⟨ret_bool HR.out, (Below.refl _ w).alloc (Nat.le_refl _) _⟩
        · have HR : Hid (false = okC c) := (okC_no fun x => hd0 (x.2.2.2.2.2.2.1 s1)).symm
          clear HF
          have v1 := full' (x := c.dg) (by omega)
          have v2 : c.dg.toList.isEmpty = false := by simpa using v1
          go_wp2
          go_ret
          exact ⟨ret_bool HR.out, (Below.refl _ w).alloc (Nat.le_refl _) _⟩
      by_cases s3 : c.st = 3
      · by_cases hd0 : c.dg.size = 0
        · by_cases hl : 0 < c.lf
          · have HR : Hid (true = okC c) := HF.out (fun x => absurd x s1) (fun _ => hd0) (fun _ => hl) (fun _ x => absurd s3 x)
            clear HF
            have v1 := void2 hd0
            have v2 : c.dg.toList.isEmpty = true := by rw [v1]; rfl
            go_wp2
            go_ret
            exact ⟨ret_bool HR.out, (Below.refl _ w).alloc (Nat.le_refl _) _⟩
          · have HR : Hid (false = okC c) := (okC_no fun x => hl (x.2.2.2.2.2.2.2.1 s3)).symm
            clear HF
            have v1 := void2 hd0
            have v2 : c.dg.toList.isEmpty = true := by rw [v1]; rfl
            go_wp2
            go_ret
            exact ⟨ret_bool HR.out, (Below.refl _ w).alloc (Nat.le_refl _) _⟩
        · have HR : Hid (false = okC c) := (okC_no fun x => hd0 (x.2.2.2.2.2.2.1 s1)).symm
          clear HF
          have v1 := full' (x := c.dg) (by omega)
          have v2 : c.dg.toList.isEmpty = false := by simpa using v1
          go_wp2
          go_ret
          exact ⟨ret_bool HR.out, (Below.refl _ w).alloc (Nat.le_refl _) _⟩
      by_cases hl : c.lf = 0
      · have hbe : (c.lf == 0) = true := by simp [hl]
        by_cases hd0 : c.dg.size = 0
        · have HR : Hid (true = okC c) := HF.out (fun x => absurd x s1) (fun _ => hd0) (fun x => absurd x s3) (fun _ _ => hl)
          clear HF
          have v1 := void2 hd0
          have v2 : c.dg.toList.isEmpty = true := by rw [v1]; rfl
          go_wp2
          go_ret
          exact ⟨ret_bool HR.out, (Below.refl _ w).alloc (Nat.le_refl _) _⟩
        · have HR : Hid (false = okC c) := (okC_no fun x => hd0 (x.2.2.2.2.2.2.1 s1)).symm
          clear HF
          have v1 := full' (x := c.dg) (by omega)
          have v2 : c.dg.toList.isEmpty = false := by simpa using v1
          go_wp2
          go_ret
          exact ⟨ret_bool HR.out, (Below.refl _ w).alloc (Nat.le_refl _) _⟩
      · have hbe : (c.lf == 0) = false := by simpa using hl
        have HR : Hid (false = okC c) := (okC_no fun x => hl (x.2.2.2.2.2.2.2.2 s2 s3)).symm
        clear HF
        go_wp2
        go_ret
        exact ⟨ret_bool HR.out, (Below.refl _ w).alloc (Nat.le_refl _) _⟩
end Go.Proofs.YtmgmphkncgochaaGreatDoor
namespace Go.Proofs.YtmgmphkncgochaaGreatDoor
open Go.RowKit
set_option linter.unusedVariables false

theorem ck_eta (c : Ck) {s : Int} (h : c.st = s) : c = ⟨s, c.lf, c.dg, c.bd⟩ := by cases c; simp at h; subst h; rfl
set_option maxRecDepth 100000 in
set_option maxHeartbeats 1000000 in
theorem sEat_8 (c : Ck) (x : UInt8) (w : World) (hb : c.bd.size ≤ 100000000) (hd : c.dg.size ≤ 100000000) (hl : 0 ≤ c.lf ∧ c.lf ≤ 4000) (hs : c.st = 8) :
    Calls Tryz.prog 149 #[ckV c, .int .u8 (x.toNat : Int)] w fun e w' => e = .returned (ckV (eat1 c x)) ∧ Below w.heap.size w w' := by
  have he : eat1 c x = ⟨8, c.lf, c.dg, c.bd⟩ := (eat_end (by omega)).trans (ck_eta c hs)
  rw [he]
  clear he
  unfold ckV
  go_enter Tryz.func149, Tryz.ntmps149
  go_wp2
  refine bodyPost_ret (v := .agg #[.int .i64 (8), .int .i64 (c.lf), .string (c.dg), .string (c.bd)]) (by simp [results, Tryz.results149, go_sem]) rfl ⟨rfl, ?_⟩
  repeat (first | exact Below.refl _ _ | refine Below.alloc ?_ (by simp <;> omega) _ | refine Below.setCell ?_ (by simp <;> omega) _)
set_option maxRecDepth 100000 in
set_option maxHeartbeats 1000000 in
theorem sEat_9 (c : Ck) (x : UInt8) (w : World) (hb : c.bd.size ≤ 100000000) (hd : c.dg.size ≤ 100000000) (hl : 0 ≤ c.lf ∧ c.lf ≤ 4000) (hs : c.st = 9) :
    Calls Tryz.prog 149 #[ckV c, .int .u8 (x.toNat : Int)] w fun e w' => e = .returned (ckV (eat1 c x)) ∧ Below w.heap.size w w' := by
  have he : eat1 c x = ⟨9, c.lf, c.dg, c.bd⟩ := (eat_end (by omega)).trans (ck_eta c hs)
  rw [he]
  clear he
  unfold ckV
  go_enter Tryz.func149, Tryz.ntmps149
  go_wp2
  refine bodyPost_ret (v := .agg #[.int .i64 (9), .int .i64 (c.lf), .string (c.dg), .string (c.bd)]) (by simp [results, Tryz.results149, go_sem]) rfl ⟨rfl, ?_⟩
  repeat (first | exact Below.refl _ _ | refine Below.alloc ?_ (by simp <;> omega) _ | refine Below.setCell ?_ (by simp <;> omega) _)
set_option maxRecDepth 100000 in
set_option maxHeartbeats 1000000 in
theorem sEat_4y (c : Ck) (x : UInt8) (w : World) (hb : c.bd.size ≤ 100000000) (hd : c.dg.size ≤ 100000000) (hl : 0 ≤ c.lf ∧ c.lf ≤ 4000) (hs : c.st = 4) (hx : x.toNat = 13) :
    Calls Tryz.prog 149 #[ckV c, .int .u8 (x.toNat : Int)] w fun e w' => e = .returned (ckV (eat1 c x)) ∧ Below w.heap.size w w' := by
  have he : eat1 c x = ⟨5, c.lf, c.dg, c.bd⟩ := eat_4 hs hx
  rw [he]
  clear he
  unfold ckV
  have hx' : (x.toNat : Int) = 13 := by omega
  clear hx
  go_enter Tryz.func149, Tryz.ntmps149
  go_wp2
  refine bodyPost_ret (v := .agg #[.int .i64 (5), .int .i64 (c.lf), .string (c.dg), .string (c.bd)]) (by simp [results, Tryz.results149, go_sem]) rfl ⟨rfl, ?_⟩
  repeat (first | exact Below.refl _ _ | refine Below.alloc ?_ (by simp <;> omega) _ | refine Below.setCell ?_ (by simp <;> omega) _)
set_option maxRecDepth 100000 in
set_option maxHeartbeats 1000000 in
theorem sEat_4n (c : Ck) (x : UInt8) (w : World) (hb : c.bd.size ≤ 100000000) (hd : c.dg.size ≤ 100000000) (hl : 0 ≤ c.lf ∧ c.lf ≤ 4000) (hs : c.st = 4) (hx : x.toNat ≠ 13) :
    Calls Tryz.prog 149 #[ckV c, .int .u8 (x.toNat : Int)] w fun e w' => e = .returned (ckV (eat1 c x)) ∧ Below w.heap.size w w' := by
  have he : eat1 c x = ⟨9, 0, ⟨#[]⟩, c.bd⟩ := eat_4' hs hx
  rw [he]
  clear he
  unfold ckV
  have hx' : ¬ (x.toNat : Int) = 13 := by omega
  clear hx
  go_enter Tryz.func149, Tryz.ntmps149
  go_wp2
  refine bodyPost_ret (v := .agg #[.int .i64 (9), .int .i64 (0), .string (⟨#[]⟩), .string (c.bd)]) (by simp [results, Tryz.results149, go_sem]) rfl ⟨rfl, ?_⟩
  repeat (first | exact Below.refl _ _ | refine Below.alloc ?_ (by simp <;> omega) _ | refine Below.setCell ?_ (by simp <;> omega) _)
set_option maxRecDepth 100000 in
set_option maxHeartbeats 1000000 in
theorem sEat_5y (c : Ck) (x : UInt8) (w : World) (hb : c.bd.size ≤ 100000000) (hd : c.dg.size ≤ 100000000) (hl : 0 ≤ c.lf ∧ c.lf ≤ 4000) (hs : c.st = 5) (hx : x.toNat = 10) :
    Calls Tryz.prog 149 #[ckV c, .int .u8 (x.toNat : Int)] w fun e w' => e = .returned (ckV (eat1 c x)) ∧ Below w.heap.size w w' := by
  have he : eat1 c x = ⟨1, c.lf, c.dg, c.bd⟩ := eat_5 hs hx
  rw [he]
  clear he
  unfold ckV
  have hx' : (x.toNat : Int) = 10 := by omega
  clear hx
  go_enter Tryz.func149, Tryz.ntmps149
  go_wp2
  refine bodyPost_ret (v := .agg #[.int .i64 (1), .int .i64 (c.lf), .string (c.dg), .string (c.bd)]) (by simp [results, Tryz.results149, go_sem]) rfl ⟨rfl, ?_⟩
  repeat (first | exact Below.refl _ _ | refine Below.alloc ?_ (by simp <;> omega) _ | refine Below.setCell ?_ (by simp <;> omega) _)
set_option maxRecDepth 100000 in
set_option maxHeartbeats 1000000 in
theorem sEat_5n (c : Ck) (x : UInt8) (w : World) (hb : c.bd.size ≤ 100000000) (hd : c.dg.size ≤ 100000000) (hl : 0 ≤ c.lf ∧ c.lf ≤ 4000) (hs : c.st = 5) (hx : x.toNat ≠ 10) :
    Calls Tryz.prog 149 #[ckV c, .int .u8 (x.toNat : Int)] w fun e w' => e = .returned (ckV (eat1 c x)) ∧ Below w.heap.size w w' := by
  have he : eat1 c x = ⟨9, 0, ⟨#[]⟩, c.bd⟩ := eat_5' hs hx
  rw [he]
  clear he
  unfold ckV
  have hx' : ¬ (x.toNat : Int) = 10 := by omega
  clear hx
  go_enter Tryz.func149, Tryz.ntmps149
  go_wp2
  refine bodyPost_ret (v := .agg #[.int .i64 (9), .int .i64 (0), .string (⟨#[]⟩), .string (c.bd)]) (by simp [results, Tryz.results149, go_sem]) rfl ⟨rfl, ?_⟩
  repeat (first | exact Below.refl _ _ | refine Below.alloc ?_ (by simp <;> omega) _ | refine Below.setCell ?_ (by simp <;> omega) _)
set_option maxRecDepth 100000 in
set_option maxHeartbeats 1000000 in
theorem sEat_6y (c : Ck) (x : UInt8) (w : World) (hb : c.bd.size ≤ 100000000) (hd : c.dg.size ≤ 100000000) (hl : 0 ≤ c.lf ∧ c.lf ≤ 4000) (hs : c.st = 6) (hx : x.toNat = 13) :
    Calls Tryz.prog 149 #[ckV c, .int .u8 (x.toNat : Int)] w fun e w' => e = .returned (ckV (eat1 c x)) ∧ Below w.heap.size w w' := by
  have he : eat1 c x = ⟨7, c.lf, c.dg, c.bd⟩ := eat_6 hs hx
  rw [he]
  clear he
  unfold ckV
  have hx' : (x.toNat : Int) = 13 := by omega
  clear hx
  go_enter Tryz.func149, Tryz.ntmps149
  go_wp2
  refine bodyPost_ret (v := .agg #[.int .i64 (7), .int .i64 (c.lf), .string (c.dg), .string (c.bd)]) (by simp [results, Tryz.results149, go_sem]) rfl ⟨rfl, ?_⟩
  repeat (first | exact Below.refl _ _ | refine Below.alloc ?_ (by simp <;> omega) _ | refine Below.setCell ?_ (by simp <;> omega) _)
set_option maxRecDepth 100000 in
set_option maxHeartbeats 1000000 in
theorem sEat_6n (c : Ck) (x : UInt8) (w : World) (hb : c.bd.size ≤ 100000000) (hd : c.dg.size ≤ 100000000) (hl : 0 ≤ c.lf ∧ c.lf ≤ 4000) (hs : c.st = 6) (hx : x.toNat ≠ 13) :
    Calls Tryz.prog 149 #[ckV c, .int .u8 (x.toNat : Int)] w fun e w' => e = .returned (ckV (eat1 c x)) ∧ Below w.heap.size w w' := by
  have he : eat1 c x = ⟨9, 0, ⟨#[]⟩, c.bd⟩ := eat_6' hs hx
  rw [he]
  clear he
  unfold ckV
  have hx' : ¬ (x.toNat : Int) = 13 := by omega
  clear hx
  go_enter Tryz.func149, Tryz.ntmps149
  go_wp2
  refine bodyPost_ret (v := .agg #[.int .i64 (9), .int .i64 (0), .string (⟨#[]⟩), .string (c.bd)]) (by simp [results, Tryz.results149, go_sem]) rfl ⟨rfl, ?_⟩
  repeat (first | exact Below.refl _ _ | refine Below.alloc ?_ (by simp <;> omega) _ | refine Below.setCell ?_ (by simp <;> omega) _)
set_option maxRecDepth 100000 in
set_option maxHeartbeats 1000000 in
theorem sEat_7y (c : Ck) (x : UInt8) (w : World) (hb : c.bd.size ≤ 100000000) (hd : c.dg.size ≤ 100000000) (hl : 0 ≤ c.lf ∧ c.lf ≤ 4000) (hs : c.st = 7) (hx : x.toNat = 10) :
    Calls Tryz.prog 149 #[ckV c, .int .u8 (x.toNat : Int)] w fun e w' => e = .returned (ckV (eat1 c x)) ∧ Below w.heap.size w w' := by
  have he : eat1 c x = ⟨8, c.lf, c.dg, c.bd⟩ := eat_7 hs hx
  rw [he]
  clear he
  unfold ckV
  have hx' : (x.toNat : Int) = 10 := by omega
  clear hx
  go_enter Tryz.func149, Tryz.ntmps149
  go_wp2
  refine bodyPost_ret (v := .agg #[.int .i64 (8), .int .i64 (c.lf), .string (c.dg), .string (c.bd)]) (by simp [results, Tryz.results149, go_sem]) rfl ⟨rfl, ?_⟩
  repeat (first | exact Below.refl _ _ | refine Below.alloc ?_ (by simp <;> omega) _ | refine Below.setCell ?_ (by simp <;> omega) _)
set_option maxRecDepth 100000 in
set_option maxHeartbeats 1000000 in
theorem sEat_7n (c : Ck) (x : UInt8) (w : World) (hb : c.bd.size ≤ 100000000) (hd : c.dg.size ≤ 100000000) (hl : 0 ≤ c.lf ∧ c.lf ≤ 4000) (hs : c.st = 7) (hx : x.toNat ≠ 10) :
    Calls Tryz.prog 149 #[ckV c, .int .u8 (x.toNat : Int)] w fun e w' => e = .returned (ckV (eat1 c x)) ∧ Below w.heap.size w w' := by
  have he : eat1 c x = ⟨9, 0, ⟨#[]⟩, c.bd⟩ := eat_7' hs hx
  rw [he]
  clear he
  unfold ckV
  have hx' : ¬ (x.toNat : Int) = 10 := by omega
  clear hx
  go_enter Tryz.func149, Tryz.ntmps149
  go_wp2
  refine bodyPost_ret (v := .agg #[.int .i64 (9), .int .i64 (0), .string (⟨#[]⟩), .string (c.bd)]) (by simp [results, Tryz.results149, go_sem]) rfl ⟨rfl, ?_⟩
  repeat (first | exact Below.refl _ _ | refine Below.alloc ?_ (by simp <;> omega) _ | refine Below.setCell ?_ (by simp <;> omega) _)
set_option maxRecDepth 100000 in
set_option maxHeartbeats 1000000 in
theorem sEat_2n (c : Ck) (x : UInt8) (w : World) (hb : c.bd.size ≤ 100000000) (hd : c.dg.size ≤ 100000000) (hl : 0 ≤ c.lf ∧ c.lf ≤ 4000) (hs : c.st = 2) (hx : x.toNat ≠ 10) :
    Calls Tryz.prog 149 #[ckV c, .int .u8 (x.toNat : Int)] w fun e w' => e = .returned (ckV (eat1 c x)) ∧ Below w.heap.size w w' := by
  have he : eat1 c x = ⟨9, 0, ⟨#[]⟩, c.bd⟩ := eat_2' hs hx
  rw [he]
  clear he
  unfold ckV
  have hx' : ¬ (x.toNat : Int) = 10 := by omega
  clear hx
  go_enter Tryz.func149, Tryz.ntmps149
  go_wp2
  refine bodyPost_ret (v := .agg #[.int .i64 (9), .int .i64 (0), .string (⟨#[]⟩), .string (c.bd)]) (by simp [results, Tryz.results149, go_sem]) rfl ⟨rfl, ?_⟩
  repeat (first | exact Below.refl _ _ | refine Below.alloc ?_ (by simp <;> omega) _ | refine Below.setCell ?_ (by simp <;> omega) _)
set_option maxRecDepth 100000 in
set_option maxHeartbeats 1000000 in
theorem sEat_2y0 (c : Ck) (x : UInt8) (w : World) (hb : c.bd.size ≤ 100000000) (hd : c.dg.size ≤ 100000000) (hl : 0 ≤ c.lf ∧ c.lf ≤ 4000) (hs : c.st = 2) (hx : x.toNat = 10) (h0 : c.lf = 0) :
    Calls Tryz.prog 149 #[ckV c, .int .u8 (x.toNat : Int)] w fun e w' => e = .returned (ckV (eat1 c x)) ∧ Below w.heap.size w w' := by
  have he : eat1 c x = ⟨6, 0, c.dg, c.bd⟩ := by rw [eat_2 hs hx, if_pos h0, h0]
  rw [he]
  clear he
  unfold ckV
  have hx' : (x.toNat : Int) = 10 := by omega
  clear hx hl
  go_enter Tryz.func149, Tryz.ntmps149
  go_wp2
  refine bodyPost_ret (v := .agg #[.int .i64 (6), .int .i64 (0), .string (c.dg), .string (c.bd)]) (by simp [results, Tryz.results149, go_sem]) rfl ⟨rfl, ?_⟩
  repeat (first | exact Below.refl _ _ | refine Below.alloc ?_ (by simp <;> omega) _ | refine Below.setCell ?_ (by simp <;> omega) _)
set_option maxRecDepth 100000 in
set_option maxHeartbeats 1000000 in
theorem sEat_2y1 (c : Ck) (x : UInt8) (w : World) (hb : c.bd.size ≤ 100000000) (hd : c.dg.size ≤ 100000000) (hl : 0 ≤ c.lf ∧ c.lf ≤ 4000) (hs : c.st = 2) (hx : x.toNat = 10) (h0 : ¬ c.lf = 0) :
    Calls Tryz.prog 149 #[ckV c, .int .u8 (x.toNat : Int)] w fun e w' => e = .returned (ckV (eat1 c x)) ∧ Below w.heap.size w w' := by
  have he : eat1 c x = ⟨3, c.lf, c.dg, c.bd⟩ := by rw [eat_2 hs hx, if_neg h0]
  rw [he]
  clear he
  unfold ckV
  have hx' : (x.toNat : Int) = 10 := by omega
  clear hx
  go_enter Tryz.func149, Tryz.ntmps149
  go_wp2
  refine bodyPost_ret (v := .agg #[.int .i64 (3), .int .i64 (c.lf), .string (c.dg), .string (c.bd)]) (by simp [results, Tryz.results149, go_sem]) rfl ⟨rfl, ?_⟩
  repeat (first | exact Below.refl _ _ | refine Below.alloc ?_ (by simp <;> omega) _ | refine Below.setCell ?_ (by simp <;> omega) _)
set_option maxRecDepth 100000 in
set_option maxHeartbeats 1000000 in
theorem sEat_3a (c : Ck) (x : UInt8) (w : World) (hb : c.bd.size ≤ 100000000) (hd : c.dg.size ≤ 100000000) (hl : 0 ≤ c.lf ∧ c.lf ≤ 4000) (hs : c.st = 3) (h0 : c.lf = 1) :
    Calls Tryz.prog 149 #[ckV c, .int .u8 (x.toNat : Int)] w fun e w' => e = .returned (ckV (eat1 c x)) ∧ Below w.heap.size w w' := by
  have he : eat1 c x = ⟨4, 0, c.dg, c.bd ++ ⟨#[x]⟩⟩ := by rw [eat_3 hs, if_pos h0, h0]; rfl
  rw [he]
  clear he
  unfold ckV
  have hcv : ∀ w : World, (convert 22 9 (.slice (some ⟨w.heap.size, 0, none⟩) 1 1)).run Tryz.prog (w.alloc (.cells #[.int .u8 (x.toNat : Int)] 5)) = .ok (.string ⟨#[x]⟩) (w.alloc (.cells #[.int .u8 (x.toNat : Int)] 5)) := fun w => byte_text5 w _ x rfl
  have hcv2 := hcv (((w.alloc (.cells #[.int .i64 3, .int .i64 1, .string c.dg, .string c.bd] 137)).alloc (.cells #[.int .i64 0, .int .i64 0, .string ⟨#[]⟩, .string ⟨#[]⟩] 137)).alloc (.cells #[.int .i64 9, .int .i64 0, .string ⟨#[]⟩, .string c.bd] 137))
  rw [show (((w.alloc (.cells #[.int .i64 3, .int .i64 1, .string c.dg, .string c.bd] 137)).alloc (.cells #[.int .i64 0, .int .i64 0, .string ⟨#[]⟩, .string ⟨#[]⟩] 137)).alloc (.cells #[.int .i64 9, .int .i64 0, .string ⟨#[]⟩, .string c.bd] 137)).heap.size = w.heap.size + 1 + 1 + 1 by simp] at hcv2
  clear hcv
  clear hl
  go_enter Tryz.func149, Tryz.ntmps149
  go_wp2
  refine bodyPost_ret (v := .agg #[.int .i64 (4), .int .i64 (0), .string (c.dg), .string (c.bd ++ ⟨#[x]⟩)]) (by simp [results, Tryz.results149, go_sem]) rfl ⟨rfl, ?_⟩
  repeat (first | exact Below.refl _ _ | refine Below.alloc ?_ (by simp <;> omega) _ | refine Below.setCell ?_ (by simp <;> omega) _)
set_option maxRecDepth 100000 in
set_option maxHeartbeats 1000000 in
theorem sEat_3b (c : Ck) (x : UInt8) (w : World) (hb : c.bd.size ≤ 100000000) (hd : c.dg.size ≤ 100000000) (hl : 0 ≤ c.lf ∧ c.lf ≤ 4000) (hs : c.st = 3) (h0 : ¬ c.lf = 1) :
    Calls Tryz.prog 149 #[ckV c, .int .u8 (x.toNat : Int)] w fun e w' => e = .returned (ckV (eat1 c x)) ∧ Below w.heap.size w w' := by
  have he : eat1 c x = ⟨3, c.lf - 1, c.dg, c.bd ++ ⟨#[x]⟩⟩ := by rw [eat_3 hs, if_neg h0]
  rw [he]
  clear he
  unfold ckV
  have hcv : ∀ w : World, (convert 22 9 (.slice (some ⟨w.heap.size, 0, none⟩) 1 1)).run Tryz.prog (w.alloc (.cells #[.int .u8 (x.toNat : Int)] 5)) = .ok (.string ⟨#[x]⟩) (w.alloc (.cells #[.int .u8 (x.toNat : Int)] 5)) := fun w => byte_text5 w _ x rfl
  have hcv2 := hcv (((w.alloc (.cells #[.int .i64 3, .int .i64 c.lf, .string c.dg, .string c.bd] 137)).alloc (.cells #[.int .i64 0, .int .i64 0, .string ⟨#[]⟩, .string ⟨#[]⟩] 137)).alloc (.cells #[.int .i64 9, .int .i64 0, .string ⟨#[]⟩, .string c.bd] 137))
  rw [show (((w.alloc (.cells #[.int .i64 3, .int .i64 c.lf, .string c.dg, .string c.bd] 137)).alloc (.cells #[.int .i64 0, .int .i64 0, .string ⟨#[]⟩, .string ⟨#[]⟩] 137)).alloc (.cells #[.int .i64 9, .int .i64 0, .string ⟨#[]⟩, .string c.bd] 137)).heap.size = w.heap.size + 1 + 1 + 1 by simp] at hcv2
  clear hcv
  have hwr : IntKind.i64.wrap (c.lf - 1) = c.lf - 1 := by rw [IntKind.wrap_i64]; omega
  have h0' : ¬ c.lf - 1 = 0 := by omega
  go_enter Tryz.func149, Tryz.ntmps149
  go_wp2
  refine bodyPost_ret (v := .agg #[.int .i64 (3), .int .i64 (c.lf - 1), .string (c.dg), .string (c.bd ++ ⟨#[x]⟩)]) (by simp [results, Tryz.results149, go_sem]) rfl ⟨rfl, ?_⟩
  repeat (first | exact Below.refl _ _ | refine Below.alloc ?_ (by simp <;> omega) _ | refine Below.setCell ?_ (by simp <;> omega) _)
set_option maxRecDepth 100000 in
set_option maxHeartbeats 1000000 in
theorem sEat_1a (c : Ck) (x : UInt8) (w : World) (hb : c.bd.size ≤ 100000000) (hd : c.dg.size ≤ 100000000) (hl : 0 ≤ c.lf ∧ c.lf ≤ 4000) (hs : c.st = 1) (h0 : 0 ≤ digV (x.toNat : Int)) (h1 : c.dg.size < 13) :
    Calls Tryz.prog 149 #[ckV c, .int .u8 (x.toNat : Int)] w fun e w' => e = .returned (ckV (eat1 c x)) ∧ Below w.heap.size w w' := by
  have he : eat1 c x = ⟨1, c.lf, c.dg ++ ⟨#[x]⟩, c.bd⟩ := eat_digit hs h0 h1
  rw [he]
  clear he
  unfold ckV
  have hcv : ∀ w : World, (convert 22 9 (.slice (some ⟨w.heap.size, 0, none⟩) 1 1)).run Tryz.prog (w.alloc (.cells #[.int .u8 (x.toNat : Int)] 5)) = .ok (.string ⟨#[x]⟩) (w.alloc (.cells #[.int .u8 (x.toNat : Int)] 5)) := fun w => byte_text5 w _ x rfl
  have hcv2 := hcv (((w.alloc (.cells #[.int .i64 1, .int .i64 c.lf, .string c.dg, .string c.bd] 137)).alloc (.cells #[.int .i64 0, .int .i64 0, .string ⟨#[]⟩, .string ⟨#[]⟩] 137)).alloc (.cells #[.int .i64 9, .int .i64 0, .string ⟨#[]⟩, .string c.bd] 137))
  rw [show (((w.alloc (.cells #[.int .i64 1, .int .i64 c.lf, .string c.dg, .string c.bd] 137)).alloc (.cells #[.int .i64 0, .int .i64 0, .string ⟨#[]⟩, .string ⟨#[]⟩] 137)).alloc (.cells #[.int .i64 9, .int .i64 0, .string ⟨#[]⟩, .string c.bd] 137)).heap.size = w.heap.size + 1 + 1 + 1 by simp] at hcv2
  clear hcv
  go_enter Tryz.func149, Tryz.ntmps149
  go_wp2_with (go_at_call 166; refine (specHexV _ _).mono ?_; rintro e w' ⟨rfl, hw'⟩; obtain rfl := hw'.symm; clear hw')
  refine bodyPost_ret (v := .agg #[.int .i64 (1), .int .i64 (c.lf), .string (c.dg ++ ⟨#[x]⟩), .string (c.bd)]) (by simp [results, Tryz.results149, go_sem]) rfl ⟨rfl, ?_⟩
  repeat (first | exact Below.refl _ _ | refine Below.alloc ?_ (by simp <;> omega) _ | refine Below.setCell ?_ (by simp <;> omega) _)
end Go.Proofs.YtmgmphkncgochaaGreatDoor
namespace Go.Proofs.YtmgmphkncgochaaGreatDoor
open Go.RowKit

set_option maxHeartbeats 1000000 in
set_option linter.unusedVariables false in
theorem sEat_1 (c : Ck) (x : UInt8) (w : World) (hb : c.bd.size ≤ 100000000) (hd : c.dg.size ≤ 100000000) (hs : c.st = 1) (hno : ¬ (0 ≤ digV (x.toNat : Int) ∧ c.dg.size < 13)) (d : Ck) (hd5 : eat1 c x = d) :
    Calls Tryz.prog 149 #[ckV c, .int .u8 (x.toNat : Int)] w fun e w' => e = .returned (ckV (eat1 c x)) ∧ Below w.heap.size w w' := by
  have hF1 : Hid (Four (((w.alloc (.cells #[.int .i64 1, .int .i64 c.lf, .string c.dg, .string c.bd] 137)).alloc (.cells #[.int .i64 0, .int .i64 0, .string ⟨#[]⟩, .string ⟨#[]⟩] 137)).alloc (.cells #[.int .i64 9, .int .i64 0, .string ⟨#[]⟩, .string c.bd] 137)) w.heap.size ⟨1, c.lf, c.dg, c.bd⟩) := ((Four.new w ⟨1, c.lf, c.dg, c.bd⟩).alloc _).alloc _
  have hF2 : Hid (Four (((w.alloc (.cells #[.int .i64 1, .int .i64 c.lf, .string c.dg, .string c.bd] 137)).alloc (.cells #[.int .i64 0, .int .i64 0, .string ⟨#[]⟩, .string ⟨#[]⟩] 137)).alloc (.cells #[.int .i64 9, .int .i64 0, .string ⟨#[]⟩, .string c.bd] 137)) (w.heap.size + 1) zeroC) := by
    have := (Four.new (w.alloc (.cells #[.int .i64 1, .int .i64 c.lf, .string c.dg, .string c.bd] 137)) zeroC).alloc (.cells #[.int .i64 9, .int .i64 0, .string ⟨#[]⟩, .string c.bd] 137)
    rw [show (w.alloc (.cells #[.int .i64 1, .int .i64 c.lf, .string c.dg, .string c.bd] 137)).heap.size = w.heap.size + 1 by simp] at this
    exact this
  have hF3 : Hid (Four (((w.alloc (.cells #[.int .i64 1, .int .i64 c.lf, .string c.dg, .string c.bd] 137)).alloc (.cells #[.int .i64 0, .int .i64 0, .string ⟨#[]⟩, .string ⟨#[]⟩] 137)).alloc (.cells #[.int .i64 9, .int .i64 0, .string ⟨#[]⟩, .string c.bd] 137)) (w.heap.size + 1 + 1) ⟨9, 0, ⟨#[]⟩, c.bd⟩) := by
    have := Four.new ((w.alloc (.cells #[.int .i64 1, .int .i64 c.lf, .string c.dg, .string c.bd] 137)).alloc (.cells #[.int .i64 0, .int .i64 0, .string ⟨#[]⟩, .string ⟨#[]⟩] 137)) ⟨9, 0, ⟨#[]⟩, c.bd⟩
    rw [show ((w.alloc (.cells #[.int .i64 1, .int .i64 c.lf, .string c.dg, .string c.bd] 137)).alloc (.cells #[.int .i64 0, .int .i64 0, .string ⟨#[]⟩, .string ⟨#[]⟩] 137)).heap.size = w.heap.size + 1 + 1 by simp] at this
    exact this
  have hB0 : Hid (Below w.heap.size w (((w.alloc (.cells #[.int .i64 1, .int .i64 c.lf, .string c.dg, .string c.bd] 137)).alloc (.cells #[.int .i64 0, .int .i64 0, .string ⟨#[]⟩, .string ⟨#[]⟩] 137)).alloc (.cells #[.int .i64 9, .int .i64 0, .string ⟨#[]⟩, .string c.bd] 137))) := (((Below.refl _ w).alloc (Nat.le_refl _) _).alloc (by simp) _).alloc (by simp <;> omega) _
  have hx := specHexD c.dg (((w.alloc (.cells #[.int .i64 1, .int .i64 c.lf, .string c.dg, .string c.bd] 137)).alloc (.cells #[.int .i64 0, .int .i64 0, .string ⟨#[]⟩, .string ⟨#[]⟩] 137)).alloc (.cells #[.int .i64 9, .int .i64 0, .string ⟨#[]⟩, .string c.bd] 137)) (by unfold maxLen; omega)
  unfold numE at hx
  have hn0 := num_bd (s := c.dg)
  unfold ckV
  have hno' : digV (x.toNat : Int) < 0 ∨ ¬ c.dg.size < 13 := by omega
  by_cases hgood : x.toNat = 13 ∧ numOk 16 13 c.dg = true ∧ numV 16 13 c.dg + (c.bd.size : Int) ≤ 4000
  · obtain ⟨g1, g2, g3⟩ := hgood
    rw [eat_size hs g1 g2 g3]
    rw [g2] at hx
    have g1' : (x.toNat : Int) = 13 := by omega
    have hdv : digV 13 = -1 := by decide
    generalize numV 16 13 c.dg = n at hx g3 hn0 ⊢
    have g3' : ¬ 4000 - (c.bd.size : Int) < n := by omega
    clear hd5 hno hno' g1
    go_enter Tryz.func149, Tryz.ntmps149
    go_wp2_with (first
      | (go_at_call 166; refine (specHexV _ _).mono ?_; rintro e w' ⟨rfl, hw'⟩; obtain rfl := hw'.symm; clear hw')
      | (go_at_call 167; refine hx.mono ?_; rintro e w1 ⟨rfl, hb1⟩; have q1 := hF1.out.kept hb1 hF1.out.hi; have q2 := hF2.out.kept hb1 hF2.out.hi; have HB : Hid (Below w.heap.size w w1) := hB0.out.trans (hb1.mono hB0.out.size); have a0 := q1.c0; have a1 := q1.c1; have a2 := q1.c2; have a3 := q1.c3; have r0 := q2.c0; have r1 := q2.c1; have r2 := q2.c2; have r3 := q2.c3; have rf := q2.fz; have F : Hid _ := q2.put ⟨2, n, ⟨#[]⟩, c.bd⟩; clear q1 q2 hb1))
    refine bodyPost_ret (v := .agg #[.int .i64 2, .int .i64 n, .string ⟨#[]⟩, .string c.bd]) (by simp [results, Tryz.results149, go_sem, r0, r1, r2, r3]) rfl ⟨rfl, ?_⟩
    repeat (first | exact HB.out | refine Below.alloc ?_ (by simp <;> omega) _ | refine Below.setCell ?_ (by simp <;> omega) _)
  · rw [eat_nosize hs hno hgood]
    show Calls _ _ _ _ fun e w' => e = .returned (.agg #[.int .i64 9, .int .i64 0, .string ⟨#[]⟩, .string c.bd]) ∧ _
    clear hd5
    generalize hok : numOk 16 13 c.dg = ok at hx hgood
    generalize hnn : numV 16 13 c.dg = n at hx hgood hn0
    have hbad : x.toNat = 13 → ok = true → 4000 - (c.bd.size : Int) < n := by
      intro a b
      rcases Int.lt_or_le (4000 - (c.bd.size : Int)) n with h | h
      · exact h
      · exact absurd ⟨a, b, by omega⟩ hgood
    clear hgood
    by_cases g1 : x.toNat = 13
    · have g1' : (x.toNat : Int) = 13 := by omega
      have hdv : digV 13 = -1 := by decide
      cases ok with
      | true =>
        have g3 := hbad g1 rfl
        clear hbad hno hno' g1 hok hnn
        go_enter Tryz.func149, Tryz.ntmps149
        go_wp2_with (first
          | (go_at_call 166; refine (specHexV _ _).mono ?_; rintro e w' ⟨rfl, hw'⟩; obtain rfl := hw'.symm; clear hw')
          | (go_at_call 167; refine hx.mono ?_; rintro e w1 ⟨rfl, hb1⟩; have q1 := hF1.out.kept hb1 hF1.out.hi; have q2 := hF2.out.kept hb1 hF2.out.hi; have q3 := hF3.out.kept hb1 hF3.out.hi; have HB : Hid (Below w.heap.size w w1) := hB0.out.trans (hb1.mono hB0.out.size); have a3 := q1.c3; have r0 := q2.c0; have r1 := q2.c1; have r2 := q2.c2; have r3 := q2.c3; have rf := q2.fz; have b0 := q3.c0; have b1 := q3.c1; have b2 := q3.c2; have b3 := q3.c3; clear q1 q2 q3 hb1))
        refine bodyPost_ret (v := .agg #[.int .i64 9, .int .i64 0, .string ⟨#[]⟩, .string c.bd]) (by simp [results, Tryz.results149, go_sem, r0, r1, r2, r3]) rfl ⟨rfl, ?_⟩
        repeat (first | exact HB.out | refine Below.alloc ?_ (by simp <;> omega) _ | refine Below.setCell ?_ (by simp <;> omega) _)
      | false =>
        clear hbad hno hno' g1 hok hnn
        go_enter Tryz.func149, Tryz.ntmps149
        go_wp2_with (first
          | (go_at_call 166; refine (specHexV _ _).mono ?_; rintro e w' ⟨rfl, hw'⟩; obtain rfl := hw'.symm; clear hw')
          | (go_at_call 167; refine hx.mono ?_; rintro e w1 ⟨rfl, hb1⟩; have q1 := hF1.out.kept hb1 hF1.out.hi; have q2 := hF2.out.kept hb1 hF2.out.hi; have q3 := hF3.out.kept hb1 hF3.out.hi; have HB : Hid (Below w.heap.size w w1) := hB0.out.trans (hb1.mono hB0.out.size); have a3 := q1.c3; have r0 := q2.c0; have r1 := q2.c1; have r2 := q2.c2; have r3 := q2.c3; have rf := q2.fz; have b0 := q3.c0; have b1 := q3.c1; have b2 := q3.c2; have b3 := q3.c3; clear q1 q2 q3 hb1))
        refine bodyPost_ret (v := .agg #[.int .i64 9, .int .i64 0, .string ⟨#[]⟩, .string c.bd]) (by simp [results, Tryz.results149, go_sem, r0, r1, r2, r3]) rfl ⟨rfl, ?_⟩
        repeat (first | exact HB.out | refine Below.alloc ?_ (by simp <;> omega) _ | refine Below.setCell ?_ (by simp <;> omega) _)
    · have g1' : ¬ (x.toNat : Int) = 13 := by omega
      rcases hno' with hno' | hno'
      · have hno2 : ¬ 0 ≤ digV (x.toNat : Int) := by omega
        clear hbad hno g1 hok hnn
        go_enter Tryz.func149, Tryz.ntmps149
        go_wp2_with (first
          | (go_at_call 166; refine (specHexV _ _).mono ?_; rintro e w' ⟨rfl, hw'⟩; obtain rfl := hw'.symm; clear hw')
          | (go_at_call 167; refine hx.mono ?_; rintro e w1 ⟨rfl, hb1⟩; have q1 := hF1.out.kept hb1 hF1.out.hi; have q2 := hF2.out.kept hb1 hF2.out.hi; have q3 := hF3.out.kept hb1 hF3.out.hi; have HB : Hid (Below w.heap.size w w1) := hB0.out.trans (hb1.mono hB0.out.size); have a3 := q1.c3; have r0 := q2.c0; have r1 := q2.c1; have r2 := q2.c2; have r3 := q2.c3; have rf := q2.fz; have b0 := q3.c0; have b1 := q3.c1; have b2 := q3.c2; have b3 := q3.c3; clear q1 q2 q3 hb1))
        refine bodyPost_ret (v := .agg #[.int .i64 9, .int .i64 0, .string ⟨#[]⟩, .string c.bd]) (by simp [results, Tryz.results149, go_sem, r0, r1, r2, r3]) rfl ⟨rfl, ?_⟩
        repeat (first | exact HB.out | refine Below.alloc ?_ (by simp <;> omega) _ | refine Below.setCell ?_ (by simp <;> omega) _)
      · by_cases hv : 0 ≤ digV (x.toNat : Int)
        · clear hbad hno g1 hok hnn
          go_enter Tryz.func149, Tryz.ntmps149
          go_wp2_with (first
            | (go_at_call 166; refine (specHexV _ _).mono ?_; rintro e w' ⟨rfl, hw'⟩; obtain rfl := hw'.symm; clear hw')
            | (go_at_call 167; refine hx.mono ?_; rintro e w1 ⟨rfl, hb1⟩; have q1 := hF1.out.kept hb1 hF1.out.hi; have q2 := hF2.out.kept hb1 hF2.out.hi; have q3 := hF3.out.kept hb1 hF3.out.hi; have HB : Hid (Below w.heap.size w w1) := hB0.out.trans (hb1.mono hB0.out.size); have a3 := q1.c3; have r0 := q2.c0; have r1 := q2.c1; have r2 := q2.c2; have r3 := q2.c3; have rf := q2.fz; have b0 := q3.c0; have b1 := q3.c1; have b2 := q3.c2; have b3 := q3.c3; clear q1 q2 q3 hb1))
          refine bodyPost_ret (v := .agg #[.int .i64 9, .int .i64 0, .string ⟨#[]⟩, .string c.bd]) (by simp [results, Tryz.results149, go_sem, r0, r1, r2, r3]) rfl ⟨rfl, ?_⟩
          repeat (first | exact HB.out | refine Below.alloc ?_ (by simp <;> omega) _ | refine Below.setCell ?_ (by simp <;> omega) _)
        · clear hbad hno g1 hok hnn
          go_enter Tryz.func149, Tryz.ntmps149
          go_wp2_with (first
            | (go_at_call 166; refine (specHexV _ _).mono ?_; rintro e w' ⟨rfl, hw'⟩; obtain rfl := hw'.symm; clear hw')
            | (go_at_call 167; refine hx.mono ?_; rintro e w1 ⟨rfl, hb1⟩; have q1 := hF1.out.kept hb1 hF1.out.hi; have q2 := hF2.out.kept hb1 hF2.out.hi; have q3 := hF3.out.kept hb1 hF3.out.hi; have HB : Hid (Below w.heap.size w w1) := hB0.out.trans (hb1.mono hB0.out.size); have a3 := q1.c3; have r0 := q2.c0; have r1 := q2.c1; have r2 := q2.c2; have r3 := q2.c3; have rf := q2.fz; have b0 := q3.c0; have b1 := q3.c1; have b2 := q3.c2; have b3 := q3.c3; clear q1 q2 q3 hb1))
          refine bodyPost_ret (v := .agg #[.int .i64 9, .int .i64 0, .string ⟨#[]⟩, .string c.bd]) (by simp [results, Tryz.results149, go_sem, r0, r1, r2, r3]) rfl ⟨rfl, ?_⟩
          repeat (first | exact HB.out | refine Below.alloc ?_ (by simp <;> omega) _ | refine Below.setCell ?_ (by simp <;> omega) _)

theorem specEat1 (c : Ck) (x : UInt8) (w : World) (hok : okP c) :
    Calls Tryz.prog 149 #[ckV c, .int .u8 (x.toNat : Int)] w fun e w' => e = .returned (ckV (eat1 c x)) ∧ Below w.heap.size w w' := by
  obtain ⟨⟨a1, a2⟩, hl, d1, e1, f1, g1, g2, g3, g4⟩ := hok
  have hb : c.bd.size ≤ 100000000 := by omega
  have hd : c.dg.size ≤ 100000000 := by omega
  rcases (show c.st = 1 ∨ c.st = 2 ∨ c.st = 3 ∨ c.st = 4 ∨ c.st = 5 ∨ c.st = 6 ∨ c.st = 7 ∨ c.st = 8 ∨ c.st = 9 by omega) with k | k | k | k | k | k | k | k | k
  · by_cases h : 0 ≤ digV (x.toNat : Int) ∧ c.dg.size < 13
    · exact sEat_1a c x w hb hd hl k h.1 h.2
    · exact sEat_1 c x w hb hd k h _ rfl
  · by_cases h : x.toNat = 10
    · by_cases h0 : c.lf = 0
      · exact sEat_2y0 c x w hb hd hl k h h0
      · exact sEat_2y1 c x w hb hd hl k h h0
    · exact sEat_2n c x w hb hd hl k h
  · by_cases h0 : c.lf = 1
    · exact sEat_3a c x w hb hd hl k h0
    · exact sEat_3b c x w hb hd hl k h0
  · by_cases h : x.toNat = 13
    · exact sEat_4y c x w hb hd hl k h
    · exact sEat_4n c x w hb hd hl k h
  · by_cases h : x.toNat = 10
    · exact sEat_5y c x w hb hd hl k h
    · exact sEat_5n c x w hb hd hl k h
  · by_cases h : x.toNat = 13
    · exact sEat_6y c x w hb hd hl k h
    · exact sEat_6n c x w hb hd hl k h
  · by_cases h : x.toNat = 10
    · exact sEat_7y c x w hb hd hl k h
    · exact sEat_7n c x w hb hd hl k h
  · exact sEat_8 c x w hb hd hl k
  · exact sEat_9 c x w hb hd hl k
end Go.Proofs.YtmgmphkncgochaaGreatDoor
