/-
  The specification's eating of one byte, by its contract.
-/
import Derived.Test.YtbdnfajdpajfpaaChkS
namespace Go.Proofs.Ytbdnfajdpajfpaa
open Go.RowKit
set_option linter.unusedVariables false

theorem ck_eta (c : Ck) {s : Int} (h : c.st = s) : c = ⟨s, c.lf, c.dg, c.bd⟩ := by cases c; simp at h; subst h; rfl
set_option maxHeartbeats 1000000 in
theorem sEat_8 (c : Ck) (x : UInt8) (w : World) (hb : c.bd.size ≤ 100000000) (hd : c.dg.size ≤ 100000000) (hl : 0 ≤ c.lf ∧ c.lf ≤ 4000) (hs : c.st = 8) :
    Calls Try.prog 26 #[ckV c, .int .u8 (x.toNat : Int)] w fun e w' => e = .returned (ckV (eat1 c x)) ∧ Below w.heap.size w w' := by
  have he : eat1 c x = ⟨8, c.lf, c.dg, c.bd⟩ := (eat_end (by omega)).trans (ck_eta c hs)
  rw [he]
  clear he
  unfold ckV
  go_enter Try.func26, Try.ntmps26
  go_wp2
  refine bodyPost_ret (v := .agg #[.int .i64 (8), .int .i64 (c.lf), .string (c.dg), .string (c.bd)]) (by simp [results, Try.results26, go_sem]) rfl ⟨rfl, ?_⟩
  repeat (first | exact Below.refl _ _ | refine Below.alloc ?_ (by simp <;> omega) _ | refine Below.setCell ?_ (by simp <;> omega) _)
set_option maxHeartbeats 1000000 in
theorem sEat_9 (c : Ck) (x : UInt8) (w : World) (hb : c.bd.size ≤ 100000000) (hd : c.dg.size ≤ 100000000) (hl : 0 ≤ c.lf ∧ c.lf ≤ 4000) (hs : c.st = 9) :
    Calls Try.prog 26 #[ckV c, .int .u8 (x.toNat : Int)] w fun e w' => e = .returned (ckV (eat1 c x)) ∧ Below w.heap.size w w' := by
  have he : eat1 c x = ⟨9, c.lf, c.dg, c.bd⟩ := (eat_end (by omega)).trans (ck_eta c hs)
  rw [he]
  clear he
  unfold ckV
  go_enter Try.func26, Try.ntmps26
  go_wp2
  refine bodyPost_ret (v := .agg #[.int .i64 (9), .int .i64 (c.lf), .string (c.dg), .string (c.bd)]) (by simp [results, Try.results26, go_sem]) rfl ⟨rfl, ?_⟩
  repeat (first | exact Below.refl _ _ | refine Below.alloc ?_ (by simp <;> omega) _ | refine Below.setCell ?_ (by simp <;> omega) _)
set_option maxHeartbeats 1000000 in
theorem sEat_4y (c : Ck) (x : UInt8) (w : World) (hb : c.bd.size ≤ 100000000) (hd : c.dg.size ≤ 100000000) (hl : 0 ≤ c.lf ∧ c.lf ≤ 4000) (hs : c.st = 4) (hx : x.toNat = 13) :
    Calls Try.prog 26 #[ckV c, .int .u8 (x.toNat : Int)] w fun e w' => e = .returned (ckV (eat1 c x)) ∧ Below w.heap.size w w' := by
  have he : eat1 c x = ⟨5, c.lf, c.dg, c.bd⟩ := eat_4 hs hx
  rw [he]
  clear he
  unfold ckV
  have hx' : (x.toNat : Int) = 13 := by omega
  clear hx
  go_enter Try.func26, Try.ntmps26
  go_wp2
  refine bodyPost_ret (v := .agg #[.int .i64 (5), .int .i64 (c.lf), .string (c.dg), .string (c.bd)]) (by simp [results, Try.results26, go_sem]) rfl ⟨rfl, ?_⟩
  repeat (first | exact Below.refl _ _ | refine Below.alloc ?_ (by simp <;> omega) _ | refine Below.setCell ?_ (by simp <;> omega) _)
set_option maxHeartbeats 1000000 in
theorem sEat_4n (c : Ck) (x : UInt8) (w : World) (hb : c.bd.size ≤ 100000000) (hd : c.dg.size ≤ 100000000) (hl : 0 ≤ c.lf ∧ c.lf ≤ 4000) (hs : c.st = 4) (hx : x.toNat ≠ 13) :
    Calls Try.prog 26 #[ckV c, .int .u8 (x.toNat : Int)] w fun e w' => e = .returned (ckV (eat1 c x)) ∧ Below w.heap.size w w' := by
  have he : eat1 c x = ⟨9, 0, ⟨#[]⟩, c.bd⟩ := eat_4' hs hx
  rw [he]
  clear he
  unfold ckV
  have hx' : ¬ (x.toNat : Int) = 13 := by omega
  clear hx
  go_enter Try.func26, Try.ntmps26
  go_wp2
  refine bodyPost_ret (v := .agg #[.int .i64 (9), .int .i64 (0), .string (⟨#[]⟩), .string (c.bd)]) (by simp [results, Try.results26, go_sem]) rfl ⟨rfl, ?_⟩
  repeat (first | exact Below.refl _ _ | refine Below.alloc ?_ (by simp <;> omega) _ | refine Below.setCell ?_ (by simp <;> omega) _)
set_option maxHeartbeats 1000000 in
theorem sEat_5y (c : Ck) (x : UInt8) (w : World) (hb : c.bd.size ≤ 100000000) (hd : c.dg.size ≤ 100000000) (hl : 0 ≤ c.lf ∧ c.lf ≤ 4000) (hs : c.st = 5) (hx : x.toNat = 10) :
    Calls Try.prog 26 #[ckV c, .int .u8 (x.toNat : Int)] w fun e w' => e = .returned (ckV (eat1 c x)) ∧ Below w.heap.size w w' := by
  have he : eat1 c x = ⟨1, c.lf, c.dg, c.bd⟩ := eat_5 hs hx
  rw [he]
  clear he
  unfold ckV
  have hx' : (x.toNat : Int) = 10 := by omega
  clear hx
  go_enter Try.func26, Try.ntmps26
  go_wp2
  refine bodyPost_ret (v := .agg #[.int .i64 (1), .int .i64 (c.lf), .string (c.dg), .string (c.bd)]) (by simp [results, Try.results26, go_sem]) rfl ⟨rfl, ?_⟩
  repeat (first | exact Below.refl _ _ | refine Below.alloc ?_ (by simp <;> omega) _ | refine Below.setCell ?_ (by simp <;> omega) _)
set_option maxHeartbeats 1000000 in
theorem sEat_5n (c : Ck) (x : UInt8) (w : World) (hb : c.bd.size ≤ 100000000) (hd : c.dg.size ≤ 100000000) (hl : 0 ≤ c.lf ∧ c.lf ≤ 4000) (hs : c.st = 5) (hx : x.toNat ≠ 10) :
    Calls Try.prog 26 #[ckV c, .int .u8 (x.toNat : Int)] w fun e w' => e = .returned (ckV (eat1 c x)) ∧ Below w.heap.size w w' := by
  have he : eat1 c x = ⟨9, 0, ⟨#[]⟩, c.bd⟩ := eat_5' hs hx
  rw [he]
  clear he
  unfold ckV
  have hx' : ¬ (x.toNat : Int) = 10 := by omega
  clear hx
  go_enter Try.func26, Try.ntmps26
  go_wp2
  refine bodyPost_ret (v := .agg #[.int .i64 (9), .int .i64 (0), .string (⟨#[]⟩), .string (c.bd)]) (by simp [results, Try.results26, go_sem]) rfl ⟨rfl, ?_⟩
  repeat (first | exact Below.refl _ _ | refine Below.alloc ?_ (by simp <;> omega) _ | refine Below.setCell ?_ (by simp <;> omega) _)
set_option maxHeartbeats 1000000 in
theorem sEat_6y (c : Ck) (x : UInt8) (w : World) (hb : c.bd.size ≤ 100000000) (hd : c.dg.size ≤ 100000000) (hl : 0 ≤ c.lf ∧ c.lf ≤ 4000) (hs : c.st = 6) (hx : x.toNat = 13) :
    Calls Try.prog 26 #[ckV c, .int .u8 (x.toNat : Int)] w fun e w' => e = .returned (ckV (eat1 c x)) ∧ Below w.heap.size w w' := by
  have he : eat1 c x = ⟨7, c.lf, c.dg, c.bd⟩ := eat_6 hs hx
  rw [he]
  clear he
  unfold ckV
  have hx' : (x.toNat : Int) = 13 := by omega
  clear hx
  go_enter Try.func26, Try.ntmps26
  go_wp2
  refine bodyPost_ret (v := .agg #[.int .i64 (7), .int .i64 (c.lf), .string (c.dg), .string (c.bd)]) (by simp [results, Try.results26, go_sem]) rfl ⟨rfl, ?_⟩
  repeat (first | exact Below.refl _ _ | refine Below.alloc ?_ (by simp <;> omega) _ | refine Below.setCell ?_ (by simp <;> omega) _)
set_option maxHeartbeats 1000000 in
theorem sEat_6n (c : Ck) (x : UInt8) (w : World) (hb : c.bd.size ≤ 100000000) (hd : c.dg.size ≤ 100000000) (hl : 0 ≤ c.lf ∧ c.lf ≤ 4000) (hs : c.st = 6) (hx : x.toNat ≠ 13) :
    Calls Try.prog 26 #[ckV c, .int .u8 (x.toNat : Int)] w fun e w' => e = .returned (ckV (eat1 c x)) ∧ Below w.heap.size w w' := by
  have he : eat1 c x = ⟨9, 0, ⟨#[]⟩, c.bd⟩ := eat_6' hs hx
  rw [he]
  clear he
  unfold ckV
  have hx' : ¬ (x.toNat : Int) = 13 := by omega
  clear hx
  go_enter Try.func26, Try.ntmps26
  go_wp2
  refine bodyPost_ret (v := .agg #[.int .i64 (9), .int .i64 (0), .string (⟨#[]⟩), .string (c.bd)]) (by simp [results, Try.results26, go_sem]) rfl ⟨rfl, ?_⟩
  repeat (first | exact Below.refl _ _ | refine Below.alloc ?_ (by simp <;> omega) _ | refine Below.setCell ?_ (by simp <;> omega) _)
set_option maxHeartbeats 1000000 in
theorem sEat_7y (c : Ck) (x : UInt8) (w : World) (hb : c.bd.size ≤ 100000000) (hd : c.dg.size ≤ 100000000) (hl : 0 ≤ c.lf ∧ c.lf ≤ 4000) (hs : c.st = 7) (hx : x.toNat = 10) :
    Calls Try.prog 26 #[ckV c, .int .u8 (x.toNat : Int)] w fun e w' => e = .returned (ckV (eat1 c x)) ∧ Below w.heap.size w w' := by
  have he : eat1 c x = ⟨8, c.lf, c.dg, c.bd⟩ := eat_7 hs hx
  rw [he]
  clear he
  unfold ckV
  have hx' : (x.toNat : Int) = 10 := by omega
  clear hx
  go_enter Try.func26, Try.ntmps26
  go_wp2
  refine bodyPost_ret (v := .agg #[.int .i64 (8), .int .i64 (c.lf), .string (c.dg), .string (c.bd)]) (by simp [results, Try.results26, go_sem]) rfl ⟨rfl, ?_⟩
  repeat (first | exact Below.refl _ _ | refine Below.alloc ?_ (by simp <;> omega) _ | refine Below.setCell ?_ (by simp <;> omega) _)
set_option maxHeartbeats 1000000 in
theorem sEat_7n (c : Ck) (x : UInt8) (w : World) (hb : c.bd.size ≤ 100000000) (hd : c.dg.size ≤ 100000000) (hl : 0 ≤ c.lf ∧ c.lf ≤ 4000) (hs : c.st = 7) (hx : x.toNat ≠ 10) :
    Calls Try.prog 26 #[ckV c, .int .u8 (x.toNat : Int)] w fun e w' => e = .returned (ckV (eat1 c x)) ∧ Below w.heap.size w w' := by
  have he : eat1 c x = ⟨9, 0, ⟨#[]⟩, c.bd⟩ := eat_7' hs hx
  rw [he]
  clear he
  unfold ckV
  have hx' : ¬ (x.toNat : Int) = 10 := by omega
  clear hx
  go_enter Try.func26, Try.ntmps26
  go_wp2
  refine bodyPost_ret (v := .agg #[.int .i64 (9), .int .i64 (0), .string (⟨#[]⟩), .string (c.bd)]) (by simp [results, Try.results26, go_sem]) rfl ⟨rfl, ?_⟩
  repeat (first | exact Below.refl _ _ | refine Below.alloc ?_ (by simp <;> omega) _ | refine Below.setCell ?_ (by simp <;> omega) _)
set_option maxHeartbeats 1000000 in
theorem sEat_2n (c : Ck) (x : UInt8) (w : World) (hb : c.bd.size ≤ 100000000) (hd : c.dg.size ≤ 100000000) (hl : 0 ≤ c.lf ∧ c.lf ≤ 4000) (hs : c.st = 2) (hx : x.toNat ≠ 10) :
    Calls Try.prog 26 #[ckV c, .int .u8 (x.toNat : Int)] w fun e w' => e = .returned (ckV (eat1 c x)) ∧ Below w.heap.size w w' := by
  have he : eat1 c x = ⟨9, 0, ⟨#[]⟩, c.bd⟩ := eat_2' hs hx
  rw [he]
  clear he
  unfold ckV
  have hx' : ¬ (x.toNat : Int) = 10 := by omega
  clear hx
  go_enter Try.func26, Try.ntmps26
  go_wp2
  refine bodyPost_ret (v := .agg #[.int .i64 (9), .int .i64 (0), .string (⟨#[]⟩), .string (c.bd)]) (by simp [results, Try.results26, go_sem]) rfl ⟨rfl, ?_⟩
  repeat (first | exact Below.refl _ _ | refine Below.alloc ?_ (by simp <;> omega) _ | refine Below.setCell ?_ (by simp <;> omega) _)
set_option maxHeartbeats 1000000 in
theorem sEat_2y0 (c : Ck) (x : UInt8) (w : World) (hb : c.bd.size ≤ 100000000) (hd : c.dg.size ≤ 100000000) (hl : 0 ≤ c.lf ∧ c.lf ≤ 4000) (hs : c.st = 2) (hx : x.toNat = 10) (h0 : c.lf = 0) :
    Calls Try.prog 26 #[ckV c, .int .u8 (x.toNat : Int)] w fun e w' => e = .returned (ckV (eat1 c x)) ∧ Below w.heap.size w w' := by
  have he : eat1 c x = ⟨6, 0, c.dg, c.bd⟩ := by rw [eat_2 hs hx, if_pos h0, h0]
  rw [he]
  clear he
  unfold ckV
  have hx' : (x.toNat : Int) = 10 := by omega
  clear hx hl
  go_enter Try.func26, Try.ntmps26
  go_wp2
  refine bodyPost_ret (v := .agg #[.int .i64 (6), .int .i64 (0), .string (c.dg), .string (c.bd)]) (by simp [results, Try.results26, go_sem]) rfl ⟨rfl, ?_⟩
  repeat (first | exact Below.refl _ _ | refine Below.alloc ?_ (by simp <;> omega) _ | refine Below.setCell ?_ (by simp <;> omega) _)
set_option maxHeartbeats 1000000 in
theorem sEat_2y1 (c : Ck) (x : UInt8) (w : World) (hb : c.bd.size ≤ 100000000) (hd : c.dg.size ≤ 100000000) (hl : 0 ≤ c.lf ∧ c.lf ≤ 4000) (hs : c.st = 2) (hx : x.toNat = 10) (h0 : ¬ c.lf = 0) :
    Calls Try.prog 26 #[ckV c, .int .u8 (x.toNat : Int)] w fun e w' => e = .returned (ckV (eat1 c x)) ∧ Below w.heap.size w w' := by
  have he : eat1 c x = ⟨3, c.lf, c.dg, c.bd⟩ := by rw [eat_2 hs hx, if_neg h0]
  rw [he]
  clear he
  unfold ckV
  have hx' : (x.toNat : Int) = 10 := by omega
  clear hx
  go_enter Try.func26, Try.ntmps26
  go_wp2
  refine bodyPost_ret (v := .agg #[.int .i64 (3), .int .i64 (c.lf), .string (c.dg), .string (c.bd)]) (by simp [results, Try.results26, go_sem]) rfl ⟨rfl, ?_⟩
  repeat (first | exact Below.refl _ _ | refine Below.alloc ?_ (by simp <;> omega) _ | refine Below.setCell ?_ (by simp <;> omega) _)
set_option maxHeartbeats 1000000 in
theorem sEat_3a (c : Ck) (x : UInt8) (w : World) (hb : c.bd.size ≤ 100000000) (hd : c.dg.size ≤ 100000000) (hl : 0 ≤ c.lf ∧ c.lf ≤ 4000) (hs : c.st = 3) (h0 : c.lf = 1) :
    Calls Try.prog 26 #[ckV c, .int .u8 (x.toNat : Int)] w fun e w' => e = .returned (ckV (eat1 c x)) ∧ Below w.heap.size w w' := by
  have he : eat1 c x = ⟨4, 0, c.dg, c.bd ++ ⟨#[x]⟩⟩ := by rw [eat_3 hs, if_pos h0, h0]; rfl
  rw [he]
  clear he
  unfold ckV
  have hcv : ∀ w : World, (convert 22 9 (.slice (some ⟨w.heap.size, 0, none⟩) 1 1)).run Try.prog (w.alloc (.cells #[.int .u8 (x.toNat : Int)] 5)) = .ok (.string ⟨#[x]⟩) (w.alloc (.cells #[.int .u8 (x.toNat : Int)] 5)) := fun w => byte_text5 w _ x rfl
  have hcv2 := hcv (((w.alloc (.cells #[.int .i64 3, .int .i64 1, .string c.dg, .string c.bd] 25)).alloc (.cells #[.int .i64 0, .int .i64 0, .string ⟨#[]⟩, .string ⟨#[]⟩] 25)).alloc (.cells #[.int .i64 9, .int .i64 0, .string ⟨#[]⟩, .string c.bd] 25))
  rw [show (((w.alloc (.cells #[.int .i64 3, .int .i64 1, .string c.dg, .string c.bd] 25)).alloc (.cells #[.int .i64 0, .int .i64 0, .string ⟨#[]⟩, .string ⟨#[]⟩] 25)).alloc (.cells #[.int .i64 9, .int .i64 0, .string ⟨#[]⟩, .string c.bd] 25)).heap.size = w.heap.size + 1 + 1 + 1 by simp] at hcv2
  clear hcv
  clear hl
  go_enter Try.func26, Try.ntmps26
  go_wp2
  refine bodyPost_ret (v := .agg #[.int .i64 (4), .int .i64 (0), .string (c.dg), .string (c.bd ++ ⟨#[x]⟩)]) (by simp [results, Try.results26, go_sem]) rfl ⟨rfl, ?_⟩
  repeat (first | exact Below.refl _ _ | refine Below.alloc ?_ (by simp <;> omega) _ | refine Below.setCell ?_ (by simp <;> omega) _)
set_option maxHeartbeats 1000000 in
theorem sEat_3b (c : Ck) (x : UInt8) (w : World) (hb : c.bd.size ≤ 100000000) (hd : c.dg.size ≤ 100000000) (hl : 0 ≤ c.lf ∧ c.lf ≤ 4000) (hs : c.st = 3) (h0 : ¬ c.lf = 1) :
    Calls Try.prog 26 #[ckV c, .int .u8 (x.toNat : Int)] w fun e w' => e = .returned (ckV (eat1 c x)) ∧ Below w.heap.size w w' := by
  have he : eat1 c x = ⟨3, c.lf - 1, c.dg, c.bd ++ ⟨#[x]⟩⟩ := by rw [eat_3 hs, if_neg h0]
  rw [he]
  clear he
  unfold ckV
  have hcv : ∀ w : World, (convert 22 9 (.slice (some ⟨w.heap.size, 0, none⟩) 1 1)).run Try.prog (w.alloc (.cells #[.int .u8 (x.toNat : Int)] 5)) = .ok (.string ⟨#[x]⟩) (w.alloc (.cells #[.int .u8 (x.toNat : Int)] 5)) := fun w => byte_text5 w _ x rfl
  have hcv2 := hcv (((w.alloc (.cells #[.int .i64 3, .int .i64 c.lf, .string c.dg, .string c.bd] 25)).alloc (.cells #[.int .i64 0, .int .i64 0, .string ⟨#[]⟩, .string ⟨#[]⟩] 25)).alloc (.cells #[.int .i64 9, .int .i64 0, .string ⟨#[]⟩, .string c.bd] 25))
  rw [show (((w.alloc (.cells #[.int .i64 3, .int .i64 c.lf, .string c.dg, .string c.bd] 25)).alloc (.cells #[.int .i64 0, .int .i64 0, .string ⟨#[]⟩, .string ⟨#[]⟩] 25)).alloc (.cells #[.int .i64 9, .int .i64 0, .string ⟨#[]⟩, .string c.bd] 25)).heap.size = w.heap.size + 1 + 1 + 1 by simp] at hcv2
  clear hcv
  have hwr : IntKind.i64.wrap (c.lf - 1) = c.lf - 1 := by rw [IntKind.wrap_i64]; omega
  have h0' : ¬ c.lf - 1 = 0 := by omega
  go_enter Try.func26, Try.ntmps26
  go_wp2
  refine bodyPost_ret (v := .agg #[.int .i64 (3), .int .i64 (c.lf - 1), .string (c.dg), .string (c.bd ++ ⟨#[x]⟩)]) (by simp [results, Try.results26, go_sem]) rfl ⟨rfl, ?_⟩
  repeat (first | exact Below.refl _ _ | refine Below.alloc ?_ (by simp <;> omega) _ | refine Below.setCell ?_ (by simp <;> omega) _)
set_option maxHeartbeats 1000000 in
theorem sEat_1a (c : Ck) (x : UInt8) (w : World) (hb : c.bd.size ≤ 100000000) (hd : c.dg.size ≤ 100000000) (hl : 0 ≤ c.lf ∧ c.lf ≤ 4000) (hs : c.st = 1) (h0 : 0 ≤ digV (x.toNat : Int)) (h1 : c.dg.size < 13) :
    Calls Try.prog 26 #[ckV c, .int .u8 (x.toNat : Int)] w fun e w' => e = .returned (ckV (eat1 c x)) ∧ Below w.heap.size w w' := by
  have he : eat1 c x = ⟨1, c.lf, c.dg ++ ⟨#[x]⟩, c.bd⟩ := eat_digit hs h0 h1
  rw [he]
  clear he
  unfold ckV
  have hcv : ∀ w : World, (convert 22 9 (.slice (some ⟨w.heap.size, 0, none⟩) 1 1)).run Try.prog (w.alloc (.cells #[.int .u8 (x.toNat : Int)] 5)) = .ok (.string ⟨#[x]⟩) (w.alloc (.cells #[.int .u8 (x.toNat : Int)] 5)) := fun w => byte_text5 w _ x rfl
  have hcv2 := hcv (((w.alloc (.cells #[.int .i64 1, .int .i64 c.lf, .string c.dg, .string c.bd] 25)).alloc (.cells #[.int .i64 0, .int .i64 0, .string ⟨#[]⟩, .string ⟨#[]⟩] 25)).alloc (.cells #[.int .i64 9, .int .i64 0, .string ⟨#[]⟩, .string c.bd] 25))
  rw [show (((w.alloc (.cells #[.int .i64 1, .int .i64 c.lf, .string c.dg, .string c.bd] 25)).alloc (.cells #[.int .i64 0, .int .i64 0, .string ⟨#[]⟩, .string ⟨#[]⟩] 25)).alloc (.cells #[.int .i64 9, .int .i64 0, .string ⟨#[]⟩, .string c.bd] 25)).heap.size = w.heap.size + 1 + 1 + 1 by simp] at hcv2
  clear hcv
  go_enter Try.func26, Try.ntmps26
  go_wp2_with (go_at_call 30; refine (specHexV _ _).mono ?_; rintro e w' ⟨rfl, hw'⟩; obtain rfl := hw'.symm; clear hw')
  refine bodyPost_ret (v := .agg #[.int .i64 (1), .int .i64 (c.lf), .string (c.dg ++ ⟨#[x]⟩), .string (c.bd)]) (by simp [results, Try.results26, go_sem]) rfl ⟨rfl, ?_⟩
  repeat (first | exact Below.refl _ _ | refine Below.alloc ?_ (by simp <;> omega) _ | refine Below.setCell ?_ (by simp <;> omega) _)
end Go.Proofs.Ytbdnfajdpajfpaa
