/-
  The specification's eating of one byte where a size may end, by its contract; and of any byte.
-/
import Derived.Test.YtbdnfajdpajfpaaChkT
namespace Go.Proofs.Ytbdnfajdpajfpaa
open Go.RowKit

set_option maxHeartbeats 1000000 in
set_option linter.unusedVariables false in
theorem sEat_1 (c : Ck) (x : UInt8) (w : World) (hb : c.bd.size ≤ 100000000) (hd : c.dg.size ≤ 100000000) (hs : c.st = 1) (hno : ¬ (0 ≤ digV (x.toNat : Int) ∧ c.dg.size < 13)) (d : Ck) (hd5 : eat1 c x = d) :
    Calls Try.prog 26 #[ckV c, .int .u8 (x.toNat : Int)] w fun e w' => e = .returned (ckV (eat1 c x)) ∧ Below w.heap.size w w' := by
  have hF1 : Hid (Four (((w.alloc (.cells #[.int .i64 1, .int .i64 c.lf, .string c.dg, .string c.bd] 25)).alloc (.cells #[.int .i64 0, .int .i64 0, .string ⟨#[]⟩, .string ⟨#[]⟩] 25)).alloc (.cells #[.int .i64 9, .int .i64 0, .string ⟨#[]⟩, .string c.bd] 25)) w.heap.size ⟨1, c.lf, c.dg, c.bd⟩) := ((Four.new w ⟨1, c.lf, c.dg, c.bd⟩).alloc _).alloc _
  have hF2 : Hid (Four (((w.alloc (.cells #[.int .i64 1, .int .i64 c.lf, .string c.dg, .string c.bd] 25)).alloc (.cells #[.int .i64 0, .int .i64 0, .string ⟨#[]⟩, .string ⟨#[]⟩] 25)).alloc (.cells #[.int .i64 9, .int .i64 0, .string ⟨#[]⟩, .string c.bd] 25)) (w.heap.size + 1) zeroC) := by
    have := (Four.new (w.alloc (.cells #[.int .i64 1, .int .i64 c.lf, .string c.dg, .string c.bd] 25)) zeroC).alloc (.cells #[.int .i64 9, .int .i64 0, .string ⟨#[]⟩, .string c.bd] 25)
    rw [show (w.alloc (.cells #[.int .i64 1, .int .i64 c.lf, .string c.dg, .string c.bd] 25)).heap.size = w.heap.size + 1 by simp] at this
    exact this
  have hF3 : Hid (Four (((w.alloc (.cells #[.int .i64 1, .int .i64 c.lf, .string c.dg, .string c.bd] 25)).alloc (.cells #[.int .i64 0, .int .i64 0, .string ⟨#[]⟩, .string ⟨#[]⟩] 25)).alloc (.cells #[.int .i64 9, .int .i64 0, .string ⟨#[]⟩, .string c.bd] 25)) (w.heap.size + 1 + 1) ⟨9, 0, ⟨#[]⟩, c.bd⟩) := by
    have := Four.new ((w.alloc (.cells #[.int .i64 1, .int .i64 c.lf, .string c.dg, .string c.bd] 25)).alloc (.cells #[.int .i64 0, .int .i64 0, .string ⟨#[]⟩, .string ⟨#[]⟩] 25)) ⟨9, 0, ⟨#[]⟩, c.bd⟩
    rw [show ((w.alloc (.cells #[.int .i64 1, .int .i64 c.lf, .string c.dg, .string c.bd] 25)).alloc (.cells #[.int .i64 0, .int .i64 0, .string ⟨#[]⟩, .string ⟨#[]⟩] 25)).heap.size = w.heap.size + 1 + 1 by simp] at this
    exact this
  have hB0 : Hid (Below w.heap.size w (((w.alloc (.cells #[.int .i64 1, .int .i64 c.lf, .string c.dg, .string c.bd] 25)).alloc (.cells #[.int .i64 0, .int .i64 0, .string ⟨#[]⟩, .string ⟨#[]⟩] 25)).alloc (.cells #[.int .i64 9, .int .i64 0, .string ⟨#[]⟩, .string c.bd] 25))) := (((Below.refl _ w).alloc (Nat.le_refl _) _).alloc (by simp) _).alloc (by simp <;> omega) _
  have hx := specHexD c.dg (((w.alloc (.cells #[.int .i64 1, .int .i64 c.lf, .string c.dg, .string c.bd] 25)).alloc (.cells #[.int .i64 0, .int .i64 0, .string ⟨#[]⟩, .string ⟨#[]⟩] 25)).alloc (.cells #[.int .i64 9, .int .i64 0, .string ⟨#[]⟩, .string c.bd] 25)) (by unfold maxLen; omega)
  unfold numE at hx
  have hn0 := num_bd (s := c.dg)
  unfold ckV
  have hno' : digV (x.toNat : Int) < 0 ∨ ¬ c.dg.size < 13 := by omega
  by_cases hgood : x.toNat = 13 ∧ numOk 16 13 c.dg = true ∧ numV 16 13 c.dg + (c.bd.size : Int) ≤ 4000
  · obtain ⟨g1, g2, g3⟩ := hgood
    rw [eat_size hs g1 g2 g3]
    rw [g2] at hx
    have g1' : (x.toNat : Int) = 13 := by omega
    have hdv : digV 13 = -1 := by decide
    generalize numV 16 13 c.dg = n at hx g3 hn0 ⊢
    have g3' : ¬ 4000 - (c.bd.size : Int) < n := by omega
    clear hd5 hno hno' g1
    go_enter Try.func26, Try.ntmps26
    go_wp2_with (first
      | (go_at_call 30; refine (specHexV _ _).mono ?_; rintro e w' ⟨rfl, hw'⟩; obtain rfl := hw'.symm; clear hw')
      | (go_at_call 35; refine hx.mono ?_; rintro e w1 ⟨rfl, hb1⟩; have q1 := hF1.out.kept hb1 hF1.out.hi; have q2 := hF2.out.kept hb1 hF2.out.hi; have HB : Hid (Below w.heap.size w w1) := hB0.out.trans (hb1.mono hB0.out.size); have a0 := q1.c0; have a1 := q1.c1; have a2 := q1.c2; have a3 := q1.c3; have r0 := q2.c0; have r1 := q2.c1; have r2 := q2.c2; have r3 := q2.c3; have rf := q2.fz; have F : Hid _ := q2.put ⟨2, n, ⟨#[]⟩, c.bd⟩; clear q1 q2 hb1))
    refine bodyPost_ret (v := .agg #[.int .i64 2, .int .i64 n, .string ⟨#[]⟩, .string c.bd]) (by simp [results, Try.results26, go_sem, r0, r1, r2, r3]) rfl ⟨rfl, ?_⟩
    repeat (first | exact HB.out | refine Below.alloc ?_ (by simp <;> omega) _ | refine Below.setCell ?_ (by simp <;> omega) _)
  · rw [eat_nosize hs hno hgood]
    show Calls _ _ _ _ fun e w' => e = .returned (.agg #[.int .i64 9, .int .i64 0, .string ⟨#[]⟩, .string c.bd]) ∧ _
    clear hd5
    generalize hok : numOk 16 13 c.dg = ok at hx hgood
    generalize hnn : numV 16 13 c.dg = n at hx hgood hn0
    have hbad : x.toNat = 13 → ok = true → 4000 - (c.bd.size : Int) < n := by
      intro a b
      rcases Int.lt_or_le (4000 - (c.bd.size : Int)) n with h | h
      · exact h
      · exact absurd ⟨a, b, by omega⟩ hgood
    clear hgood
    by_cases g1 : x.toNat = 13
    · have g1' : (x.toNat : Int) = 13 := by omega
      have hdv : digV 13 = -1 := by decide
      cases ok with
      | true =>
        have g3 := hbad g1 rfl
        clear hbad hno hno' g1 hok hnn
        go_enter Try.func26, Try.ntmps26
        go_wp2_with (first
          | (go_at_call 30; refine (specHexV _ _).mono ?_; rintro e w' ⟨rfl, hw'⟩; obtain rfl := hw'.symm; clear hw')
          | (go_at_call 35; refine hx.mono ?_; rintro e w1 ⟨rfl, hb1⟩; have q1 := hF1.out.kept hb1 hF1.out.hi; have q2 := hF2.out.kept hb1 hF2.out.hi; have q3 := hF3.out.kept hb1 hF3.out.hi; have HB : Hid (Below w.heap.size w w1) := hB0.out.trans (hb1.mono hB0.out.size); have a3 := q1.c3; have r0 := q2.c0; have r1 := q2.c1; have r2 := q2.c2; have r3 := q2.c3; have rf := q2.fz; have b0 := q3.c0; have b1 := q3.c1; have b2 := q3.c2; have b3 := q3.c3; clear q1 q2 q3 hb1))
        refine bodyPost_ret (v := .agg #[.int .i64 9, .int .i64 0, .string ⟨#[]⟩, .string c.bd]) (by simp [results, Try.results26, go_sem, r0, r1, r2, r3]) rfl ⟨rfl, ?_⟩
        repeat (first | exact HB.out | refine Below.alloc ?_ (by simp <;> omega) _ | refine Below.setCell ?_ (by simp <;> omega) _)
      | false =>
        clear hbad hno hno' g1 hok hnn
        go_enter Try.func26, Try.ntmps26
        go_wp2_with (first
          | (go_at_call 30; refine (specHexV _ _).mono ?_; rintro e w' ⟨rfl, hw'⟩; obtain rfl := hw'.symm; clear hw')
          | (go_at_call 35; refine hx.mono ?_; rintro e w1 ⟨rfl, hb1⟩; have q1 := hF1.out.kept hb1 hF1.out.hi; have q2 := hF2.out.kept hb1 hF2.out.hi; have q3 := hF3.out.kept hb1 hF3.out.hi; have HB : Hid (Below w.heap.size w w1) := hB0.out.trans (hb1.mono hB0.out.size); have a3 := q1.c3; have r0 := q2.c0; have r1 := q2.c1; have r2 := q2.c2; have r3 := q2.c3; have rf := q2.fz; have b0 := q3.c0; have b1 := q3.c1; have b2 := q3.c2; have b3 := q3.c3; clear q1 q2 q3 hb1))
        refine bodyPost_ret (v := .agg #[.int .i64 9, .int .i64 0, .string ⟨#[]⟩, .string c.bd]) (by simp [results, Try.results26, go_sem, r0, r1, r2, r3]) rfl ⟨rfl, ?_⟩
        repeat (first | exact HB.out | refine Below.alloc ?_ (by simp <;> omega) _ | refine Below.setCell ?_ (by simp <;> omega) _)
    · have g1' : ¬ (x.toNat : Int) = 13 := by omega
      rcases hno' with hno' | hno'
      · have hno2 : ¬ 0 ≤ digV (x.toNat : Int) := by omega
        clear hbad hno g1 hok hnn
        go_enter Try.func26, Try.ntmps26
        go_wp2_with (first
          | (go_at_call 30; refine (specHexV _ _).mono ?_; rintro e w' ⟨rfl, hw'⟩; obtain rfl := hw'.symm; clear hw')
          | (go_at_call 35; refine hx.mono ?_; rintro e w1 ⟨rfl, hb1⟩; have q1 := hF1.out.kept hb1 hF1.out.hi; have q2 := hF2.out.kept hb1 hF2.out.hi; have q3 := hF3.out.kept hb1 hF3.out.hi; have HB : Hid (Below w.heap.size w w1) := hB0.out.trans (hb1.mono hB0.out.size); have a3 := q1.c3; have r0 := q2.c0; have r1 := q2.c1; have r2 := q2.c2; have r3 := q2.c3; have rf := q2.fz; have b0 := q3.c0; have b1 := q3.c1; have b2 := q3.c2; have b3 := q3.c3; clear q1 q2 q3 hb1))
        refine bodyPost_ret (v := .agg #[.int .i64 9, .int .i64 0, .string ⟨#[]⟩, .string c.bd]) (by simp [results, Try.results26, go_sem, r0, r1, r2, r3]) rfl ⟨rfl, ?_⟩
        repeat (first | exact HB.out | refine Below.alloc ?_ (by simp <;> omega) _ | refine Below.setCell ?_ (by simp <;> omega) _)
      · by_cases hv : 0 ≤ digV (x.toNat : Int)
        · clear hbad hno g1 hok hnn
          go_enter Try.func26, Try.ntmps26
          go_wp2_with (first
            | (go_at_call 30; refine (specHexV _ _).mono ?_; rintro e w' ⟨rfl, hw'⟩; obtain rfl := hw'.symm; clear hw')
            | (go_at_call 35; refine hx.mono ?_; rintro e w1 ⟨rfl, hb1⟩; have q1 := hF1.out.kept hb1 hF1.out.hi; have q2 := hF2.out.kept hb1 hF2.out.hi; have q3 := hF3.out.kept hb1 hF3.out.hi; have HB : Hid (Below w.heap.size w w1) := hB0.out.trans (hb1.mono hB0.out.size); have a3 := q1.c3; have r0 := q2.c0; have r1 := q2.c1; have r2 := q2.c2; have r3 := q2.c3; have rf := q2.fz; have b0 := q3.c0; have b1 := q3.c1; have b2 := q3.c2; have b3 := q3.c3; clear q1 q2 q3 hb1))
          refine bodyPost_ret (v := .agg #[.int .i64 9, .int .i64 0, .string ⟨#[]⟩, .string c.bd]) (by simp [results, Try.results26, go_sem, r0, r1, r2, r3]) rfl ⟨rfl, ?_⟩
          repeat (first | exact HB.out | refine Below.alloc ?_ (by simp <;> omega) _ | refine Below.setCell ?_ (by simp <;> omega) _)
        · clear hbad hno g1 hok hnn
          go_enter Try.func26, Try.ntmps26
          go_wp2_with (first
            | (go_at_call 30; refine (specHexV _ _).mono ?_; rintro e w' ⟨rfl, hw'⟩; obtain rfl := hw'.symm; clear hw')
            | (go_at_call 35; refine hx.mono ?_; rintro e w1 ⟨rfl, hb1⟩; have q1 := hF1.out.kept hb1 hF1.out.hi; have q2 := hF2.out.kept hb1 hF2.out.hi; have q3 := hF3.out.kept hb1 hF3.out.hi; have HB : Hid (Below w.heap.size w w1) := hB0.out.trans (hb1.mono hB0.out.size); have a3 := q1.c3; have r0 := q2.c0; have r1 := q2.c1; have r2 := q2.c2; have r3 := q2.c3; have rf := q2.fz; have b0 := q3.c0; have b1 := q3.c1; have b2 := q3.c2; have b3 := q3.c3; clear q1 q2 q3 hb1))
          refine bodyPost_ret (v := .agg #[.int .i64 9, .int .i64 0, .string ⟨#[]⟩, .string c.bd]) (by simp [results, Try.results26, go_sem, r0, r1, r2, r3]) rfl ⟨rfl, ?_⟩
          repeat (first | exact HB.out | refine Below.alloc ?_ (by simp <;> omega) _ | refine Below.setCell ?_ (by simp <;> omega) _)

theorem specEat1 (c : Ck) (x : UInt8) (w : World) (hok : okP c) :
    Calls Try.prog 26 #[ckV c, .int .u8 (x.toNat : Int)] w fun e w' => e = .returned (ckV (eat1 c x)) ∧ Below w.heap.size w w' := by
  obtain ⟨⟨a1, a2⟩, hl, d1, e1, f1, g1, g2, g3, g4⟩ := hok
  have hb : c.bd.size ≤ 100000000 := by omega
  have hd : c.dg.size ≤ 100000000 := by omega
  rcases (show c.st = 1 ∨ c.st = 2 ∨ c.st = 3 ∨ c.st = 4 ∨ c.st = 5 ∨ c.st = 6 ∨ c.st = 7 ∨ c.st = 8 ∨ c.st = 9 by omega) with k | k | k | k | k | k | k | k | k
  · by_cases h : 0 ≤ digV (x.toNat : Int) ∧ c.dg.size < 13
    · exact sEat_1a c x w hb hd hl k h.1 h.2
    · exact sEat_1 c x w hb hd k h _ rfl
  · by_cases h : x.toNat = 10
    · by_cases h0 : c.lf = 0
      · exact sEat_2y0 c x w hb hd hl k h h0
      · exact sEat_2y1 c x w hb hd hl k h h0
    · exact sEat_2n c x w hb hd hl k h
  · by_cases h0 : c.lf = 1
    · exact sEat_3a c x w hb hd hl k h0
    · exact sEat_3b c x w hb hd hl k h0
  · by_cases h : x.toNat = 13
    · exact sEat_4y c x w hb hd hl k h
    · exact sEat_4n c x w hb hd hl k h
  · by_cases h : x.toNat = 10
    · exact sEat_5y c x w hb hd hl k h
    · exact sEat_5n c x w hb hd hl k h
  · by_cases h : x.toNat = 13
    · exact sEat_6y c x w hb hd hl k h
    · exact sEat_6n c x w hb hd hl k h
  · by_cases h : x.toNat = 10
    · exact sEat_7y c x w hb hd hl k h
    · exact sEat_7n c x w hb hd hl k h
  · exact sEat_8 c x w hb hd hl k
  · exact sEat_9 c x w hb hd hl k
end Go.Proofs.Ytbdnfajdpajfpaa
