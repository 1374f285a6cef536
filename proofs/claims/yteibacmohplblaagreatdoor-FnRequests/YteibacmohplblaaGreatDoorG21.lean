/-
  The specification's eating of one byte where a size may end, by its contract; and of any byte.
  The specification's Eat, EatAll and Unchunked by their contracts.
  What the specification reads behind a first line, by its contract.
-/
import Derived.Test.YteibacmohplblaaGreatDoorG20
import Derived.Deep.RegionWith
import Derived.Test.YteibacmohplblaaGreatDoorG08
import Derived.Test.YteibacmohplblaaGreatDoorG12
import Derived.Test.YteibacmohplblaaGreatDoorG19
namespace Go.Proofs.YteibacmohplblaaGreatDoor
open Go.RowKit

set_option maxHeartbeats 1000000 in
set_option linter.unusedVariables false in
theorem sEat_1 (c : Ck) (x : UInt8) (w : World) (hb : c.bd.size ≤ 100000000) (hd : c.dg.size ≤ 100000000) (hs : c.st = 1) (hno : ¬ (0 ≤ digV (x.toNat : Int) ∧ c.dg.size < 13)) (d : Ck) (hd5 : eat1 c x = d) :
    Calls Tryz.prog 150 #[ckV c, .int .u8 (x.toNat : Int)] w fun e w' => e = .returned (ckV (eat1 c x)) ∧ Below w.heap.size w w' := by
  have hF1 : Hid (Four (((w.alloc (.cells #[.int .i64 1, .int .i64 c.lf, .string c.dg, .string c.bd] 138)).alloc (.cells #[.int .i64 0, .int .i64 0, .string ⟨#[]⟩, .string ⟨#[]⟩] 138)).alloc (.cells #[.int .i64 9, .int .i64 0, .string ⟨#[]⟩, .string c.bd] 138)) w.heap.size ⟨1, c.lf, c.dg, c.bd⟩) := ((Four.new w ⟨1, c.lf, c.dg, c.bd⟩).alloc _).alloc _
  have hF2 : Hid (Four (((w.alloc (.cells #[.int .i64 1, .int .i64 c.lf, .string c.dg, .string c.bd] 138)).alloc (.cells #[.int .i64 0, .int .i64 0, .string ⟨#[]⟩, .string ⟨#[]⟩] 138)).alloc (.cells #[.int .i64 9, .int .i64 0, .string ⟨#[]⟩, .string c.bd] 138)) (w.heap.size + 1) zeroC) := by
    have := (Four.new (w.alloc (.cells #[.int .i64 1, .int .i64 c.lf, .string c.dg, .string c.bd] 138)) zeroC).alloc (.cells #[.int .i64 9, .int .i64 0, .string ⟨#[]⟩, .string c.bd] 138)
    rw [show (w.alloc (.cells #[.int .i64 1, .int .i64 c.lf, .string c.dg, .string c.bd] 138)).heap.size = w.heap.size + 1 by simp] at this
    exact this
  have hF3 : Hid (Four (((w.alloc (.cells #[.int .i64 1, .int .i64 c.lf, .string c.dg, .string c.bd] 138)).alloc (.cells #[.int .i64 0, .int .i64 0, .string ⟨#[]⟩, .string ⟨#[]⟩] 138)).alloc (.cells #[.int .i64 9, .int .i64 0, .string ⟨#[]⟩, .string c.bd] 138)) (w.heap.size + 1 + 1) ⟨9, 0, ⟨#[]⟩, c.bd⟩) := by
    have := Four.new ((w.alloc (.cells #[.int .i64 1, .int .i64 c.lf, .string c.dg, .string c.bd] 138)).alloc (.cells #[.int .i64 0, .int .i64 0, .string ⟨#[]⟩, .string ⟨#[]⟩] 138)) ⟨9, 0, ⟨#[]⟩, c.bd⟩
    rw [show ((w.alloc (.cells #[.int .i64 1, .int .i64 c.lf, .string c.dg, .string c.bd] 138)).alloc (.cells #[.int .i64 0, .int .i64 0, .string ⟨#[]⟩, .string ⟨#[]⟩] 138)).heap.size = w.heap.size + 1 + 1 by simp] at this
    exact this
  have hB0 : Hid (Below w.heap.size w (((w.alloc (.cells #[.int .i64 1, .int .i64 c.lf, .string c.dg, .string c.bd] 138)).alloc (.cells #[.int .i64 0, .int .i64 0, .string ⟨#[]⟩, .string ⟨#[]⟩] 138)).alloc (.cells #[.int .i64 9, .int .i64 0, .string ⟨#[]⟩, .string c.bd] 138))) := (((Below.refl _ w).alloc (Nat.le_refl _) _).alloc (by simp) _).alloc (by simp <;> omega) _
  have hx := specHexD c.dg (((w.alloc (.cells #[.int .i64 1, .int .i64 c.lf, .string c.dg, .string c.bd] 138)).alloc (.cells #[.int .i64 0, .int .i64 0, .string ⟨#[]⟩, .string ⟨#[]⟩] 138)).alloc (.cells #[.int .i64 9, .int .i64 0, .string ⟨#[]⟩, .string c.bd] 138)) (by unfold maxLen; omega)
  unfold numE at hx
  have hn0 := num_bd (s := c.dg)
  unfold ckV
  have hno' : digV (x.toNat : Int) < 0 ∨ ¬ c.dg.size < 13 := by omega
  by_cases hgood : x.toNat = 13 ∧ numOk 16 13 c.dg = true ∧ numV 16 13 c.dg + (c.bd.size : Int) ≤ 4000
  · obtain ⟨g1, g2, g3⟩ := hgood
    rw [eat_size hs g1 g2 g3]
    rw [g2] at hx
    have g1' : (x.toNat : Int) = 13 := by omega
    have hdv : digV 13 = -1 := by decide
    generalize numV 16 13 c.dg = n at hx g3 hn0 ⊢
    have g3' : ¬ 4000 - (c.bd.size : Int) < n := by omega
    clear hd5 hno hno' g1
    go_enter Tryz.func150, Tryz.ntmps150
    go_wp2_with (first
      | (go_at_call 167; refine (specHexV _ _).mono ?_; rintro e w' ⟨rfl, hw'⟩; obtain rfl := hw'.symm; clear hw')
      | (go_at_call 168; refine hx.mono ?_; rintro e w1 ⟨rfl, hb1⟩; have q1 := hF1.out.kept hb1 hF1.out.hi; have q2 := hF2.out.kept hb1 hF2.out.hi; have HB : Hid (Below w.heap.size w w1) := hB0.out.trans (hb1.mono hB0.out.size); have a0 := q1.c0; have a1 := q1.c1; have a2 := q1.c2; have a3 := q1.c3; have r0 := q2.c0; have r1 := q2.c1; have r2 := q2.c2; have r3 := q2.c3; have rf := q2.fz; have F : Hid _ := q2.put ⟨2, n, ⟨#[]⟩, c.bd⟩; clear q1 q2 hb1))
    refine bodyPost_ret (v := .agg #[.int .i64 2, .int .i64 n, .string ⟨#[]⟩, .string c.bd]) (by simp [results, Tryz.results150, go_sem, r0, r1, r2, r3]) rfl ⟨rfl, ?_⟩
    repeat (first | exact HB.out | refine Below.alloc ?_ (by simp <;> omega) _ | refine Below.setCell ?_ (by simp <;> omega) _)
  · rw [eat_nosize hs hno hgood]
    show Calls _ _ _ _ fun e w' => e = .returned (.agg #[.int .i64 9, .int .i64 0, .string ⟨#[]⟩, .string c.bd]) ∧ _
    clear hd5
    generalize hok : numOk 16 13 c.dg = ok at hx hgood
    generalize hnn : numV 16 13 c.dg = n at hx hgood hn0
    have hbad : x.toNat = 13 → ok = true → 4000 - (c.bd.size : Int) < n := by
      intro a b
      rcases Int.lt_or_le (4000 - (c.bd.size : Int)) n with h | h
      · exact h
      · exact absurd ⟨a, b, by omega⟩ hgood
    clear hgood
    by_cases g1 : x.toNat = 13
    · have g1' : (x.toNat : Int) = 13 := by omega
      have hdv : digV 13 = -1 := by decide
      cases ok with
      | true =>
        have g3 := hbad g1 rfl
        clear hbad hno hno' g1 hok hnn
        go_enter Tryz.func150, Tryz.ntmps150
        go_wp2_with (first
          | (go_at_call 167; refine (specHexV _ _).mono ?_; rintro e w' ⟨rfl, hw'⟩; obtain rfl := hw'.symm; clear hw')
          | (go_at_call 168; refine hx.mono ?_; rintro e w1 ⟨rfl, hb1⟩; have q1 := hF1.out.kept hb1 hF1.out.hi; have q2 := hF2.out.kept hb1 hF2.out.hi; have q3 := hF3.out.kept hb1 hF3.out.hi; have HB : Hid (Below w.heap.size w w1) := hB0.out.trans (hb1.mono hB0.out.size); have a3 := q1.c3; have r0 := q2.c0; have r1 := q2.c1; have r2 := q2.c2; have r3 := q2.c3; have rf := q2.fz; have b0 := q3.c0; have b1 := q3.c1; have b2 := q3.c2; have b3 := q3.c3; clear q1 q2 q3 hb1))
        refine bodyPost_ret (v := .agg #[.int .i64 9, .int .i64 0, .string ⟨#[]⟩, .string c.bd]) (by simp [results, Tryz.results150, go_sem, r0, r1, r2, r3]) rfl ⟨rfl, ?_⟩
        repeat (first | exact HB.out | refine Below.alloc ?_ (by simp <;> omega) _ | refine Below.setCell ?_ (by simp <;> omega) _)
      | false =>
        clear hbad hno hno' g1 hok hnn
        go_enter Tryz.func150, Tryz.ntmps150
        go_wp2_with (first
          | (go_at_call 167; refine (specHexV _ _).mono ?_; rintro e w' ⟨rfl, hw'⟩; obtain rfl := hw'.symm; clear hw')
          | (go_at_call 168; refine hx.mono ?_; rintro e w1 ⟨rfl, hb1⟩; have q1 := hF1.out.kept hb1 hF1.out.hi; have q2 := hF2.out.kept hb1 hF2.out.hi; have q3 := hF3.out.kept hb1 hF3.out.hi; have HB : Hid (Below w.heap.size w w1) := hB0.out.trans (hb1.mono hB0.out.size); have a3 := q1.c3; have r0 := q2.c0; have r1 := q2.c1; have r2 := q2.c2; have r3 := q2.c3; have rf := q2.fz; have b0 := q3.c0; have b1 := q3.c1; have b2 := q3.c2; have b3 := q3.c3; clear q1 q2 q3 hb1))
        refine bodyPost_ret (v := .agg #[.int .i64 9, .int .i64 0, .string ⟨#[]⟩, .string c.bd]) (by simp [results, Tryz.results150, go_sem, r0, r1, r2, r3]) rfl ⟨rfl, ?_⟩
        repeat (first | exact HB.out | refine Below.alloc ?_ (by simp <;> omega) _ | refine Below.setCell ?_ (by simp <;> omega) _)
    · have g1' : ¬ (x.toNat : Int) = 13 := by omega
      rcases hno' with hno' | hno'
      · have hno2 : ¬ 0 ≤ digV (x.toNat : Int) := by omega
        clear hbad hno g1 hok hnn
        go_enter Tryz.func150, Tryz.ntmps150
        go_wp2_with (first
          | (go_at_call 167; refine (specHexV _ _).mono ?_; rintro e w' ⟨rfl, hw'⟩; obtain rfl := hw'.symm; clear hw')
          | (go_at_call 168; refine hx.mono ?_; rintro e w1 ⟨rfl, hb1⟩; have q1 := hF1.out.kept hb1 hF1.out.hi; have q2 := hF2.out.kept hb1 hF2.out.hi; have q3 := hF3.out.kept hb1 hF3.out.hi; have HB : Hid (Below w.heap.size w w1) := hB0.out.trans (hb1.mono hB0.out.size); have a3 := q1.c3; have r0 := q2.c0; have r1 := q2.c1; have r2 := q2.c2; have r3 := q2.c3; have rf := q2.fz; have b0 := q3.c0; have b1 := q3.c1; have b2 := q3.c2; have b3 := q3.c3; clear q1 q2 q3 hb1))
        refine bodyPost_ret (v := .agg #[.int .i64 9, .int .i64 0, .string ⟨#[]⟩, .string c.bd]) (by simp [results, Tryz.results150, go_sem, r0, r1, r2, r3]) rfl ⟨rfl, ?_⟩
        repeat (first | exact HB.out | refine Below.alloc ?_ (by simp <;> omega) _ | refine Below.setCell ?_ (by simp <;> omega) _)
      · by_cases hv : 0 ≤ digV (x.toNat : Int)
        · clear hbad hno g1 hok hnn
          go_enter Tryz.func150, Tryz.ntmps150
          go_wp2_with (first
            | (go_at_call 167; refine (specHexV _ _).mono ?_; rintro e w' ⟨rfl, hw'⟩; obtain rfl := hw'.symm; clear hw')
            | (go_at_call 168; refine hx.mono ?_; rintro e w1 ⟨rfl, hb1⟩; have q1 := hF1.out.kept hb1 hF1.out.hi; have q2 := hF2.out.kept hb1 hF2.out.hi; have q3 := hF3.out.kept hb1 hF3.out.hi; have HB : Hid (Below w.heap.size w w1) := hB0.out.trans (hb1.mono hB0.out.size); have a3 := q1.c3; have r0 := q2.c0; have r1 := q2.c1; have r2 := q2.c2; have r3 := q2.c3; have rf := q2.fz; have b0 := q3.c0; have b1 := q3.c1; have b2 := q3.c2; have b3 := q3.c3; clear q1 q2 q3 hb1))
          refine bodyPost_ret (v := .agg #[.int .i64 9, .int .i64 0, .string ⟨#[]⟩, .string c.bd]) (by simp [results, Tryz.results150, go_sem, r0, r1, r2, r3]) rfl ⟨rfl, ?_⟩
          repeat (first | exact HB.out | refine Below.alloc ?_ (by simp <;> omega) _ | refine Below.setCell ?_ (by simp <;> omega) _)
        · clear hbad hno g1 hok hnn
          go_enter Tryz.func150, Tryz.ntmps150
          go_wp2_with (first
            | (go_at_call 167; refine (specHexV _ _).mono ?_; rintro e w' ⟨rfl, hw'⟩; obtain rfl := hw'.symm; clear hw')
            | (go_at_call 168; refine hx.mono ?_; rintro e w1 ⟨rfl, hb1⟩; have q1 := hF1.out.kept hb1 hF1.out.hi; have q2 := hF2.out.kept hb1 hF2.out.hi; have q3 := hF3.out.kept hb1 hF3.out.hi; have HB : Hid (Below w.heap.size w w1) := hB0.out.trans (hb1.mono hB0.out.size); have a3 := q1.c3; have r0 := q2.c0; have r1 := q2.c1; have r2 := q2.c2; have r3 := q2.c3; have rf := q2.fz; have b0 := q3.c0; have b1 := q3.c1; have b2 := q3.c2; have b3 := q3.c3; clear q1 q2 q3 hb1))
          refine bodyPost_ret (v := .agg #[.int .i64 9, .int .i64 0, .string ⟨#[]⟩, .string c.bd]) (by simp [results, Tryz.results150, go_sem, r0, r1, r2, r3]) rfl ⟨rfl, ?_⟩
          repeat (first | exact HB.out | refine Below.alloc ?_ (by simp <;> omega) _ | refine Below.setCell ?_ (by simp <;> omega) _)

theorem specEat1 (c : Ck) (x : UInt8) (w : World) (hok : okP c) :
    Calls Tryz.prog 150 #[ckV c, .int .u8 (x.toNat : Int)] w fun e w' => e = .returned (ckV (eat1 c x)) ∧ Below w.heap.size w w' := by
  obtain ⟨⟨a1, a2⟩, hl, d1, e1, f1, g1, g2, g3, g4⟩ := hok
  have hb : c.bd.size ≤ 100000000 := by omega
  have hd : c.dg.size ≤ 100000000 := by omega
  rcases (show c.st = 1 ∨ c.st = 2 ∨ c.st = 3 ∨ c.st = 4 ∨ c.st = 5 ∨ c.st = 6 ∨ c.st = 7 ∨ c.st = 8 ∨ c.st = 9 by omega) with k | k | k | k | k | k | k | k | k
  · by_cases h : 0 ≤ digV (x.toNat : Int) ∧ c.dg.size < 13
    · exact sEat_1a c x w hb hd hl k h.1 h.2
    · exact sEat_1 c x w hb hd k h _ rfl
  · by_cases h : x.toNat = 10
    · by_cases h0 : c.lf = 0
      · exact sEat_2y0 c x w hb hd hl k h h0
      · exact sEat_2y1 c x w hb hd hl k h h0
    · exact sEat_2n c x w hb hd hl k h
  · by_cases h0 : c.lf = 1
    · exact sEat_3a c x w hb hd hl k h0
    · exact sEat_3b c x w hb hd hl k h0
  · by_cases h : x.toNat = 13
    · exact sEat_4y c x w hb hd hl k h
    · exact sEat_4n c x w hb hd hl k h
  · by_cases h : x.toNat = 10
    · exact sEat_5y c x w hb hd hl k h
    · exact sEat_5n c x w hb hd hl k h
  · by_cases h : x.toNat = 13
    · exact sEat_6y c x w hb hd hl k h
    · exact sEat_6n c x w hb hd hl k h
  · by_cases h : x.toNat = 10
    · exact sEat_7y c x w hb hd hl k h
    · exact sEat_7n c x w hb hd hl k h
  · exact sEat_8 c x w hb hd hl k
  · exact sEat_9 c x w hb hd hl k
end Go.Proofs.YteibacmohplblaaGreatDoor
namespace Go.Proofs.YteibacmohplblaaGreatDoor
open Go.RowKit
set_option linter.unusedVariables false

theorem drop_at5 {t : ByteArray} {k : Nat} (h : k < t.size) : t.data.toList.drop k = t[k] :: t.data.toList.drop (k + 1) := by
  rw [List.drop_eq_getElem_cons (by simpa using h)]
  rfl
theorem drop_end5 {t : ByteArray} {k : Nat} (h : ¬ k < t.size) : t.data.toList.drop k = [] := List.drop_of_length_le (by
  have e : t.data.toList.length = t.size := by simp
  omega)
theorem two_four (w : World) (c : Ck) : Four ((w.alloc (.cells #[.int .i64 c.st, .int .i64 c.lf, .string c.dg, .string c.bd] 138)).alloc (.cells #[.int .i64 0, .int .i64 0, .string ⟨#[]⟩, .string ⟨#[]⟩] 138)) w.heap.size c ∧ Four ((w.alloc (.cells #[.int .i64 c.st, .int .i64 c.lf, .string c.dg, .string c.bd] 138)).alloc (.cells #[.int .i64 0, .int .i64 0, .string ⟨#[]⟩, .string ⟨#[]⟩] 138)) (w.heap.size + 1) zeroC ∧ Below w.heap.size w ((w.alloc (.cells #[.int .i64 c.st, .int .i64 c.lf, .string c.dg, .string c.bd] 138)).alloc (.cells #[.int .i64 0, .int .i64 0, .string ⟨#[]⟩, .string ⟨#[]⟩] 138)) := by
  refine ⟨(Four.new w c).alloc _, ?_, ((Below.refl _ w).alloc (Nat.le_refl _) _).alloc (by simp) _⟩
  have := Four.new (w.alloc (.cells #[.int .i64 c.st, .int .i64 c.lf, .string c.dg, .string c.bd] 138)) zeroC
  rw [show (w.alloc (.cells #[.int .i64 c.st, .int .i64 c.lf, .string c.dg, .string c.bd] 138)).heap.size = w.heap.size + 1 by simp] at this
  exact this
theorem Four.drew {w : World} {b : Nat} {c : Ck} (h : Four w b c) : Four w.drew b c := ⟨h.c0, h.c1, h.c2, h.c3, h.fz, h.hi⟩
theorem Four.beside {w : World} {b b' k : Nat} {c : Ck} (h : Four w b c) (hne : b ≠ b') (v : Value) : Four (w.setCell ⟨b', k, none⟩ v) b c := by
  have e : (w.setCell ⟨b', k, none⟩ v).heap[b]? = w.heap[b]? := Below.heap_setCell w ⟨b', k, none⟩ v b hne
  have k' : ∀ j, (w.setCell ⟨b', k, none⟩ v).cell? ⟨b, j, none⟩ = w.cell? ⟨b, j, none⟩ := fun j => World.cell?_of_block (a := ⟨b, j, none⟩) e
  exact ⟨(k' 0).trans h.c0, (k' 1).trans h.c1, (k' 2).trans h.c2, (k' 3).trans h.c3, fun j => (World.frozen?_of_block (a := ⟨b, j, none⟩) e).trans (h.fz j), by rw [World.size_setCell]; exact h.hi⟩
theorem ret_pair {v : Value} {a b : Nat} (h : a = b) : Ending.returned (.tuple #[v, .int .i64 (a : Int)]) = .returned (.tuple #[v, .int .i64 (b : Int)]) := by rw [h]

set_option maxHeartbeats 2000000 in
theorem specAll (c : Ck) (t : ByteArray) (w : World) (hz : c.dg.size ≤ 100000000) (hb : c.bd.size ≤ 100000000) (ht : t.size ≤ 100000000) :
    Calls Tryz.prog 132 #[ckV c, .string t] w fun e w' => e = .returned (.tuple #[ckV (allC c t.data.toList), .int .i64 (allN c t.data.toList : Int)]) ∧ Below w.heap.size w w' := by
  obtain ⟨fA, fR, hB0⟩ := two_four w c
  have hq := specOk5 c ((w.alloc (.cells #[.int .i64 c.st, .int .i64 c.lf, .string c.dg, .string c.bd] 138)).alloc (.cells #[.int .i64 0, .int .i64 0, .string ⟨#[]⟩, .string ⟨#[]⟩] 138)) hb hz
  have hA : Hid _ := fA
  have hR : Hid _ := fR
  have hB : Hid _ := hB0
  clear fA fR hB0
  by_cases hok : okC c = true
  · rw [allC_yes hok, allN_yes hok]
    rw [hok] at hq
    unfold ckV at hq ⊢
    go_enter Tryz.func132, Tryz.ntmps132
    go_wp2_with fail
    refine hq.mono ?_
    rintro e w1 ⟨rfl, hb1⟩
    have q1 : Hid _ := hA.out.kept hb1 hA.out.hi
    have q2 : Hid _ := hR.out.kept hb1 hR.out.hi
    have HB : Hid (Below w.heap.size w w1) := hB.out.trans (hb1.mono hB.out.size)
    clear hA hR hB hb1 hq
    go_wp2
    go_loopw [6] (fun i wr => ∃ (k : Nat) (d : Ck), i = .int .i64 k ∧ k ≤ t.size ∧ Hid (okP d) ∧ Hid (Four wr w.heap.size d) ∧ Hid (Four wr (w.heap.size + 1) zeroC) ∧ Hid (fin c t.data.toList = fin d (t.data.toList.drop k)) ∧ Hid (cnt c t.data.toList = k + cnt d (t.data.toList.drop k)) ∧ Hid (Below w.heap.size w wr)) (fun i _ => t.size - (intOf i).toNat)
    case atStart =>
      refine ⟨0, c, rfl, Nat.zero_le _, okC_is hok, q1, q2, ?_, ?_, HB⟩
      · show fin c t.data.toList = fin c (t.data.toList.drop 0); rw [List.drop_zero]
      · show cnt c t.data.toList = 0 + cnt c (t.data.toList.drop 0); rw [List.drop_zero, Nat.zero_add]
    case round =>
      obtain ⟨k, d, rfl, hk, hd, hE, hR, hF, hC, hB⟩ := hrel
      have a0 := hE.out.c0
      have a1 := hE.out.c1
      have a2 := hE.out.c2
      have a3 := hE.out.c3
      have af := hE.out.fz
      by_cases hcont : k < t.size ∧ d.st < 8
      · obtain ⟨hlt, h8⟩ := hcont
        have hnext : Hid (fin c t.data.toList = fin (eat1 d t[k]) (t.data.toList.drop (k + 1)) ∧ cnt c t.data.toList = (k + 1) + cnt (eat1 d t[k]) (t.data.toList.drop (k + 1))) := by
          refine ⟨?_, ?_⟩
          · rw [hF.out, drop_at5 hlt, fin_cons]
          · rw [hC.out, drop_at5 hlt, cnt_cons (by omega)]; omega
        have hok1 : Hid (okP (eat1 d t[k])) := ok_eat _ hd.out
        have hm := specEat1 d t[k] wr.drew hd.out
        unfold ckV at hm
        generalize eat1 d t[k] = d2 at hnext hok1 hm
        clear hF hC hd
        go_wp2
        go_region_with (go_at_call 150; refine hm.mono ?_; rintro e w2 ⟨rfl, hb2⟩; have p1 : Hid _ := hE.out.drew.kept hb2 hE.out.hi; have p2 : Hid _ := hR.out.drew.kept hb2 hR.out.hi; have pB : Hid (Below w.heap.size w w2) := hB.out.trans ((show Below wr.heap.size wr w2 from ⟨hb2.os, hb2.tape, hb2.output, hb2.size, hb2.block⟩).mono hB.out.size); have s0 := p1.out.c0; have s1 := p1.out.c1; have s2 := p1.out.c2; have s3 := p1.out.c3; have sf := p1.out.fz)
        all_goals
          go_wp2
          go_roundw
          case rel =>
            refine ⟨k + 1, d2, by go_num, by omega, hok1, p1.out.put d2, ?_, hnext.out.1, hnext.out.2, ?_⟩
            · exact (((p2.out.beside (by omega) _).beside (by omega) _).beside (by omega) _).beside (by omega) _
            · exact (((pB.out.setCell (Nat.le_refl _) _).setCell (Nat.le_refl _) _).setCell (Nat.le_refl _) _).setCell (Nat.le_refl _) _
          case measure => simp [intOf]; omega
      · have e1 : cnt c t.data.toList = k := by
          by_cases hlt : k < t.size
          · rw [hC.out, cnt_stay (by omega)]; rfl
          · rw [hC.out, drop_end5 hlt]; rfl
        have e2 : fin c t.data.toList = d := by
          by_cases hlt : k < t.size
          · rw [hF.out, fin_stay (by omega)]
          · rw [hF.out, drop_end5 hlt]; rfl
        have H1 : Hid (k = cnt c t.data.toList) := e1.symm
        have H2 : Hid (fin c t.data.toList = d) := e2
        have r0 := hR.out.c0
        have r1 := hR.out.c1
        have r2 := hR.out.c2
        have r3 := hR.out.c3
        have rf := hR.out.fz
        clear e1 e2 hF hC hd
        by_cases hlt : k < t.size
        · have h8 : ¬ d.st < 8 := fun x => hcont ⟨hlt, x⟩
          clear hcont
          go_wp2
          refine bodyPost_ret (v := .tuple #[.agg #[.int .i64 d.st, .int .i64 d.lf, .string d.dg, .string d.bd], .int .i64 k]) (by simp [results, Tryz.results132, go_sem, r0, r1, r2, r3]) rfl ⟨by rw [show fin c t.data.toList = d from H2.out]; exact ret_pair H1.out, ?_⟩
          repeat (first | exact hB.out | refine Below.setCell ?_ (by simp) _)
        · obtain rfl : k = t.size := by omega
          clear hcont
          go_wp2
          refine bodyPost_ret (v := .tuple #[.agg #[.int .i64 d.st, .int .i64 d.lf, .string d.dg, .string d.bd], .int .i64 t.size]) (by simp [results, Tryz.results132, go_sem, r0, r1, r2, r3]) rfl ⟨by rw [show fin c t.data.toList = d from H2.out]; exact ret_pair H1.out, ?_⟩
          repeat (first | exact hB.out | refine Below.setCell ?_ (by simp) _)
  · have hok' : okC c = false := by simpa using hok
    rw [allC_no hok', allN_no hok']
    rw [hok'] at hq
    unfold ckV at hq ⊢
    go_enter Tryz.func132, Tryz.ntmps132
    go_wp2_with fail
    refine hq.mono ?_
    rintro e w1 ⟨rfl, hb1⟩
    have q2 := hR.out.kept hb1 hR.out.hi
    have HB : Hid (Below w.heap.size w w1) := hB.out.trans (hb1.mono hB.out.size)
    have r0 := q2.c0
    have r1 := q2.c1
    have r2 := q2.c2
    have r3 := q2.c3
    have rf := q2.fz
    clear q2 hA hR hB hb1 hq
    go_wp2
    refine bodyPost_ret (v := .tuple #[.agg #[.int .i64 0, .int .i64 0, .string ⟨#[]⟩, .string ⟨#[]⟩], .int .i64 0]) (by simp [results, Tryz.results132, go_sem, r0, r1, r2, r3]) rfl ⟨rfl, ?_⟩
    repeat (first | exact HB.out | refine Below.setCell ?_ (by simp) _)

set_option maxHeartbeats 1000000 in
theorem specUn (t : ByteArray) (w : World) (ht : t.size ≤ 100000000) :
    Calls Tryz.prog 107 #[.string t] w fun e w' => e = .returned (unV t.data.toList) ∧ Below w.heap.size w w' := by
  have hk : okC (ck0 ⟨#[]⟩) = true := okC_yes (ok_ck0 (by show 0 ≤ 4000; omega))
  have hq := specAll (ck0 ⟨#[]⟩) t w (by show 0 ≤ 100000000; omega) (by show 0 ≤ 100000000; omega) ht
  rw [allC_yes hk, allN_yes hk] at hq
  have hq' : Calls Tryz.prog 132 #[.agg #[.int .i64 1, .int .i64 0, .string ⟨#[]⟩, .string ⟨#[]⟩], .string t] w fun e w' => e = .returned (.tuple #[ckV (unF t.data.toList), .int .i64 (unN t.data.toList : Int)]) ∧ Below w.heap.size w w' := hq
  unfold ckV at hq'
  clear hq hk
  by_cases h8 : (unF t.data.toList).st = 8
  · rw [unV_yes h8]
    rw [h8] at hq'
    generalize unF t.data.toList = d at hq' ⊢
    generalize unN t.data.toList = n at hq' ⊢
    clear h8
    go_enter Tryz.func107, Tryz.ntmps107
    go_wp2_with (go_at_call 132; refine hq'.mono ?_; rintro e w2 ⟨rfl, hb2⟩)
    go_ret3
    exact ⟨rfl, hb2.alloc hb2.size _⟩
  · rw [unV_no h8]
    generalize unF t.data.toList = d at hq' h8 ⊢
    generalize unN t.data.toList = n at hq' ⊢
    go_enter Tryz.func107, Tryz.ntmps107
    go_wp2_with (go_at_call 132; refine hq'.mono ?_; rintro e w2 ⟨rfl, hb2⟩)
    go_ret3
    exact ⟨rfl, hb2.alloc hb2.size _⟩
end Go.Proofs.YteibacmohplblaaGreatDoor
namespace Go.Proofs.YteibacmohplblaaGreatDoor
open Go.RowKit
set_option linter.unusedVariables false

theorem rdN_tail : ∀ (n : Nat) (out : List Fl) (l : List UInt8) {o : List Fl} {r : List UInt8}, rdN n out l = some (o, r) → ∃ p, l = p ++ r
  | 0, _, _, _, _, h => by simp [rdN] at h
  | n + 1, out, l, o, r, h => by
    unfold rdN at h
    split at h
    · cases h
    · rename_i x q hq
      have hl := lnC_length hq
      split at h
      · injection h with h; injection h with e1 e2; subst e1 e2; exact ⟨_, hl⟩
      · split at h
        · cases h
        · split at h
          · cases h
          · obtain ⟨p, hp⟩ := rdN_tail n _ _ h
            exact ⟨x ++ [13, 10] ++ p, by rw [hl, hp]; simp⟩
/-- What is left lies behind. -/
theorem rdA_drop {l : List UInt8} {o : List Fl} {r : List UInt8} (h : rdA l = some (o, r)) : l.drop (l.length - r.length) = r := by
  obtain ⟨p, hp⟩ := rdN_tail 31 [] l h
  have e : l.length - r.length = p.length := by rw [hp, List.length_append]; omega
  rw [e, hp, List.drop_left]
theorem szL_ok6 {l : List Fl} (h : fldsOk l = true) : szL l ≤ 1048576 := by
  obtain ⟨h1, h2⟩ := fldsOk_parts h
  have : ∀ (l : List Fl), (∀ f ∈ l, fldOk f = true) → szL l ≤ 464 * l.length := by
    intro l
    induction l with
    | nil => intro _; exact Nat.zero_le _
    | cons f l ih =>
      intro h
      have h1 := fldOk_size (h f (by simp))
      have h2 := ih fun g hg => h g (by simp [hg])
      have e : szL (f :: l) = szF f + szL l := by simp [szL]
      have e2 : szF f = f.1.size + f.2.size := rfl
      rw [e, List.length_cons]
      omega
  have := this l h2
  omega
theorem HasF.solid {w : World} {B : Nat} {v : Value} {l : List Fl} (h : HasF w B v l) : Solid v := by
  rcases h with ⟨rfl, _⟩ | ⟨g, cap, cur, rfl, _⟩
  · intro n c e; injection e with _ _ e; exact e.symm
  · intro n c e; injection e with e _ _; cases e
theorem HasF.fits {w : World} {B : Nat} {v : Value} {l : List Fl} (h : HasF w B v l) (hok : fldsOk l = true) : Fits w v l := ⟨h.fls, szL_ok6 hok, by have := (fldsOk_parts hok).1; omega, h.solid⟩
theorem frm_cases (l : List Fl) : frm l = (0, 0) ∨ (∃ n : Nat, frm l = (1, (n : Int)) ∧ n ≤ 4000) ∨ frm l = (2, 0) ∨ frm l = (3, 0) := by
  by_cases h1 : (frm l).1 = 1
  · have := frm_long h1
    right; left
    refine ⟨(frm l).2.toNat, ?_, by omega⟩
    rw [Int.toNat_of_nonneg this.1, ← h1]
  · unfold frm at h1 ⊢
    split
    · split
      · split
        · simp
        · split
          · rename_i h2 h3 h4 h5
            rw [if_pos h2, if_pos h3, if_neg h4, if_pos h5] at h1
            exact absurd rfl h1
          · simp
      · split
        · split <;> simp
        · simp
    · simp
theorem rst_of_none {x : List UInt8} {bare : Bool} (h : rdA x = none) : rstA x bare = noR 2 := by unfold rstA; rw [h]
theorem rst_of_bad {x q : List UInt8} {l : List Fl} {bare : Bool} (h : rdA x = some (l, q)) (h3 : (frm l).1 = 3) : rstA x bare = noR 3 := by unfold rstA; rw [h]; simp only; rw [if_pos h3]
theorem rst_of_bare {x q : List UInt8} {l : List Fl} {bare : Bool} (h : rdA x = some (l, q)) (h3 : ¬ (frm l).1 = 3) (hb : bare = true ∨ (frm l).1 = 0) : rstA x bare = ⟨0, woB l, ⟨#[]⟩, q⟩ := by unfold rstA; rw [h]; simp only; rw [if_neg h3, if_pos hb]
theorem rst_of_len {x q : List UInt8} {l : List Fl} {n : Nat} (h : rdA x = some (l, q)) (hf : frm l = (1, (n : Int))) (hn : n ≤ q.length) : rstA x false = ⟨0, woB l, txtL (q.take n), q.drop n⟩ := by
  unfold rstA; rw [h]; simp only; rw [hf]
  simp only
  rw [if_neg (by decide), if_neg (by simp), if_pos trivial, if_pos (by omega), Int.toNat_natCast]
  rfl
theorem rst_of_short {x q : List UInt8} {l : List Fl} {n : Nat} (h : rdA x = some (l, q)) (hf : frm l = (1, (n : Int))) (hn : ¬ n ≤ q.length) : rstA x false = noR 4 := by
  unfold rstA; rw [h]; simp only; rw [hf]
  simp only
  rw [if_neg (by decide), if_neg (by simp), if_pos trivial, if_neg (by omega)]
theorem rst_of_ch {x q : List UInt8} {l : List Fl} (h : rdA x = some (l, q)) (hf : frm l = (2, 0)) (h8 : (unF q).st = 8) : rstA x false = ⟨0, woB l, (unF q).bd, q.drop (unN q)⟩ := by
  unfold rstA; rw [h]; simp only; rw [hf]
  simp only
  rw [if_neg (by decide), if_neg (by simp), if_neg (by decide), if_pos h8]
theorem rst_of_nch {x q : List UInt8} {l : List Fl} (h : rdA x = some (l, q)) (hf : frm l = (2, 0)) (h8 : ¬ (unF q).st = 8) : rstA x false = noR 4 := by
  unfold rstA; rw [h]; simp only; rw [hf]
  simp only
  rw [if_neg (by decide), if_neg (by simp), if_neg (by decide), if_neg h8]
theorem results_tmp4 {fn : Func} {t u v z : Tmp} (h : fn.results = #[.tmp t, .tmp u, .tmp v, .tmp z]) (tmps : Array Value) (P : Program) (w : World) : (results fn tmps).run P w = .ok (.tuple #[tmps.getD t undef, tmps.getD u undef, tmps.getD v undef, tmps.getD z undef]) w := by
  simp [results, h]
def restN (t : ByteArray) (R : Rst) : Int := if R.k = 0 then (t.size : Int) - (R.r.length : Int) else 0
/-- What l6Rest answers. -/
def GivesT (w w' : World) (e : Ending) (t : ByteArray) (R : Rst) : Prop := ∃ u, e = .returned (.tuple #[u, .string R.b, .int .i64 (restN t R), .int .i64 R.k]) ∧ HasF w' w.heap.size u R.l ∧ Below w.heap.size w w'
theorem givesT_no {w w1 : World} {t : ByteArray} {R : Rst} {k : Int} {g : Nat} (h : R = noR k) (hk : k ≠ 0) (hb : Below w.heap.size w w1) (hg : g = w1.heap.size) : GivesT w (w1.alloc (.cells #[] 81)) (.returned (.tuple #[.slice (some ⟨g, 0, none⟩) 0 0, .string ⟨#[]⟩, .int .i64 0, .int .i64 k])) t R := by
  subst h hg
  refine ⟨_, ?_, ((OwnsF.born w1).low hb.size).has, hb.alloc hb.size _⟩
  unfold restN
  rw [if_neg (show ¬ (noR k).k = 0 from hk)]
  rfl
theorem givesT_yes {w w1 : World} {t : ByteArray} {R : Rst} {l : List Fl} {b : ByteArray} {r : List UInt8} {u : Value} {N : Int} (h : R = ⟨0, l, b, r⟩) (hN : N = (t.size : Int) - (r.length : Int)) (hF : HasF w1 w.heap.size u l) (hb : Below w.heap.size w w1) : GivesT w w1 (.returned (.tuple #[u, .string b, .int .i64 N, .int .i64 0])) t R := by
  subst h hN
  exact ⟨u, by unfold restN; rw [if_pos rfl], hF, hb⟩
theorem drop_text (t : ByteArray) (k : Nat) : (t.extract k t.size).data.toList = t.data.toList.drop k := by
  rw [ByteArray.data_extract, Array.toList_extract, List.extract_eq_take_drop]
  exact List.take_of_length_le (by simp)
theorem take_text (t : ByteArray) {p n : Nat} {q : List UInt8} (h : t.data.toList.drop p = q) : t.extract p (p + n) = txtL (q.take n) := by
  subst h
  rw [← cut_of]
  congr 2
  omega

set_option maxHeartbeats 2000000 in
theorem specRest (t : ByteArray) (at' : Nat) (bare : Bool) (w : World) (hat : at' ≤ t.size) (ht : t.size ≤ 1048576) :
    Calls Tryz.prog 62 #[.string t, .int .i64 at', .bool bare] w fun e w' => GivesT w w' e t (rstA (t.data.toList.drop at') bare) := by
  have hsx : (t.extract at' t.size).size = t.size - at' := by simp
  have hrd := specRead (t.extract at' t.size) w (by omega)
  rw [drop_text] at hrd
  cases hr : rdA (t.data.toList.drop at') with
  | none =>
    rw [hr] at hrd
    have HR : Hid (rstA (t.data.toList.drop at') bare = noR 2) := rst_of_none hr
    generalize rstA (t.data.toList.drop at') bare = R at HR ⊢
    clear hr
    go_enter Tryz.func62, Tryz.ntmps62
    go_wp2_with (go_at_call 105; refine hrd.mono ?_; rintro e w1 ⟨u, rfl, hF, hb1⟩; simp only [rdI, Option.isSome])
    (try simp only [Exit.inBlock, Exit.then])
    refine bodyPost_ret (results_tmp4 rfl _ _ _) rfl ?_
    exact givesT_no HR.out (by decide) hb1 rfl
  | some p =>
    obtain ⟨l, q⟩ := p
    rw [hr] at hrd
    have hok := rdA_ok hr
    have hq2 := rdA_rest hr
    rw [List.length_drop, show t.data.toList.length = t.size by simp] at hq2
    have hqd := rdA_drop hr
    rw [List.drop_drop, List.length_drop, show t.data.toList.length = t.size by simp, show at' + (t.size - at' - q.length) = t.size - q.length by omega] at hqd
    obtain ⟨d, hd⟩ : ∃ d, at' + d = t.size - q.length := ⟨t.size - q.length - at', by omega⟩
    rw [← hd] at hqd
    have hrdi : rdI (t.extract at' t.size) (some (l, q)) = (d : Int) := by
      show ((t.extract at' t.size).size : Int) - (q.length : Int) = _
      rw [hsx]; omega
    have hpq : at' + d + q.length = t.size := by omega
    have hokw : fldsOk (wo l clS) = true := fldsOk_filter hok _
    have HQ : Hid (∀ n, t.extract (at' + d) (at' + d + n) = txtL (q.take n)) := fun n => take_text t hqd
    have hun := fun w => specUn (t.extract (at' + d) t.size) w (by rw [show (t.extract (at' + d) t.size).size = t.size - (at' + d) by simp]; omega)
    rw [drop_text, hqd] at hun
    clear hqd hsx hd hq2
    cases bare with
    | true =>
      have R3 := fun h3 => rst_of_bad (bare := true) hr h3
      have RB := fun h3 hb => rst_of_bare (bare := true) hr h3 hb
      have RL : True := trivial
      have RS : True := trivial
      have RC : True := trivial
      have RN : True := trivial
      generalize rstA (t.data.toList.drop at') true = R at R3 RB ⊢
      clear hr
      go_enter Tryz.func62, Tryz.ntmps62
      go_wp2_with fail
      refine hrd.mono ?_
      rintro e w1 ⟨u1, rfl, hF1', hb1⟩
      have hF1 : HasF w1 w.heap.size u1 l := hF1'
      rw [hrdi]
      simp only [Option.isSome]
      have I1' := hF1.fits hok
      obtain ⟨A1, cap1, rfl, hc1, hm1, _⟩ := hF1.form
      have I1 : Hid (Fits w1 (.slice A1 l.length cap1) l) := I1'
      have B1 : Hid (Below w.heap.size w w1) := hb1
      clear hF1 hF1' hb1 I1' hrd hrdi
      go_wp2_with fail
      refine (specFrm _ l _ I1.out).mono ?_
      unfold frmE
      rintro e w2 ⟨rfl, hb2⟩
      have I2 : Hid (Fits w2 (.slice A1 l.length cap1) l) := I1.out.kept hb2
      have B2 : Hid (Below w.heap.size w w2) := past6 B1.out hb2
      clear hb2 I1 B1
      go_wp2_with fail
      refine (specWoF _ l clS _ I2.out.1 hok (by decide)).mono ?_
      rintro e w3 ⟨u3, rfl, ho3, hb3⟩
      have B3 : Hid (Below w.heap.size w w3) := past6 B2.out hb3
      have O3' := ho3
      obtain ⟨A3, cap3, rfl, hc3, hm3⟩ := ho3.form
      have O3 : Hid (OwnsF w3 w2.heap.size (.slice A3 (wo l clS).length cap3) (wo l clS)) := O3'
      clear hb3 B2 I2 ho3 O3'
      go_wp2_with fail
      refine (specWoF _ (wo l clS) teS _ O3.out.fls hokw (by decide)).mono ?_
      rintro e w4 ⟨u4, rfl, ho4, hb4⟩
      have B4 : Hid (Below w.heap.size w w4) := past6 B3.out hb4
      have F4' : HasF w4 w.heap.size u4 (woB l) := (ho4.has).low B3.out.size
      obtain ⟨A4, cap4, rfl, hc4, hm4⟩ := ho4.form
      have F4 : Hid (HasF w4 w.heap.size (.slice A4 (wo (wo l clS) teS).length cap4) (woB l)) := F4'
      clear ho4 hb4 B3 O3 F4'
      generalize (wo (wo l clS) teS).length = n4 at F4 hc4 ⊢
      rcases frm_cases l with hf | ⟨n, hf, hn⟩ | hf | hf
      · have f1 : (frm l).1 = 0 := by rw [hf]
        have f3 : ¬ (frm l).1 = 3 := by rw [f1]; decide
        rw [hf]
        have HR : Hid (R = ⟨0, woB l, ⟨#[]⟩, q⟩) := RB f3 (.inl trivial)
        clear R3 RB RL RS RC RN
        go_wp2
        (try simp only [Exit.inBlock, Exit.then])
        refine bodyPost_ret (results_tmp4 rfl _ _ _) rfl ?_
        exact givesT_yes HR.out (by omega) F4.out B4.out
      · have f1 : (frm l).1 = 1 := by rw [hf]
        have f3 : ¬ (frm l).1 = 3 := by rw [f1]; decide
        rw [hf]
        have HR : Hid (R = ⟨0, woB l, ⟨#[]⟩, q⟩) := RB f3 (.inl trivial)
        clear R3 RB RL RS RC RN
        go_wp2
        (try simp only [Exit.inBlock, Exit.then])
        refine bodyPost_ret (results_tmp4 rfl _ _ _) rfl ?_
        exact givesT_yes HR.out (by omega) F4.out B4.out
      · have f1 : (frm l).1 = 2 := by rw [hf]
        have f3 : ¬ (frm l).1 = 3 := by rw [f1]; decide
        rw [hf]
        have HR : Hid (R = ⟨0, woB l, ⟨#[]⟩, q⟩) := RB f3 (.inl trivial)
        clear R3 RB RL RS RC RN
        go_wp2
        (try simp only [Exit.inBlock, Exit.then])
        refine bodyPost_ret (results_tmp4 rfl _ _ _) rfl ?_
        exact givesT_yes HR.out (by omega) F4.out B4.out
      · have f3 : (frm l).1 = 3 := by rw [hf]
        rw [hf]
        have HR : Hid (R = noR 3) := R3 f3
        clear R3 RB RL RS RC RN
        go_wp2
        (try simp only [Exit.inBlock, Exit.then])
        refine bodyPost_ret (results_tmp4 rfl _ _ _) rfl ?_
        exact givesT_no HR.out (by decide) B4.out rfl
    | false =>
      have R3 := fun h3 => rst_of_bad (bare := false) hr h3
      have RB := fun h3 hb => rst_of_bare (bare := false) hr h3 hb
      have RL := fun n hf hn => rst_of_len (n := n) hr hf hn
      have RS := fun n hf hn => rst_of_short (n := n) hr hf hn
      have RC := fun hf h8 => rst_of_ch hr hf h8
      have RN := fun hf h8 => rst_of_nch hr hf h8
      generalize rstA (t.data.toList.drop at') false = R at R3 RB RL RS RC RN ⊢
      clear hr
      go_enter Tryz.func62, Tryz.ntmps62
      go_wp2_with fail
      refine hrd.mono ?_
      rintro e w1 ⟨u1, rfl, hF1', hb1⟩
      have hF1 : HasF w1 w.heap.size u1 l := hF1'
      rw [hrdi]
      simp only [Option.isSome]
      have I1' := hF1.fits hok
      obtain ⟨A1, cap1, rfl, hc1, hm1, _⟩ := hF1.form
      have I1 : Hid (Fits w1 (.slice A1 l.length cap1) l) := I1'
      have B1 : Hid (Below w.heap.size w w1) := hb1
      clear hF1 hF1' hb1 I1' hrd hrdi
      go_wp2_with fail
      refine (specFrm _ l _ I1.out).mono ?_
      unfold frmE
      rintro e w2 ⟨rfl, hb2⟩
      have I2 : Hid (Fits w2 (.slice A1 l.length cap1) l) := I1.out.kept hb2
      have B2 : Hid (Below w.heap.size w w2) := past6 B1.out hb2
      clear hb2 I1 B1
      go_wp2_with fail
      refine (specWoF _ l clS _ I2.out.1 hok (by decide)).mono ?_
      rintro e w3 ⟨u3, rfl, ho3, hb3⟩
      have B3 : Hid (Below w.heap.size w w3) := past6 B2.out hb3
      have O3' := ho3
      obtain ⟨A3, cap3, rfl, hc3, hm3⟩ := ho3.form
      have O3 : Hid (OwnsF w3 w2.heap.size (.slice A3 (wo l clS).length cap3) (wo l clS)) := O3'
      clear hb3 B2 I2 ho3 O3'
      go_wp2_with fail
      refine (specWoF _ (wo l clS) teS _ O3.out.fls hokw (by decide)).mono ?_
      rintro e w4 ⟨u4, rfl, ho4, hb4⟩
      have B4 : Hid (Below w.heap.size w w4) := past6 B3.out hb4
      have F4' : HasF w4 w.heap.size u4 (woB l) := (ho4.has).low B3.out.size
      obtain ⟨A4, cap4, rfl, hc4, hm4⟩ := ho4.form
      have F4 : Hid (HasF w4 w.heap.size (.slice A4 (wo (wo l clS) teS).length cap4) (woB l)) := F4'
      clear ho4 hb4 B3 O3 F4'
      generalize (wo (wo l clS) teS).length = n4 at F4 hc4 ⊢
      rcases frm_cases l with hf | ⟨n, hf, hn⟩ | hf | hf
      · have f1 : (frm l).1 = 0 := by rw [hf]
        have f3 : ¬ (frm l).1 = 3 := by rw [f1]; decide
        rw [hf]
        have HR : Hid (R = ⟨0, woB l, ⟨#[]⟩, q⟩) := RB f3 (.inr f1)
        clear R3 RB RL RS RC RN
        go_wp2
        (try simp only [Exit.inBlock, Exit.then])
        refine bodyPost_ret (results_tmp4 rfl _ _ _) rfl ?_
        exact givesT_yes HR.out (by omega) F4.out B4.out
      · rw [hf]
        by_cases hnq : n ≤ q.length
        · have HR : Hid (R = ⟨0, woB l, txtL (q.take n), q.drop n⟩) := RL n hf hnq
          have hgt : ¬ (n : Int) > (t.size : Int) - ((at' : Int) + (d : Int)) := by omega
          have hgt2 : ¬ (t.size : Int) - ((at' : Int) + (d : Int)) < (n : Int) := by omega
          have hqn := HQ.out n
          rw [← hqn] at HR
          clear hqn
          clear R3 RB RL RS RC RN
          go_wp2
          (try simp only [Exit.inBlock, Exit.then])
          refine bodyPost_ret (results_tmp4 rfl _ _ _) rfl ?_
          exact givesT_yes HR.out (by rw [List.length_drop]; omega) F4.out B4.out
        · have hgt2 : (t.size : Int) - ((at' : Int) + (d : Int)) < (n : Int) := by omega
          have HR : Hid (R = noR 4) := RS n hf hnq
          clear R3 RB RL RS RC RN
          go_wp2
          (try simp only [Exit.inBlock, Exit.then])
          refine bodyPost_ret (results_tmp4 rfl _ _ _) rfl ?_
          exact givesT_no HR.out (by decide) B4.out rfl
      · rw [hf]
        by_cases h8 : (unF q).st = 8
        · have HR : Hid (R = ⟨0, woB l, (unF q).bd, q.drop (unN q)⟩) := RC hf h8
          rw [unV_yes h8] at hun
          have hcu : unN q ≤ q.length := cnt_le _ _
          generalize unN q = un at hun hcu HR
          generalize (unF q).bd = ub at hun HR
          clear h8
          clear R3 RB RL RS RC RN
          go_wp2_with (go_at_call 107; refine (hun _).mono ?_; rintro e w5 ⟨rfl, hb5⟩; have B5 : Hid (Below w.heap.size w w5) := past6 B4.out hb5; have F5 : Hid (HasF w5 w.heap.size (.slice A4 n4 cap4) (woB l)) := F4.out.kept hb5; clear hb5)
          (try simp only [Exit.inBlock, Exit.then])
          refine bodyPost_ret (results_tmp4 rfl _ _ _) rfl ?_
          exact givesT_yes HR.out (by rw [List.length_drop]; omega) F5.out B5.out
        · rw [unV_no h8] at hun
          have HR : Hid (R = noR 4) := RN hf h8
          clear R3 RB RL RS RC RN h8
          go_wp2_with (go_at_call 107; refine (hun _).mono ?_; rintro e w5 ⟨rfl, hb5⟩; have B5 : Hid (Below w.heap.size w w5) := past6 B4.out hb5; have F5 : Hid (HasF w5 w.heap.size (.slice A4 n4 cap4) (woB l)) := F4.out.kept hb5; clear hb5)
          (try simp only [Exit.inBlock, Exit.then])
          refine bodyPost_ret (results_tmp4 rfl _ _ _) rfl ?_
          exact givesT_no HR.out (by decide) B5.out rfl
      · have f3 : (frm l).1 = 3 := by rw [hf]
        rw [hf]
        have HR : Hid (R = noR 3) := R3 f3
        clear R3 RB RL RS RC RN
        go_wp2
        (try simp only [Exit.inBlock, Exit.then])
        refine bodyPost_ret (results_tmp4 rfl _ _ _) rfl ?_
        exact givesT_no HR.out (by decide) B4.out rfl
end Go.Proofs.YteibacmohplblaaGreatDoor
