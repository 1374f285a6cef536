/-
  The specification's Eat, EatAll and Unchunked by their contracts.
-/
import Derived.Test.YtbdnfajdpajfpaaChkU
import Derived.Deep.RegionWith
namespace Go.Proofs.Ytbdnfajdpajfpaa
open Go.RowKit
set_option linter.unusedVariables false

theorem drop_at5 {t : ByteArray} {k : Nat} (h : k < t.size) : t.data.toList.drop k = t[k] :: t.data.toList.drop (k + 1) := by
  rw [List.drop_eq_getElem_cons (by simpa using h)]
  rfl
theorem drop_end5 {t : ByteArray} {k : Nat} (h : ¬ k < t.size) : t.data.toList.drop k = [] := List.drop_of_length_le (by
  have e : t.data.toList.length = t.size := by simp
  omega)
theorem two_four (w : World) (c : Ck) : Four ((w.alloc (.cells #[.int .i64 c.st, .int .i64 c.lf, .string c.dg, .string c.bd] 25)).alloc (.cells #[.int .i64 0, .int .i64 0, .string ⟨#[]⟩, .string ⟨#[]⟩] 25)) w.heap.size c ∧ Four ((w.alloc (.cells #[.int .i64 c.st, .int .i64 c.lf, .string c.dg, .string c.bd] 25)).alloc (.cells #[.int .i64 0, .int .i64 0, .string ⟨#[]⟩, .string ⟨#[]⟩] 25)) (w.heap.size + 1) zeroC ∧ Below w.heap.size w ((w.alloc (.cells #[.int .i64 c.st, .int .i64 c.lf, .string c.dg, .string c.bd] 25)).alloc (.cells #[.int .i64 0, .int .i64 0, .string ⟨#[]⟩, .string ⟨#[]⟩] 25)) := by
  refine ⟨(Four.new w c).alloc _, ?_, ((Below.refl _ w).alloc (Nat.le_refl _) _).alloc (by simp) _⟩
  have := Four.new (w.alloc (.cells #[.int .i64 c.st, .int .i64 c.lf, .string c.dg, .string c.bd] 25)) zeroC
  rw [show (w.alloc (.cells #[.int .i64 c.st, .int .i64 c.lf, .string c.dg, .string c.bd] 25)).heap.size = w.heap.size + 1 by simp] at this
  exact this
theorem Four.drew {w : World} {b : Nat} {c : Ck} (h : Four w b c) : Four w.drew b c := ⟨h.c0, h.c1, h.c2, h.c3, h.fz, h.hi⟩
theorem Four.beside {w : World} {b b' k : Nat} {c : Ck} (h : Four w b c) (hne : b ≠ b') (v : Value) : Four (w.setCell ⟨b', k, none⟩ v) b c := by
  have e : (w.setCell ⟨b', k, none⟩ v).heap[b]? = w.heap[b]? := Below.heap_setCell w ⟨b', k, none⟩ v b hne
  have k' : ∀ j, (w.setCell ⟨b', k, none⟩ v).cell? ⟨b, j, none⟩ = w.cell? ⟨b, j, none⟩ := fun j => World.cell?_of_block (a := ⟨b, j, none⟩) e
  exact ⟨(k' 0).trans h.c0, (k' 1).trans h.c1, (k' 2).trans h.c2, (k' 3).trans h.c3, fun j => (World.frozen?_of_block (a := ⟨b, j, none⟩) e).trans (h.fz j), by rw [World.size_setCell]; exact h.hi⟩
theorem ret_pair {v : Value} {a b : Nat} (h : a = b) : Ending.returned (.tuple #[v, .int .i64 (a : Int)]) = .returned (.tuple #[v, .int .i64 (b : Int)]) := by rw [h]

set_option maxHeartbeats 1000000 in
theorem specEat (c : Ck) (x : UInt8) (w : World) (hz : c.dg.size ≤ 100000000) (hb : c.bd.size ≤ 100000000) :
    Calls Try.prog 11 #[ckV c, .int .u8 (x.toNat : Int)] w fun e w' => e = .returned (ckV (allC c [x])) ∧ Below w.heap.size w w' := by
  obtain ⟨fA, fR, hB0⟩ := two_four w c
  have hq := specOk5 c ((w.alloc (.cells #[.int .i64 c.st, .int .i64 c.lf, .string c.dg, .string c.bd] 25)).alloc (.cells #[.int .i64 0, .int .i64 0, .string ⟨#[]⟩, .string ⟨#[]⟩] 25)) hb hz
  have hA : Hid _ := fA
  have hR : Hid _ := fR
  have hB : Hid _ := hB0
  clear fA fR hB0
  by_cases hok : okC c = true
  · rw [allC_yes hok]
    rw [hok] at hq
    have hs : Hid (∀ w, Calls Try.prog 26 #[ckV c, .int .u8 (x.toNat : Int)] w fun e w' => e = .returned (ckV (fin c [x])) ∧ Below w.heap.size w w') := fun w => specEat1 c x w (okC_is hok)
    unfold ckV at hq hs ⊢
    generalize fin c [x] = d at hs ⊢
    go_enter Try.func11, Try.ntmps11
    go_wp2_with fail
    refine hq.mono ?_
    rintro e w1 ⟨rfl, hb1⟩
    have q1 := hA.out.kept hb1 hA.out.hi
    have q2 := hR.out.kept hb1 hR.out.hi
    have HB : Hid (Below w.heap.size w w1) := hB.out.trans (hb1.mono hB.out.size)
    have a0 := q1.c0
    have a1 := q1.c1
    have a2 := q1.c2
    have a3 := q1.c3
    have Q2 : Hid _ := q2
    clear q1 q2 hA hR hB hb1 hq
    go_wp2_with fail
    refine (hs.out _).mono ?_
    rintro e w2 ⟨rfl, hb2⟩
    have q3 := Q2.out.kept hb2 Q2.out.hi
    have HB2 : Hid (Below w.heap.size w w2) := HB.out.trans (hb2.mono HB.out.size)
    have F : Hid _ := q3.put d
    have r0 := q3.c0
    have r1 := q3.c1
    have r2 := q3.c2
    have r3 := q3.c3
    have rf := q3.fz
    clear q3 Q2 hb2 HB hs a0 a1 a2 a3
    go_wp2
    refine bodyPost_ret (v := .agg #[.int .i64 d.st, .int .i64 d.lf, .string d.dg, .string d.bd]) (by simp [results, Try.results11, go_sem, r0, r1, r2, r3]) rfl ⟨rfl, ?_⟩
    repeat (first | exact HB2.out | refine Below.setCell ?_ (by simp) _)
  · have hok' : okC c = false := by simpa using hok
    rw [allC_no hok']
    rw [hok'] at hq
    unfold ckV at hq ⊢
    go_enter Try.func11, Try.ntmps11
    go_wp2_with fail
    refine hq.mono ?_
    rintro e w1 ⟨rfl, hb1⟩
    have q2 := hR.out.kept hb1 hR.out.hi
    have HB : Hid (Below w.heap.size w w1) := hB.out.trans (hb1.mono hB.out.size)
    have r0 := q2.c0
    have r1 := q2.c1
    have r2 := q2.c2
    have r3 := q2.c3
    have rf := q2.fz
    clear q2 hA hR hB hb1 hq
    go_wp2
    refine bodyPost_ret (v := .agg #[.int .i64 0, .int .i64 0, .string ⟨#[]⟩, .string ⟨#[]⟩]) (by simp [results, Try.results11, go_sem, r0, r1, r2, r3]) rfl ⟨rfl, ?_⟩
    repeat (first | exact HB.out | refine Below.setCell ?_ (by simp) _)

set_option maxHeartbeats 2000000 in
theorem specAll (c : Ck) (t : ByteArray) (w : World) (hz : c.dg.size ≤ 100000000) (hb : c.bd.size ≤ 100000000) (ht : t.size ≤ 100000000) :
    Calls Try.prog 16 #[ckV c, .string t] w fun e w' => e = .returned (.tuple #[ckV (allC c t.data.toList), .int .i64 (allN c t.data.toList : Int)]) ∧ Below w.heap.size w w' := by
  obtain ⟨fA, fR, hB0⟩ := two_four w c
  have hq := specOk5 c ((w.alloc (.cells #[.int .i64 c.st, .int .i64 c.lf, .string c.dg, .string c.bd] 25)).alloc (.cells #[.int .i64 0, .int .i64 0, .string ⟨#[]⟩, .string ⟨#[]⟩] 25)) hb hz
  have hA : Hid _ := fA
  have hR : Hid _ := fR
  have hB : Hid _ := hB0
  clear fA fR hB0
  by_cases hok : okC c = true
  · rw [allC_yes hok, allN_yes hok]
    rw [hok] at hq
    unfold ckV at hq ⊢
    go_enter Try.func16, Try.ntmps16
    go_wp2_with fail
    refine hq.mono ?_
    rintro e w1 ⟨rfl, hb1⟩
    have q1 : Hid _ := hA.out.kept hb1 hA.out.hi
    have q2 : Hid _ := hR.out.kept hb1 hR.out.hi
    have HB : Hid (Below w.heap.size w w1) := hB.out.trans (hb1.mono hB.out.size)
    clear hA hR hB hb1 hq
    go_wp2
    go_loopw [6] (fun i wr => ∃ (k : Nat) (d : Ck), i = .int .i64 k ∧ k ≤ t.size ∧ Hid (okP d) ∧ Hid (Four wr w.heap.size d) ∧ Hid (Four wr (w.heap.size + 1) zeroC) ∧ Hid (fin c t.data.toList = fin d (t.data.toList.drop k)) ∧ Hid (cnt c t.data.toList = k + cnt d (t.data.toList.drop k)) ∧ Hid (Below w.heap.size w wr)) (fun i _ => t.size - (intOf i).toNat)
    case atStart =>
      refine ⟨0, c, rfl, Nat.zero_le _, okC_is hok, q1, q2, ?_, ?_, HB⟩
      · show fin c t.data.toList = fin c (t.data.toList.drop 0); rw [List.drop_zero]
      · show cnt c t.data.toList = 0 + cnt c (t.data.toList.drop 0); rw [List.drop_zero, Nat.zero_add]
    case round =>
      obtain ⟨k, d, rfl, hk, hd, hE, hR, hF, hC, hB⟩ := hrel
      have a0 := hE.out.c0
      have a1 := hE.out.c1
      have a2 := hE.out.c2
      have a3 := hE.out.c3
      have af := hE.out.fz
      by_cases hcont : k < t.size ∧ d.st < 8
      · obtain ⟨hlt, h8⟩ := hcont
        have hnext : Hid (fin c t.data.toList = fin (eat1 d t[k]) (t.data.toList.drop (k + 1)) ∧ cnt c t.data.toList = (k + 1) + cnt (eat1 d t[k]) (t.data.toList.drop (k + 1))) := by
          refine ⟨?_, ?_⟩
          · rw [hF.out, drop_at5 hlt, fin_cons]
          · rw [hC.out, drop_at5 hlt, cnt_cons (by omega)]; omega
        have hok1 : Hid (okP (eat1 d t[k])) := ok_eat _ hd.out
        have hm := specEat1 d t[k] wr.drew hd.out
        unfold ckV at hm
        generalize eat1 d t[k] = d2 at hnext hok1 hm
        clear hF hC hd
        go_wp2
        go_region_with (go_at_call 26; refine hm.mono ?_; rintro e w2 ⟨rfl, hb2⟩; have p1 : Hid _ := hE.out.drew.kept hb2 hE.out.hi; have p2 : Hid _ := hR.out.drew.kept hb2 hR.out.hi; have pB : Hid (Below w.heap.size w w2) := hB.out.trans ((show Below wr.heap.size wr w2 from ⟨hb2.os, hb2.tape, hb2.output, hb2.size, hb2.block⟩).mono hB.out.size); have s0 := p1.out.c0; have s1 := p1.out.c1; have s2 := p1.out.c2; have s3 := p1.out.c3; have sf := p1.out.fz)
        all_goals
          go_wp2
          go_roundw
          case rel =>
            refine ⟨k + 1, d2, by go_num, by omega, hok1, p1.out.put d2, ?_, hnext.out.1, hnext.out.2, ?_⟩
            · exact (((p2.out.beside (by omega) _).beside (by omega) _).beside (by omega) _).beside (by omega) _
            · exact (((pB.out.setCell (Nat.le_refl _) _).setCell (Nat.le_refl _) _).setCell (Nat.le_refl _) _).setCell (Nat.le_refl _) _
          case measure => simp [intOf]; omega
      · have e1 : cnt c t.data.toList = k := by
          by_cases hlt : k < t.size
          · rw [hC.out, cnt_stay (by omega)]; rfl
          · rw [hC.out, drop_end5 hlt]; rfl
        have e2 : fin c t.data.toList = d := by
          by_cases hlt : k < t.size
          · rw [hF.out, fin_stay (by omega)]
          · rw [hF.out, drop_end5 hlt]; rfl
        have H1 : Hid (k = cnt c t.data.toList) := e1.symm
        have H2 : Hid (fin c t.data.toList = d) := e2
        have r0 := hR.out.c0
        have r1 := hR.out.c1
        have r2 := hR.out.c2
        have r3 := hR.out.c3
        have rf := hR.out.fz
        clear e1 e2 hF hC hd
        by_cases hlt : k < t.size
        · have h8 : ¬ d.st < 8 := fun x => hcont ⟨hlt, x⟩
          clear hcont
          go_wp2
          refine bodyPost_ret (v := .tuple #[.agg #[.int .i64 d.st, .int .i64 d.lf, .string d.dg, .string d.bd], .int .i64 k]) (by simp [results, Try.results16, go_sem, r0, r1, r2, r3]) rfl ⟨by rw [show fin c t.data.toList = d from H2.out]; exact ret_pair H1.out, ?_⟩
          repeat (first | exact hB.out | refine Below.setCell ?_ (by simp) _)
        · obtain rfl : k = t.size := by omega
          clear hcont
          go_wp2
          refine bodyPost_ret (v := .tuple #[.agg #[.int .i64 d.st, .int .i64 d.lf, .string d.dg, .string d.bd], .int .i64 t.size]) (by simp [results, Try.results16, go_sem, r0, r1, r2, r3]) rfl ⟨by rw [show fin c t.data.toList = d from H2.out]; exact ret_pair H1.out, ?_⟩
          repeat (first | exact hB.out | refine Below.setCell ?_ (by simp) _)
  · have hok' : okC c = false := by simpa using hok
    rw [allC_no hok', allN_no hok']
    rw [hok'] at hq
    unfold ckV at hq ⊢
    go_enter Try.func16, Try.ntmps16
    go_wp2_with fail
    refine hq.mono ?_
    rintro e w1 ⟨rfl, hb1⟩
    have q2 := hR.out.kept hb1 hR.out.hi
    have HB : Hid (Below w.heap.size w w1) := hB.out.trans (hb1.mono hB.out.size)
    have r0 := q2.c0
    have r1 := q2.c1
    have r2 := q2.c2
    have r3 := q2.c3
    have rf := q2.fz
    clear q2 hA hR hB hb1 hq
    go_wp2
    refine bodyPost_ret (v := .tuple #[.agg #[.int .i64 0, .int .i64 0, .string ⟨#[]⟩, .string ⟨#[]⟩], .int .i64 0]) (by simp [results, Try.results16, go_sem, r0, r1, r2, r3]) rfl ⟨rfl, ?_⟩
    repeat (first | exact HB.out | refine Below.setCell ?_ (by simp) _)

set_option maxHeartbeats 1000000 in
theorem specUn (t : ByteArray) (w : World) (ht : t.size ≤ 100000000) :
    Calls Try.prog 20 #[.string t] w fun e w' => e = .returned (unV t.data.toList) ∧ Below w.heap.size w w' := by
  have hk : okC (ck0 ⟨#[]⟩) = true := okC_yes (ok_ck0 (by show 0 ≤ 4000; omega))
  have hq := specAll (ck0 ⟨#[]⟩) t w (by show 0 ≤ 100000000; omega) (by show 0 ≤ 100000000; omega) ht
  rw [allC_yes hk, allN_yes hk] at hq
  have hq' : Calls Try.prog 16 #[.agg #[.int .i64 1, .int .i64 0, .string ⟨#[]⟩, .string ⟨#[]⟩], .string t] w fun e w' => e = .returned (.tuple #[ckV (unF t.data.toList), .int .i64 (unN t.data.toList : Int)]) ∧ Below w.heap.size w w' := hq
  unfold ckV at hq'
  clear hq hk
  by_cases h8 : (unF t.data.toList).st = 8
  · rw [unV_yes h8]
    rw [h8] at hq'
    generalize unF t.data.toList = d at hq' ⊢
    generalize unN t.data.toList = n at hq' ⊢
    clear h8
    go_enter Try.func20, Try.ntmps20
    go_wp2_with (go_at_call 16; refine hq'.mono ?_; rintro e w2 ⟨rfl, hb2⟩)
    go_ret3
    exact ⟨rfl, hb2.alloc hb2.size _⟩
  · rw [unV_no h8]
    generalize unF t.data.toList = d at hq' h8 ⊢
    generalize unN t.data.toList = n at hq' ⊢
    go_enter Try.func20, Try.ntmps20
    go_wp2_with (go_at_call 16; refine hq'.mono ?_; rintro e w2 ⟨rfl, hb2⟩)
    go_ret3
    exact ⟨rfl, hb2.alloc hb2.size _⟩
end Go.Proofs.Ytbdnfajdpajfpaa
