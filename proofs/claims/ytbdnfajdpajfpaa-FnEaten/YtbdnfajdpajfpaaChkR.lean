/-
  The program's EatAll, Eat and Unchunked by their contracts.
-/
import Derived.Test.YtbdnfajdpajfpaaChkO
import Derived.Test.YtbdnfajdpajfpaaChkQ
import Derived.Test.YtbdnfajdpajfpaaChkV
namespace Go.Proofs.Ytbdnfajdpajfpaa
open Go.RowKit

/-- A reading that has just begun. -/
theorem etr_new (w : World) (c : Ck) (cap1 cap2 : Nat) (C1 C2 : Array Value) (S : Nat → Prop) (hS : ∀ k, S k → k < w.heap.size)
    (h1 : OwnsC (w.drew.alloc (.cells C1 5 (C1.size, C1.size + 1))) w.heap.size (.slice (some ⟨w.heap.size, 0, none⟩) c.dg.size cap1) c.dg.data.toList)
    (h2 : OwnsC ((w.drew.alloc (.cells C1 5 (C1.size, C1.size + 1))).drew.alloc (.cells C2 5 (C2.size, C2.size + 1))) (w.heap.size + 1) (.slice (some ⟨w.heap.size + 1, 0, none⟩) c.bd.size cap2) c.bd.data.toList) :
    Etr (((w.drew.alloc (.cells C1 5 (C1.size, C1.size + 1))).drew.alloc (.cells C2 5 (C2.size, C2.size + 1))).alloc (.cells #[.int .i64 c.st, .int .i64 c.lf, .slice (some ⟨w.heap.size, 0, none⟩) c.dg.size cap1, .slice (some ⟨w.heap.size + 1, 0, none⟩) c.bd.size cap2] 54)) S (w.heap.size + 2) c := by
  have z1 : (w.drew.alloc (.cells C1 5 (C1.size, C1.size + 1))).heap.size = w.heap.size + 1 := by simp
  have z2 : ((w.drew.alloc (.cells C1 5 (C1.size, C1.size + 1))).drew.alloc (.cells C2 5 (C2.size, C2.size + 1))).heap.size = w.heap.size + 2 := by simp
  have z3 : (((w.drew.alloc (.cells C1 5 (C1.size, C1.size + 1))).drew.alloc (.cells C2 5 (C2.size, C2.size + 1))).alloc (.cells #[.int .i64 c.st, .int .i64 c.lf, .slice (some ⟨w.heap.size, 0, none⟩) c.dg.size cap1, .slice (some ⟨w.heap.size + 1, 0, none⟩) c.bd.size cap2] 54)).heap.size = w.heap.size + 3 := by simp
  have k3 : ∀ k, (((w.drew.alloc (.cells C1 5 (C1.size, C1.size + 1))).drew.alloc (.cells C2 5 (C2.size, C2.size + 1))).alloc (.cells #[.int .i64 c.st, .int .i64 c.lf, .slice (some ⟨w.heap.size, 0, none⟩) c.dg.size cap1, .slice (some ⟨w.heap.size + 1, 0, none⟩) c.bd.size cap2] 54)).cell? ⟨w.heap.size + 2, k, none⟩ = (#[.int .i64 c.st, .int .i64 c.lf, .slice (some ⟨w.heap.size, 0, none⟩) c.dg.size cap1, .slice (some ⟨w.heap.size + 1, 0, none⟩) c.bd.size cap2] : Array Value)[k]? := fun k => by
    have := World.cell?_alloc_mark ((w.drew.alloc (.cells C1 5 (C1.size, C1.size + 1))).drew.alloc (.cells C2 5 (C2.size, C2.size + 1))) #[.int .i64 c.st, .int .i64 c.lf, .slice (some ⟨w.heap.size, 0, none⟩) c.dg.size cap1, .slice (some ⟨w.heap.size + 1, 0, none⟩) c.bd.size cap2] 54 (0, 0) k
    rw [z2] at this
    exact this
  refine ⟨_, _, {
    c0 := k3 0
    c1 := k3 1
    c2 := k3 2
    c3 := k3 3
    od := ?_
    ob := ?_
    nd := by simp [Value.ownBlock]
    nb := by simp [Value.ownBlock]
    ne := by right; simp [Value.ownBlock]
    fz := fun k => ?_
    lo := fun x => by have := hS _ x; omega
    sd := fun k hk x => by simp [Value.ownBlock] at hk; subst hk; have := hS _ x; omega
    sb := fun k hk x => by simp [Value.ownBlock] at hk; subst hk; have := hS _ x; omega
    sz := fun k x => by rw [z3]; have := hS k x; omega
    hi := by rw [z3]; omega }⟩
  · have e1 : OwnsC (w.drew.alloc (.cells C1 5 (C1.size, C1.size + 1))) 0 (.slice (some ⟨w.heap.size, 0, none⟩) c.dg.size cap1) c.dg.data.toList := by
      rcases h1 with x | ⟨g, cap, cur, fz, x1, x2, x3⟩
      · exact .inl x
      · exact .inr ⟨g, cap, cur, fz, x1, Nat.zero_le _, x3⟩
    refine e1.kept fun k hk => ?_
    simp [Value.ownBlock] at hk
    subst hk
    rw [Below.heap_alloc _ _ _ (by rw [z2]; omega)]
    exact Below.heap_alloc (w.drew.alloc (.cells C1 5 (C1.size, C1.size + 1))).drew _ _ (show w.heap.size < (w.drew.alloc (.cells C1 5 (C1.size, C1.size + 1))).heap.size by rw [z1]; omega)
  · have e1 : OwnsC ((w.drew.alloc (.cells C1 5 (C1.size, C1.size + 1))).drew.alloc (.cells C2 5 (C2.size, C2.size + 1))) 0 (.slice (some ⟨w.heap.size + 1, 0, none⟩) c.bd.size cap2) c.bd.data.toList := by
      rcases h2 with x | ⟨g, cap, cur, fz, x1, x2, x3⟩
      · exact .inl x
      · exact .inr ⟨g, cap, cur, fz, x1, Nat.zero_le _, x3⟩
    refine e1.kept fun k hk => ?_
    simp [Value.ownBlock] at hk
    subst hk
    rw [Below.heap_alloc _ _ _ (by rw [z2]; omega)]
  · have := World.frozen?_alloc_mark ((w.drew.alloc (.cells C1 5 (C1.size, C1.size + 1))).drew.alloc (.cells C2 5 (C2.size, C2.size + 1))) #[.int .i64 c.st, .int .i64 c.lf, .slice (some ⟨w.heap.size, 0, none⟩) c.dg.size cap1, .slice (some ⟨w.heap.size + 1, 0, none⟩) c.bd.size cap2] 54 0 0 k
    rw [z2] at this
    rw [this]
    simp

set_option maxHeartbeats 2000000 in
theorem implAll (c : Ck) (t : ByteArray) (w : World) (hz : c.dg.size ≤ 100000000) (hb : c.bd.size ≤ 100000000) (ht : t.size ≤ 100000000) :
    Calls Try.prog 15 #[ckV c, .string t] w fun e w' => e = .returned (.tuple #[ckV (allC c t.data.toList), .int .i64 (allN c t.data.toList : Int)]) ∧ Below w.heap.size w w' := by
  have hq := implOk c ((w.alloc (.cells #[.int .i64 c.st, .int .i64 c.lf, .string c.dg, .string c.bd] 25)).alloc (.cells #[.int .i64 0, .int .i64 0, .string ⟨#[]⟩, .string ⟨#[]⟩] 25)) hz hb
  have hb0 : Hid (Below w.heap.size w ((w.alloc (.cells #[.int .i64 c.st, .int .i64 c.lf, .string c.dg, .string c.bd] 25)).alloc (.cells #[.int .i64 0, .int .i64 0, .string ⟨#[]⟩, .string ⟨#[]⟩] 25))) := ((Below.refl _ w).alloc (Nat.le_refl _) _).alloc (by simp) _
  have hz0 : ((w.alloc (.cells #[.int .i64 c.st, .int .i64 c.lf, .string c.dg, .string c.bd] 25)).alloc (.cells #[.int .i64 0, .int .i64 0, .string ⟨#[]⟩, .string ⟨#[]⟩] 25)).heap.size = w.heap.size + 2 := by simp
  have hA : Hid (Four ((w.alloc (.cells #[.int .i64 c.st, .int .i64 c.lf, .string c.dg, .string c.bd] 25)).alloc (.cells #[.int .i64 0, .int .i64 0, .string ⟨#[]⟩, .string ⟨#[]⟩] 25)) w.heap.size c) := (Four.new w c).alloc _
  have hR : Hid (Four ((w.alloc (.cells #[.int .i64 c.st, .int .i64 c.lf, .string c.dg, .string c.bd] 25)).alloc (.cells #[.int .i64 0, .int .i64 0, .string ⟨#[]⟩, .string ⟨#[]⟩] 25)) (w.heap.size + 1) zeroC) := by
    have := Four.new (w.alloc (.cells #[.int .i64 c.st, .int .i64 c.lf, .string c.dg, .string c.bd] 25)) zeroC
    rw [show (w.alloc (.cells #[.int .i64 c.st, .int .i64 c.lf, .string c.dg, .string c.bd] 25)).heap.size = w.heap.size + 1 by simp] at this
    exact this
  by_cases hok : okC c = true
  · rw [allC_yes hok, allN_yes hok]
    rw [hok] at hq
    unfold ckV at hq ⊢
    generalize hfd : fin c t.data.toList = d
    generalize hcn : cnt c t.data.toList = n
    have HFD : Hid _ := hfd
    have HCN : Hid _ := hcn
    clear hfd hcn
    go_enter Try.func15, Try.ntmps15
    go_wp2_with fail
    refine hq.mono ?_
    rintro e w1 ⟨rfl, hb1⟩
    have hA1 := hA.out.kept hb1 hA.out.hi
    have hR1 := hR.out.kept hb1 hR.out.hi
    have hB1 : Hid (Below w.heap.size w w1) := hb0.out.trans (hb1.mono hb0.out.size)
    have hz1 : w.heap.size + 2 ≤ w1.heap.size := by have := hb1.size; omega
    clear hq hA hR hb0 hz0 hb1
    obtain ⟨cap1, C1, hcv1, ho1⟩ := row_of w1 c.dg (by have := (okC_is hok).2.2.1; omega)
    obtain ⟨cap2, C2, hcv2, ho2⟩ := row_of (w1.drew.alloc (.cells C1 5 (C1.size, C1.size + 1))) c.bd (by have := (okC_is hok).2.2.2.1; have := (okC_is hok).2.1.1; omega)
    have zz : (w1.drew.alloc (.cells C1 5 (C1.size, C1.size + 1))).heap.size = w1.heap.size + 1 := by simp
    rw [zz] at hcv2 ho2
    have hcv3 : (convert 9 22 (.string c.bd)).run Try.prog (w1.alloc (.cells C1 5 (C1.size, C1.size + 1))).drew = .ok (.slice (some ⟨w1.heap.size + 1, 0, none⟩) c.bd.size cap2) ((w1.drew.alloc (.cells C1 5 (C1.size, C1.size + 1))).drew.alloc (.cells C2 5 (C2.size, C2.size + 1))) := hcv2
    clear hcv2
    have hN : Hid _ := etr_new w1 c cap1 cap2 C1 C2 (fun k => k < w1.heap.size) (fun _ x => x) ho1 ho2
    have hB2 : Hid (Below w1.heap.size w1 (((w1.drew.alloc (.cells C1 5 (C1.size, C1.size + 1))).drew.alloc (.cells C2 5 (C2.size, C2.size + 1))).alloc (.cells #[.int .i64 c.st, .int .i64 c.lf, .slice (some ⟨w1.heap.size, 0, none⟩) c.dg.size cap1, .slice (some ⟨w1.heap.size + 1, 0, none⟩) c.bd.size cap2] 54))) := by
      have a1 : Below w1.heap.size w1 (w1.drew.alloc (.cells C1 5 (C1.size, C1.size + 1))) := (show Below w1.heap.size w1 w1.drew from ⟨rfl, rfl, rfl, Nat.le_refl _, fun _ _ => rfl⟩).alloc (Nat.le_refl _) _
      have a2 : Below w1.heap.size w1 (w1.drew.alloc (.cells C1 5 (C1.size, C1.size + 1))).drew := ⟨a1.os, a1.tape, a1.output, a1.size, a1.block⟩
      exact (a2.alloc a2.size _).alloc (a2.alloc a2.size _).size _
    have a0 := hA1.c0
    have a1 := hA1.c1
    have a2 := hA1.c2
    have a3 := hA1.c3
    clear ho1 ho2 zz
    have hlt1 : w.heap.size < w1.heap.size := by omega
    have hE : Calls Try.prog 33 #[.pointer (some ⟨w1.heap.size + 1 + 1, 0, none⟩), .string t] (((w1.alloc (.cells C1 5 (C1.size, C1.size + 1))).alloc (.cells C2 5 (C2.size, C2.size + 1))).alloc (.cells #[.int .i64 c.st, .int .i64 c.lf, .slice (some ⟨w1.heap.size, 0, none⟩) c.dg.size cap1, .slice (some ⟨w1.heap.size + 1, 0, none⟩) c.bd.size cap2] 54)).drew.drew
        fun e w' => e = .returned (.int .i64 (cnt c t.data.toList : Int)) ∧ Etr w' (fun k => k < w1.heap.size) (w1.heap.size + 1 + 1) (fin c t.data.toList) ∧ Kp (fun k => k < w1.heap.size) (((w1.alloc (.cells C1 5 (C1.size, C1.size + 1))).alloc (.cells C2 5 (C2.size, C2.size + 1))).alloc (.cells #[.int .i64 c.st, .int .i64 c.lf, .slice (some ⟨w1.heap.size, 0, none⟩) c.dg.size cap1, .slice (some ⟨w1.heap.size + 1, 0, none⟩) c.bd.size cap2] 54)).drew.drew w' := ck_eat (fun k => k < w1.heap.size) (w1.heap.size + 2) c t _ hN.out (okC_is hok) ht
    have hB3 : Hid (Below w1.heap.size w1 (((w1.alloc (.cells C1 5 (C1.size, C1.size + 1))).alloc (.cells C2 5 (C2.size, C2.size + 1))).alloc (.cells #[.int .i64 c.st, .int .i64 c.lf, .slice (some ⟨w1.heap.size, 0, none⟩) c.dg.size cap1, .slice (some ⟨w1.heap.size + 1, 0, none⟩) c.bd.size cap2] 54)).drew.drew) := hB2.out
    rw [show fin c t.data.toList = d from HFD.out, show cnt c t.data.toList = n from HCN.out] at hE
    clear hN hB2 HFD HCN
    go_wp2_with fail
    refine hE.mono ?_
    rintro e w2 ⟨rfl, hE2, hK2⟩
    have hb2 : Below w1.heap.size w1 w2 := hB3.out.trans (hK2.below)
    have hR2 := hR1.kept hb2 (by omega)
    have hB4 : Hid (Below w.heap.size w w2) := hB1.out.trans (hb2.mono (by omega))
    obtain ⟨vd, vb, hv⟩ := hE2
    have e0 := hv.c0
    have e1 := hv.c1
    have e2 := hv.c2
    have e3 := hv.c3
    have cv1 := hv.dtext
    have cv2 := hv.btext
    have r0 := hR2.c0
    have r1 := hR2.c1
    have r2 := hR2.c2
    have r3 := hR2.c3
    have rf := hR2.fz
    clear hE hB3 hB1 hb2 hK2 hv hR2 hR1 hA1 a0 a1 a2 a3 hcv1 hcv3
    go_wp2
    refine bodyPost_ret (v := .tuple #[.agg #[.int .i64 d.st, .int .i64 d.lf, .string d.dg, .string d.bd], .int .i64 n]) (by simp [results, Try.results15, go_sem, r0, r1, r2, r3]) rfl ?_
    exact ⟨rfl, (((hB4.out.setCell (by simp) _).setCell (by simp) _).setCell (by simp) _).setCell (by simp) _⟩
  · have hok' : okC c = false := by simpa using hok
    rw [allC_no hok', allN_no hok']
    rw [hok'] at hq
    unfold ckV at hq ⊢
    go_enter Try.func15, Try.ntmps15
    go_wp2_with fail
    refine hq.mono ?_
    rintro e w1 ⟨rfl, hb1⟩
    have hR1 := hR.out.kept hb1 hR.out.hi
    have r0 := hR1.c0
    have r1 := hR1.c1
    have r2 := hR1.c2
    have r3 := hR1.c3
    have rf := hR1.fz
    have hB1 : Hid (Below w.heap.size w w1) := hb0.out.trans (hb1.mono hb0.out.size)
    clear hq hA hR hb0 hz0 hb1 hR1
    go_wp2
    refine bodyPost_ret (v := .tuple #[.agg #[.int .i64 0, .int .i64 0, .string ⟨#[]⟩, .string ⟨#[]⟩], .int .i64 0]) (by simp [results, Try.results15, go_sem, r0, r1, r2, r3]) rfl ?_
    exact ⟨rfl, (((hB1.out.setCell (by simp) _).setCell (by simp) _).setCell (by simp) _).setCell (by simp) _⟩

set_option maxHeartbeats 1000000 in
theorem implEat (c : Ck) (x : UInt8) (w : World) (hz : c.dg.size ≤ 100000000) (hb : c.bd.size ≤ 100000000) :
    Calls Try.prog 10 #[ckV c, .int .u8 (x.toNat : Int)] w fun e w' => e = .returned (ckV (allC c [x])) ∧ Below w.heap.size w w' := by
  have hq : ∀ w, Calls Try.prog 15 #[ckV c, .string ⟨#[x]⟩] w fun e w' => e = .returned (.tuple #[ckV (allC c [x]), .int .i64 (allN c [x] : Int)]) ∧ Below w.heap.size w w' := fun w => implAll c ⟨#[x]⟩ w hz hb (by show 1 ≤ 100000000; omega)
  have HQ : Hid _ := hq
  clear hq
  have hb0 : Hid (Below w.heap.size w ((w.alloc (.cells #[.int .i64 c.st, .int .i64 c.lf, .string c.dg, .string c.bd] 25)).alloc (.cells #[.int .i64 0, .int .i64 0, .string ⟨#[]⟩, .string ⟨#[]⟩] 25))) := ((Below.refl _ w).alloc (Nat.le_refl _) _).alloc (by simp) _
  have hR : Hid (Four ((w.alloc (.cells #[.int .i64 c.st, .int .i64 c.lf, .string c.dg, .string c.bd] 25)).alloc (.cells #[.int .i64 0, .int .i64 0, .string ⟨#[]⟩, .string ⟨#[]⟩] 25)) (w.heap.size + 1) zeroC) := by
    have := Four.new (w.alloc (.cells #[.int .i64 c.st, .int .i64 c.lf, .string c.dg, .string c.bd] 25)) zeroC
    rw [show (w.alloc (.cells #[.int .i64 c.st, .int .i64 c.lf, .string c.dg, .string c.bd] 25)).heap.size = w.heap.size + 1 by simp] at this
    exact this
  have hR1 : Hid (Four (((w.alloc (.cells #[.int .i64 c.st, .int .i64 c.lf, .string c.dg, .string c.bd] 25)).alloc (.cells #[.int .i64 0, .int .i64 0, .string ⟨#[]⟩, .string ⟨#[]⟩] 25)).alloc (.cells #[.int .u8 (x.toNat : Int)] 5)) (w.heap.size + 1) zeroC) := hR.out.alloc _
  have hb1 : Hid (Below w.heap.size w (((w.alloc (.cells #[.int .i64 c.st, .int .i64 c.lf, .string c.dg, .string c.bd] 25)).alloc (.cells #[.int .i64 0, .int .i64 0, .string ⟨#[]⟩, .string ⟨#[]⟩] 25)).alloc (.cells #[.int .u8 (x.toNat : Int)] 5))) := hb0.out.alloc hb0.out.size _
  have hcv := byte_text5 ((w.alloc (.cells #[.int .i64 c.st, .int .i64 c.lf, .string c.dg, .string c.bd] 25)).alloc (.cells #[.int .i64 0, .int .i64 0, .string ⟨#[]⟩, .string ⟨#[]⟩] 25)) _ x rfl
  rw [show ((w.alloc (.cells #[.int .i64 c.st, .int .i64 c.lf, .string c.dg, .string c.bd] 25)).alloc (.cells #[.int .i64 0, .int .i64 0, .string ⟨#[]⟩, .string ⟨#[]⟩] 25)).heap.size = w.heap.size + 1 + 1 by simp] at hcv
  unfold ckV at HQ ⊢
  generalize allC c [x] = d at HQ ⊢
  generalize allN c [x] = n at HQ ⊢
  clear hR hb0
  go_enter Try.func10, Try.ntmps10
  go_wp2_with fail
  refine (HQ.out _).mono ?_
  rintro e w2 ⟨rfl, hb2⟩
  have hR2 := hR1.out.kept hb2 hR1.out.hi
  have hB2 : Hid (Below w.heap.size w w2) := hb1.out.trans (hb2.mono hb1.out.size)
  have hlt : w.heap.size + 1 < w2.heap.size := hR2.hi
  clear hb2 hR1 hb1 HQ hcv
  have F : Hid _ := (hR2.put d).alloc (.cells #[.int .i64 d.st, .int .i64 d.lf, .string d.dg, .string d.bd] 25)
  have r0 := hR2.c0
  have r1 := hR2.c1
  have r2 := hR2.c2
  have r3 := hR2.c3
  have rf := hR2.fz
  clear hR2
  go_wp2
  refine bodyPost_ret (v := .agg #[.int .i64 d.st, .int .i64 d.lf, .string d.dg, .string d.bd]) (by simp [results, Try.results10, go_sem, F.out.c0, F.out.c1, F.out.c2, F.out.c3]) rfl ?_
  have B4 := (((hB2.out.setCell (p := ⟨w.heap.size + 1, 0, none⟩) (by simp) (.int .i64 d.st)).setCell (p := ⟨w.heap.size + 1, 1, none⟩) (by simp) (.int .i64 d.lf)).setCell (p := ⟨w.heap.size + 1, 2, none⟩) (by simp) (.string d.dg)).setCell (p := ⟨w.heap.size + 1, 3, none⟩) (by simp) (.string d.bd)
  exact ⟨rfl, B4.alloc B4.size _⟩

set_option maxHeartbeats 1000000 in
theorem implUn (t : ByteArray) (w : World) (ht : t.size ≤ 100000000) :
    Calls Try.prog 21 #[.string t] w fun e w' => e = .returned (unV t.data.toList) ∧ Below w.heap.size w w' := by
  have hk : okC (ck0 ⟨#[]⟩) = true := okC_yes (ok_ck0 (by show 0 ≤ 4000; omega))
  have hq := implAll (ck0 ⟨#[]⟩) t w (by show 0 ≤ 100000000; omega) (by show 0 ≤ 100000000; omega) ht
  rw [allC_yes hk, allN_yes hk] at hq
  have hq' : Calls Try.prog 15 #[.agg #[.int .i64 1, .int .i64 0, .string ⟨#[]⟩, .string ⟨#[]⟩], .string t] w fun e w' => e = .returned (.tuple #[ckV (unF t.data.toList), .int .i64 (unN t.data.toList : Int)]) ∧ Below w.heap.size w w' := hq
  unfold ckV at hq'
  clear hq hk
  by_cases h8 : (unF t.data.toList).st = 8
  · rw [unV_yes h8]
    rw [h8] at hq'
    generalize unF t.data.toList = d at hq' ⊢
    generalize unN t.data.toList = n at hq' ⊢
    clear h8
    go_enter Try.func21, Try.ntmps21
    go_wp2_with (go_at_call 15; refine hq'.mono ?_; rintro e w2 ⟨rfl, hb2⟩)
    go_ret3
    exact ⟨rfl, hb2.alloc hb2.size _⟩
  · rw [unV_no h8]
    generalize unF t.data.toList = d at hq' h8 ⊢
    generalize unN t.data.toList = n at hq' ⊢
    go_enter Try.func21, Try.ntmps21
    go_wp2_with (go_at_call 15; refine hq'.mono ?_; rintro e w2 ⟨rfl, hb2⟩)
    go_ret3
    exact ⟨rfl, hb2.alloc hb2.size _⟩
end Go.Proofs.Ytbdnfajdpajfpaa
