/-
  Drawn states of chunks: whatever is drawn, a small state.
-/
import Derived.Test.YtbdnfajdpajfpaaDrP
import Derived.Test.YtbdnfajdpajfpaaChkW
import Derived.Test.YtbdnfajdpajfpaaChkV
namespace Go.Proofs.Ytbdnfajdpajfpaa
open Go.RowKit
set_option linter.unusedVariables false

theorem Four.bs {w w' : World} {b k : Nat} {c : Ck} (h : Four w k c) (hb : Beside b w w') (hne : k ≠ b) : Four w' k c := by
  have e : w'.heap[k]? = w.heap[k]? := hb.2.2.2.2 k h.hi hne
  have q : ∀ j, w'.cell? ⟨k, j, none⟩ = w.cell? ⟨k, j, none⟩ := fun j => World.cell?_of_block (a := ⟨k, j, none⟩) e
  exact ⟨(q 0).trans h.c0, (q 1).trans h.c1, (q 2).trans h.c2, (q 3).trans h.c3, fun j => (World.frozen?_of_block (a := ⟨k, j, none⟩) e).trans (h.fz j), Nat.lt_of_lt_of_le h.hi hb.2.2.2.1⟩
theorem Beside.far {g b k : Nat} {a w : World} (h : Beside g a w) (hb : a.heap.size ≤ b) (v : Value) : Beside g a (w.setCell ⟨b, k, none⟩ v) :=
  ⟨h.1, h.2.1, h.2.2.1, by rw [World.size_setCell]; exact h.2.2.2.1, fun j hj hg => (Below.heap_setCell _ _ _ _ (by show j ≠ b; omega)).trans (h.2.2.2.2 j hj hg)⟩
theorem Cur.far {w : World} {b k j : Nat} {sa : Option Addr} {sl sc : Nat} (h : Cur w b sa sl sc) (hk : b < k) (v : Value) : Cur (w.setCell ⟨k, j, none⟩ v) b sa sl sc :=
  h.kept ((Below.refl (b + 1) w).setCell (show b + 1 ≤ k from hk) v) (Nat.lt_succ_self _)
theorem Cur.more {w : World} {b : Nat} {sa : Option Addr} {sl sc : Nat} (h : Cur w b sa sl sc) (o : Obj) : Cur (w.alloc o) b sa sl sc := h.kept ((Below.refl _ w).alloc (Nat.le_refl _) _) h.2.2.1
theorem Beside.more {g : Nat} {a w : World} (h : Beside g a w) (o : Obj) : Beside g a (w.alloc o) := h.below ((Below.refl _ w).alloc (Nat.le_refl _) _)
/-- A small state. -/
def Small (c : Ck) : Prop := c.dg.size ≤ 20 ∧ c.bd.size ≤ 4100
theorem small_fin (l : List UInt8) : Small (fin (ck0 ⟨#[]⟩) l) := by
  obtain ⟨_, ⟨b1, _⟩, d1, e1, _⟩ := ok_fin (ok_ck0 (bd := ⟨#[]⟩) (by show 0 ≤ 4000; omega)) l
  exact ⟨by omega, by omega⟩
def isI5 (v : Value) : Bool := match v with | .int .i64 _ => true | _ => false
def isS5 (v : Value) : Bool := match v with | .string s => decide (s.size ≤ 20) | _ => false
theorem isI5_out {v : Value} (h : isI5 v = true) : ∃ z : Int, v = .int .i64 z := by
  unfold isI5 at h
  split at h
  · exact ⟨_, rfl⟩
  · cases h
theorem isS5_out {v : Value} (h : isS5 v = true) : ∃ s : ByteArray, v = .string s ∧ s.size ≤ 20 := by
  unfold isS5 at h
  split at h
  · exact ⟨_, rfl, of_decide_eq_true h⟩
  · cases h
theorem tabI5 {b : Nat} {w w' : World} {C : Array Value} {t : TypeId} (hb : Beside b (w.alloc (.cells C t)) w') (hne : w.heap.size ≠ b) (y : Nat) (hy : y < C.size) (hall : C.toList.all isI5 = true) : ∃ z : Int, w'.cell? ⟨w.heap.size, y, none⟩ = some (.int .i64 z) := by
  have hm : C[y] ∈ C.toList := by simp
  obtain ⟨z, hz⟩ := isI5_out (List.all_eq_true.1 hall _ hm)
  refine ⟨z, besideCell hb hne ?_⟩
  rw [World.cell?_alloc_mark, Array.getElem?_eq_getElem hy, hz]
theorem tabS5 {b : Nat} {w w' : World} {C : Array Value} {t : TypeId} (hb : Beside b (w.alloc (.cells C t)) w') (hne : w.heap.size ≠ b) (y : Nat) (hy : y < C.size) (hall : C.toList.all isS5 = true) : ∃ z : ByteArray, w'.cell? ⟨w.heap.size, y, none⟩ = some (.string z) ∧ z.size ≤ 20 := by
  have hm : C[y] ∈ C.toList := by simp
  obtain ⟨z, hz, hs⟩ := isS5_out (List.all_eq_true.1 hall _ hm)
  refine ⟨z, besideCell hb hne ?_, hs⟩
  rw [World.cell?_alloc_mark, Array.getElem?_eq_getElem hy, hz]
theorem l1From (b : Nat) (sa : Option Addr) (sl sc : Nat) (w : World) (hc : Cur w b sa sl sc) :
    Calls Try.prog 34 #[.pointer (some ⟨b, 0, none⟩), .int .i64 0, .int .i64 11] w fun e w' => ∃ x : Int, e = .returned (.int .i64 x) ∧ 0 ≤ x ∧ x < 12 ∧ Cur w' b sa sl sc ∧ Beside b w w' := by
  go_enter Try.func34, Try.ntmps34
  go_wp2_with (go_at_call 25; refine (l1Below b sa sl sc _ (by decide) (by decide) _ hc).mono ?_; rintro e w1 ⟨x, rfl, hx0, hx1, hc1, hb1⟩)
  go_ret
  exact ⟨_, rfl, by omega, by omega, hc1, hb1⟩
set_option maxHeartbeats 2000000 in
theorem l5Any (b : Nat) (sa : Option Addr) (sl sc : Nat) (w : World) (hc : Cur w b sa sl sc) :
    Calls Try.prog 23 #[.pointer (some ⟨b, 0, none⟩)] w fun e w' => (∃ c : Ck, e = .returned (ckV c) ∧ Small c) ∧ Cur w' b sa sl sc ∧ Beside b w w' := by
  have hbz : b < w.heap.size := hc.2.2.1
  have R0 : Hid (Four (w.alloc (.cells #[.int .i64 0, .int .i64 0, .string ⟨#[]⟩, .string ⟨#[]⟩] 25)) w.heap.size zeroC) := Four.new w zeroC
  go_enter Try.func23, Try.ntmps23
  go_wp2_with fail
  refine (l5Text b sa sl sc _ (hc.more _)).mono ?_
  rintro e w1 ⟨t, rfl, ht, hc1, hb1⟩
  have B1 : Hid (Beside b w w1) := ((Beside.refl b w).more _).trans hb1
  have R1 : Hid (Four w1 w.heap.size zeroC) := R0.out.bs hb1 (by omega)
  clear R0 hb1 hc
  go_wp2_with fail
  refine (l1Below b sa sl sc _ (by omega) (by omega) _ hc1).mono ?_
  rintro e w2 ⟨x, rfl, hx0, hx1, hc2, hb2⟩
  obtain ⟨x, rfl⟩ := Int.eq_ofNat_of_zero_le hx0
  have B2 : Hid (Beside b w w2) := B1.out.trans hb2
  have R2 : Hid (Four w2 w.heap.size zeroC) := R1.out.bs hb2 (by omega)
  clear R1 B1 hb2 hc1
  have hxz : x ≤ t.size := by omega
  have hq := specAll (ck0 ⟨#[]⟩) (t.extract 0 x) w2 (by show 0 ≤ 100000000; omega) (by show 0 ≤ 100000000; omega) (by rw [ByteArray.size_extract]; omega)
  have hk : okC (ck0 ⟨#[]⟩) = true := okC_yes (ok_ck0 (by show 0 ≤ 4000; omega))
  rw [allC_yes hk, allN_yes hk] at hq
  have hsm := small_fin (t.extract 0 x).data.toList
  generalize fin (ck0 ⟨#[]⟩) (t.extract 0 x).data.toList = d at hq hsm
  generalize cnt (ck0 ⟨#[]⟩) (t.extract 0 x).data.toList = n at hq
  have hq' : Calls Try.prog 16 #[.agg #[.int .i64 1, .int .i64 0, .string ⟨#[]⟩, .string ⟨#[]⟩], .string (t.extract 0 x)] w2 fun e w' => e = .returned (.tuple #[ckV d, .int .i64 (n : Int)]) ∧ Below w2.heap.size w2 w' := hq
  unfold ckV at hq'
  clear hq hk
  go_wp2_with fail
  refine hq'.mono ?_
  rintro e w3 ⟨rfl, hb3⟩
  have hc3 := hc2.kept hb3 hc2.2.2.1
  have B3 : Hid (Beside b w w3) := B2.out.below hb3
  have R3 : Hid (Four w3 w.heap.size zeroC) := R2.out.kept hb3 R2.out.hi
  have Z3 : w.heap.size < w3.heap.size := R3.out.hi
  clear B2 R2 hb3 hc2 hq'
  go_wp2_with fail
  refine (l1Once b sa sl sc 10 (by omega) (by omega) _ (hc3.more _)).mono ?_
  rintro e w4 ⟨tt, rfl, hc4, hb4⟩
  have X4 : Hid (Four w4 w3.heap.size d) := (Four.new w3 d).bs hb4 (by omega)
  have R4 : Hid (Four w4 w.heap.size zeroC) := (R3.out.alloc _).bs hb4 (by omega)
  have B4 : Hid (Beside b w w4) := (B3.out.more _).trans hb4
  clear R3 B3 hb4 hc3
  cases tt with
  | false =>
    have a0 := X4.out.c0
    have a1 := X4.out.c1
    have a2 := X4.out.c2
    have a3 := X4.out.c3
    have r0 := R4.out.c0
    have r1 := R4.out.c1
    have r2 := R4.out.c2
    have r3 := R4.out.c3
    have rf := R4.out.fz
    clear X4 R4
    go_wp2
    refine bodyPost_ret (v := .agg #[.int .i64 d.st, .int .i64 d.lf, .string d.dg, .string d.bd]) (by simp [results, Try.results23, go_sem, r0, r1, r2, r3]) rfl ⟨⟨d, rfl, hsm⟩, ?_, ?_⟩
    · repeat (refine Cur.far ?_ (by omega) _)
      exact hc4
    · repeat (refine Beside.far ?_ (by omega) _)
      exact B4.out
  | true =>
    go_wp2_with fail
    refine (l1Below b sa sl sc 4 (by omega) (by omega) _ hc4).mono ?_
    rintro e w5 ⟨y, rfl, hy0, hy1, hc5, hb5⟩
    have X5 : Hid (Four w5 w3.heap.size d) := X4.out.bs hb5 (by omega)
    have R5 : Hid (Four w5 w.heap.size zeroC) := R4.out.bs hb5 (by omega)
    have B5 : Hid (Beside b w w5) := B4.out.trans hb5
    clear X4 R4 B4 hb5 hc4
    rcases (show y = 0 ∨ y = 1 ∨ y = 2 ∨ y = 3 by omega) with rfl | rfl | rfl | rfl
    · go_wp2_with fail
      refine (l1From b sa sl sc _ hc5).mono ?_
      rintro e w6 ⟨z, rfl, hz0, hz1, hc6, hb6⟩
      have X6 : Hid (Four w6 w3.heap.size d) := X5.out.bs hb6 (by omega)
      have R6 : Hid (Four w6 w.heap.size zeroC) := R5.out.bs hb6 (by omega)
      have B6 : Hid (Beside b w w6) := B5.out.trans hb6
      clear X5 R5 B5 hb6 hc5
      have a0 := X6.out.c0
      have a1 := X6.out.c1
      have a2 := X6.out.c2
      have a3 := X6.out.c3
      have af := X6.out.fz
      have r0 := R6.out.c0
      have r1 := R6.out.c1
      have r2 := R6.out.c2
      have r3 := R6.out.c3
      have rf := R6.out.fz
      clear X6 R6
      go_wp2
      refine bodyPost_ret (v := .agg #[.int .i64 z, .int .i64 d.lf, .string d.dg, .string d.bd]) (by simp [results, Try.results23, go_sem, r0, r1, r2, r3]) rfl ⟨⟨⟨z, d.lf, d.dg, d.bd⟩, rfl, ?_⟩, ?_, ?_⟩
      · obtain ⟨m0, m1⟩ := hsm
        first | exact ⟨m0, m1⟩ | exact ⟨hzs, m1⟩ | exact ⟨m0, by show z.size ≤ 4100; omega⟩
      · repeat (refine Cur.far ?_ (by omega) _)
        exact hc6
      · repeat (refine Beside.far ?_ (by omega) _)
        exact B6.out
    · go_wp2_with fail
      refine (l1Below b sa sl sc 6 (by omega) (by omega) _ (hc5.more _)).mono ?_
      rintro e w6 ⟨v, rfl, hv0, hv1, hc6, hb6⟩
      obtain ⟨v, rfl⟩ := Int.eq_ofNat_of_zero_le hv0
      obtain ⟨z, hz⟩ := tabI5 hb6 (by have := X5.out.hi; omega) v (by simp; omega) rfl
      have X6 : Hid (Four w6 w3.heap.size d) := (X5.out.alloc _).bs hb6 (by omega)
      have R6 : Hid (Four w6 w.heap.size zeroC) := (R5.out.alloc _).bs hb6 (by omega)
      have B6 : Hid (Beside b w w6) := (B5.out.more _).trans hb6
      clear X5 R5 B5 hb6 hc5
      have a0 := X6.out.c0
      have a1 := X6.out.c1
      have a2 := X6.out.c2
      have a3 := X6.out.c3
      have af := X6.out.fz
      have r0 := R6.out.c0
      have r1 := R6.out.c1
      have r2 := R6.out.c2
      have r3 := R6.out.c3
      have rf := R6.out.fz
      clear X6 R6
      go_wp2
      refine bodyPost_ret (v := .agg #[.int .i64 d.st, .int .i64 z, .string d.dg, .string d.bd]) (by simp [results, Try.results23, go_sem, r0, r1, r2, r3]) rfl ⟨⟨⟨d.st, z, d.dg, d.bd⟩, rfl, ?_⟩, ?_, ?_⟩
      · obtain ⟨m0, m1⟩ := hsm
        first | exact ⟨m0, m1⟩ | exact ⟨hzs, m1⟩ | exact ⟨m0, by show z.size ≤ 4100; omega⟩
      · repeat (refine Cur.far ?_ (by omega) _)
        exact hc6
      · repeat (refine Beside.far ?_ (by omega) _)
        exact B6.out
    · go_wp2_with fail
      refine (l1Below b sa sl sc 4 (by omega) (by omega) _ (hc5.more _)).mono ?_
      rintro e w6 ⟨v, rfl, hv0, hv1, hc6, hb6⟩
      obtain ⟨v, rfl⟩ := Int.eq_ofNat_of_zero_le hv0
      obtain ⟨z, hz, hzs⟩ := tabS5 hb6 (by have := X5.out.hi; omega) v (by simp; omega) rfl
      have X6 : Hid (Four w6 w3.heap.size d) := (X5.out.alloc _).bs hb6 (by omega)
      have R6 : Hid (Four w6 w.heap.size zeroC) := (R5.out.alloc _).bs hb6 (by omega)
      have B6 : Hid (Beside b w w6) := (B5.out.more _).trans hb6
      clear X5 R5 B5 hb6 hc5
      have a0 := X6.out.c0
      have a1 := X6.out.c1
      have a2 := X6.out.c2
      have a3 := X6.out.c3
      have af := X6.out.fz
      have r0 := R6.out.c0
      have r1 := R6.out.c1
      have r2 := R6.out.c2
      have r3 := R6.out.c3
      have rf := R6.out.fz
      clear X6 R6
      go_wp2
      refine bodyPost_ret (v := .agg #[.int .i64 d.st, .int .i64 d.lf, .string z, .string d.bd]) (by simp [results, Try.results23, go_sem, r0, r1, r2, r3]) rfl ⟨⟨⟨d.st, d.lf, z, d.bd⟩, rfl, ?_⟩, ?_, ?_⟩
      · obtain ⟨m0, m1⟩ := hsm
        first | exact ⟨m0, m1⟩ | exact ⟨hzs, m1⟩ | exact ⟨m0, by show z.size ≤ 4100; omega⟩
      · repeat (refine Cur.far ?_ (by omega) _)
        exact hc6
      · repeat (refine Beside.far ?_ (by omega) _)
        exact B6.out
    · go_wp2_with fail
      refine (l1Below b sa sl sc 2 (by omega) (by omega) _ hc5).mono ?_
      rintro e w6' ⟨v, rfl, hv0, hv1, hc6', hb6⟩
      obtain ⟨v, rfl⟩ := Int.eq_ofNat_of_zero_le hv0
      obtain ⟨w6, hrun, hbm, z, hzs, hcv⟩ := make_text5 w6' (4000 + v) (by omega)
      have hzz : ((4000 + v : Nat) : Int) = 4000 + (v : Int) := by omega
      rw [hzz] at hrun
      have X6 : Hid (Four w6 w3.heap.size d) := by
        have q := X5.out.bs hb6 (by omega)
        exact q.kept hbm q.hi
      have R6 : Hid (Four w6 w.heap.size zeroC) := by
        have q := R5.out.bs hb6 (by omega)
        exact q.kept hbm q.hi
      have B6 : Hid (Beside b w w6) := (B5.out.trans hb6).below hbm
      have hc6 := hc6'.kept hbm hc6'.2.2.1
      clear X5 R5 B5 hb6 hc5 hbm hc6'
      have a0 := X6.out.c0
      have a1 := X6.out.c1
      have a2 := X6.out.c2
      have a3 := X6.out.c3
      have af := X6.out.fz
      have r0 := R6.out.c0
      have r1 := R6.out.c1
      have r2 := R6.out.c2
      have r3 := R6.out.c3
      have rf := R6.out.fz
      clear X6 R6
      go_wp2
      refine bodyPost_ret (v := .agg #[.int .i64 d.st, .int .i64 d.lf, .string d.dg, .string z]) (by simp [results, Try.results23, go_sem, r0, r1, r2, r3]) rfl ⟨⟨⟨d.st, d.lf, d.dg, z⟩, rfl, ?_⟩, ?_, ?_⟩
      · obtain ⟨m0, m1⟩ := hsm
        first | exact ⟨m0, m1⟩ | exact ⟨hzs, m1⟩ | exact ⟨m0, by show z.size ≤ 4100; omega⟩
      · repeat (refine Cur.far ?_ (by omega) _)
        exact hc6
      · repeat (refine Beside.far ?_ (by omega) _)
        exact B6.out
end Go.Proofs.Ytbdnfajdpajfpaa
