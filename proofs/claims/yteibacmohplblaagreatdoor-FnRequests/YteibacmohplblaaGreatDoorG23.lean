/-
  The walks of the exact laws of reading messages, given what the program's own function answers.
  The program's methodOk, targetOk, statusOk, isBodiless, Framing, isUnframed, RequestOk and ResponseOk by their contracts.
  The program's cursor by its contracts: what is left, skipped, taken, a line.
-/
import Derived.Test.YteibacmohplblaaGreatDoorG22
import Derived.Test.YteibacmohplblaaGreatDoorG13
import Derived.Test.YteibacmohplblaaGreatDoorG12
import Derived.Test.YteibacmohplblaaGreatDoorG14
import Derived.Test.YteibacmohplblaaGreatDoorShelfF
import Derived.Test.YteibacmohplblaaGreatDoorG18
import Derived.Test.YteibacmohplblaaGreatDoorG21
import Derived.BigQuiet
namespace Go.Proofs.YteibacmohplblaaGreatDoor
open Go.RowKit Go.Sort
set_option linter.unusedVariables false

theorem grown_alloc6 {w w' : World} {o : Obj} {r : Option Nat} (h : (w.alloc o).grownBy w' r) : w.grownBy w' r := by
  refine ⟨h.os, h.tape, h.output, ?_, fun k hk hne => ?_⟩
  · have := h.size
    simp at this
    omega
  · rw [h.block k (by simp; omega) hne]
    exact Below.heap_alloc _ _ _ hk
theorem RqB.grown {w w' : World} {b : Nat} {r : Rq} {v : Value} {x : Option Nat} (h : RqB w b r v) (hg : w.grownBy w' x) (hne : some b ≠ x) : RqB w' b r v := by
  have e : w'.heap[b]? = w.heap[b]? := hg.block b h.hi hne
  have k : ∀ k, w'.cell? ⟨b, k, none⟩ = w.cell? ⟨b, k, none⟩ := fun k => World.cell?_of_block (a := ⟨b, k, none⟩) e
  exact ⟨(k 0).trans h.c0, (k 1).trans h.c1, (k 2).trans h.c2, (k 3).trans h.c3, fun j => (World.frozen?_of_block (a := ⟨b, j, none⟩) e).trans (h.fz j), Nat.lt_of_lt_of_le h.hi hg.size⟩
theorem RsB.grown {w w' : World} {b : Nat} {r : Rs} {v : Value} {x : Option Nat} (h : RsB w b r v) (hg : w.grownBy w' x) (hne : some b ≠ x) : RsB w' b r v := by
  have e : w'.heap[b]? = w.heap[b]? := hg.block b h.hi hne
  have k : ∀ k, w'.cell? ⟨b, k, none⟩ = w.cell? ⟨b, k, none⟩ := fun k => World.cell?_of_block (a := ⟨b, k, none⟩) e
  exact ⟨(k 0).trans h.c0, (k 1).trans h.c1, (k 2).trans h.c2, fun j => (World.frozen?_of_block (a := ⟨b, j, none⟩) e).trans (h.fz j), Nat.lt_of_lt_of_le h.hi hg.size⟩
theorem rs_fails {t : List UInt8} (h : (rdRs t).1 ≠ 0) : (rdRs t).2 = (noS, 0) := by
  unfold rdRs at h ⊢
  split
  · rfl
  · split
    · split
      · split
        · rename_i _ _ _ _ _ _ e1 _ e2 e3 e4
          simp_all
        · rfl
      · rfl
    · rfl
theorem rq_few (t : List UInt8) : (rdRq t).2.1.l.length ≤ 30 := by
  by_cases h : (rdRq t).1 = 0
  · exact (fldsOk_parts (ownB_parts (rqOk_parts (rq_right h).1).2.2.1).1).1
  · rw [rq_fails h]; exact Nat.zero_le _
theorem rs_few (t : List UInt8) : (rdRs t).2.1.l.length ≤ 30 := by
  by_cases h : (rdRs t).1 = 0
  · exact (fldsOk_parts (ownB_parts (rsOk_parts (rs_right h)).2.1).1).1
  · rw [rs_fails h]; exact Nat.zero_le _

set_option maxHeartbeats 1000000 in
theorem markRq (r : Rq) (v : Value) (B : Nat) (w : World) (h : HasF w B v r.l) (hl : r.l.length ≤ 1048576) :
    Calls Tryz.prog 31 #[rqV r v, .int .i64 1] w fun e w' => e = .returned (.int .i64 (1 + 2 * (r.l.length : Int))) ∧ HasF w' B v (marksF r.l.length) ∧ w.grownBy w' v.ownBlock := by
  obtain ⟨a, cap, rfl, _⟩ := h.form
  unfold rqV
  have hm := markFS _ r.l B (w.alloc (.cells #[.string r.m, .string r.t, .slice a r.l.length cap, .string r.b] 26)) (h.kept ((Below.refl _ w).alloc (Nat.le_refl _) _)) hl
  clear h
  go_enter Tryz.func31, Tryz.ntmps31
  go_wp2_with (go_at_call 85; refine hm.mono ?_; rintro e w1 ⟨rfl, h1, h2⟩)
  go_ret
  exact ⟨rfl, h1, grown_alloc6 h2⟩
set_option maxHeartbeats 1000000 in
theorem heldRq (r : Rq) (v : Value) (n : Nat) (B : Nat) (w : World) (h : HasF w B v (marksF n)) (hl : n ≤ 1048576) :
    Calls Tryz.prog 32 #[rqV r v, .int .i64 1] w fun e w' => e = .returned (.int .i64 (1 + 2 * (n : Int))) ∧ Below w.heap.size w w' := by
  have hml := marksF_length n
  obtain ⟨a, cap, rfl, _⟩ := h.form
  unfold rqV
  have B0 : Hid (Below w.heap.size w (w.alloc (.cells #[.string r.m, .string r.t, .slice a (marksF n).length cap, .string r.b] 26))) := (Below.refl _ w).alloc (Nat.le_refl _) _
  have hm := heldFS _ n B (w.alloc (.cells #[.string r.m, .string r.t, .slice a (marksF n).length cap, .string r.b] 26)) (h.kept ((Below.refl _ w).alloc (Nat.le_refl _) _)) hl
  rw [hml] at hm ⊢
  rw [hml] at B0
  clear h hml
  have hnn : ¬ (1 + 2 * (n : Int)) < 0 := by omega
  go_enter Tryz.func32, Tryz.ntmps32
  go_wp2_with (go_at_call 86; refine hm.mono ?_; rintro e w1 ⟨rfl, h2⟩)
  go_ret
  exact ⟨rfl, past6 B0.out h2.low⟩
set_option maxHeartbeats 4000000 in
theorem walkRdRq (X : World → Prop) (hX : ∀ w w', X w → Below w.heap.size w w' → X w')
    (hi : ∀ (t : ByteArray) (w : World), X w → t.size ≤ 1048576 → Calls Tryz.prog 13 #[.string t] w fun e w' => GivesQ w w' e (rdRq t.data.toList))
    (t : ByteArray) (w : World) (ht : t.size ≤ maxLen) (hx : X w) :
    Calls Tryz.prog 5 #[.string t] w fun e w' => e = .returned (.bool true) ∧ Below w.heap.size w w' := by
  unfold maxLen at ht
  by_cases hbig : 1048576 < t.size
  · go_enter Tryz.func5, Tryz.ntmps5
    go_wp2
    go_ret
    exact ⟨rfl, Below.refl _ _⟩
  · have hs : t.size ≤ 1048576 := by omega
    have cs : Hid (∀ W, Calls Tryz.prog 17 #[.string t] W fun e w' => GivesQ W w' e (rdRq t.data.toList)) := fun W => specRdRq t W hs
    have ci : Hid (∀ W, Below w.heap.size w W → Calls Tryz.prog 13 #[.string t] W fun e w' => GivesQ W w' e (rdRq t.data.toList)) := fun W hb => hi t W (hX w W hx hb) hs
    have hfew := rq_few t.data.toList
    unfold GivesQ at cs ci
    generalize rdRq t.data.toList = P at cs ci hfew
    obtain ⟨K, q, N⟩ := P
    simp only at cs ci hfew
    have hlen : q.l.length ≤ 1048576 := by omega
    have heq : Hid (∀ (W : World) (u u' : Value), Fls W u q.l → Fls W u' q.l → Calls Tryz.prog 30 #[rqV q u, rqV q u'] W fun e w' => e = .returned (.bool true) ∧ Below W.heap.size W w') := fun W u u' F F' => lawEqRq q u u' W F F' hlen
    have hmk : Hid (∀ (W : World) (v : Value) (B : Nat), HasF W B v q.l → Calls Tryz.prog 31 #[rqV q v, .int .i64 1] W fun e w' => e = .returned (.int .i64 (1 + 2 * (q.l.length : Int))) ∧ HasF w' B v (marksF q.l.length) ∧ W.grownBy w' v.ownBlock) := fun W v B F => markRq q v B W F hlen
    have hhd : Hid (∀ (W : World) (v : Value) (B : Nat), HasF W B v (marksF q.l.length) → Calls Tryz.prog 32 #[rqV q v, .int .i64 1] W fun e w' => e = .returned (.int .i64 (1 + 2 * (q.l.length : Int))) ∧ Below W.heap.size W w') := fun W v B F => heldRq q v q.l.length B W F hlen
    unfold rqV at cs ci heq hmk hhd
    clear hi hX hx hbig
    have hpos : ¬ (1 + 2 * (q.l.length : Int)) < 0 := by omega
    go_enter Tryz.func5, Tryz.ntmps5
    go_wp2_with fail
    refine (cs.out _).mono ?_
    rintro e x1 ⟨u1, rfl, p1, hb1⟩
    have B1 : Hid (Below w.heap.size w (x1.alloc (.cells #[.string q.m, .string q.t, u1, .string q.b] 26))) := hb1.alloc hb1.size _
    have P1' := p1.kept ((Below.refl _ x1).alloc (Nat.le_refl _) (.cells #[.string q.m, .string q.t, u1, .string q.b] 26))
    have LEW : Hid (w.heap.size ≤ x1.heap.size) := hb1.size
    have D1 : Hid (∀ k, u1.ownBlock = some k → k < x1.heap.size) := p1.under
    have K1' : RqB (x1.alloc (.cells #[.string q.m, .string q.t, u1, .string q.b] 26)) x1.heap.size q u1 := RqB.new x1 q u1 _
    obtain ⟨a1, cap1, rfl, _⟩ := p1.form
    have P1 : Hid (HasF (x1.alloc (.cells #[.string q.m, .string q.t, .slice a1 q.l.length cap1, .string q.b] 26)) w.heap.size (.slice a1 q.l.length cap1) q.l) := P1'
    have K1 : Hid (RqB (x1.alloc (.cells #[.string q.m, .string q.t, .slice a1 q.l.length cap1, .string q.b] 26)) x1.heap.size q (.slice a1 q.l.length cap1)) := K1'
    clear p1 hb1 P1' K1' cs
    go_wp2_with fail
    refine (ci.out _ B1.out).mono ?_
    rintro e x2 ⟨u2, rfl, p2, hb2⟩
    have B2' : Hid (Below w.heap.size w x2) := past6 B1.out hb2
    have al2 : Hid (Below x2.heap.size x2 (x2.alloc (.cells #[.string q.m, .string q.t, u2, .string q.b] 26))) := (Below.refl _ x2).alloc (Nat.le_refl _) _
    have B2 : Hid (Below w.heap.size w (x2.alloc (.cells #[.string q.m, .string q.t, u2, .string q.b] 26))) := past6 B2'.out al2.out
    have P2 : Hid (HasF (x2.alloc (.cells #[.string q.m, .string q.t, u2, .string q.b] 26)) w.heap.size (.slice a1 q.l.length cap1) q.l) := (P1.out.kept hb2).kept al2.out
    have K2 : Hid (RqB (x2.alloc (.cells #[.string q.m, .string q.t, u2, .string q.b] 26)) x1.heap.size q (.slice a1 q.l.length cap1)) := (K1.out.next hb2).alloc _
    have Q2' := p2.kept al2.out
    have J2' : RqB (x2.alloc (.cells #[.string q.m, .string q.t, u2, .string q.b] 26)) x2.heap.size q u2 := RqB.new x2 q u2 _
    have U2 : Hid (∀ k, u2.ownBlock = some k → k < x2.heap.size) := p2.under
    have L2 : Hid (∀ k, u2.ownBlock = some k → x1.heap.size < k) := fun k hk => by have := p2.from k hk; simp at this; omega
    have lt2 : Hid (x1.heap.size < x2.heap.size) := by have := hb2.size; simp at this; show x1.heap.size < x2.heap.size; omega
    obtain ⟨a2, cap2, rfl, _⟩ := p2.form
    have Q2 : Hid (HasF (x2.alloc (.cells #[.string q.m, .string q.t, .slice a2 q.l.length cap2, .string q.b] 26)) (x1.alloc (.cells #[.string q.m, .string q.t, .slice a1 q.l.length cap1, .string q.b] 26)).heap.size (.slice a2 q.l.length cap2) q.l) := Q2'
    have J2 : Hid (RqB (x2.alloc (.cells #[.string q.m, .string q.t, .slice a2 q.l.length cap2, .string q.b] 26)) x2.heap.size q (.slice a2 q.l.length cap2)) := J2'
    clear p2 hb2 Q2' J2' al2 B2' B1 P1 K1
    have k0 := K2.out.c0
    have k1 := K2.out.c1
    have k2 := K2.out.c2
    have k3 := K2.out.c3
    have j0 := J2.out.c0
    have j1 := J2.out.c1
    have j2 := J2.out.c2
    have j3 := J2.out.c3
    have lt2' := lt2.out
    go_wp2_with fail
    refine (heq.out _ _ _ Q2.out.fls P2.out.fls).mono ?_
    rintro e x3 ⟨rfl, hb3⟩
    have B3 : Hid (Below w.heap.size w x3) := past6 B2.out hb3
    have P3 : Hid (HasF x3 w.heap.size (.slice a1 q.l.length cap1) q.l) := P2.out.kept hb3
    have Q3 : Hid (HasF x3 (x1.alloc (.cells #[.string q.m, .string q.t, .slice a1 q.l.length cap1, .string q.b] 26)).heap.size (.slice a2 q.l.length cap2) q.l) := Q2.out.kept hb3
    have K3 : Hid (RqB x3 x1.heap.size q (.slice a1 q.l.length cap1)) := K2.out.next hb3
    have J3 : Hid (RqB x3 x2.heap.size q (.slice a2 q.l.length cap2)) := J2.out.next hb3
    clear B2 P2 Q2 K2 J2 hb3 k0 k1 k2 k3 j0 j1 j2 j3
    have j0 := J3.out.c0
    have j1 := J3.out.c1
    have j2 := J3.out.c2
    have j3 := J3.out.c3
    go_wp2_with fail
    refine (hmk.out _ _ _ Q3.out).mono ?_
    rintro e x4 ⟨rfl, q4, hg4⟩
    have B4 : Hid (Below w.heap.size w x4) := B3.out.grown hg4 B3.out.size (fun j hj => Nat.le_of_lt (Nat.lt_of_le_of_lt LEW.out (L2.out j hj)))
    have P4 : Hid (HasF x4 w.heap.size (.slice a1 q.l.length cap1) q.l) := P3.out.grown hg4 (fun k hk e => by have h1 := D1.out k hk; have h2 := L2.out k e.symm; omega)
    have Q4 : Hid (HasF x4 (x1.alloc (.cells #[.string q.m, .string q.t, .slice a1 q.l.length cap1, .string q.b] 26)).heap.size (.slice a2 q.l.length cap2) (marksF q.l.length)) := q4
    have K4 : Hid (RqB x4 x1.heap.size q (.slice a1 q.l.length cap1)) := K3.out.grown hg4 (fun e => by have := L2.out _ e.symm; omega)
    have J4 : Hid (RqB x4 x2.heap.size q (.slice a2 q.l.length cap2)) := J3.out.grown hg4 (fun e => by have := U2.out _ e.symm; omega)
    clear B3 P3 Q3 K3 J3 hg4 q4 j0 j1 j2 j3
    have j0 := J4.out.c0
    have j1 := J4.out.c1
    have j2 := J4.out.c2
    have j3 := J4.out.c3
    go_wp2_with fail
    refine (hhd.out _ _ _ Q4.out).mono ?_
    rintro e x5 ⟨rfl, hb5⟩
    have B5 : Hid (Below w.heap.size w x5) := past6 B4.out hb5
    have P5 : Hid (HasF x5 w.heap.size (.slice a1 q.l.length cap1) q.l) := P4.out.kept hb5
    have Q5 : Hid (HasF x5 (x1.alloc (.cells #[.string q.m, .string q.t, .slice a1 q.l.length cap1, .string q.b] 26)).heap.size (.slice a2 q.l.length cap2) (marksF q.l.length)) := Q4.out.kept hb5
    have K5 : Hid (RqB x5 x1.heap.size q (.slice a1 q.l.length cap1)) := K4.out.next hb5
    have J5 : Hid (RqB x5 x2.heap.size q (.slice a2 q.l.length cap2)) := J4.out.next hb5
    clear B4 P4 Q4 K4 J4 hb5 j0 j1 j2 j3
    go_wp2_with fail
    refine (ci.out _ B5.out).mono ?_
    rintro e x6 ⟨u6, rfl, p6, hb6⟩
    have B6' : Hid (Below w.heap.size w x6) := past6 B5.out hb6
    have al6 : Hid (Below x6.heap.size x6 (x6.alloc (.cells #[.string q.m, .string q.t, u6, .string q.b] 26))) := (Below.refl _ x6).alloc (Nat.le_refl _) _
    have B6 : Hid (Below w.heap.size w (x6.alloc (.cells #[.string q.m, .string q.t, u6, .string q.b] 26))) := past6 B6'.out al6.out
    have P6 : Hid (HasF (x6.alloc (.cells #[.string q.m, .string q.t, u6, .string q.b] 26)) w.heap.size (.slice a1 q.l.length cap1) q.l) := (P5.out.kept hb6).kept al6.out
    have Q6 : Hid (HasF (x6.alloc (.cells #[.string q.m, .string q.t, u6, .string q.b] 26)) (x1.alloc (.cells #[.string q.m, .string q.t, .slice a1 q.l.length cap1, .string q.b] 26)).heap.size (.slice a2 q.l.length cap2) (marksF q.l.length)) := (Q5.out.kept hb6).kept al6.out
    have K6 : Hid (RqB (x6.alloc (.cells #[.string q.m, .string q.t, u6, .string q.b] 26)) x1.heap.size q (.slice a1 q.l.length cap1)) := (K5.out.next hb6).alloc _
    have J6 : Hid (RqB (x6.alloc (.cells #[.string q.m, .string q.t, u6, .string q.b] 26)) x2.heap.size q (.slice a2 q.l.length cap2)) := (J5.out.next hb6).alloc _
    have T6' := (p6.kept al6.out).fls
    have lt6 : x1.heap.size < x6.heap.size := (K5.out.next hb6).hi
    have lt6' : x2.heap.size < x6.heap.size := (J5.out.next hb6).hi
    have K6c := K5.out.next hb6
    have J6c := J5.out.next hb6
    obtain ⟨a6, cap6, rfl, _⟩ := p6.form
    have T6 : Hid (Fls (x6.alloc (.cells #[.string q.m, .string q.t, .slice a6 q.l.length cap6, .string q.b] 26)) (.slice a6 q.l.length cap6) q.l) := T6'
    clear p6 hb6 T6' al6 B6' B5 P5 Q5 K5 J5 ci
    have k0 := K6c.c0
    have k1 := K6c.c1
    have k2 := K6c.c2
    have k3 := K6c.c3
    clear K6c J6c
    go_wp2_with fail
    refine (heq.out _ _ _ T6.out P6.out.fls).mono ?_
    rintro e x7 ⟨rfl, hb7⟩
    have B7 : Hid (Below w.heap.size w x7) := past6 B6.out hb7
    have Q7 : Hid (HasF x7 (x1.alloc (.cells #[.string q.m, .string q.t, .slice a1 q.l.length cap1, .string q.b] 26)).heap.size (.slice a2 q.l.length cap2) (marksF q.l.length)) := Q6.out.kept hb7
    have J7 : Hid (RqB x7 x2.heap.size q (.slice a2 q.l.length cap2)) := J6.out.next hb7
    clear B6 P6 Q6 K6 J6 T6 hb7 k0 k1 k2 k3
    have j0 := J7.out.c0
    have j1 := J7.out.c1
    have j2 := J7.out.c2
    have j3 := J7.out.c3
    go_wp2_with (go_at_call 32; refine (hhd.out _ _ _ Q7.out).mono ?_; rintro e x8 ⟨rfl, hb8⟩)
    go_ret
    exact ⟨rfl, past6 B7.out hb8⟩

set_option maxHeartbeats 1000000 in
theorem markRs (r : Rs) (v : Value) (B : Nat) (w : World) (h : HasF w B v r.l) (hl : r.l.length ≤ 1048576) :
    Calls Tryz.prog 34 #[rsV r v, .int .i64 1] w fun e w' => e = .returned (.int .i64 (1 + 2 * (r.l.length : Int))) ∧ HasF w' B v (marksF r.l.length) ∧ w.grownBy w' v.ownBlock := by
  obtain ⟨a, cap, rfl, _⟩ := h.form
  unfold rsV
  have hm := markFS _ r.l B (w.alloc (.cells #[.int .i64 r.s, .slice a r.l.length cap, .string r.b] 39)) (h.kept ((Below.refl _ w).alloc (Nat.le_refl _) _)) hl
  clear h
  go_enter Tryz.func34, Tryz.ntmps34
  go_wp2_with (go_at_call 85; refine hm.mono ?_; rintro e w1 ⟨rfl, h1, h2⟩)
  go_ret
  exact ⟨rfl, h1, grown_alloc6 h2⟩
set_option maxHeartbeats 1000000 in
theorem heldRs (r : Rs) (v : Value) (n : Nat) (B : Nat) (w : World) (h : HasF w B v (marksF n)) (hl : n ≤ 1048576) :
    Calls Tryz.prog 35 #[rsV r v, .int .i64 1] w fun e w' => e = .returned (.int .i64 (1 + 2 * (n : Int))) ∧ Below w.heap.size w w' := by
  have hml := marksF_length n
  obtain ⟨a, cap, rfl, _⟩ := h.form
  unfold rsV
  have B0 : Hid (Below w.heap.size w (w.alloc (.cells #[.int .i64 r.s, .slice a (marksF n).length cap, .string r.b] 39))) := (Below.refl _ w).alloc (Nat.le_refl _) _
  have hm := heldFS _ n B (w.alloc (.cells #[.int .i64 r.s, .slice a (marksF n).length cap, .string r.b] 39)) (h.kept ((Below.refl _ w).alloc (Nat.le_refl _) _)) hl
  rw [hml] at hm ⊢
  rw [hml] at B0
  clear h hml
  have hnn : ¬ (1 + 2 * (n : Int)) < 0 := by omega
  go_enter Tryz.func35, Tryz.ntmps35
  go_wp2_with (go_at_call 86; refine hm.mono ?_; rintro e w1 ⟨rfl, h2⟩)
  go_ret
  exact ⟨rfl, past6 B0.out h2.low⟩
set_option maxHeartbeats 4000000 in
theorem walkRdRs (X : World → Prop) (hX : ∀ w w', X w → Below w.heap.size w w' → X w')
    (hi : ∀ (t : ByteArray) (w : World), X w → t.size ≤ 1048576 → Calls Tryz.prog 26 #[.string t] w fun e w' => GivesS w w' e (rdRs t.data.toList))
    (t : ByteArray) (w : World) (ht : t.size ≤ maxLen) (hx : X w) :
    Calls Tryz.prog 6 #[.string t] w fun e w' => e = .returned (.bool true) ∧ Below w.heap.size w w' := by
  unfold maxLen at ht
  by_cases hbig : 1048576 < t.size
  · go_enter Tryz.func6, Tryz.ntmps6
    go_wp2
    go_ret
    exact ⟨rfl, Below.refl _ _⟩
  · have hs : t.size ≤ 1048576 := by omega
    have cs : Hid (∀ W, Calls Tryz.prog 29 #[.string t] W fun e w' => GivesS W w' e (rdRs t.data.toList)) := fun W => specRdRs t W hs
    have ci : Hid (∀ W, Below w.heap.size w W → Calls Tryz.prog 26 #[.string t] W fun e w' => GivesS W w' e (rdRs t.data.toList)) := fun W hb => hi t W (hX w W hx hb) hs
    have hfew := rs_few t.data.toList
    unfold GivesS at cs ci
    generalize rdRs t.data.toList = P at cs ci hfew
    obtain ⟨K, q, N⟩ := P
    simp only at cs ci hfew
    have hlen : q.l.length ≤ 1048576 := by omega
    have heq : Hid (∀ (W : World) (u u' : Value), Fls W u q.l → Fls W u' q.l → Calls Tryz.prog 33 #[rsV q u, rsV q u'] W fun e w' => e = .returned (.bool true) ∧ Below W.heap.size W w') := fun W u u' F F' => lawEqRs q u u' W F F' hlen
    have hmk : Hid (∀ (W : World) (v : Value) (B : Nat), HasF W B v q.l → Calls Tryz.prog 34 #[rsV q v, .int .i64 1] W fun e w' => e = .returned (.int .i64 (1 + 2 * (q.l.length : Int))) ∧ HasF w' B v (marksF q.l.length) ∧ W.grownBy w' v.ownBlock) := fun W v B F => markRs q v B W F hlen
    have hhd : Hid (∀ (W : World) (v : Value) (B : Nat), HasF W B v (marksF q.l.length) → Calls Tryz.prog 35 #[rsV q v, .int .i64 1] W fun e w' => e = .returned (.int .i64 (1 + 2 * (q.l.length : Int))) ∧ Below W.heap.size W w') := fun W v B F => heldRs q v q.l.length B W F hlen
    unfold rsV at cs ci heq hmk hhd
    clear hi hX hx hbig
    have hpos : ¬ (1 + 2 * (q.l.length : Int)) < 0 := by omega
    go_enter Tryz.func6, Tryz.ntmps6
    go_wp2_with fail
    refine (cs.out _).mono ?_
    rintro e x1 ⟨u1, rfl, p1, hb1⟩
    have B1 : Hid (Below w.heap.size w (x1.alloc (.cells #[.int .i64 q.s, u1, .string q.b] 39))) := hb1.alloc hb1.size _
    have P1' := p1.kept ((Below.refl _ x1).alloc (Nat.le_refl _) (.cells #[.int .i64 q.s, u1, .string q.b] 39))
    have LEW : Hid (w.heap.size ≤ x1.heap.size) := hb1.size
    have D1 : Hid (∀ k, u1.ownBlock = some k → k < x1.heap.size) := p1.under
    have K1' : RsB (x1.alloc (.cells #[.int .i64 q.s, u1, .string q.b] 39)) x1.heap.size q u1 := RsB.new x1 q u1 _
    obtain ⟨a1, cap1, rfl, _⟩ := p1.form
    have P1 : Hid (HasF (x1.alloc (.cells #[.int .i64 q.s, .slice a1 q.l.length cap1, .string q.b] 39)) w.heap.size (.slice a1 q.l.length cap1) q.l) := P1'
    have K1 : Hid (RsB (x1.alloc (.cells #[.int .i64 q.s, .slice a1 q.l.length cap1, .string q.b] 39)) x1.heap.size q (.slice a1 q.l.length cap1)) := K1'
    clear p1 hb1 P1' K1' cs
    go_wp2_with fail
    refine (ci.out _ B1.out).mono ?_
    rintro e x2 ⟨u2, rfl, p2, hb2⟩
    have B2' : Hid (Below w.heap.size w x2) := past6 B1.out hb2
    have al2 : Hid (Below x2.heap.size x2 (x2.alloc (.cells #[.int .i64 q.s, u2, .string q.b] 39))) := (Below.refl _ x2).alloc (Nat.le_refl _) _
    have B2 : Hid (Below w.heap.size w (x2.alloc (.cells #[.int .i64 q.s, u2, .string q.b] 39))) := past6 B2'.out al2.out
    have P2 : Hid (HasF (x2.alloc (.cells #[.int .i64 q.s, u2, .string q.b] 39)) w.heap.size (.slice a1 q.l.length cap1) q.l) := (P1.out.kept hb2).kept al2.out
    have K2 : Hid (RsB (x2.alloc (.cells #[.int .i64 q.s, u2, .string q.b] 39)) x1.heap.size q (.slice a1 q.l.length cap1)) := (K1.out.next hb2).alloc _
    have Q2' := p2.kept al2.out
    have J2' : RsB (x2.alloc (.cells #[.int .i64 q.s, u2, .string q.b] 39)) x2.heap.size q u2 := RsB.new x2 q u2 _
    have U2 : Hid (∀ k, u2.ownBlock = some k → k < x2.heap.size) := p2.under
    have L2 : Hid (∀ k, u2.ownBlock = some k → x1.heap.size < k) := fun k hk => by have := p2.from k hk; simp at this; omega
    have lt2 : Hid (x1.heap.size < x2.heap.size) := by have := hb2.size; simp at this; show x1.heap.size < x2.heap.size; omega
    obtain ⟨a2, cap2, rfl, _⟩ := p2.form
    have Q2 : Hid (HasF (x2.alloc (.cells #[.int .i64 q.s, .slice a2 q.l.length cap2, .string q.b] 39)) (x1.alloc (.cells #[.int .i64 q.s, .slice a1 q.l.length cap1, .string q.b] 39)).heap.size (.slice a2 q.l.length cap2) q.l) := Q2'
    have J2 : Hid (RsB (x2.alloc (.cells #[.int .i64 q.s, .slice a2 q.l.length cap2, .string q.b] 39)) x2.heap.size q (.slice a2 q.l.length cap2)) := J2'
    clear p2 hb2 Q2' J2' al2 B2' B1 P1 K1
    have k0 := K2.out.c0
    have k1 := K2.out.c1
    have k2 := K2.out.c2
    have j0 := J2.out.c0
    have j1 := J2.out.c1
    have j2 := J2.out.c2
    have lt2' := lt2.out
    go_wp2_with fail
    refine (heq.out _ _ _ Q2.out.fls P2.out.fls).mono ?_
    rintro e x3 ⟨rfl, hb3⟩
    have B3 : Hid (Below w.heap.size w x3) := past6 B2.out hb3
    have P3 : Hid (HasF x3 w.heap.size (.slice a1 q.l.length cap1) q.l) := P2.out.kept hb3
    have Q3 : Hid (HasF x3 (x1.alloc (.cells #[.int .i64 q.s, .slice a1 q.l.length cap1, .string q.b] 39)).heap.size (.slice a2 q.l.length cap2) q.l) := Q2.out.kept hb3
    have K3 : Hid (RsB x3 x1.heap.size q (.slice a1 q.l.length cap1)) := K2.out.next hb3
    have J3 : Hid (RsB x3 x2.heap.size q (.slice a2 q.l.length cap2)) := J2.out.next hb3
    clear B2 P2 Q2 K2 J2 hb3 k0 k1 k2 j0 j1 j2
    have j0 := J3.out.c0
    have j1 := J3.out.c1
    have j2 := J3.out.c2
    go_wp2_with fail
    refine (hmk.out _ _ _ Q3.out).mono ?_
    rintro e x4 ⟨rfl, q4, hg4⟩
    have B4 : Hid (Below w.heap.size w x4) := B3.out.grown hg4 B3.out.size (fun j hj => Nat.le_of_lt (Nat.lt_of_le_of_lt LEW.out (L2.out j hj)))
    have P4 : Hid (HasF x4 w.heap.size (.slice a1 q.l.length cap1) q.l) := P3.out.grown hg4 (fun k hk e => by have h1 := D1.out k hk; have h2 := L2.out k e.symm; omega)
    have Q4 : Hid (HasF x4 (x1.alloc (.cells #[.int .i64 q.s, .slice a1 q.l.length cap1, .string q.b] 39)).heap.size (.slice a2 q.l.length cap2) (marksF q.l.length)) := q4
    have K4 : Hid (RsB x4 x1.heap.size q (.slice a1 q.l.length cap1)) := K3.out.grown hg4 (fun e => by have := L2.out _ e.symm; omega)
    have J4 : Hid (RsB x4 x2.heap.size q (.slice a2 q.l.length cap2)) := J3.out.grown hg4 (fun e => by have := U2.out _ e.symm; omega)
    clear B3 P3 Q3 K3 J3 hg4 q4 j0 j1 j2
    have j0 := J4.out.c0
    have j1 := J4.out.c1
    have j2 := J4.out.c2
    go_wp2_with fail
    refine (hhd.out _ _ _ Q4.out).mono ?_
    rintro e x5 ⟨rfl, hb5⟩
    have B5 : Hid (Below w.heap.size w x5) := past6 B4.out hb5
    have P5 : Hid (HasF x5 w.heap.size (.slice a1 q.l.length cap1) q.l) := P4.out.kept hb5
    have Q5 : Hid (HasF x5 (x1.alloc (.cells #[.int .i64 q.s, .slice a1 q.l.length cap1, .string q.b] 39)).heap.size (.slice a2 q.l.length cap2) (marksF q.l.length)) := Q4.out.kept hb5
    have K5 : Hid (RsB x5 x1.heap.size q (.slice a1 q.l.length cap1)) := K4.out.next hb5
    have J5 : Hid (RsB x5 x2.heap.size q (.slice a2 q.l.length cap2)) := J4.out.next hb5
    clear B4 P4 Q4 K4 J4 hb5 j0 j1 j2
    go_wp2_with fail
    refine (ci.out _ B5.out).mono ?_
    rintro e x6 ⟨u6, rfl, p6, hb6⟩
    have B6' : Hid (Below w.heap.size w x6) := past6 B5.out hb6
    have al6 : Hid (Below x6.heap.size x6 (x6.alloc (.cells #[.int .i64 q.s, u6, .string q.b] 39))) := (Below.refl _ x6).alloc (Nat.le_refl _) _
    have B6 : Hid (Below w.heap.size w (x6.alloc (.cells #[.int .i64 q.s, u6, .string q.b] 39))) := past6 B6'.out al6.out
    have P6 : Hid (HasF (x6.alloc (.cells #[.int .i64 q.s, u6, .string q.b] 39)) w.heap.size (.slice a1 q.l.length cap1) q.l) := (P5.out.kept hb6).kept al6.out
    have Q6 : Hid (HasF (x6.alloc (.cells #[.int .i64 q.s, u6, .string q.b] 39)) (x1.alloc (.cells #[.int .i64 q.s, .slice a1 q.l.length cap1, .string q.b] 39)).heap.size (.slice a2 q.l.length cap2) (marksF q.l.length)) := (Q5.out.kept hb6).kept al6.out
    have K6 : Hid (RsB (x6.alloc (.cells #[.int .i64 q.s, u6, .string q.b] 39)) x1.heap.size q (.slice a1 q.l.length cap1)) := (K5.out.next hb6).alloc _
    have J6 : Hid (RsB (x6.alloc (.cells #[.int .i64 q.s, u6, .string q.b] 39)) x2.heap.size q (.slice a2 q.l.length cap2)) := (J5.out.next hb6).alloc _
    have T6' := (p6.kept al6.out).fls
    have lt6 : x1.heap.size < x6.heap.size := (K5.out.next hb6).hi
    have lt6' : x2.heap.size < x6.heap.size := (J5.out.next hb6).hi
    have K6c := K5.out.next hb6
    have J6c := J5.out.next hb6
    obtain ⟨a6, cap6, rfl, _⟩ := p6.form
    have T6 : Hid (Fls (x6.alloc (.cells #[.int .i64 q.s, .slice a6 q.l.length cap6, .string q.b] 39)) (.slice a6 q.l.length cap6) q.l) := T6'
    clear p6 hb6 T6' al6 B6' B5 P5 Q5 K5 J5 ci
    have k0 := K6c.c0
    have k1 := K6c.c1
    have k2 := K6c.c2
    clear K6c J6c
    go_wp2_with fail
    refine (heq.out _ _ _ T6.out P6.out.fls).mono ?_
    rintro e x7 ⟨rfl, hb7⟩
    have B7 : Hid (Below w.heap.size w x7) := past6 B6.out hb7
    have Q7 : Hid (HasF x7 (x1.alloc (.cells #[.int .i64 q.s, .slice a1 q.l.length cap1, .string q.b] 39)).heap.size (.slice a2 q.l.length cap2) (marksF q.l.length)) := Q6.out.kept hb7
    have J7 : Hid (RsB x7 x2.heap.size q (.slice a2 q.l.length cap2)) := J6.out.next hb7
    clear B6 P6 Q6 K6 J6 T6 hb7 k0 k1 k2
    have j0 := J7.out.c0
    have j1 := J7.out.c1
    have j2 := J7.out.c2
    go_wp2_with (go_at_call 35; refine (hhd.out _ _ _ Q7.out).mono ?_; rintro e x8 ⟨rfl, hb8⟩)
    go_ret
    exact ⟨rfl, past6 B7.out hb8⟩
end Go.Proofs.YteibacmohplblaaGreatDoor
namespace Go.Proofs.YteibacmohplblaaGreatDoor
open Go.RowKit
set_option linter.unusedVariables false

set_option maxHeartbeats 400000 in
theorem implMet (s : ByteArray) (w : World) (hs : s.size ≤ maxLen) :
    Calls Tryz.prog 39 #[.string s] w fun e w' => e = .returned (.bool (metB s)) ∧ Below w.heap.size w w' := by
  have hm := hs
  unfold maxLen at hs
  go_enter Tryz.func39, Tryz.ntmps39
  go_wp2
  go_loopw [4] (fun _ wr => ∃ pos : Nat, pos ≤ s.size ∧ wr = w.iter s pos ∧ Hid (allB capN (s.data.toList.take pos) = true)) (fun _ wr => s.size - wr.iterPos w.heap.size)
  case atStart => exact ⟨0, Nat.zero_le _, rfl, allB_nil _ _⟩
  case round =>
    obtain ⟨pos, hpos, rfl, ha⟩ := hrel
    by_cases hp : pos < s.size
    · by_cases hasc : (s[pos]).toNat < 128
      · have hnx : ∀ ty, (Instr.next (.pointer (some ⟨w.heap.size, 0, none⟩)) true ty).run Tryz.prog (w.iter s pos) = _ := fun ty => run_next_ascii w s pos ty hp hasc
        by_cases hl : (s[pos].toNat : Int) < 65
        · have HF : Hid (false = metB s) := metB_no (allB_not hp (capN_no (by omega)))
          go_wp2
          go_ret
          exact ⟨ret_bool HF.out, below_iter _ _ _⟩
        · by_cases hg : 90 < (s[pos].toNat : Int)
          · have HF : Hid (false = metB s) := metB_no (allB_not hp (capN_no (by omega)))
            go_wp2
            go_ret
            exact ⟨ret_bool HF.out, below_iter _ _ _⟩
          · have HV : Hid (allB capN (s.data.toList.take (pos + 1)) = true) := allB_step hp ha.out (capN_yes (by omega))
            go_wp2
            go_roundw
            case rel => exact ⟨pos + 1, by omega, rfl, HV⟩
            case measure => simp; omega
      · have hnx : ∀ ty, (Instr.next (.pointer (some ⟨w.heap.size, 0, none⟩)) true ty).run Tryz.prog (w.iter s pos) = _ := fun ty => run_next_any w s pos ty hp
        have hd := (decode_high s pos hp (by omega)).1
        have HF : Hid (false = metB s) := metB_no (allB_not hp (capN_no (by omega)))
        generalize (Utf8.decode s pos).1 = r at hnx hd
        generalize (Utf8.decode s pos).2 = p2 at hnx
        have hl : ¬ (r : Int) < 65 := by omega
        have hg : 90 < (r : Int) := by omega
        go_wp2
        go_ret
        exact ⟨ret_bool HF.out, below_iter _ _ _⟩
    · have hnx : ∀ ty, (Instr.next (.pointer (some ⟨w.heap.size, 0, none⟩)) true ty).run Tryz.prog (w.iter s pos) = _ := fun ty => run_next_end w s pos ty hp
      have HT : Hid (tokB s = metB s) := metB_yes (allB_end hp ha.out)
      go_wp2_with (go_at_call 90; refine (implTok s _ hm).mono ?_; rintro e w1 ⟨rfl, hb1⟩)
      go_ret
      exact ⟨ret_bool HT.out, past6 (below_iter _ _ _) hb1⟩

/-! ### Targets -/
theorem vis_tar : ∀ b : UInt8, visN (b.toNat : Int) = true → (!([32, 9] : List UInt8).contains b) = tarN (b.toNat : Int) := by
  have k : ∀ j : Fin 256, visN (((UInt8.ofNat j.val).toNat : Nat) : Int) = true → (!([32, 9] : List UInt8).contains (UInt8.ofNat j.val)) = tarN (((UInt8.ofNat j.val).toNat : Nat) : Int) := by decide +kernel
  intro b
  have := k ⟨b.toNat, b.toNat_lt⟩
  simpa using this
theorem tar_vis : ∀ b : UInt8, tarN (b.toNat : Int) = true → visN (b.toNat : Int) = true := by
  intro b h
  have h2 := of_decide_eq_true h
  exact visN_yes (.inl ⟨by omega, h2.2⟩)
theorem any_is : ∀ l : List UInt8, allB visN l = true → (!Lib.containsAny l [32, 9]) = allB tarN l
  | [], _ => rfl
  | b :: l, h => by
    have h1 : visN (b.toNat : Int) = true ∧ allB visN l = true := by unfold allB at h ⊢; rw [List.all_cons, Bool.and_eq_true] at h; exact h
    have ih := any_is l h1.2
    have hb := vis_tar b h1.1
    have hge := Lib.indexAny_ge [32, 9] l
    have e : allB tarN (b :: l) = (tarN (b.toNat : Int) && allB tarN l) := by unfold allB; rw [List.all_cons]
    rw [e, ← hb, ← ih]
    unfold Lib.containsAny
    rw [Lib.indexAny]
    cases hc : ([32, 9] : List UInt8).contains b with
    | true => simp
    | false =>
      by_cases hi : Lib.indexAny l [32, 9] = -1
      · simp [hi]
      · have hi2 : 0 ≤ Lib.indexAny l [32, 9] := by omega
        have hi3 : 0 ≤ Lib.indexAny l [32, 9] + 1 := by omega
        simp [hi, hi2, hi3]
theorem tar_no {s : ByteArray} (h1 : 1 ≤ s.size) (h2 : s.size ≤ 200) (h : visB s = false) : false = tarB s := by
  refine tarB_in h1 h2 ?_
  cases e : allB tarN s.data.toList with
  | false => rfl
  | true =>
    have hv : allB visN s.data.toList = true := by
      unfold allB at e ⊢
      rw [List.all_eq_true] at e ⊢
      exact fun c hc => tar_vis c (e c hc)
    rw [← visB_in (by omega) hv.symm] at h
    cases h
theorem tar_is {s : ByteArray} (h1 : 1 ≤ s.size) (h2 : s.size ≤ 200) (h : visB s = true) : (!Lib.containsAny s.data.toList [32, 9]) = tarB s := by
  refine tarB_in h1 h2 (any_is _ ?_)
  unfold visB at h
  rw [Bool.and_eq_true] at h
  exact h.2
theorem vis_ascii {s : ByteArray} (h : visB s = true) : ∀ (j : Nat) b, s.data.toList[j]? = some b → b.toNat < 128 := by
  intro j b hb
  unfold visB at h
  rw [Bool.and_eq_true] at h
  have h2 := h.2
  unfold allB at h2
  have := List.all_eq_true.1 h2 b (List.mem_of_getElem? hb)
  have := of_decide_eq_true this
  omega
set_option maxHeartbeats 400000 in
theorem implTar (s : ByteArray) (w : World) (hs : s.size ≤ maxLen) :
    Calls Tryz.prog 40 #[.string s] w fun e w' => e = .returned (.bool (tarB s)) ∧ Below w.heap.size w w' := by
  have hm := hs
  unfold maxLen at hs
  by_cases h1 : s.size < 1
  · have HF : Hid (false = tarB s) := tarB_out (.inl h1)
    have d1 : decide (1 ≤ (s.size : Int)) = false := by simp; omega
    go_enter Tryz.func40, Tryz.ntmps40
    go_wp2
    go_ret
    exact ⟨ret_bool HF.out, Below.refl _ _⟩
  · have d1 : decide (1 ≤ (s.size : Int)) = true := by simp; omega
    by_cases h2 : 200 < s.size
    · have HF : Hid (false = tarB s) := tarB_out (.inr h2)
      have d2 : decide ((s.size : Int) ≤ 200) = false := by simp; omega
      go_enter Tryz.func40, Tryz.ntmps40
      go_wp2
      go_ret
      exact ⟨ret_bool HF.out, Below.refl _ _⟩
    · have d2 : decide ((s.size : Int) ≤ 200) = true := by simp; omega
      cases hv : visB s with
      | false =>
        have HF : Hid (false = tarB s) := tar_no (by omega) (by omega) hv
        go_enter Tryz.func40, Tryz.ntmps40
        go_wp2_with (go_at_call 91; refine (implVis s _ hm).mono ?_; rw [hv]; rintro e w1 ⟨rfl, hb1⟩)
        go_ret
        exact ⟨ret_bool HF.out, hb1⟩
      | true =>
        have HF : Hid ((!Lib.containsAny s.data.toList [32, 9]) = tarB s) := tar_is (by omega) (by omega) hv
        have HA : Hid (∀ (j : Nat) b, s.data.toList[j]? = some b → b.toNat < 128) := vis_ascii hv
        have hc : Hid (∀ W, Calls Tryz.prog 92 #[.string s, .string ⟨#[32, 9]⟩] W fun e w' => e = .returned (.bool (Lib.containsAny s.data.toList [32, 9])) ∧ Below W.heap.size W w') :=
          fun W => Tryz.containsAny s ⟨#[32, 9]⟩ W (by omega) (by decide) HA.out (by intro j b hb; have := List.mem_of_getElem? hb; simp at this; rcases this with rfl | rfl <;> decide)
        generalize Lib.containsAny s.data.toList [32, 9] = ca at HF hc
        go_enter Tryz.func40, Tryz.ntmps40
        go_wp2_with (first
          | (go_at_call 91; refine (implVis s _ hm).mono ?_; rw [hv]; rintro e w1 ⟨rfl, hb1⟩)
          | (go_at_call 92; refine (hc.out _).mono ?_; rintro e w2 ⟨rfl, hb2⟩))
        go_ret
        exact ⟨ret_bool HF.out, past6 hb1 hb2⟩
theorem implSta (x : Int) (w : World) :
    Calls Tryz.prog 78 #[.int .i64 x] w fun e w' => e = .returned (.bool (decide (200 ≤ x ∧ x ≤ 599))) ∧ w = w' := by
  obtain ⟨b, hb⟩ : ∃ b, decide (200 ≤ x ∧ x ≤ 599) = b := ⟨_, rfl⟩
  rw [hb]
  by_cases h1 : 200 ≤ x
  · have H0 : Hid (decide (x ≤ 599) = b) := by show decide (x ≤ 599) = b; rw [← hb]; simp [h1]
    have d1 : decide (200 ≤ x) = true := by simpa using h1
    clear hb
    go_enter Tryz.func78, Tryz.ntmps78
    go_wp2
    go_ret
    exact ⟨ret_bool H0.out, rfl⟩
  · have H0 : Hid (false = b) := by show false = b; rw [← hb]; simp [h1]
    have d1 : decide (200 ≤ x) = false := by simpa using h1
    clear hb
    go_enter Tryz.func78, Tryz.ntmps78
    go_wp2
    go_ret
    exact ⟨ret_bool H0.out, rfl⟩
theorem implBare (s : Int) (w : World) :
    Calls Tryz.prog 75 #[.int .i64 s] w fun e w' => e = .returned (.bool (bareB s)) ∧ w = w' := by
  by_cases h1 : s = 204
  · subst h1
    have H0 : Hid (true = bareB 204) := rfl
    go_enter Tryz.func75, Tryz.ntmps75
    go_wp2
    go_ret
    exact ⟨ret_bool H0.out, rfl⟩
  · have d1 : (s == 204) = false := by simp [h1]
    by_cases h2 : s = 304
    · subst h2
      have H0 : Hid (true = bareB 304) := rfl
      go_enter Tryz.func75, Tryz.ntmps75
      go_wp2
      go_ret
      exact ⟨ret_bool H0.out, rfl⟩
    · have d2 : (s == 304) = false := by simp [h2]
      have H0 : Hid (false = bareB s) := by show false = bareB s; unfold bareB; simp [h1, h2]
      go_enter Tryz.func75, Tryz.ntmps75
      go_wp2
      go_ret
      exact ⟨ret_bool H0.out, rfl⟩

/-! ### Where it ends -/
theorem fold_void (n : ByteArray) : ∀ (l : List Fl) (p : ByteArray × Bool), (l.foldl (gStep n) p).2 = false → l.foldl (gStep n) p = p
  | [], _, _ => rfl
  | f :: l, p, h => by
    rw [List.foldl_cons] at h ⊢
    have e := fold_void n l _ h
    rw [e] at h ⊢
    unfold gStep at h ⊢
    split
    · rename_i hh; rw [if_pos hh] at h; cases h
    · rfl
theorem getF_void {l : List Fl} {n : ByteArray} (h : (getF l n).2 = false) : (getF l n).1 = ⟨#[]⟩ := by
  have := fold_void n l _ h
  unfold getF
  rw [this]
theorem low_void : lowS ⟨#[]⟩ = ⟨#[]⟩ := rfl
theorem void_ch : ¬ lowS ⟨#[]⟩ = chS := by rw [low_void]; intro e; have := congrArg ByteArray.size e; revert this; decide
theorem num_void : numOk 10 15 ⟨#[]⟩ = false := by decide +kernel
set_option maxHeartbeats 1000000 in
theorem implFrm (v : Value) (l : List Fl) (w : World) (h : Fits w v l) :
    Calls Tryz.prog 19 #[v] w fun e w' => e = .returned (frmE (frm l)) ∧ Below w.heap.size w w' := by
  have hz := h.2.1
  obtain ⟨a, cap, rfl, hcap⟩ := h.1
  have HF : Hid (Fits w (.slice a l.length cap) l) := h
  clear h hcap
  cases hok : fldsOk l with
  | false =>
    have H0 : Hid ((3, 0) = frm l) := frm_bad hok
    go_enter Tryz.func19, Tryz.ntmps19
    go_wp2_with (go_at_call 65; refine (implOk _ l _ HF.out.1 hz).mono ?_; rw [hok]; rintro e w1 ⟨rfl, hb1⟩)
    go_ret2
    exact ⟨ret_frm H0.out, hb1⟩
  | true =>
    have F0 := @frm_neither l hok
    have F1 := @frm_both l hok
    have F2 := @frm_len l hok
    have F3 := @frm_nolen l hok
    have F4 := @frm_ch l hok
    have F5 := @frm_noch l hok
    have zx := getF_fits clS hok
    have zy := getF_fits teS hok
    have vx : (getF l clS).2 = false → (getF l clS).1 = ⟨#[]⟩ := getF_void
    have vy : (getF l teS).2 = false → (getF l teS).1 = ⟨#[]⟩ := getF_void
    have hg1 : Hid (∀ w, Fits w (.slice a l.length cap) l → Calls Tryz.prog 66 #[.slice a l.length cap, .string clS] w fun e w' => e = .returned (.tuple #[.string (getF l clS).1, .bool (getF l clS).2]) ∧ Below w.heap.size w w') := fun w h => by have := implGet _ l clS w h.1 h.2.1 (by decide); unfold getE at this; rw [← getA_yes clS hok] at this; exact this
    have hg2 : Hid (∀ w, Fits w (.slice a l.length cap) l → Calls Tryz.prog 66 #[.slice a l.length cap, .string teS] w fun e w' => e = .returned (.tuple #[.string (getF l teS).1, .bool (getF l teS).2]) ∧ Below w.heap.size w w') := fun w h => by have := implGet _ l teS w h.1 h.2.1 (by decide); unfold getE at this; rw [← getA_yes teS hok] at this; exact this
    generalize frm l = fr at F0 F1 F2 F3 F4 F5 ⊢
    generalize getF l clS = gx at F0 F1 F2 F3 F4 F5 zx vx hg1
    generalize getF l teS = gy at F0 F1 F2 F3 F4 F5 zy vy hg2
    obtain ⟨x, p⟩ := gx
    obtain ⟨y, q⟩ := gy
    simp only at F0 F1 F2 F3 F4 F5 zx zy vx vy hg1 hg2
    have G0 : Hid _ := F0
    have G1 : Hid _ := F1
    have G2 : Hid _ := F2
    have G3 : Hid _ := F3
    have G4 : Hid _ := F4
    have G5 : Hid _ := F5
    have VX : Hid (p = false → x = ⟨#[]⟩) := vx
    have VY : Hid (q = false → y = ⟨#[]⟩) := vy
    clear F0 F1 F2 F3 F4 F5 vx vy
    unfold clS at hg1
    unfold teS at hg2
    go_enter Tryz.func19, Tryz.ntmps19
    go_wp2_with fail
    refine (implOk _ l _ HF.out.1 hz).mono ?_
    rw [hok]
    rintro e w1 ⟨rfl, hb1⟩
    have HF1 : Hid (Fits w1 (.slice a l.length cap) l) := HF.out.kept hb1
    clear HF
    go_wp2_with fail
    refine (hg1.out _ HF1.out).mono ?_
    rintro e w2 ⟨rfl, hb2'⟩
    have hb2 := past6 hb1 hb2'
    have HF2 : Hid (Fits w2 (.slice a l.length cap) l) := HF1.out.kept hb2'
    clear hb1 hb2' hg1 HF1
    go_wp2_with fail
    refine (hg2.out _ HF2.out).mono ?_
    rintro e w3 ⟨rfl, hb3'⟩
    have hb3 := past6 hb2 hb3'
    clear hb2 hb3' hg2 HF2
    go_wp2_with fail
    refine (implDig x _ (le_max (by omega))).mono ?_
    unfold numE
    rintro e w4 ⟨rfl, hb4'⟩
    have hb4 : Below w.heap.size w w4 := past6 hb3 hb4'
    clear hb3 hb4'
    cases p with
    | false =>
      cases q with
      | false =>
        have H0 : Hid ((0, 0) = fr) := G0.out rfl rfl
        clear G0 G1 G2 G3 G4 G5
        go_wp2
        go_ret2
        exact ⟨ret_frm H0.out, hb4⟩
      | true =>
        have hn0 : numOk 10 15 x = false := by rw [VX.out rfl]; exact num_void
        rw [hn0]
        generalize numV 10 15 x = n0
        clear hn0
        by_cases hc : lowS y = chS
        · have H0 : Hid ((2, 0) = fr) := G4.out rfl rfl hc
          have hq := same_ch (same_yes hc)
          clear G0 G1 G2 G3 G4 G5 hc
          go_wp2_with (go_at_call 68; refine (implLow y _ (le_max (by omega))).mono ?_; rintro e w5 ⟨rfl, hb5⟩)
          go_ret2
          exact ⟨ret_frm H0.out, past6 hb4 hb5⟩
        · have H0 : Hid ((3, 0) = fr) := G5.out rfl rfl hc
          have hq := same_ch (same_no hc)
          clear G0 G1 G2 G3 G4 G5 hc
          go_wp2_with (go_at_call 68; refine (implLow y _ (le_max (by omega))).mono ?_; rintro e w5 ⟨rfl, hb5⟩)
          go_ret2
          exact ⟨ret_frm H0.out, past6 hb4 hb5⟩
    | true =>
      cases q with
      | true =>
        have H0 : Hid ((3, 0) = fr) := G1.out rfl rfl
        clear G0 G1 G2 G3 G4 G5
        go_wp2
        go_ret2
        exact ⟨ret_frm H0.out, hb4⟩
      | false =>
        have g2 := G2.out rfl rfl
        have g3 := G3.out rfl rfl
        have hy : Hid (y = ⟨#[]⟩) := VY.out rfl
        have hq : ((lowS y).toList == [99, 104, 117, 110, 107, 101, 100]) = false := by rw [hy.out]; exact same_ch (same_no void_ch)
        generalize numV 10 15 x = n at g2 g3 ⊢
        generalize numOk 10 15 x = o at g2 g3 ⊢
        clear G0 G1 G2 G3 G4 G5
        cases o with
        | false =>
          have H0 : Hid ((3, 0) = fr) := g3 (by simp)
          clear g2 g3
          go_wp2_with (go_at_call 68; refine (implLow y _ (le_max (by omega))).mono ?_; rintro e w5 ⟨rfl, hb5⟩)
          go_ret2
          exact ⟨ret_frm H0.out, past6 hb4 hb5⟩
        | true =>
          by_cases hn : n ≤ 4000
          · have H0 : Hid ((1, n) = fr) := g2 ⟨rfl, hn⟩
            have d1 : decide (n ≤ 4000) = true := by simpa using hn
            clear g2 g3
            go_wp2
            go_ret2
            exact ⟨ret_frm H0.out, hb4⟩
          · have H0 : Hid ((3, 0) = fr) := g3 (by simp [hn])
            have d1 : decide (n ≤ 4000) = false := by simpa using hn
            clear g2 g3
            go_wp2_with (go_at_call 68; refine (implLow y _ (le_max (by omega))).mono ?_; rintro e w5 ⟨rfl, hb5⟩)
            go_ret2
            exact ⟨ret_frm H0.out, past6 hb4 hb5⟩
theorem own_frm (l : List Fl) : ((frm l).1 == 0) = ownB l := by
  unfold ownB frm
  cases fldsOk l with
  | false => rfl
  | true =>
    rw [if_pos rfl]
    cases (getF l clS).2 with
    | true =>
      rw [if_pos rfl]
      split
      · rfl
      · split <;> rfl
    | false =>
      rw [if_neg (by decide)]
      cases (getF l teS).2 with
      | true => rw [if_pos rfl]; split <;> rfl
      | false => rw [if_neg (by decide)]; rfl
theorem implUnf (v : Value) (l : List Fl) (w : World) (h : Fits w v l) :
    Calls Tryz.prog 41 #[v] w fun e w' => e = .returned (.bool (ownB l)) ∧ Below w.heap.size w w' := by
  have hf := implFrm v l w h
  have H0 : Hid (((frm l).1 == 0) = ownB l) := own_frm l
  obtain ⟨a, cap, rfl, hcap⟩ := h.1
  clear hcap h
  unfold frmE at hf
  generalize frm l = fr at hf H0
  obtain ⟨k, n⟩ := fr
  simp only at hf H0
  go_enter Tryz.func41, Tryz.ntmps41
  go_wp2_with (go_at_call 19; refine hf.mono ?_; rintro e w1 ⟨rfl, hb1⟩)
  go_ret
  exact ⟨ret_bool H0.out, hb1⟩
set_option maxHeartbeats 1000000 in
theorem implRqOk (r : Rq) (v : Value) (w : World) (h : RqIn w v r) :
    Calls Tryz.prog 11 #[rqV r v] w fun e w' => e = .returned (.bool (rqOk r)) ∧ Below w.heap.size w w' := by
  obtain ⟨hf, z1, z2, z3⟩ := h
  have hfs := hf.1
  obtain ⟨a, cap, rfl, hcap⟩ := hfs
  clear hcap
  unfold rqV
  have HF : Hid (Fits w (.slice a r.l.length cap) r.l) := hf
  clear hf
  have hq1 : r.b.size ≤ 9223372036854775807 := by omega
  go_enter Tryz.func11, Tryz.ntmps11
  go_wp2_with fail
  refine (implMet r.m _ (le_max z1)).mono ?_
  rintro e w1 ⟨rfl, hb1⟩
  have Q1 : Hid (RqB w1 w.heap.size r (.slice a r.l.length cap)) := (RqB.new w r _ _).next hb1
  have B1 : Hid (Below w.heap.size w w1) := pastA6 (Below.refl _ w) hb1
  have F1 : Hid (Fits w1 (.slice a r.l.length cap) r.l) := (HF.out.alloc _).kept hb1
  clear HF hb1
  have a1 := Q1.out.c1
  cases hm : metB r.m with
  | false =>
    have H0 : Hid (false = rqOk r) := rqOk_no1 hm
    go_wp2
    go_ret
    exact ⟨ret_bool H0.out, B1.out⟩
  | true =>
    go_wp2_with fail
    refine (implTar r.t _ (le_max z2)).mono ?_
    rintro e w2 ⟨rfl, hb2⟩
    have Q2 : Hid (RqB w2 w.heap.size r (.slice a r.l.length cap)) := Q1.out.next hb2
    have B2 : Hid (Below w.heap.size w w2) := past6 B1.out hb2
    have F2 : Hid (Fits w2 (.slice a r.l.length cap) r.l) := F1.out.kept hb2
    clear Q1 B1 F1 hb2 a1
    have a2 := Q2.out.c2
    cases ht : tarB r.t with
    | false =>
      have H0 : Hid (false = rqOk r) := rqOk_no2 hm ht
      go_wp2
      go_ret
      exact ⟨ret_bool H0.out, B2.out⟩
    | true =>
      go_wp2_with fail
      refine (implUnf _ r.l _ F2.out).mono ?_
      rintro e w3 ⟨rfl, hb3⟩
      have Q3 : Hid (RqB w3 w.heap.size r (.slice a r.l.length cap)) := Q2.out.next hb3
      have B3 : Hid (Below w.heap.size w w3) := past6 B2.out hb3
      clear Q2 B2 F2 hb3 a2
      have a3 := Q3.out.c3
      cases ho : ownB r.l with
      | false =>
        have H0 : Hid (false = rqOk r) := rqOk_no3 hm ht ho
        go_wp2
        go_ret
        exact ⟨ret_bool H0.out, B3.out⟩
      | true =>
        have H0 : Hid (decide ((r.b.size : Int) ≤ 4000) = rqOk r) := rqOk_is hm ht ho
        go_wp2
        go_ret
        exact ⟨ret_bool H0.out, B3.out⟩


theorem rsOk_bad {r : Rs} (h4 : bareB r.s = true) (h5 : ¬ r.b.size = 0) : false = rsOk r := by unfold rsOk; rw [h4, decide_eq_false h5]; simp
theorem rsOk_is2 {r : Rs} (h : decide (200 ≤ r.s ∧ r.s ≤ 599) = true) (h2 : ownB r.l = true) (h4 : bareB r.s = false ∨ r.b.size = 0) : decide ((r.b.size : Int) ≤ 4000) = rsOk r := by
  unfold rsOk
  rw [h, h2]
  have e : (!bareB r.s || decide (r.b.size = 0)) = true := by rcases h4 with h4 | h4 <;> simp [h4]
  rw [e]
  by_cases hb : r.b.size ≤ 4000
  · rw [decide_eq_true hb, decide_eq_true (by omega)]; rfl
  · rw [decide_eq_false hb, decide_eq_false (by omega)]; rfl
set_option maxHeartbeats 1000000 in
theorem implRsOk_tail (r : Rs) (v : Value) (w : World) (h : RsIn w v r) (h4 : bareB r.s = false ∨ r.b.size = 0) :
    Calls Tryz.prog 24 #[rsV r v] w fun e w' => e = .returned (.bool (rsOk r)) ∧ Below w.heap.size w w' := by
  obtain ⟨hf, z3⟩ := h
  have hfs := hf.1
  obtain ⟨a, cap, rfl, hcap⟩ := hfs
  clear hcap
  unfold rsV
  have F0 : Hid (Fits (w.alloc (.cells #[.int .i64 r.s, .slice a r.l.length cap, .string r.b] 39)) (.slice a r.l.length cap) r.l) := hf.alloc _
  have Q0 : Hid (RsB (w.alloc (.cells #[.int .i64 r.s, .slice a r.l.length cap, .string r.b] 39)) w.heap.size r (.slice a r.l.length cap)) := RsB.new w r _ _
  have B0 : Hid (Below w.heap.size w (w.alloc (.cells #[.int .i64 r.s, .slice a r.l.length cap, .string r.b] 39))) := (Below.refl _ w).alloc (Nat.le_refl _) _
  clear hf
  have hq1 : r.b.size ≤ 9223372036854775807 := by omega
  have H4 : Hid (bareB r.s = false ∨ r.b.size = 0) := h4
  have hbe : bareB r.s = true → r.b.toList.isEmpty = true := fun hb => by rw [void_emp]; rcases h4 with h4 | h4; · rw [h4] at hb; cases hb
                                                                          · exact decide_eq_true h4
  clear h4
  go_enter Tryz.func24, Tryz.ntmps24
  go_wp2_with fail
  refine (implBare _ _).mono ?_
  rintro e w1 ⟨rfl, rfl⟩
  cases hba : bareB r.s with
  | true =>
    have hb1 := hbe hba
    have hb2 : r.b.toList = [] := by simpa using hb1
    clear hbe
    go_wp2_with fail
    refine (implSta _ _).mono ?_
    rintro e w1 ⟨rfl, rfl⟩
    clear hb1 hb2
    cases h1 : decide (200 ≤ r.s ∧ r.s ≤ 599) with
    | false =>
      have H0 : Hid (false = rsOk r) := rsOk_no1 h1
      go_wp2
      go_ret
      exact ⟨ret_bool H0.out, B0.out⟩
    | true =>
      go_wp2_with fail
      refine (implUnf _ r.l _ F0.out).mono ?_
      rintro e w2 ⟨rfl, hb2⟩
      have Q2 : Hid (RsB w2 w.heap.size r (.slice a r.l.length cap)) := Q0.out.next hb2
      have B2 : Hid (Below w.heap.size w w2) := past6 B0.out hb2
      clear Q0 B0 F0 hb2
      have a2 := Q2.out.c2
      cases h2 : ownB r.l with
      | false =>
        have H0 : Hid (false = rsOk r) := rsOk_no2 h1 h2
        go_wp2
        go_ret
        exact ⟨ret_bool H0.out, B2.out⟩
      | true =>
        have H0 : Hid (decide ((r.b.size : Int) ≤ 4000) = rsOk r) := rsOk_is2 h1 h2 H4.out
        go_wp2
        go_ret
        exact ⟨ret_bool H0.out, B2.out⟩
  | false =>
    clear hbe
    go_wp2_with fail
    refine (implSta _ _).mono ?_
    rintro e w1 ⟨rfl, rfl⟩
    cases h1 : decide (200 ≤ r.s ∧ r.s ≤ 599) with
    | false =>
      have H0 : Hid (false = rsOk r) := rsOk_no1 h1
      go_wp2
      go_ret
      exact ⟨ret_bool H0.out, B0.out⟩
    | true =>
      go_wp2_with fail
      refine (implUnf _ r.l _ F0.out).mono ?_
      rintro e w2 ⟨rfl, hb2⟩
      have Q2 : Hid (RsB w2 w.heap.size r (.slice a r.l.length cap)) := Q0.out.next hb2
      have B2 : Hid (Below w.heap.size w w2) := past6 B0.out hb2
      clear Q0 B0 F0 hb2
      have a2 := Q2.out.c2
      cases h2 : ownB r.l with
      | false =>
        have H0 : Hid (false = rsOk r) := rsOk_no2 h1 h2
        go_wp2
        go_ret
        exact ⟨ret_bool H0.out, B2.out⟩
      | true =>
        have H0 : Hid (decide ((r.b.size : Int) ≤ 4000) = rsOk r) := rsOk_is2 h1 h2 H4.out
        go_wp2
        go_ret
        exact ⟨ret_bool H0.out, B2.out⟩
set_option maxHeartbeats 1000000 in
theorem implRsOk (r : Rs) (v : Value) (w : World) (h : RsIn w v r) :
    Calls Tryz.prog 24 #[rsV r v] w fun e w' => e = .returned (.bool (rsOk r)) ∧ Below w.heap.size w w' := by
  by_cases h4 : bareB r.s = false ∨ r.b.size = 0
  · exact implRsOk_tail r v w h h4
  · have hba : bareB r.s = true := by cases e : bareB r.s with
      | false => exact absurd (.inl e) h4
      | true => rfl
    have hbz : ¬ r.b.size = 0 := fun e => h4 (.inr e)
    have hbe : r.b.toList.isEmpty = false := by rw [void_emp]; exact decide_eq_false hbz
    have hbl : ¬ r.b.toList = [] := by simpa using hbe
    have H0 : Hid (false = rsOk r) := rsOk_bad hba hbz
    obtain ⟨hf, z3⟩ := h
    have hfs := hf.1
    obtain ⟨a, cap, rfl, hcap⟩ := hfs
    clear hcap hf h4 hbz
    unfold rsV
    have Q0 : Hid (RsB (w.alloc (.cells #[.int .i64 r.s, .slice a r.l.length cap, .string r.b] 39)) w.heap.size r (.slice a r.l.length cap)) := RsB.new w r _ _
    have B0 : Hid (Below w.heap.size w (w.alloc (.cells #[.int .i64 r.s, .slice a r.l.length cap, .string r.b] 39))) := (Below.refl _ w).alloc (Nat.le_refl _) _
    go_enter Tryz.func24, Tryz.ntmps24
    go_wp2_with fail
    refine (implBare _ _).mono ?_
    rw [hba]
    rintro e w1 ⟨rfl, rfl⟩
    go_wp2
    go_ret
    exact ⟨ret_bool H0.out, B0.out⟩
end Go.Proofs.YteibacmohplblaaGreatDoor
namespace Go.Proofs.YteibacmohplblaaGreatDoor
open Go.RowKit Go.Sort
set_option linter.unusedVariables false

/-- A reader in block b stands in the text t, ahead of place k. -/
structure Rdr (w : World) (b : Nat) (t : ByteArray) (k : Nat) : Prop where
  c0 : w.cell? ⟨b, 0, none⟩ = some (.string t)
  c1 : w.cell? ⟨b, 1, none⟩ = some (.int .i64 k)
  fz : ∀ j, w.frozen? ⟨b, j, none⟩ = false
  hi : b < w.heap.size
theorem Rdr.new (w : World) (t : ByteArray) : Rdr (w.alloc (.cells #[.string t, .int .i64 0] 63)) w.heap.size t 0 where
  c0 := World.cell?_alloc_mark _ _ _ _ _
  c1 := World.cell?_alloc_mark _ _ _ _ _
  fz := fun k => by rw [World.frozen?_alloc_mark]; simp
  hi := by simp
theorem Rdr.kept {w w' : World} {b k : Nat} {t : ByteArray} (h : Rdr w b t k) (hb : Below w.heap.size w w') : Rdr w' b t k := by
  have e : w'.heap[b]? = w.heap[b]? := hb.block b h.hi
  have q : ∀ k, w'.cell? ⟨b, k, none⟩ = w.cell? ⟨b, k, none⟩ := fun k => World.cell?_of_block (a := ⟨b, k, none⟩) e
  exact ⟨(q 0).trans h.c0, (q 1).trans h.c1, fun j => (World.frozen?_of_block (a := ⟨b, j, none⟩) e).trans (h.fz j), Nat.lt_of_lt_of_le h.hi hb.size⟩
theorem Rdr.put {w : World} {b k : Nat} {t : ByteArray} (h : Rdr w b t k) (m : Nat) : Rdr (w.setCell ⟨b, 1, none⟩ (.int .i64 m)) b t m where
  c0 := by rw [World.cell?_setCell_other _ _ _ _ (by simp)]; exact h.c0
  c1 := World.cell?_setCell_same _ _ _ h.c1
  fz := fun k => by rw [World.frozen?_setCell]; exact h.fz k
  hi := by rw [World.size_setCell]; exact h.hi

set_option maxHeartbeats 400000 in
theorem implRest (b : Nat) (t : ByteArray) (k : Nat) (w : World) (h : Rdr w b t k) (hk : k ≤ t.size) (ht : t.size ≤ 1048576) :
    Calls Tryz.prog 96 #[.pointer (some ⟨b, 0, none⟩)] w fun e w' => e = .returned (.string (t.extract k t.size)) ∧ Below w.heap.size w w' := by
  have c0 := h.c0
  have c1 := h.c1
  clear h
  go_enter Tryz.func96, Tryz.ntmps96
  go_wp2
  go_quiet (fail)
  go_wp2
  go_ret
  exact ⟨rfl, drewN_below w _⟩

set_option maxHeartbeats 400000 in
theorem implSkip (b : Nat) (t : ByteArray) (k n : Nat) (w : World) (h : Rdr w b t k) (hk : k ≤ 1048576) (hn : n ≤ 1048576) :
    Calls Tryz.prog 97 #[.pointer (some ⟨b, 0, none⟩), .int .i64 n] w fun e w' => e = .returned (.tuple #[]) ∧ Rdr w' b t (k + n) ∧ w.grownBy w' (some b) := by
  have c1 := h.c1
  have fz := h.fz 1
  have H1 : Hid (Rdr (w.setCell ⟨b, 1, none⟩ (.int .i64 ((k : Int) + (n : Int)))) b t (k + n)) := by
    have := h.put (k + n)
    rw [show (((k + n : Nat) : Int)) = (k : Int) + (n : Int) from by omega] at this
    exact this
  have H2 : Hid (w.grownBy (w.setCell ⟨b, 1, none⟩ (.int .i64 ((k : Int) + (n : Int)))) (some b)) := grown_put (grown_self w (some b)) _ _
  clear h
  go_enter Tryz.func97, Tryz.ntmps97
  go_wp2
  go_returns
  exact ⟨rfl, H1.out, H2.out⟩

theorem rest_size (t : ByteArray) {k : Nat} (hk : k ≤ t.size) : (t.extract k t.size).size = t.size - k := by rw [ByteArray.size_extract]; omega
theorem rest_len (t : ByteArray) (k : Nat) : (t.data.toList.drop k).length = t.size - k := by rw [List.length_drop]; simp
set_option maxHeartbeats 1000000 in
theorem implLine_no (b : Nat) (t : ByteArray) (k : Nat) (m : Int) (w : World) (h : Rdr w b t k) (hk : k ≤ t.size) (ht : t.size ≤ 1048576) (hm : w.cell? ⟨1, 0, none⟩ = some (.int .i64 m)) (hl : lnC (t.data.toList.drop k) = none) :
    Calls Tryz.prog 119 #[.pointer (some ⟨b, 0, none⟩)] w fun e w' => e = .returned (.tuple #[.string ⟨#[]⟩, .bool false]) ∧ Below w.heap.size w w' := by
  have hr := implRest b t k w h hk ht
  have hz := rest_size t hk
  have hd := drop_text t k
  have hcut := fun W hW => Tryz.strings_Cut (t.extract k t.size) ⟨#[13, 10]⟩ m W (by omega) hW
  rw [show (⟨#[13, 10]⟩ : ByteArray).data.toList = [13, 10] from rfl, cut_ln, hd, hl] at hcut
  simp only at hcut
  generalize (⟨(t.data.toList.drop k).toArray⟩ : ByteArray) = q1 at hcut
  generalize t.extract k t.size = s at hr hcut
  clear hl h hd
  go_enter Tryz.func119, Tryz.ntmps119
  go_wp2_with fail
  refine hr.mono ?_
  rintro e w1 ⟨rfl, hb1⟩
  have m1 := (hb1.cell (p := ⟨1, 0, none⟩) (cell_lt hm)).trans hm
  go_wp2_with fail
  refine (hcut w1 m1).mono ?_
  rintro e w2 ⟨rfl, n, hw2⟩
  have hb2 : Below w.heap.size w w2 := by rw [hw2]; exact past6 hb1 (drewN_below w1 n)
  clear hw2 hb1 m1
  go_wp2
  go_ret2
  exact ⟨rfl, hb2⟩

set_option maxHeartbeats 1000000 in
theorem implLine_yes (b : Nat) (t : ByteArray) (k : Nat) (m : Int) (x r : List UInt8) (w : World) (h : Rdr w b t k) (hk : k ≤ t.size) (ht : t.size ≤ 1048576) (hm : w.cell? ⟨1, 0, none⟩ = some (.int .i64 m)) (hl : lnC (t.data.toList.drop k) = some (x, r)) :
    Calls Tryz.prog 119 #[.pointer (some ⟨b, 0, none⟩)] w fun e w' => e = .returned (.tuple #[.string (txtL x), .bool true]) ∧ Rdr w' b t (k + (x.length + 2)) ∧ w.grownBy w' (some b) := by
  have hr := implRest b t k w h hk ht
  have hz := rest_size t hk
  have hd := drop_text t k
  have hlen := congrArg List.length (lnC_length hl)
  rw [rest_len] at hlen
  simp only [List.length_append, List.length_cons, List.length_nil] at hlen
  have hcut := fun W hW => Tryz.strings_Cut (t.extract k t.size) ⟨#[13, 10]⟩ m W (by omega) hW
  rw [show (⟨#[13, 10]⟩ : ByteArray).data.toList = [13, 10] from rfl, cut_ln, hd, hl] at hcut
  simp only at hcut
  have hxs : (txtL x).size = x.length := by show x.toArray.size = x.length; simp
  have hcut' : Hid (∀ (W : World), W.cell? ⟨1, 0, none⟩ = some (.int .i64 m) → Calls Tryz.prog 122 #[.string (t.extract k t.size), .string ⟨#[13, 10]⟩] W fun e w' => e = .returned (.tuple #[.string (txtL x), .string ⟨r.toArray⟩, .bool true]) ∧ ∃ n, w' = W.drewN n) := hcut
  clear hcut
  have hsk : Hid (∀ W, Rdr W b t k → Calls Tryz.prog 97 #[.pointer (some ⟨b, 0, none⟩), .int .i64 ((x.length : Int) + 2)] W fun e w' => e = .returned (.tuple #[]) ∧ Rdr w' b t (k + (x.length + 2)) ∧ W.grownBy w' (some b)) := fun W hW => by
    have := implSkip b t k (x.length + 2) W hW (by omega) (by omega)
    exact this
  have RD : Hid (Rdr w b t k) := h
  generalize txtL x = X at hcut' hxs ⊢
  generalize (⟨r.toArray⟩ : ByteArray) = R at hcut'
  generalize t.extract k t.size = s at hr hcut'
  have hxm : (X.size : Int) + 2 = (x.length : Int) + 2 := by omega
  have hX : X.size ≤ 1048576 := by omega
  have HX : Hid (X.size = x.length) := hxs
  clear hl h hd hz hxs hlen
  go_enter Tryz.func119, Tryz.ntmps119
  go_wp2_with fail
  refine hr.mono ?_
  rintro e w1 ⟨rfl, hb1⟩
  have m1 := (hb1.cell (p := ⟨1, 0, none⟩) (cell_lt hm)).trans hm
  have R1 : Hid (Rdr w1 b t k) := RD.out.kept hb1
  go_wp2_with fail
  refine (hcut'.out w1 m1).mono ?_
  rintro e w2 ⟨rfl, n, hw2⟩
  have hb2 : Below w.heap.size w w2 := by rw [hw2]; exact past6 hb1 (drewN_below w1 n)
  have R2 : Hid (Rdr w2 b t k) := by rw [hw2]; exact R1.out.kept (drewN_below w1 n)
  clear hw2 hb1 m1 R1 RD hcut'
  go_wp2_with (go_at_call 97; first | (rw [hxm]; refine (hsk.out _ R2.out).mono ?_) | refine (hsk.out _ R2.out).mono ?_; rintro e w3 ⟨rfl, hr3, hg3⟩)
  go_ret2
  exact ⟨rfl, hr3, (grown_below (grown_self w (some b)) hb2).trans hg3⟩

set_option maxHeartbeats 1000000 in
theorem implTake_no (b : Nat) (t : ByteArray) (k n : Nat) (w : World) (h : Rdr w b t k) (hk : k ≤ t.size) (ht : t.size ≤ 1048576) (hn : ¬ n ≤ t.size - k) :
    Calls Tryz.prog 125 #[.pointer (some ⟨b, 0, none⟩), .int .i64 n] w fun e w' => e = .returned (.tuple #[.string ⟨#[]⟩, .bool false]) ∧ Below w.heap.size w w' := by
  have hr := implRest b t k w h hk ht
  have hz := rest_size t hk
  generalize t.extract k t.size = s at hr hz
  have hs1 : s.size ≤ 1048576 := by omega
  have d1 : decide ((s.size : Int) < (n : Int)) = true := by simp; omega
  clear h
  go_enter Tryz.func125, Tryz.ntmps125
  go_wp2_with fail
  refine hr.mono ?_
  rintro e w1 ⟨rfl, hb1⟩
  go_wp2
  go_ret2
  exact ⟨rfl, hb1⟩

set_option maxHeartbeats 1000000 in
theorem implTake_yes (b : Nat) (t : ByteArray) (k n : Nat) (w : World) (h : Rdr w b t k) (hk : k ≤ t.size) (ht : t.size ≤ 1048576) (hn : n ≤ t.size - k) :
    Calls Tryz.prog 125 #[.pointer (some ⟨b, 0, none⟩), .int .i64 n] w fun e w' => e = .returned (.tuple #[.string (txtL ((t.data.toList.drop k).take n)), .bool true]) ∧ Rdr w' b t (k + n) ∧ w.grownBy w' (some b) := by
  have hr := implRest b t k w h hk ht
  have hz := rest_size t hk
  have hd := drop_text t k
  have HT : Hid ((t.extract k t.size).extract 0 n = txtL ((t.data.toList.drop k).take n)) := by
    have := take_text (t.extract k t.size) (p := 0) (n := n) (q := t.data.toList.drop k) (by rw [hd]; rfl)
    rw [Nat.zero_add] at this
    exact this
  have RD : Hid (Rdr w b t k) := h
  have hsk : Hid (∀ W, Rdr W b t k → Calls Tryz.prog 97 #[.pointer (some ⟨b, 0, none⟩), .int .i64 (n : Int)] W fun e w' => e = .returned (.tuple #[]) ∧ Rdr w' b t (k + n) ∧ W.grownBy w' (some b)) := fun W hW => implSkip b t k n W hW (by omega) (by omega)
  generalize txtL ((t.data.toList.drop k).take n) = X at HT ⊢
  generalize t.extract k t.size = s at hr hz HT
  have hs1 : s.size ≤ 1048576 := by omega
  have hns : n ≤ s.size := by omega
  have d1 : decide ((s.size : Int) < (n : Int)) = false := by simp; omega
  clear h hd hz
  go_enter Tryz.func125, Tryz.ntmps125
  go_wp2_with fail
  refine hr.mono ?_
  rintro e w1 ⟨rfl, hb1⟩
  have R1 : Hid (Rdr w1 b t k) := RD.out.kept hb1
  clear RD
  go_wp2_with (go_at_call 97; refine (hsk.out _ R1.out).mono ?_; rintro e w3 ⟨rfl, hr3, hg3⟩)
  go_ret2
  refine ⟨?_, hr3, (grown_below (grown_self w (some b)) hb1).trans hg3⟩
  rw [HT.out]
  rfl
end Go.Proofs.YteibacmohplblaaGreatDoor
