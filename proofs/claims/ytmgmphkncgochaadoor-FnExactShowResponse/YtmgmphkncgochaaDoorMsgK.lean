/-
  The walks of the exact laws of messages, given what the program's own function answers.
-/
import Derived.Test.YtmgmphkncgochaaDoorMsgE
import Derived.Test.YtmgmphkncgochaaDoorMsgH
import Derived.Deep.RegionWith
namespace Go.Proofs.YtmgmphkncgochaaDoor
open Go.RowKit Go.Sort
set_option linter.unusedVariables false

theorem OwnsF.solid {w : World} {B : Nat} {v : Value} {l : List Fl} (h : OwnsF w B v l) : Solid v := by
  rcases h.2 with ⟨h0, _⟩ | ⟨g, cap, cur, hv, _⟩
  · rw [h0]; intro n c e; injection e with _ _ e; exact e.symm
  · rw [hv]; intro n c e; injection e with e _ _; cases e
theorem OwnsF.fits {w : World} {B : Nat} {v : Value} {l : List Fl} (h : OwnsF w B v l) (h1 : szL l ≤ 1048576) (h2 : l.length ≤ 1048576) : Fits w v l := ⟨h.fls, h1, h2, h.solid⟩
theorem RqGot.kept {w w' : World} {v : Value} {r : Rq} (h : RqGot w v r) (hb : Below w.heap.size w w') : RqGot w' v r := ⟨h.1.kept hb, h.2⟩
theorem RsGot.kept {w w' : World} {v : Value} {r : Rs} (h : RsGot w v r) (hb : Below w.heap.size w w') : RsGot w' v r := ⟨h.1.kept hb, h.2⟩

set_option maxHeartbeats 4000000 in
theorem walkRqOk (X : World → Prop) (hX : ∀ w w', X w → Below w.heap.size w w' → X w')
    (hi : ∀ (r : Rq) (v : Value) (w : World), X w → RqIn w v r → Calls Tryd.prog 11 #[rqV r v] w fun e w' => e = .returned (.bool (rqOk r)) ∧ Below w.heap.size w w')
    (r : Rq) (v : Value) (w : World) (h : RqGot w v r) (hx : X w) :
    Calls Tryd.prog 3 #[rqV r v] w fun e w' => e = .returned (.bool true) ∧ Below w.heap.size w w' := by
  have hfs := h.1
  obtain ⟨a, cap, rfl, hcap⟩ := hfs
  clear hcap
  have B0' : Below w.heap.size w (w.alloc (.cells #[.string r.m, .string r.t, .slice a r.l.length cap, .string r.b] 24)) := (Below.refl _ w).alloc (Nat.le_refl _) _
  have hsz := lawSzRq r _ _ (h.kept B0')
  have F0 : Hid (Fls (w.alloc (.cells #[.string r.m, .string r.t, .slice a r.l.length cap, .string r.b] 24)) (.slice a r.l.length cap) r.l) := h.1.kept B0'
  have Q0 : Hid (RqB (w.alloc (.cells #[.string r.m, .string r.t, .slice a r.l.length cap, .string r.b] 24)) w.heap.size r (.slice a r.l.length cap)) := RqB.new w r _ _
  have B0 : Hid (Below w.heap.size w (w.alloc (.cells #[.string r.m, .string r.t, .slice a r.l.length cap, .string r.b] 24))) := B0'
  have X0 : Hid (X (w.alloc (.cells #[.string r.m, .string r.t, .slice a r.l.length cap, .string r.b] 24))) := hX _ _ hx B0'
  have HX : Hid (∀ w w', X w → Below w.heap.size w w' → X w') := hX
  clear h hx B0' hX
  unfold rqV at hsz ⊢
  go_enter Tryd.func3, Tryd.ntmps3
  go_wp2_with fail
  refine hsz.mono ?_
  rintro e w1 ⟨⟨x, rfl, hx⟩, hb1⟩
  have Q1 : Hid (RqB w1 w.heap.size r (.slice a r.l.length cap)) := Q0.out.next hb1
  have B1 : Hid (Below w.heap.size w w1) := past6 B0.out hb1
  have F1 : Hid (Fls w1 (.slice a r.l.length cap) r.l) := F0.out.kept hb1
  have X1 : Hid (X w1) := HX.out _ _ X0.out hb1
  clear Q0 B0 F0 X0 hb1 hsz
  rcases hx with rfl | ⟨hx0, hxs⟩
  · go_wp2
    go_ret
    exact ⟨rfl, B1.out⟩
  · have hxn : ¬ x < 0 := by omega
    have hlen : r.l.length ≤ 1048576 := by omega
    have hszl : szL r.l ≤ 1048576 := by omega
    have HI : Hid (∀ (W : World) (u : Value) (B : Nat), OwnsF W B u r.l → RqIn W u r) := fun W u B ho => ⟨ho.fits hszl hlen, by omega, by omega, by omega⟩
    have hto : Hid (∀ (W : World), Fls W (.slice a r.l.length cap) r.l → Calls Tryd.prog 10 #[rqV r (.slice a r.l.length cap)] W fun e w' => ∃ u, e = .returned (rqV r u) ∧ OwnsF w' W.heap.size u r.l ∧ Below W.heap.size W w') := fun W F => lawToRq r _ W F hlen
    have hsp : Hid (∀ (W : World) (u : Value), RqIn W u r → Calls Tryd.prog 9 #[rqV r u] W fun e w' => e = .returned (.bool (rqOk r)) ∧ Below W.heap.size W w') := fun W u F => specRqOk r u W F
    have him : Hid (∀ (W : World) (u : Value), X W → RqIn W u r → Calls Tryd.prog 11 #[rqV r u] W fun e w' => e = .returned (.bool (rqOk r)) ∧ Below W.heap.size W w') := fun W u x F => hi r u W x F
    have heq : Hid (∀ (W : World) (u u' : Value), Fls W u r.l → Fls W u' r.l → Calls Tryd.prog 12 #[rqV r u, rqV r u'] W fun e w' => e = .returned (.bool true) ∧ Below W.heap.size W w') := fun W u u' F F' => lawEqRq r u u' W F F' hlen
    generalize rqOk r = ans at hsp him
    unfold rqV at hto hsp him heq
    clear hx0 hxs hi
    have a0 := Q1.out.c0
    have a1 := Q1.out.c1
    have a2 := Q1.out.c2
    have a3 := Q1.out.c3
    go_wp2_with fail
    refine (hto.out _ F1.out).mono ?_
    rintro e w2 ⟨u2, rfl, ho2, hb2⟩
    have I2' := HI.out _ _ _ ho2
    obtain ⟨A2, cap2, rfl, _⟩ := ho2.form
    have I2 : Hid (RqIn w2 (.slice A2 r.l.length cap2) r) := I2'
    have Q2 : Hid (RqB w2 w.heap.size r (.slice a r.l.length cap)) := Q1.out.next hb2
    have B2 : Hid (Below w.heap.size w w2) := past6 B1.out hb2
    have F2 : Hid (Fls w2 (.slice a r.l.length cap) r.l) := F1.out.kept hb2
    have X2 : Hid (X w2) := HX.out _ _ X1.out hb2
    clear a0 a1 a2 a3 Q1 B1 F1 X1 hb2 ho2 I2'
    go_wp2_with fail
    refine (hsp.out _ _ I2.out).mono ?_
    rintro e w3 ⟨rfl, hb3⟩
    have Q3 : Hid (RqB w3 w.heap.size r (.slice a r.l.length cap)) := Q2.out.next hb3
    have B3 : Hid (Below w.heap.size w w3) := past6 B2.out hb3
    have F3 : Hid (Fls w3 (.slice a r.l.length cap) r.l) := F2.out.kept hb3
    have X3 : Hid (X w3) := HX.out _ _ X2.out hb3
    clear Q2 B2 F2 X2 hb3 I2 hsp
    have a0 := Q3.out.c0
    have a1 := Q3.out.c1
    have a2 := Q3.out.c2
    have a3 := Q3.out.c3
    go_wp2_with fail
    refine (hto.out _ F3.out).mono ?_
    rintro e w4 ⟨u4, rfl, ho4, hb4⟩
    have I4' := HI.out _ _ _ (ho4.alloc (.cells #[.string r.m, .string r.t, u4, .string r.b] 29))
    have G4' := (ho4.alloc (.cells #[.string r.m, .string r.t, u4, .string r.b] 29)).fls
    obtain ⟨A4, cap4, rfl, _⟩ := ho4.form
    have I4 : Hid (RqIn (w4.alloc (.cells #[.string r.m, .string r.t, .slice A4 r.l.length cap4, .string r.b] 29)) (.slice A4 r.l.length cap4) r) := I4'
    have G4 : Hid (Fls (w4.alloc (.cells #[.string r.m, .string r.t, .slice A4 r.l.length cap4, .string r.b] 29)) (.slice A4 r.l.length cap4) r.l) := G4'
    have Q4 : Hid (RqB (w4.alloc (.cells #[.string r.m, .string r.t, .slice A4 r.l.length cap4, .string r.b] 29)) w.heap.size r (.slice a r.l.length cap)) := (Q3.out.next hb4).alloc _
    have P4 : Hid (RqB (w4.alloc (.cells #[.string r.m, .string r.t, .slice A4 r.l.length cap4, .string r.b] 29)) w4.heap.size r (.slice A4 r.l.length cap4)) := RqB.new w4 r _ _
    have B4 : Hid (Below w.heap.size w (w4.alloc (.cells #[.string r.m, .string r.t, .slice A4 r.l.length cap4, .string r.b] 29))) := (past6 B3.out hb4).alloc (past6 B3.out hb4).size _
    have F4 : Hid (Fls (w4.alloc (.cells #[.string r.m, .string r.t, .slice A4 r.l.length cap4, .string r.b] 29)) (.slice a r.l.length cap) r.l) := (F3.out.kept hb4).kept ((Below.refl _ w4).alloc (Nat.le_refl _) _)
    have X4 : Hid (X (w4.alloc (.cells #[.string r.m, .string r.t, .slice A4 r.l.length cap4, .string r.b] 29))) := HX.out _ _ (HX.out _ _ X3.out hb4) ((Below.refl _ w4).alloc (Nat.le_refl _) _)
    clear a0 a1 a2 a3 Q3 B3 F3 X3 hb4 ho4 I4' G4'
    go_wp2_with fail
    refine (him.out _ _ X4.out I4.out).mono ?_
    rintro e w5 ⟨rfl, hb5⟩
    have Q5 : Hid (RqB w5 w.heap.size r (.slice a r.l.length cap)) := Q4.out.next hb5
    have P5 : Hid (RqB w5 w4.heap.size r (.slice A4 r.l.length cap4)) := P4.out.next hb5
    have B5 : Hid (Below w.heap.size w w5) := past6 B4.out hb5
    have F5' : Fls w5 (.slice a r.l.length cap) r.l := F4.out.kept hb5
    have F5 : Hid (Fls w5.drew (.slice a r.l.length cap) r.l) := F5'
    have G5' : Fls w5 (.slice A4 r.l.length cap4) r.l := G4.out.kept hb5
    have G5 : Hid (Fls w5.drew (.slice A4 r.l.length cap4) r.l) := G5'
    clear Q4 P4 B4 F4 G4 X4 hb5 I4 him F5' G5'
    have a0 := Q5.out.c0
    have a1 := Q5.out.c1
    have a2 := Q5.out.c2
    have a3 := Q5.out.c3
    have p0 := P5.out.c0
    have p1 := P5.out.c1
    have p2 := P5.out.c2
    have p3 := P5.out.c3
    go_wp2
    go_region_with (first
      | (go_at_call 10; refine (hto.out _ F5.out).mono ?_; rintro e w6 ⟨u6, rfl, ho6, hb6⟩; have G6' := ho6.fls; obtain ⟨A6, cap6, rfl, _⟩ := ho6.form; have G6 : Hid (Fls w6 (.slice A6 r.l.length cap6) r.l) := G6'; have H6 : Hid (Fls w6 (.slice A4 r.l.length cap4) r.l) := G5.out.kept hb6; have hb6' : Below w5.heap.size w5 w6 := ⟨hb6.os, hb6.tape, hb6.output, hb6.size, hb6.block⟩; have B6 : Hid (Below w.heap.size w w6) := past6 B5.out hb6'; have P6 : Hid (RqB w6 w4.heap.size r (.slice A4 r.l.length cap4)) := P5.out.next hb6'; have q0 := P6.out.c0; have q1 := P6.out.c1; have q2 := P6.out.c2; have q3 := P6.out.c3; clear hb6 hb6' ho6 G6')
      | (go_at_call 12; refine (heq.out _ _ _ H6.out G6.out).mono ?_; rintro e w7 ⟨rfl, hb7⟩))
    all_goals
      go_wp2
      go_ret
      exact ⟨rfl, past6 B6.out hb7⟩

set_option maxHeartbeats 4000000 in
theorem walkRsOk (X : World → Prop) (hX : ∀ w w', X w → Below w.heap.size w w' → X w')
    (hi : ∀ (r : Rs) (v : Value) (w : World), X w → RsIn w v r → Calls Tryd.prog 16 #[rsV r v] w fun e w' => e = .returned (.bool (rsOk r)) ∧ Below w.heap.size w w')
    (r : Rs) (v : Value) (w : World) (h : RsGot w v r) (hx : X w) :
    Calls Tryd.prog 4 #[rsV r v] w fun e w' => e = .returned (.bool true) ∧ Below w.heap.size w w' := by
  have hfs := h.1
  obtain ⟨a, cap, rfl, hcap⟩ := hfs
  clear hcap
  have B0' : Below w.heap.size w (w.alloc (.cells #[.int .i64 r.s, .slice a r.l.length cap, .string r.b] 34)) := (Below.refl _ w).alloc (Nat.le_refl _) _
  have hsz := lawSzRs r _ _ (h.kept B0')
  have F0 : Hid (Fls (w.alloc (.cells #[.int .i64 r.s, .slice a r.l.length cap, .string r.b] 34)) (.slice a r.l.length cap) r.l) := h.1.kept B0'
  have Q0 : Hid (RsB (w.alloc (.cells #[.int .i64 r.s, .slice a r.l.length cap, .string r.b] 34)) w.heap.size r (.slice a r.l.length cap)) := RsB.new w r _ _
  have B0 : Hid (Below w.heap.size w (w.alloc (.cells #[.int .i64 r.s, .slice a r.l.length cap, .string r.b] 34))) := B0'
  have X0 : Hid (X (w.alloc (.cells #[.int .i64 r.s, .slice a r.l.length cap, .string r.b] 34))) := hX _ _ hx B0'
  have HX : Hid (∀ w w', X w → Below w.heap.size w w' → X w') := hX
  clear h hx B0' hX
  unfold rsV at hsz ⊢
  go_enter Tryd.func4, Tryd.ntmps4
  go_wp2_with fail
  refine hsz.mono ?_
  rintro e w1 ⟨⟨x, rfl, hx⟩, hb1⟩
  have Q1 : Hid (RsB w1 w.heap.size r (.slice a r.l.length cap)) := Q0.out.next hb1
  have B1 : Hid (Below w.heap.size w w1) := past6 B0.out hb1
  have F1 : Hid (Fls w1 (.slice a r.l.length cap) r.l) := F0.out.kept hb1
  have X1 : Hid (X w1) := HX.out _ _ X0.out hb1
  clear Q0 B0 F0 X0 hb1 hsz
  rcases hx with rfl | ⟨hx0, hxs⟩
  · go_wp2
    go_ret
    exact ⟨rfl, B1.out⟩
  · have hxn : ¬ x < 0 := by omega
    have hlen : r.l.length ≤ 1048576 := by omega
    have hszl : szL r.l ≤ 1048576 := by omega
    have HI : Hid (∀ (W : World) (u : Value) (B : Nat), OwnsF W B u r.l → RsIn W u r) := fun W u B ho => ⟨ho.fits hszl hlen, by omega⟩
    have hto : Hid (∀ (W : World), Fls W (.slice a r.l.length cap) r.l → Calls Tryd.prog 15 #[rsV r (.slice a r.l.length cap)] W fun e w' => ∃ u, e = .returned (rsV r u) ∧ OwnsF w' W.heap.size u r.l ∧ Below W.heap.size W w') := fun W F => lawToRs r _ W F hlen
    have hsp : Hid (∀ (W : World) (u : Value), RsIn W u r → Calls Tryd.prog 14 #[rsV r u] W fun e w' => e = .returned (.bool (rsOk r)) ∧ Below W.heap.size W w') := fun W u F => specRsOk r u W F
    have him : Hid (∀ (W : World) (u : Value), X W → RsIn W u r → Calls Tryd.prog 16 #[rsV r u] W fun e w' => e = .returned (.bool (rsOk r)) ∧ Below W.heap.size W w') := fun W u x F => hi r u W x F
    have heq : Hid (∀ (W : World) (u u' : Value), Fls W u r.l → Fls W u' r.l → Calls Tryd.prog 17 #[rsV r u, rsV r u'] W fun e w' => e = .returned (.bool true) ∧ Below W.heap.size W w') := fun W u u' F F' => lawEqRs r u u' W F F' hlen
    generalize rsOk r = ans at hsp him
    unfold rsV at hto hsp him heq
    clear hx0 hxs hi
    have a0 := Q1.out.c0
    have a1 := Q1.out.c1
    have a2 := Q1.out.c2
    go_wp2_with fail
    refine (hto.out _ F1.out).mono ?_
    rintro e w2 ⟨u2, rfl, ho2, hb2⟩
    have I2' := HI.out _ _ _ ho2
    obtain ⟨A2, cap2, rfl, _⟩ := ho2.form
    have I2 : Hid (RsIn w2 (.slice A2 r.l.length cap2) r) := I2'
    have Q2 : Hid (RsB w2 w.heap.size r (.slice a r.l.length cap)) := Q1.out.next hb2
    have B2 : Hid (Below w.heap.size w w2) := past6 B1.out hb2
    have F2 : Hid (Fls w2 (.slice a r.l.length cap) r.l) := F1.out.kept hb2
    have X2 : Hid (X w2) := HX.out _ _ X1.out hb2
    clear a0 a1 a2 Q1 B1 F1 X1 hb2 ho2 I2'
    go_wp2_with fail
    refine (hsp.out _ _ I2.out).mono ?_
    rintro e w3 ⟨rfl, hb3⟩
    have Q3 : Hid (RsB w3 w.heap.size r (.slice a r.l.length cap)) := Q2.out.next hb3
    have B3 : Hid (Below w.heap.size w w3) := past6 B2.out hb3
    have F3 : Hid (Fls w3 (.slice a r.l.length cap) r.l) := F2.out.kept hb3
    have X3 : Hid (X w3) := HX.out _ _ X2.out hb3
    clear Q2 B2 F2 X2 hb3 I2 hsp
    have a0 := Q3.out.c0
    have a1 := Q3.out.c1
    have a2 := Q3.out.c2
    go_wp2_with fail
    refine (hto.out _ F3.out).mono ?_
    rintro e w4 ⟨u4, rfl, ho4, hb4⟩
    have I4' := HI.out _ _ _ (ho4.alloc (.cells #[.int .i64 r.s, u4, .string r.b] 38))
    have G4' := (ho4.alloc (.cells #[.int .i64 r.s, u4, .string r.b] 38)).fls
    obtain ⟨A4, cap4, rfl, _⟩ := ho4.form
    have I4 : Hid (RsIn (w4.alloc (.cells #[.int .i64 r.s, .slice A4 r.l.length cap4, .string r.b] 38)) (.slice A4 r.l.length cap4) r) := I4'
    have G4 : Hid (Fls (w4.alloc (.cells #[.int .i64 r.s, .slice A4 r.l.length cap4, .string r.b] 38)) (.slice A4 r.l.length cap4) r.l) := G4'
    have Q4 : Hid (RsB (w4.alloc (.cells #[.int .i64 r.s, .slice A4 r.l.length cap4, .string r.b] 38)) w.heap.size r (.slice a r.l.length cap)) := (Q3.out.next hb4).alloc _
    have P4 : Hid (RsB (w4.alloc (.cells #[.int .i64 r.s, .slice A4 r.l.length cap4, .string r.b] 38)) w4.heap.size r (.slice A4 r.l.length cap4)) := RsB.new w4 r _ _
    have B4 : Hid (Below w.heap.size w (w4.alloc (.cells #[.int .i64 r.s, .slice A4 r.l.length cap4, .string r.b] 38))) := (past6 B3.out hb4).alloc (past6 B3.out hb4).size _
    have F4 : Hid (Fls (w4.alloc (.cells #[.int .i64 r.s, .slice A4 r.l.length cap4, .string r.b] 38)) (.slice a r.l.length cap) r.l) := (F3.out.kept hb4).kept ((Below.refl _ w4).alloc (Nat.le_refl _) _)
    have X4 : Hid (X (w4.alloc (.cells #[.int .i64 r.s, .slice A4 r.l.length cap4, .string r.b] 38))) := HX.out _ _ (HX.out _ _ X3.out hb4) ((Below.refl _ w4).alloc (Nat.le_refl _) _)
    clear a0 a1 a2 Q3 B3 F3 X3 hb4 ho4 I4' G4'
    go_wp2_with fail
    refine (him.out _ _ X4.out I4.out).mono ?_
    rintro e w5 ⟨rfl, hb5⟩
    have Q5 : Hid (RsB w5 w.heap.size r (.slice a r.l.length cap)) := Q4.out.next hb5
    have P5 : Hid (RsB w5 w4.heap.size r (.slice A4 r.l.length cap4)) := P4.out.next hb5
    have B5 : Hid (Below w.heap.size w w5) := past6 B4.out hb5
    have F5' : Fls w5 (.slice a r.l.length cap) r.l := F4.out.kept hb5
    have F5 : Hid (Fls w5.drew (.slice a r.l.length cap) r.l) := F5'
    have G5' : Fls w5 (.slice A4 r.l.length cap4) r.l := G4.out.kept hb5
    have G5 : Hid (Fls w5.drew (.slice A4 r.l.length cap4) r.l) := G5'
    clear Q4 P4 B4 F4 G4 X4 hb5 I4 him F5' G5'
    have a0 := Q5.out.c0
    have a1 := Q5.out.c1
    have a2 := Q5.out.c2
    have p0 := P5.out.c0
    have p1 := P5.out.c1
    have p2 := P5.out.c2
    go_wp2
    go_region_with (first
      | (go_at_call 15; refine (hto.out _ F5.out).mono ?_; rintro e w6 ⟨u6, rfl, ho6, hb6⟩; have G6' := ho6.fls; obtain ⟨A6, cap6, rfl, _⟩ := ho6.form; have G6 : Hid (Fls w6 (.slice A6 r.l.length cap6) r.l) := G6'; have H6 : Hid (Fls w6 (.slice A4 r.l.length cap4) r.l) := G5.out.kept hb6; have hb6' : Below w5.heap.size w5 w6 := ⟨hb6.os, hb6.tape, hb6.output, hb6.size, hb6.block⟩; have B6 : Hid (Below w.heap.size w w6) := past6 B5.out hb6'; have P6 : Hid (RsB w6 w4.heap.size r (.slice A4 r.l.length cap4)) := P5.out.next hb6'; have q0 := P6.out.c0; have q1 := P6.out.c1; have q2 := P6.out.c2; clear hb6 hb6' ho6 G6')
      | (go_at_call 17; refine (heq.out _ _ _ H6.out G6.out).mono ?_; rintro e w7 ⟨rfl, hb7⟩))
    all_goals
      go_wp2
      go_ret
      exact ⟨rfl, past6 B6.out hb7⟩

set_option maxHeartbeats 4000000 in
theorem walkShRq (X : World → Prop) (hX : ∀ w w', X w → Below w.heap.size w w' → X w')
    (hi : ∀ (r : Rq) (v : Value) (w : World), X w → RqIn w v r → Calls Tryd.prog 24 #[rqV r v] w fun e w' => e = .returned (.string (shRq r)) ∧ Below w.heap.size w w')
    (r : Rq) (v : Value) (w : World) (h : RqGot w v r) (hx : X w) :
    Calls Tryd.prog 6 #[rqV r v] w fun e w' => e = .returned (.bool true) ∧ Below w.heap.size w w' := by
  have hfs := h.1
  obtain ⟨a, cap, rfl, hcap⟩ := hfs
  clear hcap
  have B0' : Below w.heap.size w (w.alloc (.cells #[.string r.m, .string r.t, .slice a r.l.length cap, .string r.b] 24)) := (Below.refl _ w).alloc (Nat.le_refl _) _
  have hsz := lawSzRq r _ _ (h.kept B0')
  have F0 : Hid (Fls (w.alloc (.cells #[.string r.m, .string r.t, .slice a r.l.length cap, .string r.b] 24)) (.slice a r.l.length cap) r.l) := h.1.kept B0'
  have Q0 : Hid (RqB (w.alloc (.cells #[.string r.m, .string r.t, .slice a r.l.length cap, .string r.b] 24)) w.heap.size r (.slice a r.l.length cap)) := RqB.new w r _ _
  have B0 : Hid (Below w.heap.size w (w.alloc (.cells #[.string r.m, .string r.t, .slice a r.l.length cap, .string r.b] 24))) := B0'
  have X0 : Hid (X (w.alloc (.cells #[.string r.m, .string r.t, .slice a r.l.length cap, .string r.b] 24))) := hX _ _ hx B0'
  have HX : Hid (∀ w w', X w → Below w.heap.size w w' → X w') := hX
  clear h hx B0' hX
  unfold rqV at hsz ⊢
  go_enter Tryd.func6, Tryd.ntmps6
  go_wp2_with fail
  refine hsz.mono ?_
  rintro e w1 ⟨⟨x, rfl, hx⟩, hb1⟩
  have Q1 : Hid (RqB w1 w.heap.size r (.slice a r.l.length cap)) := Q0.out.next hb1
  have B1 : Hid (Below w.heap.size w w1) := past6 B0.out hb1
  have F1 : Hid (Fls w1 (.slice a r.l.length cap) r.l) := F0.out.kept hb1
  have X1 : Hid (X w1) := HX.out _ _ X0.out hb1
  clear Q0 B0 F0 X0 hb1 hsz
  rcases hx with rfl | ⟨hx0, hxs⟩
  · go_wp2
    go_ret
    exact ⟨rfl, B1.out⟩
  · have hxn : ¬ x < 0 := by omega
    have hlen : r.l.length ≤ 1048576 := by omega
    have hszl : szL r.l ≤ 1048576 := by omega
    have HI : Hid (∀ (W : World) (u : Value) (B : Nat), OwnsF W B u r.l → RqIn W u r) := fun W u B ho => ⟨ho.fits hszl hlen, by omega, by omega, by omega⟩
    have hto : Hid (∀ (W : World), Fls W (.slice a r.l.length cap) r.l → Calls Tryd.prog 10 #[rqV r (.slice a r.l.length cap)] W fun e w' => ∃ u, e = .returned (rqV r u) ∧ OwnsF w' W.heap.size u r.l ∧ Below W.heap.size W w') := fun W F => lawToRq r _ W F hlen
    have hsp : Hid (∀ (W : World) (u : Value), RqIn W u r → Calls Tryd.prog 23 #[rqV r u] W fun e w' => e = .returned (.string (shRq r)) ∧ Below W.heap.size W w') := fun W u F => specShRq r u W F
    have him : Hid (∀ (W : World) (u : Value), X W → RqIn W u r → Calls Tryd.prog 24 #[rqV r u] W fun e w' => e = .returned (.string (shRq r)) ∧ Below W.heap.size W w') := fun W u x F => hi r u W x F
    have heq : Hid (∀ (W : World) (u u' : Value), Fls W u r.l → Fls W u' r.l → Calls Tryd.prog 12 #[rqV r u, rqV r u'] W fun e w' => e = .returned (.bool true) ∧ Below W.heap.size W w') := fun W u u' F F' => lawEqRq r u u' W F F' hlen
    generalize shRq r = ans at hsp him
    unfold rqV at hto hsp him heq
    clear hx0 hxs hi
    have a0 := Q1.out.c0
    have a1 := Q1.out.c1
    have a2 := Q1.out.c2
    have a3 := Q1.out.c3
    go_wp2_with fail
    refine (hto.out _ F1.out).mono ?_
    rintro e w2 ⟨u2, rfl, ho2, hb2⟩
    have I2' := HI.out _ _ _ ho2
    obtain ⟨A2, cap2, rfl, _⟩ := ho2.form
    have I2 : Hid (RqIn w2 (.slice A2 r.l.length cap2) r) := I2'
    have Q2 : Hid (RqB w2 w.heap.size r (.slice a r.l.length cap)) := Q1.out.next hb2
    have B2 : Hid (Below w.heap.size w w2) := past6 B1.out hb2
    have F2 : Hid (Fls w2 (.slice a r.l.length cap) r.l) := F1.out.kept hb2
    have X2 : Hid (X w2) := HX.out _ _ X1.out hb2
    clear a0 a1 a2 a3 Q1 B1 F1 X1 hb2 ho2 I2'
    go_wp2_with fail
    refine (hsp.out _ _ I2.out).mono ?_
    rintro e w3 ⟨rfl, hb3⟩
    have Q3 : Hid (RqB w3 w.heap.size r (.slice a r.l.length cap)) := Q2.out.next hb3
    have B3 : Hid (Below w.heap.size w w3) := past6 B2.out hb3
    have F3 : Hid (Fls w3 (.slice a r.l.length cap) r.l) := F2.out.kept hb3
    have X3 : Hid (X w3) := HX.out _ _ X2.out hb3
    clear Q2 B2 F2 X2 hb3 I2 hsp
    have a0 := Q3.out.c0
    have a1 := Q3.out.c1
    have a2 := Q3.out.c2
    have a3 := Q3.out.c3
    go_wp2_with fail
    refine (hto.out _ F3.out).mono ?_
    rintro e w4 ⟨u4, rfl, ho4, hb4⟩
    have I4' := HI.out _ _ _ (ho4.alloc (.cells #[.string r.m, .string r.t, u4, .string r.b] 29))
    have G4' := (ho4.alloc (.cells #[.string r.m, .string r.t, u4, .string r.b] 29)).fls
    obtain ⟨A4, cap4, rfl, _⟩ := ho4.form
    have I4 : Hid (RqIn (w4.alloc (.cells #[.string r.m, .string r.t, .slice A4 r.l.length cap4, .string r.b] 29)) (.slice A4 r.l.length cap4) r) := I4'
    have G4 : Hid (Fls (w4.alloc (.cells #[.string r.m, .string r.t, .slice A4 r.l.length cap4, .string r.b] 29)) (.slice A4 r.l.length cap4) r.l) := G4'
    have Q4 : Hid (RqB (w4.alloc (.cells #[.string r.m, .string r.t, .slice A4 r.l.length cap4, .string r.b] 29)) w.heap.size r (.slice a r.l.length cap)) := (Q3.out.next hb4).alloc _
    have P4 : Hid (RqB (w4.alloc (.cells #[.string r.m, .string r.t, .slice A4 r.l.length cap4, .string r.b] 29)) w4.heap.size r (.slice A4 r.l.length cap4)) := RqB.new w4 r _ _
    have B4 : Hid (Below w.heap.size w (w4.alloc (.cells #[.string r.m, .string r.t, .slice A4 r.l.length cap4, .string r.b] 29))) := (past6 B3.out hb4).alloc (past6 B3.out hb4).size _
    have F4 : Hid (Fls (w4.alloc (.cells #[.string r.m, .string r.t, .slice A4 r.l.length cap4, .string r.b] 29)) (.slice a r.l.length cap) r.l) := (F3.out.kept hb4).kept ((Below.refl _ w4).alloc (Nat.le_refl _) _)
    have X4 : Hid (X (w4.alloc (.cells #[.string r.m, .string r.t, .slice A4 r.l.length cap4, .string r.b] 29))) := HX.out _ _ (HX.out _ _ X3.out hb4) ((Below.refl _ w4).alloc (Nat.le_refl _) _)
    clear a0 a1 a2 a3 Q3 B3 F3 X3 hb4 ho4 I4' G4'
    go_wp2_with fail
    refine (him.out _ _ X4.out I4.out).mono ?_
    rintro e w5 ⟨rfl, hb5⟩
    have Q5 : Hid (RqB w5 w.heap.size r (.slice a r.l.length cap)) := Q4.out.next hb5
    have P5 : Hid (RqB w5 w4.heap.size r (.slice A4 r.l.length cap4)) := P4.out.next hb5
    have B5 : Hid (Below w.heap.size w w5) := past6 B4.out hb5
    have F5' : Fls w5 (.slice a r.l.length cap) r.l := F4.out.kept hb5
    have F5 : Hid (Fls w5.drew (.slice a r.l.length cap) r.l) := F5'
    have G5' : Fls w5 (.slice A4 r.l.length cap4) r.l := G4.out.kept hb5
    have G5 : Hid (Fls w5.drew (.slice A4 r.l.length cap4) r.l) := G5'
    clear Q4 P4 B4 F4 G4 X4 hb5 I4 him F5' G5'
    have a0 := Q5.out.c0
    have a1 := Q5.out.c1
    have a2 := Q5.out.c2
    have a3 := Q5.out.c3
    have p0 := P5.out.c0
    have p1 := P5.out.c1
    have p2 := P5.out.c2
    have p3 := P5.out.c3
    go_wp2
    go_region_with (first
      | (go_at_call 10; refine (hto.out _ F5.out).mono ?_; rintro e w6 ⟨u6, rfl, ho6, hb6⟩; have G6' := ho6.fls; obtain ⟨A6, cap6, rfl, _⟩ := ho6.form; have G6 : Hid (Fls w6 (.slice A6 r.l.length cap6) r.l) := G6'; have H6 : Hid (Fls w6 (.slice A4 r.l.length cap4) r.l) := G5.out.kept hb6; have hb6' : Below w5.heap.size w5 w6 := ⟨hb6.os, hb6.tape, hb6.output, hb6.size, hb6.block⟩; have B6 : Hid (Below w.heap.size w w6) := past6 B5.out hb6'; have P6 : Hid (RqB w6 w4.heap.size r (.slice A4 r.l.length cap4)) := P5.out.next hb6'; have q0 := P6.out.c0; have q1 := P6.out.c1; have q2 := P6.out.c2; have q3 := P6.out.c3; clear hb6 hb6' ho6 G6')
      | (go_at_call 12; refine (heq.out _ _ _ H6.out G6.out).mono ?_; rintro e w7 ⟨rfl, hb7⟩))
    all_goals
      go_wp2
      go_ret
      exact ⟨rfl, past6 B6.out hb7⟩

set_option maxHeartbeats 4000000 in
theorem walkShRs (X : World → Prop) (hX : ∀ w w', X w → Below w.heap.size w w' → X w')
    (hi : ∀ (r : Rs) (v : Value) (w : World), X w → RsIn w v r → Calls Tryd.prog 26 #[rsV r v] w fun e w' => e = .returned (.string (shRs r)) ∧ Below w.heap.size w w')
    (r : Rs) (v : Value) (w : World) (h : RsGot w v r) (hx : X w) :
    Calls Tryd.prog 7 #[rsV r v] w fun e w' => e = .returned (.bool true) ∧ Below w.heap.size w w' := by
  have hfs := h.1
  obtain ⟨a, cap, rfl, hcap⟩ := hfs
  clear hcap
  have B0' : Below w.heap.size w (w.alloc (.cells #[.int .i64 r.s, .slice a r.l.length cap, .string r.b] 34)) := (Below.refl _ w).alloc (Nat.le_refl _) _
  have hsz := lawSzRs r _ _ (h.kept B0')
  have F0 : Hid (Fls (w.alloc (.cells #[.int .i64 r.s, .slice a r.l.length cap, .string r.b] 34)) (.slice a r.l.length cap) r.l) := h.1.kept B0'
  have Q0 : Hid (RsB (w.alloc (.cells #[.int .i64 r.s, .slice a r.l.length cap, .string r.b] 34)) w.heap.size r (.slice a r.l.length cap)) := RsB.new w r _ _
  have B0 : Hid (Below w.heap.size w (w.alloc (.cells #[.int .i64 r.s, .slice a r.l.length cap, .string r.b] 34))) := B0'
  have X0 : Hid (X (w.alloc (.cells #[.int .i64 r.s, .slice a r.l.length cap, .string r.b] 34))) := hX _ _ hx B0'
  have HX : Hid (∀ w w', X w → Below w.heap.size w w' → X w') := hX
  clear h hx B0' hX
  unfold rsV at hsz ⊢
  go_enter Tryd.func7, Tryd.ntmps7
  go_wp2_with fail
  refine hsz.mono ?_
  rintro e w1 ⟨⟨x, rfl, hx⟩, hb1⟩
  have Q1 : Hid (RsB w1 w.heap.size r (.slice a r.l.length cap)) := Q0.out.next hb1
  have B1 : Hid (Below w.heap.size w w1) := past6 B0.out hb1
  have F1 : Hid (Fls w1 (.slice a r.l.length cap) r.l) := F0.out.kept hb1
  have X1 : Hid (X w1) := HX.out _ _ X0.out hb1
  clear Q0 B0 F0 X0 hb1 hsz
  rcases hx with rfl | ⟨hx0, hxs⟩
  · go_wp2
    go_ret
    exact ⟨rfl, B1.out⟩
  · have hxn : ¬ x < 0 := by omega
    have hlen : r.l.length ≤ 1048576 := by omega
    have hszl : szL r.l ≤ 1048576 := by omega
    have HI : Hid (∀ (W : World) (u : Value) (B : Nat), OwnsF W B u r.l → RsIn W u r) := fun W u B ho => ⟨ho.fits hszl hlen, by omega⟩
    have hto : Hid (∀ (W : World), Fls W (.slice a r.l.length cap) r.l → Calls Tryd.prog 15 #[rsV r (.slice a r.l.length cap)] W fun e w' => ∃ u, e = .returned (rsV r u) ∧ OwnsF w' W.heap.size u r.l ∧ Below W.heap.size W w') := fun W F => lawToRs r _ W F hlen
    have hsp : Hid (∀ (W : World) (u : Value), RsIn W u r → Calls Tryd.prog 25 #[rsV r u] W fun e w' => e = .returned (.string (shRs r)) ∧ Below W.heap.size W w') := fun W u F => specShRs r u W F
    have him : Hid (∀ (W : World) (u : Value), X W → RsIn W u r → Calls Tryd.prog 26 #[rsV r u] W fun e w' => e = .returned (.string (shRs r)) ∧ Below W.heap.size W w') := fun W u x F => hi r u W x F
    have heq : Hid (∀ (W : World) (u u' : Value), Fls W u r.l → Fls W u' r.l → Calls Tryd.prog 17 #[rsV r u, rsV r u'] W fun e w' => e = .returned (.bool true) ∧ Below W.heap.size W w') := fun W u u' F F' => lawEqRs r u u' W F F' hlen
    generalize shRs r = ans at hsp him
    unfold rsV at hto hsp him heq
    clear hx0 hxs hi
    have a0 := Q1.out.c0
    have a1 := Q1.out.c1
    have a2 := Q1.out.c2
    go_wp2_with fail
    refine (hto.out _ F1.out).mono ?_
    rintro e w2 ⟨u2, rfl, ho2, hb2⟩
    have I2' := HI.out _ _ _ ho2
    obtain ⟨A2, cap2, rfl, _⟩ := ho2.form
    have I2 : Hid (RsIn w2 (.slice A2 r.l.length cap2) r) := I2'
    have Q2 : Hid (RsB w2 w.heap.size r (.slice a r.l.length cap)) := Q1.out.next hb2
    have B2 : Hid (Below w.heap.size w w2) := past6 B1.out hb2
    have F2 : Hid (Fls w2 (.slice a r.l.length cap) r.l) := F1.out.kept hb2
    have X2 : Hid (X w2) := HX.out _ _ X1.out hb2
    clear a0 a1 a2 Q1 B1 F1 X1 hb2 ho2 I2'
    go_wp2_with fail
    refine (hsp.out _ _ I2.out).mono ?_
    rintro e w3 ⟨rfl, hb3⟩
    have Q3 : Hid (RsB w3 w.heap.size r (.slice a r.l.length cap)) := Q2.out.next hb3
    have B3 : Hid (Below w.heap.size w w3) := past6 B2.out hb3
    have F3 : Hid (Fls w3 (.slice a r.l.length cap) r.l) := F2.out.kept hb3
    have X3 : Hid (X w3) := HX.out _ _ X2.out hb3
    clear Q2 B2 F2 X2 hb3 I2 hsp
    have a0 := Q3.out.c0
    have a1 := Q3.out.c1
    have a2 := Q3.out.c2
    go_wp2_with fail
    refine (hto.out _ F3.out).mono ?_
    rintro e w4 ⟨u4, rfl, ho4, hb4⟩
    have I4' := HI.out _ _ _ (ho4.alloc (.cells #[.int .i64 r.s, u4, .string r.b] 38))
    have G4' := (ho4.alloc (.cells #[.int .i64 r.s, u4, .string r.b] 38)).fls
    obtain ⟨A4, cap4, rfl, _⟩ := ho4.form
    have I4 : Hid (RsIn (w4.alloc (.cells #[.int .i64 r.s, .slice A4 r.l.length cap4, .string r.b] 38)) (.slice A4 r.l.length cap4) r) := I4'
    have G4 : Hid (Fls (w4.alloc (.cells #[.int .i64 r.s, .slice A4 r.l.length cap4, .string r.b] 38)) (.slice A4 r.l.length cap4) r.l) := G4'
    have Q4 : Hid (RsB (w4.alloc (.cells #[.int .i64 r.s, .slice A4 r.l.length cap4, .string r.b] 38)) w.heap.size r (.slice a r.l.length cap)) := (Q3.out.next hb4).alloc _
    have P4 : Hid (RsB (w4.alloc (.cells #[.int .i64 r.s, .slice A4 r.l.length cap4, .string r.b] 38)) w4.heap.size r (.slice A4 r.l.length cap4)) := RsB.new w4 r _ _
    have B4 : Hid (Below w.heap.size w (w4.alloc (.cells #[.int .i64 r.s, .slice A4 r.l.length cap4, .string r.b] 38))) := (past6 B3.out hb4).alloc (past6 B3.out hb4).size _
    have F4 : Hid (Fls (w4.alloc (.cells #[.int .i64 r.s, .slice A4 r.l.length cap4, .string r.b] 38)) (.slice a r.l.length cap) r.l) := (F3.out.kept hb4).kept ((Below.refl _ w4).alloc (Nat.le_refl _) _)
    have X4 : Hid (X (w4.alloc (.cells #[.int .i64 r.s, .slice A4 r.l.length cap4, .string r.b] 38))) := HX.out _ _ (HX.out _ _ X3.out hb4) ((Below.refl _ w4).alloc (Nat.le_refl _) _)
    clear a0 a1 a2 Q3 B3 F3 X3 hb4 ho4 I4' G4'
    go_wp2_with fail
    refine (him.out _ _ X4.out I4.out).mono ?_
    rintro e w5 ⟨rfl, hb5⟩
    have Q5 : Hid (RsB w5 w.heap.size r (.slice a r.l.length cap)) := Q4.out.next hb5
    have P5 : Hid (RsB w5 w4.heap.size r (.slice A4 r.l.length cap4)) := P4.out.next hb5
    have B5 : Hid (Below w.heap.size w w5) := past6 B4.out hb5
    have F5' : Fls w5 (.slice a r.l.length cap) r.l := F4.out.kept hb5
    have F5 : Hid (Fls w5.drew (.slice a r.l.length cap) r.l) := F5'
    have G5' : Fls w5 (.slice A4 r.l.length cap4) r.l := G4.out.kept hb5
    have G5 : Hid (Fls w5.drew (.slice A4 r.l.length cap4) r.l) := G5'
    clear Q4 P4 B4 F4 G4 X4 hb5 I4 him F5' G5'
    have a0 := Q5.out.c0
    have a1 := Q5.out.c1
    have a2 := Q5.out.c2
    have p0 := P5.out.c0
    have p1 := P5.out.c1
    have p2 := P5.out.c2
    go_wp2
    go_region_with (first
      | (go_at_call 15; refine (hto.out _ F5.out).mono ?_; rintro e w6 ⟨u6, rfl, ho6, hb6⟩; have G6' := ho6.fls; obtain ⟨A6, cap6, rfl, _⟩ := ho6.form; have G6 : Hid (Fls w6 (.slice A6 r.l.length cap6) r.l) := G6'; have H6 : Hid (Fls w6 (.slice A4 r.l.length cap4) r.l) := G5.out.kept hb6; have hb6' : Below w5.heap.size w5 w6 := ⟨hb6.os, hb6.tape, hb6.output, hb6.size, hb6.block⟩; have B6 : Hid (Below w.heap.size w w6) := past6 B5.out hb6'; have P6 : Hid (RsB w6 w4.heap.size r (.slice A4 r.l.length cap4)) := P5.out.next hb6'; have q0 := P6.out.c0; have q1 := P6.out.c1; have q2 := P6.out.c2; clear hb6 hb6' ho6 G6')
      | (go_at_call 17; refine (heq.out _ _ _ H6.out G6.out).mono ?_; rintro e w7 ⟨rfl, hb7⟩))
    all_goals
      go_wp2
      go_ret
      exact ⟨rfl, past6 B6.out hb7⟩
end Go.Proofs.YtmgmphkncgochaaDoor
