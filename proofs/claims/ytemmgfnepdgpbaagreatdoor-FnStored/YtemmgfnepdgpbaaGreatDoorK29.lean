/-
  The specification's ReadObject from where its parts are read: they are put together.
  The specification's ReadObject by its contract.
  The specification's ReadObject by its contract.
  Objects marked from any number on, and asked for their marks.
-/
import Derived.Test.YtemmgfnepdgpbaaGreatDoorK28
import Derived.Deep.Cut
import Derived.Test.YtemmgfnepdgpbaaGreatDoorK14
import Derived.Test.YtemmgfnepdgpbaaGreatDoorK19
import Derived.Test.YtemmgfnepdgpbaaGreatDoorK23
namespace Go.Proofs.YtemmgfnepdgpbaaGreatDoor
open Go.RowKit Go.Sort St
set_option linter.unusedVariables false
set_option linter.unusedSimpArgs false

/-- A region alone. -/
def headR : Code → Code
  | .seq a _ => a
  | c => c
noncomputable def rd12 : Code := headR (cutR 12 (Tryz.f15.body.getD .skip))
noncomputable def rd13 : Code := cutR 13 (Tryz.f15.body.getD .skip)
set_option maxRecDepth 100000 in
set_option maxHeartbeats 16000000 in
theorem rdTail12 (t : ByteArray) (w w4 : World) (R : Option Ob) (x1 : ByteArray) (l m : List Fl) (n0 n1 n2 m1 : Int) (b0 b2 : Int) (a7 M3 lo mid : Nat) (gA gB yc zc fc gc : Nat) (fa ga : Option Addr) (s : Nat → Value)
    (ht : t.size ≤ 1048576) (hyc : 3 ≤ yc ∧ yc ≤ 9223372036854775807) (hzc : 4 ≤ zc ∧ zc ≤ 9223372036854775807)
    (s0 : s 0 = .string t) (s2 : s 2 = .pointer (some ⟨w.heap.size, 0, none⟩)) (s5 : s 5 = .string x1) (s14 : s 14 = .slice (some ⟨gA, 0, none⟩) 3 yc) (s16 : s 16 = .slice (some ⟨gB, 0, none⟩) 4 zc)
    (s18 : s 18 = .slice fa l.length fc) (s21 : s 21 = .slice ga m.length gc) (s22 : s 22 = .int .i64 (a7 : Int)) (h7 : a7 + M3 ≤ t.size)
    (Z4 : Hid (Zb w w4)) (OA4 : Hid (OwnsNu w4 0 (.slice (some ⟨gA, 0, none⟩) 3 yc) [n0, n1, n2])) (OB4 : Hid (OwnsNu w4 0 (.slice (some ⟨gB, 0, none⟩) 4 zc) [b0, m1, b2, (M3 : Int)]))
    (OL4 : Hid (OwnsF w4 lo (.slice fa l.length fc) l)) (OM4 : Hid (OwnsF w4 mid (.slice ga m.length gc) m)) (hlo : w.heap.size < lo) (hmid : lo ≤ mid) (hUL : Hid (∀ g, (Value.slice fa l.length fc).ownBlock = some g → g < mid))
    (hsl : Hid (szL l ≤ 1048576 ∧ l.length ≤ 1048576 ∧ szL m ≤ 1048576 ∧ m.length ≤ 1048576)) (hxk : Hid (x1.size ≤ 1048576))
    (HLO : Hid (R = lastO t.data.toList ⟨x1, l, ⟨m1, m, t.extract a7 (a7 + M3)⟩, n0, n1, n2⟩)) (K : Act → World → Prop)
    (hK0 : ∀ a w', Code.wp Tryz.prog rd13 (bodyPost Tryz.prog Tryz.f15 fun e w' => ∃ z : RoR, e = .returned (.tuple #[obV z.o z.v z.u, .int .i64 z.n, .bool z.b]) ∧ RoQ w w' R z) a w' → K a w') :
    Code.wp Tryz.prog rd12 (Exit.then K (bodyPost Tryz.prog Tryz.f15 fun e w' => ∃ z : RoR, e = .returned (.tuple #[obV z.o z.v z.u, .int .i64 z.n, .bool z.b]) ∧ RoQ w w' R z)) (frSe s) w4 := by
  have HK : Hid (∀ a w', Code.wp Tryz.prog rd13 (bodyPost Tryz.prog Tryz.f15 fun e w' => ∃ z : RoR, e = .returned (.tuple #[obV z.o z.v z.u, .int .i64 z.n, .bool z.b]) ∧ RoQ w w' R z) a w' → K a w') := hK0
  clear hK0
  have b1 := ownsNu_at OB4.out 1 (by simp)
  have b3 := ownsNu_at OB4.out 3 (by simp)
  have b1q : ∀ o, (w4.alloc o).cell? ⟨gB, 1, none⟩ = some (.int .i64 m1) := fun o => ownsNu_at (OB4.out.alloc o) 1 (by simp)
  have b3q : ∀ o, (w4.alloc o).cell? ⟨gB, 3, none⟩ = some (.int .i64 (M3 : Int)) := fun o => ownsNu_at (OB4.out.alloc o) 3 (by simp)
  simp only [List.getElem_cons_zero, List.getElem_cons_succ] at b1 b3
  have e1 : (a7 : Int) + (M3 : Int) ≤ (t.size : Int) := by omega
  have e2 : ((a7 : Int) + (M3 : Int)).toNat = a7 + M3 := by omega
  have e3 : IntKind.i64.wrap ((a7 : Int) + (M3 : Int)) = (a7 : Int) + (M3 : Int) := by rw [IntKind.wrap_i64]; omega
  have e4 : (0 : Int) ≤ (a7 : Int) + (M3 : Int) := by omega
  have e5 : (a7 : Int) ≤ (a7 : Int) + (M3 : Int) := by omega
  obtain ⟨hyc1, hyc2⟩ := hyc
  obtain ⟨hzc1, hzc2⟩ := hzc
  have hbdz : Hid ((t.extract a7 (a7 + M3)).size ≤ 1048576) := (show (t.extract a7 (a7 + M3)).size ≤ _ by rw [ByteArray.size_extract]; omega)
  have hD4 : Below w4.heap.size w4 (w4.alloc (.cells #[.int .i64 m1, .slice ga m.length gc, .string (t.extract a7 (a7 + M3))] 26)).drew := ((Below.refl _ w4).alloc (Nat.le_refl _) _).drew
  have Z5 : Hid (Zb w (w4.alloc (.cells #[.int .i64 m1, .slice ga m.length gc, .string (t.extract a7 (a7 + M3))] 26)).drew) := (show Zb w _ from Z4.out.kept hD4)
  have OA5 : Hid (OwnsNu (w4.alloc (.cells #[.int .i64 m1, .slice ga m.length gc, .string (t.extract a7 (a7 + M3))] 26)).drew 0 (.slice (some ⟨gA, 0, none⟩) 3 yc) [n0, n1, n2]) := (show OwnsE nuE 2 _ _ _ _ from OA4.out.kept hD4)
  have OL5 : Hid (OwnsF (w4.alloc (.cells #[.int .i64 m1, .slice ga m.length gc, .string (t.extract a7 (a7 + M3))] 26)).drew lo (.slice fa l.length fc) l) := (show OwnsF _ _ _ _ from OL4.out.kept hD4)
  have OM5 : Hid (OwnsF (w4.alloc (.cells #[.int .i64 m1, .slice ga m.length gc, .string (t.extract a7 (a7 + M3))] 26)).drew mid (.slice ga m.length gc) m) := (show OwnsF _ _ _ _ from OM4.out.kept hD4)
  have RX5 : Hid (Bx (w4.alloc (.cells #[.int .i64 m1, .slice ga m.length gc, .string (t.extract a7 (a7 + M3))] 26)).drew w4.heap.size 26 #[.int .i64 m1, .slice ga m.length gc, .string (t.extract a7 (a7 + M3))]) := (show Bx _ _ _ _ from Bx.new w4 _ _)
  clear hD4 Z4 OA4 OB4 OL4 OM4
  conv => arg 2; whnf
  unfold frSe
  go_wp2_with fail
  go_region
  refine HK.out _ _ ?_
  clear HK
  conv => arg 2; whnf
  generalize (w4.alloc (.cells #[.int .i64 m1, .slice ga m.length gc, .string (t.extract a7 (a7 + M3))] 26)).drew = w5 at Z5 OA5 OL5 OM5 RX5 ⊢
  generalize w4.heap.size = q5 at RX5 ⊢
  generalize t.extract a7 (a7 + M3) = BD at HLO hbdz RX5 ⊢
  clear b1 b3 b1q b3q e1 e2 e3 e4 e5
  have n0c := ownsNu_at OA5.out 0 (by simp)
  have n1c := ownsNu_at OA5.out 1 (by simp)
  have n2c := ownsNu_at OA5.out 2 (by simp)
  have r0c := RX5.out.cell 0
  have r1c := RX5.out.cell 1
  have r2c := RX5.out.cell 2
  have n0q : ∀ o, (w5.alloc o).cell? ⟨gA, 0, none⟩ = some (.int .i64 n0) := fun o => ownsNu_at (OA5.out.alloc o) 0 (by simp)
  have n1q : ∀ o, (w5.alloc o).cell? ⟨gA, 1, none⟩ = some (.int .i64 n1) := fun o => ownsNu_at (OA5.out.alloc o) 1 (by simp)
  have n2q : ∀ o, (w5.alloc o).cell? ⟨gA, 2, none⟩ = some (.int .i64 n2) := fun o => ownsNu_at (OA5.out.alloc o) 2 (by simp)
  have r0q : ∀ o, (w5.alloc o).cell? ⟨q5, 0, none⟩ = some (.int .i64 m1) := fun o => (RX5.out.alloc o).cell 0
  have r1q : ∀ o, (w5.alloc o).cell? ⟨q5, 1, none⟩ = some (.slice ga m.length gc) := fun o => (RX5.out.alloc o).cell 1
  have r2q : ∀ o, (w5.alloc o).cell? ⟨q5, 2, none⟩ = some (.string BD) := fun o => (RX5.out.alloc o).cell 2
  simp only [List.getElem_cons_zero, List.getElem_cons_succ] at n0c n1c n2c
  have hD5 : Below w5.heap.size w5 (w5.alloc (.cells #[.string x1, .slice fa l.length fc, .int .i64 m1, .slice ga m.length gc, .string BD, .int .i64 n0, .int .i64 n1, .int .i64 n2] 28)).drew := ((Below.refl _ w5).alloc (Nat.le_refl _) _).drew
  have Z6 : Hid (Zb w (w5.alloc (.cells #[.string x1, .slice fa l.length fc, .int .i64 m1, .slice ga m.length gc, .string BD, .int .i64 n0, .int .i64 n1, .int .i64 n2] 28)).drew) := (show Zb w _ from Z5.out.kept hD5)
  have OL6 : Hid (OwnsF (w5.alloc (.cells #[.string x1, .slice fa l.length fc, .int .i64 m1, .slice ga m.length gc, .string BD, .int .i64 n0, .int .i64 n1, .int .i64 n2] 28)).drew lo (.slice fa l.length fc) l) := (show OwnsF _ _ _ _ from OL5.out.kept hD5)
  have OM6 : Hid (OwnsF (w5.alloc (.cells #[.string x1, .slice fa l.length fc, .int .i64 m1, .slice ga m.length gc, .string BD, .int .i64 n0, .int .i64 n1, .int .i64 n2] 28)).drew mid (.slice ga m.length gc) m) := (show OwnsF _ _ _ _ from OM5.out.kept hD5)
  have OX6 : Hid (ObB (w5.alloc (.cells #[.string x1, .slice fa l.length fc, .int .i64 m1, .slice ga m.length gc, .string BD, .int .i64 n0, .int .i64 n1, .int .i64 n2] 28)).drew w5.heap.size ⟨x1, l, ⟨m1, m, BD⟩, n0, n1, n2⟩ (.slice fa l.length fc) (.slice ga m.length gc)) := (show ObB _ _ _ _ _ from (ObB.new w5 ⟨x1, l, ⟨m1, m, BD⟩, n0, n1, n2⟩ (.slice fa l.length fc) (.slice ga m.length gc) 28).next (show Below _ _ _ from ⟨rfl, rfl, rfl, Nat.le_refl _, fun _ _ => rfl⟩))
  clear hD5 Z5 OA5 OL5 OM5 RX5
  go_wp2_with fail
  go_region
  generalize (w5.alloc (.cells #[.string x1, .slice fa l.length fc, .int .i64 m1, .slice ga m.length gc, .string BD, .int .i64 n0, .int .i64 n1, .int .i64 n2] 28)).drew = w6 at Z6 OL6 OM6 OX6 ⊢
  generalize w5.heap.size = q6 at OX6 ⊢
  clear n0c n1c n2c r0c r1c r2c n0q n1q n2q r0q r1q r2q
  have hIN : Hid (ObIn w6 (.slice fa l.length fc) (.slice ga m.length gc) ⟨x1, l, ⟨m1, m, BD⟩, n0, n1, n2⟩) := (show ObIn _ _ _ _ from ⟨fitsS OL6.out hsl.out.1 hsl.out.2.1, ⟨fitsS OM6.out hsl.out.2.2.1 hsl.out.2.2.2, hbdz.out⟩, hxk.out⟩)
  generalize hA : Act.mk _ _ = A
  obtain ⟨z, hz, z0, z2, z25⟩ : ∃ z : Nat → Value, A = frSe z ∧ z 0 = .string t ∧ z 2 = .pointer (some ⟨w.heap.size, 0, none⟩) ∧ z 25 = .pointer (some ⟨q6, 0, none⟩) := by
    refine ⟨fun i => A.tmps.getD i undef, ?_, ?_, ?_, ?_⟩ <;> rw [← hA] <;> first | rfl | exact s0 | exact s2
  rw [hz]
  clear hz hA
  rename_i hK
  exact hK _ _ (rdTail14 t w w6 R ⟨x1, l, ⟨m1, m, BD⟩, n0, n1, n2⟩ q6 lo mid fa ga fc gc z ht z0 z2 z25 Z6 OL6 OM6 OX6 hlo hmid hUL hIN HLO)
end Go.Proofs.YtemmgfnepdgpbaaGreatDoor
namespace Go.Proofs.YtemmgfnepdgpbaaGreatDoor
open Go.RowKit Go.Sort St
set_option linter.unusedVariables false
set_option linter.unusedSimpArgs false

/-- The code from a region on that a condition follows. -/
def cutR2 (n : Nat) : Code → Code
  | .seq (.seq (.region m o d) a) b => if m = n then .seq (.seq (.region m o d) a) b else cutR2 n b
  | .seq a b => cutR2 n b
  | c => c
noncomputable def rd6 : Code := cutR2 6 (Tryz.f15.body.getD .skip)
set_option maxRecDepth 100000 in
set_option maxHeartbeats 8000000 in
theorem rdTail6n (w w2 : World) (R : Option Ob) (c1 c2 c3 c4 c5 : Bool) (s : Nat → Value)
    (s2 : s 2 = .pointer (some ⟨w.heap.size, 0, none⟩)) (s7 : s 7 = .bool c1) (s10 : s 10 = .bool c2) (s13 : s 13 = .bool c3) (s15 : s 15 = .bool c4) (s17 : s 17 = .bool c5)
    (hn : ¬ (c1 = true ∧ c2 = true ∧ c3 = true ∧ c4 = true ∧ c5 = true)) (Z2 : Hid (Zb w w2)) (HR0 : Hid (R = none)) :
    Code.wp Tryz.prog rd6 (bodyPost Tryz.prog Tryz.f15 fun e w' => ∃ z : RoR, e = .returned (.tuple #[obV z.o z.v z.u, .int .i64 z.n, .bool z.b]) ∧ RoQ w w' R z) (frSe s) w2 := by
  have ZX : Hid (ObB w2 w.heap.size noO (.slice none 0 0) (.slice none 0 0)) := (show ObB _ _ _ _ _ from Z2.out.zx)
  have ZB : Hid (Below w.heap.size w w2) := (show Below _ _ _ from Z2.out.low)
  clear Z2
  conv => arg 2; whnf
  unfold frSe
  cases c1 with
  | false =>
    clear hn
    have HR : Hid (R = none) := HR0.out
    obtain ⟨z0, z1, z2, z3, z4, z5, z6, z7, zf, zh⟩ := ZX.out
    have HP : Hid (ObB (putL w2 w.heap.size (obL noO (.slice none 0 0) (.slice none 0 0)) 0) w.heap.size noO (.slice none 0 0) (.slice none 0 0)) := ZX.out.puts noO (.slice none 0 0) (.slice none 0 0)
    have BP : Hid (Below w.heap.size w (putL w2 w.heap.size (obL noO (.slice none 0 0) (.slice none 0 0)) 0)) := putL_below (Nat.le_refl _) _ 0 ZB.out
    simp only [noO, noS] at z0 z1 z2 z3 z4 z5 z6 z7
    go_wp2
    obtain ⟨p0, p1, p2, p3, p4, p5, p6, p7, pf, ph⟩ := HP.out
    have bp := BP.out
    simp only [obL, noO, noS, putL, Nat.zero_add, Nat.reduceAdd] at p0 p1 p2 p3 p4 p5 p6 p7 bp
    refine bodyPost_ret (v := .tuple #[obV noO (.slice none 0 0) (.slice none 0 0), .int .i64 0, .bool false]) (by unfold obV noO noS; simp [results, Tryz.results15, go_sem, s2, p0, p1, p2, p3, p4, p5, p6, p7]) rfl (ro_no HR.out bp)
  | true =>
    cases c2 with
    | false =>
      clear hn
      have HR : Hid (R = none) := HR0.out
      obtain ⟨z0, z1, z2, z3, z4, z5, z6, z7, zf, zh⟩ := ZX.out
      have HP : Hid (ObB (putL w2 w.heap.size (obL noO (.slice none 0 0) (.slice none 0 0)) 0) w.heap.size noO (.slice none 0 0) (.slice none 0 0)) := ZX.out.puts noO (.slice none 0 0) (.slice none 0 0)
      have BP : Hid (Below w.heap.size w (putL w2 w.heap.size (obL noO (.slice none 0 0) (.slice none 0 0)) 0)) := putL_below (Nat.le_refl _) _ 0 ZB.out
      simp only [noO, noS] at z0 z1 z2 z3 z4 z5 z6 z7
      go_wp2
      obtain ⟨p0, p1, p2, p3, p4, p5, p6, p7, pf, ph⟩ := HP.out
      have bp := BP.out
      simp only [obL, noO, noS, putL, Nat.zero_add, Nat.reduceAdd] at p0 p1 p2 p3 p4 p5 p6 p7 bp
      refine bodyPost_ret (v := .tuple #[obV noO (.slice none 0 0) (.slice none 0 0), .int .i64 0, .bool false]) (by unfold obV noO noS; simp [results, Tryz.results15, go_sem, s2, p0, p1, p2, p3, p4, p5, p6, p7]) rfl (ro_no HR.out bp)
    | true =>
      cases c3 with
      | false =>
        clear hn
        have HR : Hid (R = none) := HR0.out
        obtain ⟨z0, z1, z2, z3, z4, z5, z6, z7, zf, zh⟩ := ZX.out
        have HP : Hid (ObB (putL w2 w.heap.size (obL noO (.slice none 0 0) (.slice none 0 0)) 0) w.heap.size noO (.slice none 0 0) (.slice none 0 0)) := ZX.out.puts noO (.slice none 0 0) (.slice none 0 0)
        have BP : Hid (Below w.heap.size w (putL w2 w.heap.size (obL noO (.slice none 0 0) (.slice none 0 0)) 0)) := putL_below (Nat.le_refl _) _ 0 ZB.out
        simp only [noO, noS] at z0 z1 z2 z3 z4 z5 z6 z7
        go_wp2
        obtain ⟨p0, p1, p2, p3, p4, p5, p6, p7, pf, ph⟩ := HP.out
        have bp := BP.out
        simp only [obL, noO, noS, putL, Nat.zero_add, Nat.reduceAdd] at p0 p1 p2 p3 p4 p5 p6 p7 bp
        refine bodyPost_ret (v := .tuple #[obV noO (.slice none 0 0) (.slice none 0 0), .int .i64 0, .bool false]) (by unfold obV noO noS; simp [results, Tryz.results15, go_sem, s2, p0, p1, p2, p3, p4, p5, p6, p7]) rfl (ro_no HR.out bp)
      | true =>
        cases c4 with
        | false =>
          clear hn
          have HR : Hid (R = none) := HR0.out
          obtain ⟨z0, z1, z2, z3, z4, z5, z6, z7, zf, zh⟩ := ZX.out
          have HP : Hid (ObB (putL w2 w.heap.size (obL noO (.slice none 0 0) (.slice none 0 0)) 0) w.heap.size noO (.slice none 0 0) (.slice none 0 0)) := ZX.out.puts noO (.slice none 0 0) (.slice none 0 0)
          have BP : Hid (Below w.heap.size w (putL w2 w.heap.size (obL noO (.slice none 0 0) (.slice none 0 0)) 0)) := putL_below (Nat.le_refl _) _ 0 ZB.out
          simp only [noO, noS] at z0 z1 z2 z3 z4 z5 z6 z7
          go_wp2
          obtain ⟨p0, p1, p2, p3, p4, p5, p6, p7, pf, ph⟩ := HP.out
          have bp := BP.out
          simp only [obL, noO, noS, putL, Nat.zero_add, Nat.reduceAdd] at p0 p1 p2 p3 p4 p5 p6 p7 bp
          refine bodyPost_ret (v := .tuple #[obV noO (.slice none 0 0) (.slice none 0 0), .int .i64 0, .bool false]) (by unfold obV noO noS; simp [results, Tryz.results15, go_sem, s2, p0, p1, p2, p3, p4, p5, p6, p7]) rfl (ro_no HR.out bp)
        | true =>
          cases c5 with
          | false =>
            clear hn
            have HR : Hid (R = none) := HR0.out
            obtain ⟨z0, z1, z2, z3, z4, z5, z6, z7, zf, zh⟩ := ZX.out
            have HP : Hid (ObB (putL w2 w.heap.size (obL noO (.slice none 0 0) (.slice none 0 0)) 0) w.heap.size noO (.slice none 0 0) (.slice none 0 0)) := ZX.out.puts noO (.slice none 0 0) (.slice none 0 0)
            have BP : Hid (Below w.heap.size w (putL w2 w.heap.size (obL noO (.slice none 0 0) (.slice none 0 0)) 0)) := putL_below (Nat.le_refl _) _ 0 ZB.out
            simp only [noO, noS] at z0 z1 z2 z3 z4 z5 z6 z7
            go_wp2
            obtain ⟨p0, p1, p2, p3, p4, p5, p6, p7, pf, ph⟩ := HP.out
            have bp := BP.out
            simp only [obL, noO, noS, putL, Nat.zero_add, Nat.reduceAdd] at p0 p1 p2 p3 p4 p5 p6 p7 bp
            refine bodyPost_ret (v := .tuple #[obV noO (.slice none 0 0) (.slice none 0 0), .int .i64 0, .bool false]) (by unfold obV noO noS; simp [results, Tryz.results15, go_sem, s2, p0, p1, p2, p3, p4, p5, p6, p7]) rfl (ro_no HR.out bp)
          | true =>
            exact absurd ⟨rfl, rfl, rfl, rfl, rfl⟩ hn
set_option maxRecDepth 100000 in
set_option maxHeartbeats 16000000 in
theorem rdTail6y (t : ByteArray) (w w2 : World) (R : Option Ob) (X : ByteArray) (n0 n1 n2 m0 m1 m2 m3 : Int) (a1 a2 a3 : Nat) (x2 x3 : List UInt8) (gA gB yc zc : Nat) (s : Nat → Value)
    (ht : t.size ≤ 1048576) (hX : X.size ≤ t.size) (ha3 : a3 ≤ t.size) (hyc : 3 ≤ yc ∧ yc ≤ 9223372036854775807) (hzc : 4 ≤ zc ∧ zc ≤ 9223372036854775807)
    (s0 : s 0 = .string t) (s2 : s 2 = .pointer (some ⟨w.heap.size, 0, none⟩)) (s5 : s 5 = .string X) (s7 : s 7 = .bool true) (s10 : s 10 = .bool true) (s12 : s 12 = .int .i64 (a3 : Int)) (s13 : s 13 = .bool true) (s14 : s 14 = .slice (some ⟨gA, 0, none⟩) 3 yc) (s15 : s 15 = .bool true) (s16 : s 16 = .slice (some ⟨gB, 0, none⟩) 4 zc) (s17 : s 17 = .bool true)
    (Z2 : Hid (Zb w w2)) (OA2 : Hid (OwnsNu w2 0 (.slice (some ⟨gA, 0, none⟩) 3 yc) [n0, n1, n2])) (OB2 : Hid (OwnsNu w2 0 (.slice (some ⟨gB, 0, none⟩) 4 zc) [m0, m1, m2, m3]))
    (hm0 : few m0) (hm2 : few m2) (hm3 : few m3)
    (HRP : Hid (RdP t.data.toList X.data.toList (t.data.toList.drop a1) x2 (t.data.toList.drop a2) x3 (t.data.toList.drop a3) [n0, n1, n2] [m0, m1, m2, m3])) (HRD : Hid (rdO t.data.toList = R)) :
    Code.wp Tryz.prog rd6 (bodyPost Tryz.prog Tryz.f15 fun e w' => ∃ z : RoR, e = .returned (.tuple #[obV z.o z.v z.u, .int .i64 z.n, .bool z.b]) ∧ RoQ w w' R z) (frSe s) w2 := by
  have jf := fun k c W hk hc => specF16 t k c W hk ht hc
  have hw2 : w.heap.size < w2.heap.size := Z2.out.zx.hi
  have ZX : Hid (ObB w2 w.heap.size noO (.slice none 0 0) (.slice none 0 0)) := (show ObB _ _ _ _ _ from Z2.out.zx)
  have ZB : Hid (Below w.heap.size w w2) := (show Below _ _ _ from Z2.out.low)
  have b0 := ownsNu_at OB2.out 0 (by simp)
  have b2 := ownsNu_at OB2.out 2 (by simp)
  simp only [List.getElem_cons_zero, List.getElem_cons_succ] at b0 b2
  have HRQ := HRP.out.rd
  rw [HRD.out] at HRQ
  simp only [List.getD_cons_zero, List.getD_cons_succ] at HRQ
  have HQ : Hid _ := HRQ
  clear HRQ HRP HRD
  obtain ⟨hm00, hm01⟩ := hm0
  obtain ⟨hm20, hm21⟩ := hm2
  obtain ⟨hm30, hm31⟩ := hm3
  obtain ⟨hyc1, hyc2⟩ := hyc
  obtain ⟨hzc1, hzc2⟩ := hzc
  conv => arg 2; whnf
  unfold frSe
  by_cases h30 : 30 < m0
  · have d30 : decide (30 < m0) = true := decide_eq_true h30
    have HR0 : Hid (R = none) := (show _ = _ by rw [HQ.out, if_neg (by omega)])
    clear HQ jf
    have HR : Hid (R = none) := HR0.out
    obtain ⟨z0, z1, z2, z3, z4, z5, z6, z7, zf, zh⟩ := ZX.out
    have HP : Hid (ObB (putL w2 w.heap.size (obL noO (.slice none 0 0) (.slice none 0 0)) 0) w.heap.size noO (.slice none 0 0) (.slice none 0 0)) := ZX.out.puts noO (.slice none 0 0) (.slice none 0 0)
    have BP : Hid (Below w.heap.size w (putL w2 w.heap.size (obL noO (.slice none 0 0) (.slice none 0 0)) 0)) := putL_below (Nat.le_refl _) _ 0 ZB.out
    simp only [noO, noS] at z0 z1 z2 z3 z4 z5 z6 z7
    go_wp2
    obtain ⟨p0, p1, p2, p3, p4, p5, p6, p7, pf, ph⟩ := HP.out
    have bp := BP.out
    simp only [obL, noO, noS, putL, Nat.zero_add, Nat.reduceAdd] at p0 p1 p2 p3 p4 p5 p6 p7 bp
    refine bodyPost_ret (v := .tuple #[obV noO (.slice none 0 0) (.slice none 0 0), .int .i64 0, .bool false]) (by unfold obV noO noS; simp [results, Tryz.results15, go_sem, s2, p0, p1, p2, p3, p4, p5, p6, p7]) rfl (ro_no HR.out bp)
  · by_cases h32 : 30 < m2
    · have d30 : decide (30 < m0) = false := decide_eq_false h30
      have d32 : decide (30 < m2) = true := decide_eq_true h32
      have HR0 : Hid (R = none) := (show _ = _ by rw [HQ.out, if_neg (by omega)])
      clear HQ jf
      have HR : Hid (R = none) := HR0.out
      obtain ⟨z0, z1, z2, z3, z4, z5, z6, z7, zf, zh⟩ := ZX.out
      have HP : Hid (ObB (putL w2 w.heap.size (obL noO (.slice none 0 0) (.slice none 0 0)) 0) w.heap.size noO (.slice none 0 0) (.slice none 0 0)) := ZX.out.puts noO (.slice none 0 0) (.slice none 0 0)
      have BP : Hid (Below w.heap.size w (putL w2 w.heap.size (obL noO (.slice none 0 0) (.slice none 0 0)) 0)) := putL_below (Nat.le_refl _) _ 0 ZB.out
      simp only [noO, noS] at z0 z1 z2 z3 z4 z5 z6 z7
      go_wp2
      obtain ⟨p0, p1, p2, p3, p4, p5, p6, p7, pf, ph⟩ := HP.out
      have bp := BP.out
      simp only [obL, noO, noS, putL, Nat.zero_add, Nat.reduceAdd] at p0 p1 p2 p3 p4 p5 p6 p7 bp
      refine bodyPost_ret (v := .tuple #[obV noO (.slice none 0 0) (.slice none 0 0), .int .i64 0, .bool false]) (by unfold obV noO noS; simp [results, Tryz.results15, go_sem, s2, p0, p1, p2, p3, p4, p5, p6, p7]) rfl (ro_no HR.out bp)
    · have d30 : decide (30 < m0) = false := decide_eq_false h30
      have d32 : decide (30 < m2) = false := decide_eq_false h32
      rw [if_pos ⟨by omega, by omega⟩] at HQ
      obtain ⟨M0, rfl⟩ : ∃ M : Nat, m0 = (M : Int) := ⟨m0.toNat, by omega⟩
      obtain ⟨M2, rfl⟩ : ∃ M : Nat, m2 = (M : Int) := ⟨m2.toNat, by omega⟩
      obtain ⟨M3, rfl⟩ : ∃ M : Nat, m3 = (M : Int) := ⟨m3.toNat, by omega⟩
      simp only [Int.toNat_natCast] at HQ
      go_wp2_with fail
      refine (jf a3 M0 _ ha3 (by omega)).mono ?_
      rintro e w3 ⟨⟨v6, a6, c6⟩, rfl, hq6⟩
      have H6 : Hid (FdQ w2 w3 t a3 M0 v6 a6 c6) := hq6
      have ha6 : a6 ≤ t.size := hq6.at_
      have Z3 : Hid (Zb w w3) := (show Zb w w3 from Z2.out.kept hq6.low)
      have OA3 : Hid (OwnsNu w3 0 (.slice (some ⟨gA, 0, none⟩) 3 yc) [n0, n1, n2]) := (show OwnsE nuE 2 _ _ _ _ from OA2.out.kept hq6.low)
      have OB3 : Hid (OwnsNu w3 0 (.slice (some ⟨gB, 0, none⟩) 4 zc) [(M0 : Int), m1, (M2 : Int), (M3 : Int)]) := (show OwnsE nuE 2 _ _ _ _ from OB2.out.kept hq6.low)
      obtain ⟨fa, fn, fc, hv6⟩ := hq6.form
      simp only at hv6
      subst hv6
      clear hq6 OA2 OB2 b0 b2 Z2 ZX ZB
      have b2 := ownsNu_at OB3.out 2 (by simp)
      simp only [List.getElem_cons_zero, List.getElem_cons_succ] at b2
      go_wp2_with fail
      refine (jf a6 M2 _ ha6 (by omega)).mono ?_
      rintro e w4 ⟨⟨v7, a7, c7⟩, rfl, hq7⟩
      have H7 : Hid (FdQ w3 w4 t a6 M2 v7 a7 c7) := hq7
      have ha7 : a7 ≤ t.size := hq7.at_
      have Z4 : Hid (Zb w w4) := (show Zb w w4 from Z3.out.kept hq7.low)
      have ZX : Hid (ObB w4 w.heap.size noO (.slice none 0 0) (.slice none 0 0)) := (show ObB _ _ _ _ _ from Z4.out.zx)
      have ZB : Hid (Below w.heap.size w w4) := (show Below _ _ _ from Z4.out.low)
      have OA4 : Hid (OwnsNu w4 0 (.slice (some ⟨gA, 0, none⟩) 3 yc) [n0, n1, n2]) := (show OwnsE nuE 2 _ _ _ _ from OA3.out.kept hq7.low)
      have OB4 : Hid (OwnsNu w4 0 (.slice (some ⟨gB, 0, none⟩) 4 zc) [(M0 : Int), m1, (M2 : Int), (M3 : Int)]) := (show OwnsE nuE 2 _ _ _ _ from OB3.out.kept hq7.low)
      obtain ⟨ga, gn, gc, hv7⟩ := hq7.form
      simp only at hv7
      subst hv7
      have b3 := ownsNu_at OB4.out 3 (by simp)
      simp only [List.getElem_cons_zero, List.getElem_cons_succ] at b3
      clear hq7 OA3 OB3 b2 jf
      cases c6 with
      | false =>
        have HR0 : Hid (R = none) := (show _ = _ by
          rw [HQ.out]
          cases e : fdL M0 (t.data.toList.drop a3) with
          | none => rfl
          | some p => have := (H6.out.yes p.1 p.2 e).1; cases this)
        clear HQ
        have HR : Hid (R = none) := HR0.out
        obtain ⟨z0, z1, z2, z3, z4, z5, z6, z7, zf, zh⟩ := ZX.out
        have HP : Hid (ObB (putL w4 w.heap.size (obL noO (.slice none 0 0) (.slice none 0 0)) 0) w.heap.size noO (.slice none 0 0) (.slice none 0 0)) := ZX.out.puts noO (.slice none 0 0) (.slice none 0 0)
        have BP : Hid (Below w.heap.size w (putL w4 w.heap.size (obL noO (.slice none 0 0) (.slice none 0 0)) 0)) := putL_below (Nat.le_refl _) _ 0 ZB.out
        simp only [noO, noS] at z0 z1 z2 z3 z4 z5 z6 z7
        go_wp2
        obtain ⟨p0, p1, p2, p3, p4, p5, p6, p7, pf, ph⟩ := HP.out
        have bp := BP.out
        simp only [obL, noO, noS, putL, Nat.zero_add, Nat.reduceAdd] at p0 p1 p2 p3 p4 p5 p6 p7 bp
        refine bodyPost_ret (v := .tuple #[obV noO (.slice none 0 0) (.slice none 0 0), .int .i64 0, .bool false]) (by unfold obV noO noS; simp [results, Tryz.results15, go_sem, s2, p0, p1, p2, p3, p4, p5, p6, p7]) rfl (ro_no HR.out bp)
      | true =>
        obtain ⟨l, F1, oL, lL⟩ := H6.out.is rfl
        rw [F1] at HQ
        simp only [Option.bind_some] at HQ
        cases c7 with
        | false =>
          have HR0 : Hid (R = none) := (show _ = _ by
            rw [HQ.out]
            cases e : fdL M2 (t.data.toList.drop a6) with
            | none => rfl
            | some p => have := (H7.out.yes p.1 p.2 e).1; cases this)
          clear HQ lL
          have HR : Hid (R = none) := HR0.out
          obtain ⟨z0, z1, z2, z3, z4, z5, z6, z7, zf, zh⟩ := ZX.out
          have HP : Hid (ObB (putL w4 w.heap.size (obL noO (.slice none 0 0) (.slice none 0 0)) 0) w.heap.size noO (.slice none 0 0) (.slice none 0 0)) := ZX.out.puts noO (.slice none 0 0) (.slice none 0 0)
          have BP : Hid (Below w.heap.size w (putL w4 w.heap.size (obL noO (.slice none 0 0) (.slice none 0 0)) 0)) := putL_below (Nat.le_refl _) _ 0 ZB.out
          simp only [noO, noS] at z0 z1 z2 z3 z4 z5 z6 z7
          go_wp2
          obtain ⟨p0, p1, p2, p3, p4, p5, p6, p7, pf, ph⟩ := HP.out
          have bp := BP.out
          simp only [obL, noO, noS, putL, Nat.zero_add, Nat.reduceAdd] at p0 p1 p2 p3 p4 p5 p6 p7 bp
          refine bodyPost_ret (v := .tuple #[obV noO (.slice none 0 0) (.slice none 0 0), .int .i64 0, .bool false]) (by unfold obV noO noS; simp [results, Tryz.results15, go_sem, s2, p0, p1, p2, p3, p4, p5, p6, p7]) rfl (ro_no HR.out bp)
        | true =>
          obtain ⟨m, F2, oM, lM⟩ := H7.out.is rfl
          rw [F2] at HQ
          simp only [Option.bind_some] at HQ
          have hd7 : (t.data.toList.drop a7).length = t.size - a7 := by rw [List.length_drop]; simp
          rw [hd7] at HQ
          by_cases hlong : (t.size : Int) - (a7 : Int) < (M3 : Int)
          · have dl : decide ((t.size : Int) - (a7 : Int) < (M3 : Int)) = true := decide_eq_true hlong
            have HR0 : Hid (R = none) := (show _ = _ by rw [HQ.out, if_neg (by omega)])
            clear HQ lL lM
            have HR : Hid (R = none) := HR0.out
            obtain ⟨z0, z1, z2, z3, z4, z5, z6, z7, zf, zh⟩ := ZX.out
            have HP : Hid (ObB (putL w4 w.heap.size (obL noO (.slice none 0 0) (.slice none 0 0)) 0) w.heap.size noO (.slice none 0 0) (.slice none 0 0)) := ZX.out.puts noO (.slice none 0 0) (.slice none 0 0)
            have BP : Hid (Below w.heap.size w (putL w4 w.heap.size (obL noO (.slice none 0 0) (.slice none 0 0)) 0)) := putL_below (Nat.le_refl _) _ 0 ZB.out
            simp only [noO, noS] at z0 z1 z2 z3 z4 z5 z6 z7
            go_wp2
            obtain ⟨p0, p1, p2, p3, p4, p5, p6, p7, pf, ph⟩ := HP.out
            have bp := BP.out
            simp only [obL, noO, noS, putL, Nat.zero_add, Nat.reduceAdd] at p0 p1 p2 p3 p4 p5 p6 p7 bp
            refine bodyPost_ret (v := .tuple #[obV noO (.slice none 0 0) (.slice none 0 0), .int .i64 0, .bool false]) (by unfold obV noO noS; simp [results, Tryz.results15, go_sem, s2, p0, p1, p2, p3, p4, p5, p6, p7]) rfl (ro_no HR.out bp)
          · rw [if_pos (by omega)] at HQ
            have hBD : txtL ((t.data.toList.drop a7).take M3) = t.extract a7 (a7 + M3) := by
              apply bytes_extG
              rw [txt_lstG]
              simp [ByteArray.data_extract, List.extract_eq_take_drop]
            have HLO : Hid (R = lastO t.data.toList ⟨X, l, ⟨m1, m, t.extract a7 (a7 + M3)⟩, n0, n1, n2⟩) := (show _ = _ by
              rw [HQ.out]
              unfold mkO
              rw [hBD, txt_id]
              rfl)
            have dl : decide ((t.size : Int) - (a7 : Int) < (M3 : Int)) = false := decide_eq_false hlong
            obtain ⟨ma, mc, hmv, _, _⟩ := oM.form
            injection hmv with hmv1 hmv2 hmv3
            obtain ⟨la, lc, hlv, _, _⟩ := oL.form
            injection hlv with hlv1 hlv2 hlv3
            subst hmv1 hmv3 hlv1 hlv3
            have hgn : gn = m.length := hmv2
            have hfn : fn = l.length := hlv2
            subst hgn hfn
            have szl := (fd_small M0 _ F1).1
            have szm := (fd_small M2 _ F2).1
            have htl : t.data.toList.length = t.size := by simp
            simp only [List.length_drop] at szl szm
            have OL4 : Hid (OwnsF w4 w2.heap.size (.slice fa l.length fc) l) := (show OwnsF _ _ _ _ from oL.kept H7.out.low)
            have OM4 : Hid (OwnsF w4 w3.heap.size (.slice ga m.length gc) m) := (show OwnsF _ _ _ _ from oM)
            have h23 : w2.heap.size ≤ w3.heap.size := H6.out.low.size
            have hUL : Hid (∀ g, (Value.slice fa l.length fc).ownBlock = some g → g < w3.heap.size) := (show ∀ _, _ from fun g e => oL.under g e)
            have hsl : Hid (szL l ≤ 1048576 ∧ l.length ≤ 1048576 ∧ szL m ≤ 1048576 ∧ m.length ≤ 1048576) := (show _ ∧ _ from ⟨by omega, by omega, by omega, by omega⟩)
            have hxk : Hid (X.size ≤ 1048576) := (show X.size ≤ 1048576 by omega)
            have h7 : a7 + M3 ≤ t.size := by omega
            clear hBD HQ oM oL F1 F2 H6 H7 Z3 ZX ZB szl szm htl hmv2 hlv2 lL lM hd7 hlong
            go_upto_region 12 with fail
            generalize hA : Act.mk _ _ = A
            obtain ⟨z, hz, z0, z2, z5, z14, z16, z18, z21, z22⟩ : ∃ z : Nat → Value, A = frSe z ∧ z 0 = .string t ∧ z 2 = .pointer (some ⟨w.heap.size, 0, none⟩) ∧ z 5 = .string X ∧ z 14 = .slice (some ⟨gA, 0, none⟩) 3 yc ∧ z 16 = .slice (some ⟨gB, 0, none⟩) 4 zc ∧ z 18 = .slice fa l.length fc ∧ z 21 = .slice ga m.length gc ∧ z 22 = .int .i64 (a7 : Int) := by
              refine ⟨fun i => A.tmps.getD i undef, ?_, ?_, ?_, ?_, ?_, ?_, ?_, ?_, ?_⟩ <;> rw [← hA] <;> first | rfl | exact s0 | exact s2 | exact s5 | exact s14 | exact s16
            rw [hz]
            clear hz hA
            exact rdTail12 t w w4 R X l m n0 n1 n2 m1 (M0 : Int) (M2 : Int) a7 M3 w2.heap.size w3.heap.size gA gB yc zc fc gc fa ga z ht ⟨hyc1, hyc2⟩ ⟨hzc1, hzc2⟩ z0 z2 z5 z14 z16 z18 z21 z22 h7 Z4 OA4 OB4 OL4 OM4 hw2 h23 hUL hsl hxk HLO _ (by assumption)
end Go.Proofs.YtemmgfnepdgpbaaGreatDoor
namespace Go.Proofs.YtemmgfnepdgpbaaGreatDoor
open Go.RowKit Go.Sort St
set_option linter.unusedVariables false
set_option linter.unusedSimpArgs false

set_option maxRecDepth 100000 in
set_option maxHeartbeats 16000000 in
theorem specRdO (t : ByteArray) (w : World) (ht : t.size ≤ 1048576) :
    Calls Tryz.prog 15 #[.string t] w fun e w' => ∃ z : RoR, e = .returned (.tuple #[obV z.o z.v z.u, .int .i64 z.n, .bool z.b]) ∧ RoQ w w' (rdO t.data.toList) z := by
  have jl := fun k W (hk : k ≤ t.size) => specLnR t k W hk ht
  have jn := fun s c W hs hc => specNms s c W hs hc
  obtain ⟨R, hR⟩ : ∃ R, rdO t.data.toList = R := ⟨_, rfl⟩
  have HRD : Hid (rdO t.data.toList = R) := hR
  rw [hR]
  clear hR
  have Z0 : Hid (Zb w (w.alloc (.cells #[.string ⟨#[]⟩, .slice none 0 0, .int .i64 0, .slice none 0 0, .string ⟨#[]⟩, .int .i64 0, .int .i64 0, .int .i64 0] 28))) := (show Zb w _ from Zb.new w)
  go_enter Tryz.func15, Tryz.ntmps15
  generalize hwA : w.alloc (.cells #[.string ⟨#[]⟩, .slice none 0 0, .int .i64 0, .slice none 0 0, .string ⟨#[]⟩, .int .i64 0, .int .i64 0, .int .i64 0] 28) = wA at Z0
  go_wp2_with fail
  clear hwA
  refine (jl 0 _ (Nat.zero_le _)).mono ?_
  rintro e wx ⟨⟨x1, a1, c1⟩, rfl, hq1, rfl⟩
  have H1 : Hid (LnQ t 0 ⟨x1, a1, c1⟩) := hq1
  have ha1 : a1 ≤ t.size := hq1.at_
  have hx1 : x1.size ≤ t.size := hq1.sz
  clear hq1
  go_wp2_with fail
  refine (jl a1 _ ha1).mono ?_
  rintro e wx ⟨⟨x2, a2, c2⟩, rfl, hq2, rfl⟩
  have H2 : Hid (LnQ t a1 ⟨x2, a2, c2⟩) := hq2
  have ha2 : a2 ≤ t.size := hq2.at_
  have hx2 : x2.size ≤ t.size := hq2.sz
  clear hq2
  go_wp2_with fail
  refine (jl a2 _ ha2).mono ?_
  rintro e wx ⟨⟨x3, a3, c3⟩, rfl, hq3, rfl⟩
  have H3 : Hid (LnQ t a2 ⟨x3, a3, c3⟩) := hq3
  have ha3 : a3 ≤ t.size := hq3.at_
  have hx3 : x3.size ≤ t.size := hq3.sz
  clear hq3 jl
  go_wp2_with fail
  refine (jn x2 3 _ (by omega) (by decide)).mono ?_
  rintro e w1 ⟨u4, c4, rfl, hq4⟩
  have H4 : Hid (NmQ wA w1 x2.data.toList 3 u4 c4) := hq4
  have Z1 : Hid (Zb w w1) := (show Zb w w1 from Z0.out.kept hq4.low)
  obtain ⟨ya, yn, yc, hu4⟩ := hq4.form
  subst hu4
  clear hq4
  go_upto_region 5 with fail
  rename_i hK
  have HK : Hid _ := hK
  clear hK
  go_wp2_with fail
  refine (jn x3 4 _ (by omega) (by decide)).mono ?_
  rintro e w2 ⟨u5, c5, rfl, hq5⟩
  have H5 : Hid (NmQ w1 w2 x3.data.toList 4 u5 c5) := hq5
  have Z2 : Hid (Zb w w2) := (show Zb w w2 from Z1.out.kept hq5.low)
  obtain ⟨za, zn, zc, hu5⟩ := hq5.form
  subst hu5
  clear hq5 jn Z0
  go_wp2_with fail
  refine HK.out _ _ ?_
  clear HK
  generalize hA : Act.mk _ _ = A
  obtain ⟨s, hs, s0, s2, s5, s7, s10, s12, s13, s14, s15, s16, s17⟩ : ∃ s : Nat → Value, A = frSe s ∧ s 0 = .string t ∧ s 2 = .pointer (some ⟨w.heap.size, 0, none⟩) ∧ s 5 = .string x1 ∧ s 7 = .bool c1 ∧ s 10 = .bool c2 ∧ s 12 = .int .i64 (a3 : Int) ∧ s 13 = .bool c3 ∧ s 14 = .slice ya yn yc ∧ s 15 = .bool c4 ∧ s 16 = .slice za zn zc ∧ s 17 = .bool c5 := by
    refine ⟨fun i => A.tmps.getD i undef, ?_, ?_, ?_, ?_, ?_, ?_, ?_, ?_, ?_, ?_, ?_, ?_⟩ <;> rw [← hA] <;> rfl
  rw [hs]
  clear hs hA
  by_cases hall : c1 = true ∧ c2 = true ∧ c3 = true ∧ c4 = true ∧ c5 = true
  · obtain ⟨rfl, rfl, rfl, rfl, rfl⟩ := hall
    have E1 := H1.out.is rfl
    have E2 := H2.out.is rfl
    have E3 := H3.out.is rfl
    simp only [List.drop_zero] at E1 E2 E3
    obtain ⟨a, E4, oA, lA, fA⟩ := H4.out.is rfl
    obtain ⟨b, E5, oB, lB, fB⟩ := H5.out.is rfl
    have HRP : Hid (RdP t.data.toList x1.data.toList (t.data.toList.drop a1) x2.data.toList (t.data.toList.drop a2) x3.data.toList (t.data.toList.drop a3) a b) := (show RdP _ _ _ _ _ _ _ _ _ from ⟨E1, E2, E3, E4, E5⟩)
    obtain ⟨n0, n1, n2, rfl⟩ := ns_three lA
    obtain ⟨m0, m1, m2, m3, rfl⟩ := ns_four lB
    obtain ⟨gA, kA, eA, hA1, hA2, _⟩ := nu_open (oA.kept H5.out.low) (by simp)
    obtain ⟨gB, kB, eB, hB1, hB2, _⟩ := nu_open oB (by simp)
    have HOA : Hid (OwnsNu w2 0 (.slice (some ⟨gA, 0, none⟩) 3 kA) [n0, n1, n2]) := (show OwnsE nuE 2 _ _ _ _ from by have := (oA.kept H5.out.low).low (Nat.zero_le _); rw [eA] at this; exact this)
    have HOB : Hid (OwnsNu w2 0 (.slice (some ⟨gB, 0, none⟩) 4 kB) [m0, m1, m2, m3]) := (show OwnsE nuE 2 _ _ _ _ from by have := oB.low (Nat.zero_le _); rw [eB] at this; exact this)
    rw [eA] at s14
    rw [eB] at s16
    simp only [List.length_cons, List.length_nil, Nat.reduceAdd] at hA1 hB1
    unfold maxLen at hA2 hB2
    exact rdTail6y t w w2 R x1 n0 n1 n2 m0 m1 m2 m3 a1 a2 a3 x2.data.toList x3.data.toList gA gB kA kB s ht hx1 ha3 ⟨hA1, by omega⟩ ⟨hB1, by omega⟩ s0 s2 s5 s7 s10 s12 s13 s14 s15 s16 s17 Z2 HOA HOB (fB m0 (by simp)) (fB m2 (by simp)) (fB m3 (by simp)) HRP HRD
  · have HR0 : Hid (R = none) := (show _ = _ by
      cases hRo : R with
      | none => rfl
      | some o =>
        exfalso
        apply hall
        obtain ⟨k, t1, x, t2, y, t3, a, b, hp⟩ := rdO_line (HRD.out.trans hRo)
        obtain ⟨e1, e2, e3⟩ := H1.out.yes _ _ (by rw [List.drop_zero]; exact hp.l1)
        simp only at e1 e2 e3
        obtain ⟨e4, e5, e6⟩ := H2.out.yes _ _ (by rw [e3]; exact hp.l2)
        simp only at e4 e5 e6
        obtain ⟨e7, e8, e9⟩ := H3.out.yes _ _ (by rw [e6]; exact hp.l3)
        simp only at e7 e8 e9
        have e10 := H4.out.yes a (by rw [e5, txt_lstG]; exact hp.n1)
        have e11 := H5.out.yes b (by rw [e8, txt_lstG]; exact hp.n2)
        exact ⟨e1, e4, e7, e10.1, e11.1⟩)
    exact rdTail6n w w2 R c1 c2 c3 c4 c5 s s2 s7 s10 s13 s15 s17 hall Z2 HR0
end Go.Proofs.YtemmgfnepdgpbaaGreatDoor
namespace Go.Proofs.YtemmgfnepdgpbaaGreatDoor
open Go.RowKit Go.Sort
set_option linter.unusedVariables false

/-- All blocks but two stay. -/
structure Two (w w' : World) (a b : Option Nat) : Prop where
  os : w'.os = w.os
  tape : w'.tape = w.tape
  output : w'.output = w.output
  size : w.heap.size ≤ w'.heap.size
  block : ∀ k, k < w.heap.size → some k ≠ a → some k ≠ b → w'.heap[k]? = w.heap[k]?
theorem HasF.two {w w' : World} {B : Nat} {v : Value} {l : List Fl} {a b : Option Nat} (h : HasF w B v l) (ht : Two w w' a b) (h1 : ∀ k, v.ownBlock = some k → some k ≠ a) (h2 : ∀ k, v.ownBlock = some k → some k ≠ b) : HasF w' B v l := by
  rcases h with ⟨rfl, rfl⟩ | ⟨g, cap, cur, rfl, hb, hg, rest⟩
  · exact .inl ⟨rfl, rfl⟩
  · exact .inr ⟨g, cap, cur, rfl, hb, (ht.block g (Array.getElem?_eq_some_iff.1 hg).1 (h1 g rfl) (h2 g rfl)).trans hg, rest⟩
theorem Two.below {w w' : World} {B : Nat} {a b : Option Nat} (ht : Two w w' a b) (h1 : ∀ k, a = some k → B ≤ k) (h2 : ∀ k, b = some k → B ≤ k) (hB : B ≤ w.heap.size) : Below B w w' :=
  ⟨ht.os, ht.tape, ht.output, ht.size, fun k hk => ht.block k (by omega) (fun e => by have := h1 k e.symm; omega) (fun e => by have := h2 k e.symm; omega)⟩
end Go.Proofs.YtemmgfnepdgpbaaGreatDoor
