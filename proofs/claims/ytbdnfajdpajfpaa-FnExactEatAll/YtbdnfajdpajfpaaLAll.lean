/-
  At every state and every text the law FnExactEatAll returns true: the program's EatAll answers as the specification's, every field and how many bytes.
-/
import Derived.Test.YtbdnfajdpajfpaaChkA
import Derived.Test.YtbdnfajdpajfpaaChkW
import Derived.Test.YtbdnfajdpajfpaaChkR
import Derived.WalkKit
import Derived.ProofKit
import Derived.OpenShut
import Derived.ShutString
import Derived.ChangeOld
import Derived.Below
import Derived.Carry
namespace Go.Proofs.Ytbdnfajdpajfpaa
namespace LFnExactEatAll
open Go.ChangeShapes Go.WideShapes Go.ChangeAt Go.RowKit
open Go.ChangeMaps (open_string shut_string)
set_option linter.unusedVariables false

theorem own : ownKnob Try.prog.godebug = none := by kernel_rfl

set_option maxHeartbeats 2000000 in
theorem walk (c : Ck) (t : ByteArray) (w : World) (hw : ckWf c) (ht : t.size ≤ maxLen) :
    Calls Try.prog 6 #[ckV c, .string t] w fun e w' => e = .returned (.bool true) ∧ Below w.heap.size w w' := by
  obtain ⟨_, _, hd, hbd⟩ := hw
  have hF0 : Hid (Four (w.alloc (.cells #[.int .i64 c.st, .int .i64 c.lf, .string c.dg, .string c.bd] 34)) w.heap.size c) := Four.newT w c 34
  have hb0 : Hid (Below w.heap.size w (w.alloc (.cells #[.int .i64 c.st, .int .i64 c.lf, .string c.dg, .string c.bd] 34))) := (Below.refl _ w).alloc (Nat.le_refl _) _
  have hsz := lawSz c (w.alloc (.cells #[.int .i64 c.st, .int .i64 c.lf, .string c.dg, .string c.bd] 34)) hd hbd
  have hto : Hid (∀ w, Calls Try.prog 18 #[ckV c] w fun e w' => e = .returned (ckV c) ∧ Below w.heap.size w w') := lawTo c
  by_cases hbig : 1048576 < t.size
  · unfold maxLen at ht
    have hbig' : (1048576 : Int) < (t.size : Int) := by omega
    unfold ckV
    go_enter Try.func6, Try.ntmps6
    go_wp2
    go_ret
    exact ⟨rfl, hb0.out⟩
  have ht' : t.size ≤ 1048576 := by omega
  clear ht hbig
  by_cases hfit : c.dg.size + c.bd.size ≤ 1048576
  · have h0 := szC_yes hfit
    have h0' : ¬ szC c < 0 := by omega
    have hz1 : c.dg.size ≤ 100000000 := by omega
    have hz2 : c.bd.size ≤ 100000000 := by omega
    have hs : Hid (∀ w, Calls Try.prog 16 #[ckV c, .string t] w fun e w' => e = .returned (.tuple #[ckV (allC c t.data.toList), .int .i64 (allN c t.data.toList : Int)]) ∧ Below w.heap.size w w') := fun w => specAll c t w hz1 hz2 (by omega)
    have hi : Hid (∀ w, Calls Try.prog 15 #[ckV c, .string t] w fun e w' => e = .returned (.tuple #[ckV (allC c t.data.toList), .int .i64 (allN c t.data.toList : Int)]) ∧ Below w.heap.size w w') := fun w => implAll c t w hz1 hz2 (by omega)
    have hq : Hid (∀ w, Calls Try.prog 19 #[ckV (allC c t.data.toList), ckV (allC c t.data.toList)] w fun e w' => e = .returned (.bool true) ∧ Below w.heap.size w w') := fun w => lawEq _ w
    generalize allC c t.data.toList = d at hs hi hq
    generalize allN c t.data.toList = m at hs hi
    generalize szC c = z at hsz h0 h0'
    unfold ckV at hsz hto ⊢
    unfold ckV at hs hi hq
    go_enter Try.func6, Try.ntmps6
    go_wp2_with fail
    refine hsz.mono ?_
    rintro e w1 ⟨rfl, hb1'⟩
    have hF1 : Hid _ := hF0.out.kept hb1' hF0.out.hi
    have hb1 : Hid (Below w.heap.size w w1) := hb0.out.trans (hb1'.mono hb0.out.size)
    have a0 := hF1.out.c0
    have a1 := hF1.out.c1
    have a2 := hF1.out.c2
    have a3 := hF1.out.c3
    clear hb1' hb0 hF0 hsz
    go_wp2_with fail
    refine (hto.out _).mono ?_
    rintro e w2 ⟨rfl, hb2'⟩
    have hF2 : Hid _ := hF1.out.kept hb2' hF1.out.hi
    have hb2 : Hid (Below w.heap.size w w2) := hb1.out.trans (hb2'.mono hb1.out.size)
    clear a0 a1 a2 a3
    have a0 := hF2.out.c0
    have a1 := hF2.out.c1
    have a2 := hF2.out.c2
    have a3 := hF2.out.c3
    clear hb2' hb1 hF1
    go_wp2_with fail
    refine (hs.out _).mono ?_
    rintro e w3 ⟨rfl, hb3'⟩
    have hF3 : Hid _ := hF2.out.kept hb3' hF2.out.hi
    have hb3 : Hid (Below w.heap.size w w3) := hb2.out.trans (hb3'.mono hb2.out.size)
    clear a0 a1 a2 a3
    have a0 := hF3.out.c0
    have a1 := hF3.out.c1
    have a2 := hF3.out.c2
    have a3 := hF3.out.c3
    clear hb3' hb2 hF2
    have hlt3 : w.heap.size < w3.heap.size := hF3.out.hi
    have hG3 : Hid (Four (w3.alloc (.cells #[.int .i64 d.st, .int .i64 d.lf, .string d.dg, .string d.bd] 25)) w3.heap.size d) := Four.newT w3 d 25
    have hFa3 : Hid (Four (w3.alloc (.cells #[.int .i64 d.st, .int .i64 d.lf, .string d.dg, .string d.bd] 25)) w.heap.size c) := hF3.out.alloc _
    have hba3 : Hid (Below w.heap.size w (w3.alloc (.cells #[.int .i64 d.st, .int .i64 d.lf, .string d.dg, .string d.bd] 25))) := hb3.out.alloc hb3.out.size _
    go_wp2_with fail
    refine (hto.out _).mono ?_
    rintro e w4 ⟨rfl, hb4'⟩
    have hG4 : Hid _ := hG3.out.kept hb4' hG3.out.hi
    have hb4 : Hid (Below w.heap.size w w4) := hba3.out.trans (hb4'.mono hba3.out.size)
    clear hb4' hb3 hF3 a0 a1 a2 a3 hFa3 hba3 hG3
    go_wp2_with fail
    refine (hi.out _).mono ?_
    rintro e w5 ⟨rfl, hb5'⟩
    have hG5 : Hid _ := hG4.out.kept hb5' hG4.out.hi
    have hb5 : Hid (Below w.heap.size w w5) := hb4.out.trans (hb5'.mono hb4.out.size)
    have hl5 : w3.heap.size < w5.heap.size := hG5.out.hi
    have b0 := hG5.out.c0
    have b1 := hG5.out.c1
    have b2 := hG5.out.c2
    have b3 := hG5.out.c3
    have hb6 : Hid (Below w.heap.size w (w5.alloc (.cells #[.int .i64 d.st, .int .i64 d.lf, .string d.dg, .string d.bd] 25))) := hb5.out.alloc hb5.out.size _
    clear hb5' hb4 hG4 hb5 hlt3
    go_wp2_with fail
    refine (hq.out _).mono ?_
    rintro e w7 ⟨rfl, hb7'⟩
    have hb7 : Hid (Below w.heap.size w w7) := hb6.out.trans (hb7'.mono hb6.out.size)
    clear hb7' hb6 b0 b1 b2 b3 hG5 hl5
    go_wp2
    go_ret
    exact ⟨rfl, hb7.out⟩
  · have h0 := szC_no hfit
    rw [h0] at hsz
    unfold ckV at hsz ⊢
    clear hfit h0 hto
    go_enter Try.func6, Try.ntmps6
    go_wp2_with (go_at_call 17; refine hsz.mono ?_; rintro e w1 ⟨rfl, hb1⟩)
    go_ret
    exact ⟨rfl, hb0.out.trans (hb1.mono hb0.out.size)⟩

set_option maxRecDepth 100000 in
theorem lifted (os : Os) (started : os.Started) (H : Type) (enc : TypeId × Value → H) :
    ReturnsInHanded {} Try.checked os 6 .any (Rows.fnExactEatAllSpec.pre6 enc Try.prog Try.f6 Rows.fnExactEatAllRow.domain false) (Rows.fnExactEatAllSpec.post enc Try.prog Try.f6 false true false false) := by
  refine returnsInHanded_of_change (C := Try.checked) own started (by kernel_rfl) Try.func6
    (ChangeSpec.witness6 (enc := enc) (C := Try.checked) false ⟨#[], #[.agg #[.int .i64 0, .int .i64 0, .string ByteArray.empty, .string ByteArray.empty], .string ByteArray.empty], []⟩ 8 (by kernel_rfl) (by kernel_rfl) (by kernel_rfl) (by kernel_rfl)) ?_
  intro W base args ds gs before hval0 hW hcnd _
  have hval : ∀ (j : Nat) t v, Try.f6.params[j]? = some t → args[j]? = some v → Value.okWide Try.prog W .any base t v := hval0
  have hW' := hW
  obtain ⟨p, q, hA0, hV, rfl, hfz, hnd⟩ := hW
  have hA : DataW.TrodAll enc Try.prog W 0 (fun _ => true) true Try.f6.params.toList args.toList ds p := hA0
  rw [Try.params6] at hA hval
  obtain ⟨v0, vs0, d0, ds0, p0, q0, hargs, rfl, rfl, h0, r0⟩ := trodAll_cons hA
  obtain ⟨v1, vs1, d1, ds1, p1, q1, hargs1, rfl, rfl, h1, r1⟩ := trodAll_cons r0
  obtain ⟨rfl, rfl, rfl⟩ := trodAll_nil r1
  obtain rfl : args = #[v0, v1] := by cases args; simp_all
  obtain ⟨rfl, rfl⟩ := trodVars_none hV
  obtain ⟨a0, rfl, rfl, rfl, w0⟩ := open_ck Try.underlying2 Try.underlying9 Try.underlying34 (by kernel_rfl) (by kernel_rfl) ⟨rfl, rfl, rfl, rfl⟩ (hval 0 34 v0 rfl rfl) h0
  obtain ⟨a1, rfl, rfl, rfl, w1⟩ := open_string Try.underlying9 (hval 1 9 v1 rfl rfl) h1
  clear hA0 hval0
  refine (walk a0 a1 W w0 w1).mono fun e W' ⟨he, bel⟩ => ?_
  subst he
  exact ⟨_, rfl, _, _, _, [], _, [], hW', trodAll_mk1 (shut_bool Try.underlying4 _), (trodAll_cons_mk (shut_ck Try.underlying2 Try.underlying9 Try.underlying34 (by kernel_rfl) (by kernel_rfl) ⟨rfl, rfl, rfl, rfl⟩ w0) (trodAll_cons_mk (shut_string Try.underlying9 w1) trodAll_mk0)), rfl, bel.frame _, fun h => by cases h⟩

theorem over : Rows.fnExactEatAllRow.holds Try.pinned (OpenSpec.ofChange Rows.fnExactEatAllSpec) :=
  OpenClaim.holds_of_wide 6 Try.f6 rfl rfl rfl rfl rfl rfl rfl ⟨rfl, rfl, rfl, rfl, rfl⟩ rfl rfl rfl rfl rfl (by kernel_rfl) Try.func6 (by kernel_rfl)
    (of_decide_eq_true (by kernel_rfl)) (by unfold Func.isWrapper; first | (rw [if_pos (by decide +kernel)]; kernel_rfl) | (rw [if_neg (by decide +kernel)]; exact ⟨rfl, rfl⟩))
    (fun os started H enc _ => lifted os started H enc)
end LFnExactEatAll

theorem fnExactEatAll_holds : Rows.FnExactEatAllSaid := LFnExactEatAll.over
#print axioms fnExactEatAll_holds
end Go.Proofs.Ytbdnfajdpajfpaa
