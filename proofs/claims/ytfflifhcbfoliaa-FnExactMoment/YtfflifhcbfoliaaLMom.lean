/-
  At every date the law FnExactMoment returns true: the program's Moment answers as the specification's. No condition beside the row's own.
-/
import Derived.Test.YtfflifhcbfoliaaMom
import Derived.Test.YtfflifhcbfoliaaCvt
import Derived.Test.YtfflifhcbfoliaaSix
import Derived.WalkKit
import Derived.ProofKit
import Derived.OpenShut
import Derived.ShutString
import Derived.ChangeOld
import Derived.Below
namespace Go.Proofs.Ytfflifhcbfoliaa
namespace LFnExactMoment
open Go.ChangeShapes Go.WideShapes Go.ChangeAt Go.RowKit
set_option linter.unusedVariables false

theorem own : ownKnob Try.prog.godebug = none := by kernel_rfl

set_option maxHeartbeats 1000000 in
theorem walk (a0 a1 a2 a3 a4 a5 : Int) (w : World) :
    Calls Try.prog 7 #[.agg #[.int .i64 a0, .int .i64 a1, .int .i64 a2, .int .i64 a3, .int .i64 a4, .int .i64 a5]] w fun e w' => e = .returned (.bool true) ∧ Below w.heap.size w w' := by
  have G : Grew (w.alloc (.cells #[.int .i64 a0, .int .i64 a1, .int .i64 a2, .int .i64 a3, .int .i64 a4, .int .i64 a5] 32)) (w.alloc (.cells #[.int .i64 a0, .int .i64 a1, .int .i64 a2, .int .i64 a3, .int .i64 a4, .int .i64 a5] 32)) := Grew.refl _
  go_enter Try.func7, Try.ntmps7
  go_wp2_with (first | (go_at_call 25; refine (toDate _ _ _ _ _ _ _).mono ?_; rintro e x1 ⟨rfl, hb1⟩; replace G := G.trans hb1; obtain ⟨c0, c1, c2, c3, c4, c5⟩ := boxCells G; clear hb1) | (go_at_call 15; refine (specMom _ _ _ _ _ _ _).mono ?_; rintro e x2 ⟨rfl, hb1⟩; replace G := G.trans hb1; obtain ⟨c0, c1, c2, c3, c4, c5⟩ := boxCells G; clear hb1) | (go_at_call 12; refine (implMom _ _ _ _ _ _ _).mono ?_; rintro e x3 ⟨rfl, hb1⟩; replace G := G.trans hb1; obtain ⟨c0, c1, c2, c3, c4, c5⟩ := boxCells G; clear hb1))
  go_ret
  exact ⟨rfl, (((Grew.refl w).alloc _).trans G).low⟩


set_option maxRecDepth 100000 in
theorem lifted (os : Os) (started : os.Started) (H : Type) (enc : TypeId × Value → H) :
    ReturnsInHanded {} Try.checked os 7 .any (Rows.fnExactMomentSpec.pre6 enc Try.prog Try.f7 Rows.fnExactMomentRow.domain false) (Rows.fnExactMomentSpec.post enc Try.prog Try.f7 false true false false) := by
  refine returnsInHanded_of_change (C := Try.checked) own started (by kernel_rfl) Try.func7
    (ChangeSpec.witness6 (enc := enc) (C := Try.checked) false ⟨#[], #[.agg #[.int .i64 0, .int .i64 0, .int .i64 0, .int .i64 0, .int .i64 0, .int .i64 0]], []⟩ 8 (by kernel_rfl) (by kernel_rfl) (by kernel_rfl) (by kernel_rfl)) ?_
  intro W base args ds gs before hval0 hW hcnd _
  have hval : ∀ (j : Nat) t v, Try.f7.params[j]? = some t → args[j]? = some v → Value.okWide Try.prog W .any base t v := hval0
  have hW' := hW
  obtain ⟨p, q, hA0, hV, rfl, hfz, hnd⟩ := hW
  have hA : DataW.TrodAll enc Try.prog W 0 (fun _ => true) true Try.f7.params.toList args.toList ds p := hA0
  rw [Try.params7] at hA hval
  obtain ⟨v0, vs0, d0, ds0, p0, q0, hargs, rfl, rfl, h0, r0⟩ := trodAll_cons hA
  obtain ⟨rfl, rfl, rfl⟩ := trodAll_nil r0
  obtain rfl : args = #[v0] := by cases args; simp_all
  obtain ⟨rfl, rfl⟩ := trodVars_none hV
  obtain ⟨a0, a1, a2, a3, a4, a5, rfl, rfl, rfl, wf⟩ := open_six Try.underlying2 Try.underlying32 (by kernel_rfl) (by kernel_rfl) ⟨rfl, rfl, rfl, rfl, rfl, rfl⟩ (hval 0 32 v0 rfl rfl) h0
  clear hA0 hval0
  refine (walk a0 a1 a2 a3 a4 a5 W).mono fun e W' ⟨he, bel⟩ => ?_
  subst he
  exact ⟨_, rfl, _, _, _, [], _, [], hW', trodAll_mk1 (shut_bool Try.underlying4 _), (trodAll_cons_mk (shut_six Try.underlying2 Try.underlying32 (by kernel_rfl) (by kernel_rfl) ⟨rfl, rfl, rfl, rfl, rfl, rfl⟩ wf) trodAll_mk0), rfl, bel.frame _, fun h => by cases h⟩

theorem over : Rows.fnExactMomentRow.holds Try.pinned (OpenSpec.ofChange Rows.fnExactMomentSpec) :=
  OpenClaim.holds_of_wide 7 Try.f7 rfl rfl rfl rfl rfl rfl rfl ⟨rfl, rfl, rfl, rfl, rfl⟩ rfl rfl rfl rfl rfl (by kernel_rfl) Try.func7 (by kernel_rfl)
    (of_decide_eq_true (by kernel_rfl)) (by unfold Func.isWrapper; first | (rw [if_pos (by decide +kernel)]; kernel_rfl) | (rw [if_neg (by decide +kernel)]; exact ⟨rfl, rfl⟩))
    (fun os started H enc _ => lifted os started H enc)
end LFnExactMoment

theorem fnExactMoment_holds : Rows.FnExactMomentSaid := LFnExactMoment.over
#print axioms fnExactMoment_holds
end Go.Proofs.Ytfflifhcbfoliaa
