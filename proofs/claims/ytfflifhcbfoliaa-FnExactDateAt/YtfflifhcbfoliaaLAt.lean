/-
  At every moment the law FnExactDateAt returns true: the program's DateAt answers as the specification's. No condition beside the row's own.
-/
import Derived.Test.YtfflifhcbfoliaaAt
import Derived.Test.YtfflifhcbfoliaaCvt
import Derived.Test.YtfflifhcbfoliaaSix
import Derived.WalkKit
import Derived.ProofKit
import Derived.OpenShut
import Derived.ShutString
import Derived.ChangeOld
import Derived.Below
namespace Go.Proofs.Ytfflifhcbfoliaa
namespace LFnExactDateAt
open Go.ChangeShapes Go.WideShapes Go.ChangeAt Go.RowKit
set_option linter.unusedVariables false

theorem own : ownKnob Try.prog.godebug = none := by kernel_rfl

theorem walk_out (a0 : Int) (w : World) (h : a0 < 0 ∨ 253402300799 < a0) :
    Calls Try.prog 8 #[.int .i64 a0] w fun e w' => e = .returned (.bool true) ∧ Below w.heap.size w w' := by
  have G : Grew w w := Grew.refl w
  go_enter Try.func8, Try.ntmps8
  go_wp2_with (first | (go_at_call 16; refine (specAt_out _ _ h).mono ?_; rintro e x1 ⟨rfl, hb1⟩; replace G := G.trans hb1; clear hb1) | (go_at_call 14; refine (implAt_out _ _ h).mono ?_; rintro e x2 ⟨rfl, hb1⟩; replace G := (G.alloc _).trans hb1; obtain ⟨c0, c1, c2, c3, c4, c5⟩ := boxCells hb1; have hz : x1.heap.size < x2.heap.size := Nat.lt_of_lt_of_le (by simp) hb1.1.size; clear hb1) | (go_at_call 26; refine (eqDate _ _ _ _ _ _ _).mono ?_; rintro e x3 ⟨rfl, hb1⟩))
  go_ret
  exact ⟨rfl, ((G.alloc _).trans hb1).low⟩

set_option maxHeartbeats 1000000 in
theorem walk_in (a0 : Int) (w : World) (h0 : 0 ≤ a0) (h1 : a0 ≤ 253402300799) :
    Calls Try.prog 8 #[.int .i64 a0] w fun e w' => e = .returned (.bool true) ∧ Below w.heap.size w w' := by
  have G : Grew w w := Grew.refl w
  go_enter Try.func8, Try.ntmps8
  go_wp2_with (first | (go_at_call 16; refine (specAt_in _ _ h0 h1).mono ?_; rintro e x1 ⟨⟨y, m, d, h, i, s, rfl, ok1, hm1⟩, hb1⟩; have OK1 : Hid (okD y m d h i s ∧ momN y m d h i s = a0) := ⟨ok1, hm1⟩; clear ok1 hm1; replace G := G.trans hb1; clear hb1) | (go_at_call 14; refine (implAt_in _ _ h0 h1).mono ?_; rintro e x2 ⟨⟨y', m', d', h', i', s', rfl, ok2, hm2⟩, hb1⟩; obtain ⟨rfl, rfl, rfl, rfl, rfl, rfl⟩ := mom_one ok2 OK1.out.1 (hm2.trans OK1.out.2.symm); replace G := (G.alloc _).trans hb1; obtain ⟨c0, c1, c2, c3, c4, c5⟩ := boxCells hb1; have hz : x1.heap.size < x2.heap.size := Nat.lt_of_lt_of_le (by simp) hb1.1.size; clear hb1 ok2 hm2) | (go_at_call 26; refine (eqDate _ _ _ _ _ _ _).mono ?_; rintro e x3 ⟨rfl, hb1⟩))
  go_ret
  exact ⟨rfl, ((G.alloc _).trans hb1).low⟩

theorem walk (a0 : Int) (w0 : (Lit.int .i64 a0).wf = true) (w : World) :
    Calls Try.prog 8 #[.int .i64 a0] w fun e w' => e = .returned (.bool true) ∧ Below w.heap.size w w' := by
  by_cases h0 : 0 ≤ a0
  · by_cases h1 : a0 ≤ 253402300799
    · exact walk_in a0 w h0 h1
    · exact walk_out a0 w (by omega)
  · exact walk_out a0 w (by omega)


set_option maxRecDepth 100000 in
theorem lifted (os : Os) (started : os.Started) (H : Type) (enc : TypeId × Value → H) :
    ReturnsInHanded {} Try.checked os 8 .any (Rows.fnExactDateAtSpec.pre6 enc Try.prog Try.f8 Rows.fnExactDateAtRow.domain false) (Rows.fnExactDateAtSpec.post enc Try.prog Try.f8 false true false false) := by
  refine returnsInHanded_of_change (C := Try.checked) own started (by kernel_rfl) Try.func8
    (ChangeSpec.witness6 (enc := enc) (C := Try.checked) false ⟨#[], #[.int .i64 0], []⟩ 8 (by kernel_rfl) (by kernel_rfl) (by kernel_rfl) (by kernel_rfl)) ?_
  intro W base args ds gs before hval0 hW hcnd _
  have hval : ∀ (j : Nat) t v, Try.f8.params[j]? = some t → args[j]? = some v → Value.okWide Try.prog W .any base t v := hval0
  have hW' := hW
  obtain ⟨p, q, hA0, hV, rfl, hfz, hnd⟩ := hW
  have hA : DataW.TrodAll enc Try.prog W 0 (fun _ => true) true Try.f8.params.toList args.toList ds p := hA0
  rw [Try.params8] at hA hval
  obtain ⟨v0, vs0, d0, ds0, p0, q0, hargs, rfl, rfl, h0, r0⟩ := trodAll_cons hA
  obtain ⟨rfl, rfl, rfl⟩ := trodAll_nil r0
  obtain rfl : args = #[v0] := by cases args; simp_all
  obtain ⟨rfl, rfl⟩ := trodVars_none hV
  obtain ⟨a0, rfl, rfl, rfl, w0⟩ := open_int Try.underlying2 (hval 0 2 v0 rfl rfl) h0
  clear hA0 hval0
  refine (walk a0 w0 W).mono fun e W' ⟨he, bel⟩ => ?_
  subst he
  exact ⟨_, rfl, _, _, _, [], _, [], hW', trodAll_mk1 (shut_bool Try.underlying4 _), (trodAll_cons_mk (shut_int Try.underlying2 w0) trodAll_mk0), rfl, bel.frame _, fun h => by cases h⟩

theorem over : Rows.fnExactDateAtRow.holds Try.pinned (OpenSpec.ofChange Rows.fnExactDateAtSpec) :=
  OpenClaim.holds_of_wide 8 Try.f8 rfl rfl rfl rfl rfl rfl rfl ⟨rfl, rfl, rfl, rfl, rfl⟩ rfl rfl rfl rfl rfl (by kernel_rfl) Try.func8 (by kernel_rfl)
    (of_decide_eq_true (by kernel_rfl)) (by unfold Func.isWrapper; first | (rw [if_pos (by decide +kernel)]; kernel_rfl) | (rw [if_neg (by decide +kernel)]; exact ⟨rfl, rfl⟩))
    (fun os started H enc _ => lifted os started H enc)
end LFnExactDateAt

theorem fnExactDateAt_holds : Rows.FnExactDateAtSaid := LFnExactDateAt.over
#print axioms fnExactDateAt_holds
end Go.Proofs.Ytfflifhcbfoliaa
