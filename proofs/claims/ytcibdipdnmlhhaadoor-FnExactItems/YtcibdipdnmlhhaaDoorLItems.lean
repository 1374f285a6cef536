/-
  At every text the law FnExactItems returns true: the program's Items answers as the specification's, its answer is new memory, and what is written into it changes no later answer. The card's tie of two library tables, which the proof does not read, is the given one.
-/
import Derived.Test.YtcibdipdnmlhhaaDoorCards
import Derived.Test.YtcibdipdnmlhhaaDoorTie
import Derived.Test.YtcibdipdnmlhhaaDoorItl
import Derived.WalkKit
import Derived.ProofKit
import Derived.OpenShut
import Derived.ShutString
import Derived.ChangeOld
import Derived.Below
import Derived.Carry
import Derived.Lay
import Derived.SevenTiedAt
namespace Go.Proofs.YtcibdipdnmlhhaaDoor
namespace LFnExactItems
open Go.ChangeShapes Go.WideShapes Go.ChangeAt Go.RowKit
open Go.ChangeMaps (open_string shut_string)
set_option linter.unusedVariables false

theorem own : ownKnob Tryd.prog.godebug = none := by kernel_rfl

set_option maxHeartbeats 1000000 in
theorem walk (a0 : ByteArray) (w0 : a0.size ≤ maxLen) (w : World) :
    Calls Tryd.prog 6 #[.string a0] w fun e w' => e = .returned (.bool true) ∧ Below w.heap.size w w' := by
  have w1 := w0
  unfold maxLen at w1
  have hL := itemsA_length a0
  by_cases hbig : 1048576 < a0.size
  · go_enter Tryd.func6, Tryd.ntmps6
    go_wp2
    go_ret
    exact ⟨rfl, Below.refl _ _⟩
  · go_enter Tryd.func6, Tryd.ntmps6
    go_wp2_with fail
    refine (specItems _ _ w0).mono ?_
    rintro e x1 ⟨v0, rfl, ho0, hb0⟩
    go_wp2_with fail
    refine (implItems _ _ w0).mono ?_
    rintro e x2 ⟨v1, rfl, ho1, hb1⟩
    have ho0b := ho0.kept hb1
    go_wp2_with fail
    refine (eqS _ _ _ _ _ _ _ ho1 ho0b (by omega) rfl).mono ?_
    rintro e x3 ⟨rfl, q, rfl⟩
    go_wp2_with fail
    refine (markS _ _ _ _ (show OwnsS (x2.drewN q) _ _ _ from ho1) (by omega)).mono ?_
    rintro e x4 ⟨rfl, hm1, g, hg, hbut⟩
    have hne : ∀ k, v0.ownBlock = some k → k ≠ g := fun k hk e => by
      have h1 := ho0.under k hk
      have h2 := ho1.from g hg
      omega
    have ho0c := (show OwnsS (x2.drewN q) _ _ _ from ho0b).but hbut hne
    have hgl := ho1.from g hg
    have hb2a : Below w.heap.size (x2.drewN q) x4 := hbut.low (Nat.le_trans hb0.size hgl) (Nat.le_trans hb0.size hb1.size)
    have hb2 : Below w.heap.size x2 x4 := ⟨hb2a.os, hb2a.tape, hb2a.output, hb2a.size, hb2a.block⟩
    clear hb2a
    go_wp2_with fail
    refine (heldS _ _ _ _ hm1 (by omega)).mono ?_
    rintro e x5 ⟨rfl, hb3⟩
    have ho0d := ho0c.kept hb3
    have hm2 := hm1.kept hb3
    go_wp2_with fail
    refine (implItems _ _ w0).mono ?_
    rintro e x6 ⟨v2, rfl, ho2, hb4⟩
    have ho0e := ho0d.kept hb4
    have hm3 := hm2.kept hb4
    go_wp2_with fail
    refine (eqS _ _ _ _ _ _ _ ho2 ho0e (by omega) rfl).mono ?_
    rintro e x7 ⟨rfl, q2, rfl⟩
    go_wp2_with fail
    refine (heldS _ _ _ _ (show OwnsS (x6.drewN q2) _ _ _ from hm3) (by omega)).mono ?_
    rintro e x8 ⟨rfl, hb5⟩
    have hz1 := hb0.size
    have hz2 := hb1.size
    have hz3 := hb2.size
    have hz4 := hb3.size
    have hz5 := hb4.size
    have hb5' : Below w.heap.size x6 x8 := (show Below (x6.drewN q2).heap.size x6 x8 from ⟨hb5.os, hb5.tape, hb5.output, hb5.size, hb5.block⟩).mono (by show w.heap.size ≤ x6.heap.size; omega)
    have hall : Below w.heap.size w x8 := ((((hb0.trans (hb1.mono (by omega))).trans hb2).trans (hb3.mono (by omega))).trans (hb4.mono (by omega))).trans hb5'
    clear ho0 ho1 ho0b ho0c ho0d ho0e hm1 hm2 hm3 ho2 hb0 hb1 hb2 hb3 hb4 hb5 hb5' hbut hne
    go_wp2
    go_ret
    exact ⟨rfl, hall⟩


set_option maxRecDepth 100000 in
theorem lifted (os : Os) (started : os.Started) (H : Type) (enc : TypeId × Value → H) :
    ReturnsInHanded {} Tryd.checked os 6 .any (fun w args => (Rows.fnExactItemsSpec.pre enc Tryd.prog Tryd.f6 [] false w args ∧ laidMetH Tryd.prog Rows.fnExactItemsRow.laid w) ∧ sizedMet enc Tryd.prog Tryd.f6 (OpenSpec.ofChange Rows.fnExactItemsSpec) false w args)
      (Rows.fnExactItemsSpec.post enc Tryd.prog Tryd.f6 false true false false) := by
  refine returnsInHanded_of_change_and (C := Tryd.checked) (X := fun w _ => laidMetH Tryd.prog Rows.fnExactItemsRow.laid w) (fun _ _ _ hh h => h.of_heap hh) own started (by kernel_rfl) Tryd.func6
    (ChangeSpec.witness_shaped (enc := enc) (C := Tryd.checked) (os := os) (X := fun w _ => laidMetH Tryd.prog Rows.fnExactItemsRow.laid w) false (World.laidAll Tryd.prog os Rows.fnExactItemsRow.laid) #[.string ByteArray.empty] 8 (World.laidAll_os _ _ _)
      (World.shaped_of_ZipB (by kernel_rfl) (by kernel_rfl)) (by kernel_rfl) (by kernel_rfl) (by kernel_rfl)
      (by rw [MakeChecks.laidMetH_plain _ _ _ (by kernel_rfl)]; exact laidMet_laidAll _ (by kernel_rfl) (by kernel_rfl))) ?_
  intro W base args ds gs before hval0 hW _ _ hL _
  have hval : ∀ (j : Nat) t v, Tryd.f6.params[j]? = some t → args[j]? = some v → Value.okWide Tryd.prog W .any base t v := hval0
  have hW' := hW
  obtain ⟨p, q, hA0, hV, rfl, hfz, hnd⟩ := hW
  have hA : DataW.TrodAll enc Tryd.prog W 0 (fun _ => true) true Tryd.f6.params.toList args.toList ds p := hA0
  rw [Tryd.params6] at hA hval
  obtain ⟨v0, vs0, d0, ds0, p0, q0, hargs, rfl, rfl, h0, r0⟩ := trodAll_cons hA
  obtain ⟨rfl, rfl, rfl⟩ := trodAll_nil r0
  obtain rfl : args = #[v0] := by cases args; simp_all
  obtain ⟨rfl, rfl⟩ := trodVars_none hV
  obtain ⟨a0, rfl, rfl, rfl, w0⟩ := open_string Tryd.underlying9 (hval 0 9 v0 rfl rfl) h0
  clear hA0 hval0
  refine (walk a0 w0 W ).mono fun e W' ⟨he, bel⟩ => ?_
  subst he
  exact ⟨_, rfl, _, _, _, [], _, [], hW', trodAll_mk1 (shut_bool Tryd.underlying4 _), (trodAll_cons_mk (shut_string Tryd.underlying9 w0) trodAll_mk0), rfl, bel.frame _, fun h => by cases h⟩

theorem over : Rows.fnExactItemsRow.holds Tryd.pinned (OpenSpec.ofChange Rows.fnExactItemsSpec) :=
  OpenClaim.holds_of_wide 6 Tryd.f6 rfl rfl rfl rfl rfl rfl rfl ⟨rfl, rfl, rfl, rfl, rfl⟩ rfl rfl rfl rfl rfl (by kernel_rfl) Tryd.func6 (by kernel_rfl)
    (of_decide_eq_true (by kernel_rfl)) (by unfold Func.isWrapper; first | (rw [if_pos (by decide +kernel)]; kernel_rfl) | (rw [if_neg (by decide +kernel)]; exact ⟨rfl, rfl⟩))
    (fun os started H enc _ => lifted os started H enc)
end LFnExactItems

theorem fnExactItems_holds : Rows.FnExactItemsCardSaid :=
  Claim7.holds_tied_plain_at .later [] [.data, .pinned] true (true, "bb3389d83a38a67da81e1e7071c8c6f04615405f02d681b2ae54ba10f22732fb") false LFnExactItems.over (fun _ h => by cases h) (by kernel_rfl) (fun _ h => by cases h) fnExactItems_row_tie rfl ⟨rfl, rfl⟩ (by kernel_rfl) rfl
    (fun f fn hf hfn => by
      obtain rfl : f = 6 := Option.some.inj ((show Tryd.prog.funcNamed "loop.example/g00207/laws.FnExactItems" = some 6 by kernel_rfl).symm.trans hf) |>.symm
      obtain rfl : fn = Tryd.f6 := (Option.some.inj (Tryd.func6.symm.trans hfn)).symm
      exact ⟨by kernel_rfl, fun j t ht => by
        rw [Tryd.params6] at ht
        have hm : t ∈ [9] := by simpa using Array.mem_of_getElem? ht
        have hall : ([9].all fun u => !Tryd.prog.wantsStandIn u) = true := by kernel_rfl
        exact (show Tryd.prog.wantsStandIn t = false by simpa using List.all_eq_true.1 hall t hm)⟩)
    (by kernel_rfl)
#print axioms fnExactItems_holds
end Go.Proofs.YtcibdipdnmlhhaaDoor
