/-
  FnExactShowFields: at every list of fields ShowFields answers as the specification, and writes into no argument. No condition.
-/
import Derived.Test.YtnkalamfekkmbaaDoorCards
import Derived.Test.YtnkalamfekkmbaaDoorTie
import Derived.Test.YtnkalamfekkmbaaDoorFldA
import Derived.Test.YtnkalamfekkmbaaDoorFldW
import Derived.WalkKit
import Derived.ProofKit
import Derived.OpenShut
import Derived.ShutString
import Derived.ChangeOld
import Derived.Below
import Derived.Carry
import Derived.Lay
import Derived.SevenTiedAt
namespace Go.Proofs.YtnkalamfekkmbaaDoor
namespace LFnExactShowFields
open Go.ChangeShapes Go.WideShapes Go.ChangeAt Go.RowKit
open Go.ChangeMaps (open_string shut_string)
set_option linter.unusedVariables false

theorem own : ownKnob Tryd.prog.godebug = none := by kernel_rfl
theorem laidOut : laidOutB Tryd.prog = true := by kernel_rfl

set_option maxHeartbeats 1000000 in
theorem walk (v : Value) (l : List Fl) (w : World) (hf : Fls w v l) (hz : ∀ f ∈ l, f.1.size ≤ maxLen ∧ f.2.size ≤ maxLen) :
    Calls Tryd.prog 10 #[v] w fun e w' => e = .returned (.bool true) ∧ Below w.heap.size w w' := by
  have hff := hf
  have cs := fun v w h hs => specShow v l w h hs
  have ci := fun v w h hs => implShow v l w h hs
  generalize showA l = p at cs ci
  obtain ⟨a, cap, rfl, _⟩ := hff
  go_enter Tryd.func10, Tryd.ntmps10
  go_wp2_with fail
  refine (szS _ l _ hf hz).mono ?_
  rintro e x1 ⟨⟨r, rfl, hr⟩, hb1⟩
  rcases hr with rfl | ⟨r0, r1, hsz⟩
  · go_wp2
    go_ret
    exact ⟨rfl, hb1⟩
  · have hn : l.length ≤ 1048576 := by omega
    have hs : szL l ≤ 1048576 := by omega
    go_wp2_with fail
    refine (toFS _ l _ (hf.kept hb1) hn).mono ?_
    rintro e x2 ⟨u2, rfl, ho2, hb2⟩
    have hb02 := hb1.trans (hb2.mono hb1.size)
    go_wp2_with fail
    refine (cs _ _ ho2.fls hs).mono ?_
    rintro e x3 ⟨rfl, hb3⟩
    have hb03 := hb02.trans (hb3.mono hb02.size)
    go_wp2_with fail
    refine (toFS _ l _ (hf.kept hb03) hn).mono ?_
    rintro e x4 ⟨u4, rfl, ho4, hb4⟩
    have hb04 := hb03.trans (hb4.mono hb03.size)
    go_wp2_with fail
    refine (ci _ _ ho4.fls hs).mono ?_
    rintro e x5 ⟨rfl, hb5⟩
    have hb05 := hb04.trans (hb5.mono hb04.size)
    have ho5 := ho4.kept hb5
    go_wp2_with fail
    refine (toFS _ l _ (hf.kept hb05) hn).mono ?_
    rintro e x6 ⟨u6, rfl, ho6, hb6⟩
    have hb06 := hb05.trans (hb6.mono hb05.size)
    go_wp2_with fail
    refine (eqFS _ _ l _ (ho5.kept hb6).fls ho6.fls hn).mono ?_
    rintro e x7 ⟨rfl, hg7⟩
    have hb07 := hb06.trans (hg7.low.mono hb06.size)
    clear ho2 ho4 ho5 ho6 hb1 hb2 hb3 hb4 hb5 hb6 hg7
    go_wp2
    go_ret
    exact ⟨rfl, hb07⟩

set_option maxRecDepth 100000 in
theorem lifted (os : Os) (started : os.Started) (H : Type) (enc : TypeId × Value → H) :
    ReturnsInHanded {} Tryd.checked os 10 .any (fun w args => (Rows.fnExactShowFieldsSpec.pre enc Tryd.prog Tryd.f10 [] false w args ∧ laidMetH Tryd.prog Rows.fnExactShowFieldsRow.laid w) ∧ sizedMet enc Tryd.prog Tryd.f10 (OpenSpec.ofChange Rows.fnExactShowFieldsSpec) false w args)
      (Rows.fnExactShowFieldsSpec.post enc Tryd.prog Tryd.f10 false true false false) := by
  refine returnsInHanded_of_change_and (C := Tryd.checked) (X := fun w _ => laidMetH Tryd.prog Rows.fnExactShowFieldsRow.laid w) (fun _ _ _ hh h => h.of_heap hh) own started (by kernel_rfl) Tryd.func10
    (ChangeSpec.witness_shaped (enc := enc) (C := Tryd.checked) (os := os) (X := fun w _ => laidMetH Tryd.prog Rows.fnExactShowFieldsRow.laid w) false (World.laidAll Tryd.prog os Rows.fnExactShowFieldsRow.laid) #[.slice none 0 0] 8 (World.laidAll_os _ _ _)
      (World.shaped_of_ZipB (by kernel_rfl) (by kernel_rfl)) (by kernel_rfl) (by kernel_rfl) (by kernel_rfl)
      (by rw [MakeChecks.laidMetH_plain _ _ _ (by kernel_rfl)]; exact laidMet_laidAll _ (by kernel_rfl) (by kernel_rfl))) ?_
  intro W base args ds gs before hval0 hW _ _ hL _
  have hval : ∀ (j : Nat) t v, Tryd.f10.params[j]? = some t → args[j]? = some v → Value.okWide Tryd.prog W .any base t v := hval0
  have hW' := hW
  obtain ⟨p, q, hA0, hV, rfl, hfz, hnd⟩ := hW
  have hA : DataW.TrodAll enc Tryd.prog W 0 (fun _ => true) true Tryd.f10.params.toList args.toList ds p := hA0
  rw [Tryd.params10] at hA hval
  obtain ⟨v0, vs0, d0, ds0, p0, q0, hargs, rfl, rfl, h0, r0⟩ := trodAll_cons hA
  obtain ⟨rfl, rfl, rfl⟩ := trodAll_nil r0
  obtain rfl : args = #[v0] := by cases args; simp_all
  obtain ⟨rfl, rfl⟩ := trodVars_none hV
  obtain ⟨sa0, sl0, sc0, rfl⟩ := okWide_slice Tryd.underlying44 (hval 0 44 v0 rfl rfl)
  have k0 := h0
  have lt0 : ∀ x ∈ p0, x.block < W.heap.size := by obtain ⟨m, hm⟩ := k0; exact DataW.trod_lt m _ _ _ hm
  obtain ⟨l0, wf0, wz0⟩ : ∃ fs : List Fl, Fls W (.slice sa0 sl0 sc0) fs ∧ ∀ f ∈ fs, f.1.size ≤ maxLen ∧ f.2.size ≤ maxLen := by
    obtain ⟨fuel, hf⟩ := h0
    exact open_flds hf
  clear hA0 hval0
  refine (walk (.slice sa0 sl0 sc0) l0 W wf0 wz0).mono fun e W' ⟨he, bel⟩ => ?_
  subst he
  exact ⟨_, rfl, _, _, _, [], _, [], hW', trodAll_mk1 (shut_bool Tryd.underlying4 _), (trodAll_cons_mk (Below.trod laidOut (by kernel_rfl) (of_decide_eq_true (by kernel_rfl)) k0 bel lt0) trodAll_mk0), rfl, bel.frame _, fun h => by cases h⟩

theorem over : Rows.fnExactShowFieldsRow.holds Tryd.pinned (OpenSpec.ofChange Rows.fnExactShowFieldsSpec) :=
  OpenClaim.holds_of_wide 10 Tryd.f10 rfl rfl rfl rfl rfl rfl rfl ⟨rfl, rfl, rfl, rfl, rfl⟩ rfl rfl rfl rfl rfl (by kernel_rfl) Tryd.func10 (by kernel_rfl)
    (of_decide_eq_true (by kernel_rfl)) (by unfold Func.isWrapper; first | (rw [if_pos (by decide +kernel)]; kernel_rfl) | (rw [if_neg (by decide +kernel)]; exact ⟨rfl, rfl⟩))
    (fun os started H enc _ => lifted os started H enc)
end LFnExactShowFields

theorem fnExactShowFields_holds : Rows.FnExactShowFieldsCardSaid :=
  Claim7.holds_tied_plain_at .later [] [.data, .pinned] true (true, "6bac73862194e151807d4a8cafc20bfa60fcf8354ad3b1bfe93a18fd565ab411") false LFnExactShowFields.over (fun _ h => by cases h) (by kernel_rfl) (fun _ h => by cases h) fnExactShowFields_row_tie rfl ⟨rfl, rfl⟩ (by kernel_rfl) rfl
    (fun f fn hf hfn => by
      obtain rfl : f = 10 := Option.some.inj ((show Tryd.prog.funcNamed "loop.example/g00207/laws.FnExactShowFields" = some 10 by kernel_rfl).symm.trans hf) |>.symm
      obtain rfl : fn = Tryd.f10 := (Option.some.inj (Tryd.func10.symm.trans hfn)).symm
      exact ⟨by kernel_rfl, fun j t ht => by
        rw [Tryd.params10] at ht
        have hm : t ∈ [44] := by simpa using Array.mem_of_getElem? ht
        have hall : ([44].all fun u => !Tryd.prog.wantsStandIn u) = true := by kernel_rfl
        exact (show Tryd.prog.wantsStandIn t = false by simpa using List.all_eq_true.1 hall t hm)⟩)
    (by kernel_rfl)
#print axioms fnExactShowFields_holds
end Go.Proofs.YtnkalamfekkmbaaDoor
