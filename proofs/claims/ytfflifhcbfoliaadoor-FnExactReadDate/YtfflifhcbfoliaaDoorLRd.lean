/-
  At every text the law FnExactReadDate returns true: the program's ReadDate answers as the specification's. The tables that the row lists are laid as their text lays them.
-/
import Derived.Test.YtfflifhcbfoliaaDoorCards
import Derived.Test.YtfflifhcbfoliaaDoorTie
import Derived.Test.YtfflifhcbfoliaaDoorPow
import Derived.Test.YtfflifhcbfoliaaDoorRdi
import Derived.Test.YtfflifhcbfoliaaDoorRds
import Derived.Test.YtfflifhcbfoliaaDoorCvt
import Derived.WalkKit
import Derived.ProofKit
import Derived.OpenShut
import Derived.ShutString
import Derived.ChangeOld
import Derived.Below
import Derived.Carry
import Derived.Lay
import Derived.SevenTiedAt
namespace Go.Proofs.YtfflifhcbfoliaaDoor
namespace LFnExactReadDate
open Go.ChangeShapes Go.WideShapes Go.ChangeAt Go.RowKit
open Go.ChangeMaps (open_string shut_string)
set_option linter.unusedVariables false

theorem own : ownKnob Tryd.prog.godebug = none := by kernel_rfl

theorem walk_go (a0 : ByteArray) (w0 : a0.size ≤ maxLen) (w : World) (ht : Tab w) (hbig : ¬ 1048576 < a0.size) :
    Calls Tryd.prog 5 #[.string a0] w fun e w' => e = .returned (.bool true) ∧ Below w.heap.size w w' := by
  go_enter Tryd.func5, Tryd.ntmps5
  go_wp2_with fail
  refine (specRead _ _ w0).mono ?_
  rintro e x1 ⟨⟨v, rfl, hv⟩, hb1⟩
  have HV : Hid (∀ v', ReadIs a0 v' → v' = v) := fun v' h => h.one hv
  have ht1 : Hid (∀ x, Grew x1 x → Tab x) := fun x h => (ht.low hb1).grew h
  clear ht
  rcases hv with ⟨y, m, d, h, i, s, _, _, rfl⟩ | ⟨_, rfl⟩
  all_goals
    go_wp2_with fail
    refine (implRead _ _ (ht1.out _ ((Grew.refl x1).alloc _)) w0).mono ?_
    rintro e x2 ⟨⟨v', rfl, hv'⟩, hb2⟩
    obtain rfl := HV.out v' hv'
    obtain ⟨c0, c1, c2, c3, c4, c5⟩ := boxCells hb2
    have hz : x1.heap.size < x2.heap.size := Nat.lt_of_lt_of_le (by simp) hb2.1.size
    have G : Grew x1 x2 := ((Grew.refl x1).alloc _).trans hb2
    clear hb2 hv' HV ht1
    go_wp2_with (go_at_call 16; refine (eqDate _ _ _ _ _ _ _).mono ?_; rintro e x3 ⟨rfl, hb3⟩)
    go_ret
    exact ⟨rfl, hb1.trans (Go.Joins.below_le ((G.alloc _).trans hb3).low hb1.size)⟩

theorem walk (a0 : ByteArray) (w0 : a0.size ≤ maxLen) (w : World) (ht : Tab w) :
    Calls Tryd.prog 5 #[.string a0] w fun e w' => e = .returned (.bool true) ∧ Below w.heap.size w w' := by
  by_cases hbig : 1048576 < a0.size
  · have w1 := w0
    unfold maxLen at w1
    go_enter Tryd.func5, Tryd.ntmps5
    go_wp2
    go_ret
    exact ⟨rfl, Below.refl _ _⟩
  · exact walk_go a0 w0 w ht hbig


set_option maxRecDepth 100000 in
theorem lifted (os : Os) (started : os.Started) (H : Type) (enc : TypeId × Value → H) :
    ReturnsInHanded {} Tryd.checked os 5 .any (fun w args => (Rows.fnExactReadDateSpec.pre enc Tryd.prog Tryd.f5 [] false w args ∧ laidMetH Tryd.prog Rows.fnExactReadDateRow.laid w) ∧ sizedMet enc Tryd.prog Tryd.f5 (OpenSpec.ofChange Rows.fnExactReadDateSpec) false w args)
      (Rows.fnExactReadDateSpec.post enc Tryd.prog Tryd.f5 false true false false) := by
  refine returnsInHanded_of_change_and (C := Tryd.checked) (X := fun w _ => laidMetH Tryd.prog Rows.fnExactReadDateRow.laid w) (fun _ _ _ hh h => h.of_heap hh) own started (by kernel_rfl) Tryd.func5
    (ChangeSpec.witness_shaped (enc := enc) (C := Tryd.checked) (os := os) (X := fun w _ => laidMetH Tryd.prog Rows.fnExactReadDateRow.laid w) false (World.laidAll Tryd.prog os Rows.fnExactReadDateRow.laid) #[.string ByteArray.empty] 8 (World.laidAll_os _ _ _)
      (World.shaped_of_ZipB (by kernel_rfl) (by kernel_rfl)) (by kernel_rfl) (by kernel_rfl) (by kernel_rfl)
      (by rw [MakeChecks.laidMetH_plain _ _ _ (by kernel_rfl)]; exact laidMet_laidAll _ (by kernel_rfl) (by kernel_rfl))) ?_
  intro W base args ds gs before hval0 hW _ _ hL _
  have hval : ∀ (j : Nat) t v, Tryd.f5.params[j]? = some t → args[j]? = some v → Value.okWide Tryd.prog W .any base t v := hval0
  have hW' := hW
  obtain ⟨p, q, hA0, hV, rfl, hfz, hnd⟩ := hW
  have hA : DataW.TrodAll enc Tryd.prog W 0 (fun _ => true) true Tryd.f5.params.toList args.toList ds p := hA0
  rw [Tryd.params5] at hA hval
  obtain ⟨v0, vs0, d0, ds0, p0, q0, hargs, rfl, rfl, h0, r0⟩ := trodAll_cons hA
  obtain ⟨rfl, rfl, rfl⟩ := trodAll_nil r0
  obtain rfl : args = #[v0] := by cases args; simp_all
  obtain ⟨rfl, rfl⟩ := trodVars_none hV
  obtain ⟨a0, rfl, rfl, rfl, w0⟩ := open_string Tryd.underlying9 (hval 0 9 v0 rfl rfl) h0
  clear hA0 hval0
  refine (walk a0 w0 W (read_laid hL)).mono fun e W' ⟨he, bel⟩ => ?_
  subst he
  exact ⟨_, rfl, _, _, _, [], _, [], hW', trodAll_mk1 (shut_bool Tryd.underlying4 _), (trodAll_cons_mk (shut_string Tryd.underlying9 w0) trodAll_mk0), rfl, bel.frame _, fun h => by cases h⟩

theorem over : Rows.fnExactReadDateRow.holds Tryd.pinned (OpenSpec.ofChange Rows.fnExactReadDateSpec) :=
  OpenClaim.holds_of_wide 5 Tryd.f5 rfl rfl rfl rfl rfl rfl rfl ⟨rfl, rfl, rfl, rfl, rfl⟩ rfl rfl rfl rfl rfl (by kernel_rfl) Tryd.func5 (by kernel_rfl)
    (of_decide_eq_true (by kernel_rfl)) (by unfold Func.isWrapper; first | (rw [if_pos (by decide +kernel)]; kernel_rfl) | (rw [if_neg (by decide +kernel)]; exact ⟨rfl, rfl⟩))
    (fun os started H enc _ => lifted os started H enc)
end LFnExactReadDate

theorem fnExactReadDate_holds : Rows.FnExactReadDateCardSaid :=
  Claim7.holds_tied_plain_at .later [] [.data, .data, .data] true (true, "a7374bea98232cd9802fef7abfb2a47cdfe3135cfd5e23f46cb1b0d65556d04a") false LFnExactReadDate.over (fun _ h => by cases h) (by kernel_rfl) (fun _ h => by cases h) fnExactReadDate_row_tie rfl ⟨rfl, rfl⟩ (by kernel_rfl) rfl
    (fun f fn hf hfn => by
      obtain rfl : f = 5 := Option.some.inj ((show Tryd.prog.funcNamed "loop.example/g00207/laws.FnExactReadDate" = some 5 by kernel_rfl).symm.trans hf) |>.symm
      obtain rfl : fn = Tryd.f5 := (Option.some.inj (Tryd.func5.symm.trans hfn)).symm
      exact ⟨by kernel_rfl, fun j t ht => by
        rw [Tryd.params5] at ht
        have hm : t ∈ [9] := by simpa using Array.mem_of_getElem? ht
        have hall : ([9].all fun u => !Tryd.prog.wantsStandIn u) = true := by kernel_rfl
        exact (show Tryd.prog.wantsStandIn t = false by simpa using List.all_eq_true.1 hall t hm)⟩)
    (by kernel_rfl)
#print axioms fnExactReadDate_holds
end Go.Proofs.YtfflifhcbfoliaaDoor
