/-
  FnExactReadObject: at every text ReadObject answers as the specification, and its answer owns its memory. No condition.
-/
import Derived.Test.YtemmgfnepdgpbaaGreatDoorCards
import Derived.Test.YtemmgfnepdgpbaaGreatDoorTie
import Derived.Test.YtemmgfnepdgpbaaGreatDoorG36
import Derived.WalkKit
import Derived.ProofKit
import Derived.OpenShut
import Derived.ShutString
import Derived.ChangeOld
import Derived.Below
import Derived.Carry
import Derived.Lay
import Derived.SevenTiedAt
namespace Go.Proofs.YtemmgfnepdgpbaaGreatDoor
namespace LFnExactReadObject
open Go.ChangeShapes Go.WideShapes Go.ChangeAt Go.RowKit
open Go.ChangeMaps (open_string shut_string)
set_option linter.unusedVariables false

theorem own : ownKnob Tryz.prog.godebug = none := by kernel_rfl

theorem walk (a0 : ByteArray) (w : World) (w0 : a0.size ≤ maxLen) (m : Int) (hm : w.cell? ⟨3, 0, none⟩ = some (.int .i64 m)) (hl : TabS w) :
    Calls Tryz.prog 4 #[.string a0] w fun e w' => e = .returned (.bool true) ∧ Below w.heap.size w w' :=
  walkRdO XsW (fun w w' h hb => h.low hb) (fun t w hx ht => implRdO t w hx ht)
    (fun w w' a b n hX ht ha hb hn h0 => by
      obtain ⟨w0, h0, hz, hbl⟩ := h0
      exact h0.low (hbl.trans (ht.below (fun k hk => Nat.le_trans hz (ha k hk)) (fun k hk => Nat.le_trans hz (hb k hk)) (Nat.le_trans hz hn))))
    a0 w w0 ⟨⟨m, hm⟩, hl⟩

set_option maxRecDepth 100000 in
theorem lifted (os : Os) (started : os.Started) (H : Type) (enc : TypeId × Value → H) :
    ReturnsInHanded {} Tryz.checked os 4 .any (fun w args => (Rows.fnExactReadObjectSpec.pre enc Tryz.prog Tryz.f4 [] false w args ∧ laidMetH Tryz.prog Rows.fnExactReadObjectRow.laid w) ∧ sizedMet enc Tryz.prog Tryz.f4 (OpenSpec.ofChange Rows.fnExactReadObjectSpec) false w args)
      (Rows.fnExactReadObjectSpec.post enc Tryz.prog Tryz.f4 false true false false) := by
  refine returnsInHanded_of_calls own started (by kernel_rfl) (ChangeSpec.witness_shaped (enc := enc) (C := Tryz.checked) (os := os) (X := fun w _ => laidMetH Tryz.prog Rows.fnExactReadObjectRow.laid w) false (World.laidAll Tryz.prog os Rows.fnExactReadObjectRow.laid) #[.string ByteArray.empty] 8 (World.laidAll_os _ _ _)
      (World.shaped_of_ZipB (by kernel_rfl) (by kernel_rfl)) (by kernel_rfl) (by kernel_rfl) (by kernel_rfl)
      (by rw [MakeChecks.laidMetH_plain _ _ _ (by kernel_rfl)]; exact laidMet_laidAll _ (by kernel_rfl) (by kernel_rfl))) ?_
  intro w0 tape i0 _ hsh _ hok0 hpre0 _
  obtain ⟨_, _, _, fn', hfn', _, _, _, _, hval0⟩ := hok0
  obtain rfl : fn' = Tryz.f4 := Option.some.inj (hfn'.symm.trans Tryz.func4)
  obtain ⟨⟨⟨ds, gs, before, hw0, _⟩, hL0⟩, _⟩ := hpre0
  have hL : laidMetH Tryz.prog Rows.fnExactReadObjectRow.laid (w0.forCall tape i0) := hL0.of_heap (by rfl)
  clear hL0
  have hW := DataW.Whole.of_heap (w' := w0.forCall tape i0) (by rfl) hw0
  obtain ⟨mx, hmx⟩ := Tryz.maxLen_cell _ hsh
  clear hsh hw0
  refine Calls.mono (R := fun e W' => ∃ v, e = .returned v ∧ Rows.fnExactReadObjectSpec.post enc Tryz.prog Tryz.f4 false true false false (w0.forCall tape i0) i0.args v W') ?_ fun e W' ⟨v, he, hp⟩ => by subst he; exact ChangeSpec.post_blind hp
  generalize w0.forCall tape i0 = W at hW hval0 hmx hL ⊢
  generalize i0.args = args at hW hval0 ⊢
  generalize w0.heap.size = base at hval0
  have hval : ∀ (j : Nat) t v, Tryz.f4.params[j]? = some t → args[j]? = some v → Value.okWide Tryz.prog W .any base t v := hval0
  have hW' := hW
  obtain ⟨p, q, hA0, hV, rfl, hfz, hnd⟩ := hW
  have hA : DataW.TrodAll enc Tryz.prog W 0 (fun _ => true) true Tryz.f4.params.toList args.toList ds p := hA0
  rw [Tryz.params4] at hA hval
  obtain ⟨v0, vs0, d0, ds0, p0, q0, hargs, rfl, rfl, h0, r0⟩ := trodAll_cons hA
  obtain ⟨rfl, rfl, rfl⟩ := trodAll_nil r0
  obtain rfl : args = #[v0] := by cases args; simp_all
  obtain ⟨rfl, rfl⟩ := trodVars_none hV
  obtain ⟨a0, rfl, rfl, rfl, w0⟩ := open_string Tryz.underlying9 (hval 0 9 v0 rfl rfl) h0
  clear hA0 hval0
  refine (walk a0 W w0 mx hmx (readObject_laid hL)).mono fun e W' ⟨he, bel⟩ => ?_
  subst he
  exact ⟨_, rfl, _, _, _, [], _, [], hW', trodAll_mk1 (shut_bool Tryz.underlying4 _), (trodAll_cons_mk (shut_string Tryz.underlying9 w0) trodAll_mk0), rfl, bel.frame _, fun h => by cases h⟩

theorem over : Rows.fnExactReadObjectRow.holds Tryz.pinned (OpenSpec.ofChange Rows.fnExactReadObjectSpec) :=
  OpenClaim.holds_of_wide 4 Tryz.f4 rfl rfl rfl rfl rfl rfl rfl ⟨rfl, rfl, rfl, rfl, rfl⟩ rfl rfl rfl rfl rfl (by kernel_rfl) Tryz.func4 (by kernel_rfl)
    (of_decide_eq_true (by kernel_rfl)) (by unfold Func.isWrapper; first | (rw [if_pos (by decide +kernel)]; kernel_rfl) | (rw [if_neg (by decide +kernel)]; exact ⟨rfl, rfl⟩))
    (fun os started H enc _ => lifted os started H enc)
end LFnExactReadObject

theorem fnExactReadObject_holds : Rows.FnExactReadObjectCardSaid :=
  Claim7.holds_tied_plain_at .later [] [.data, .data, .data, .data, .pinned] true (true, "1a03ff84d6edf9460cf350daddaaae082c1a213646170e7b3393740a1dfb2b5f") true LFnExactReadObject.over (fun _ h => by cases h) (by kernel_rfl) (fun _ h => by cases h) fnExactReadObject_row_tie rfl ⟨rfl, rfl⟩ (by kernel_rfl) rfl
    (fun f fn hf hfn => by
      obtain rfl : f = 4 := Option.some.inj ((show Tryz.prog.funcNamed "loop.example/g00207/laws.FnExactReadObject" = some 4 by kernel_rfl).symm.trans hf) |>.symm
      obtain rfl : fn = Tryz.f4 := (Option.some.inj (Tryz.func4.symm.trans hfn)).symm
      exact ⟨by kernel_rfl, fun j t ht => by
        rw [Tryz.params4] at ht
        have hm : t ∈ [9] := by simpa using Array.mem_of_getElem? ht
        have hall : ([9].all fun u => !Tryz.prog.wantsStandIn u) = true := by kernel_rfl
        exact (show Tryz.prog.wantsStandIn t = false by simpa using List.all_eq_true.1 hall t hm)⟩)
    (by kernel_rfl)
#print axioms fnExactReadObject_holds
end Go.Proofs.YtemmgfnepdgpbaaGreatDoor
