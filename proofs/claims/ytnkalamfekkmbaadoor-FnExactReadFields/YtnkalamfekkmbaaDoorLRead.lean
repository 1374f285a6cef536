/-
  FnExactReadFields: at every text ReadFields answers as the specification, writes into no argument, and its answer owns its memory. No condition.
-/
import Derived.Test.YtnkalamfekkmbaaDoorCards
import Derived.Test.YtnkalamfekkmbaaDoorTie
import Derived.Test.YtnkalamfekkmbaaDoorFldRd
import Derived.WalkKit
import Derived.ProofKit
import Derived.OpenShut
import Derived.ShutString
import Derived.ChangeOld
import Derived.Below
import Derived.Carry
import Derived.Lay
import Derived.SevenTiedAt
namespace Go.Proofs.YtnkalamfekkmbaaDoor
namespace LFnExactReadFields
open Go.ChangeShapes Go.WideShapes Go.ChangeAt Go.RowKit
open Go.ChangeMaps (open_string shut_string)
set_option linter.unusedVariables false

theorem own : ownKnob Tryd.prog.godebug = none := by kernel_rfl

theorem rdL_length (l : List UInt8) : (rdL (rdA l)).length ≤ 30 := by
  cases h : rdA l with
  | none => simp [rdL]
  | some p =>
    obtain ⟨o, r⟩ := p
    exact (fldsOk_parts (rdA_ok h)).1

set_option maxHeartbeats 2000000 in
theorem walk (a0 : ByteArray) (w : World) (w0 : a0.size ≤ maxLen) (m : Int) (hm : w.cell? ⟨0, 0, none⟩ = some (.int .i64 m)) :
    Calls Tryd.prog 11 #[.string a0] w fun e w' => e = .returned (.bool true) ∧ Below w.heap.size w w' := by
  unfold maxLen at w0
  have h0 := cell_lt hm
  by_cases hbig : 1048576 < a0.size
  · go_enter Tryd.func11, Tryd.ntmps11
    go_wp2
    go_ret
    exact ⟨rfl, Below.refl _ _⟩
  have hs : a0.size ≤ 1048576 := by omega
  have cs := fun w => specRead a0 w hs
  have ci := fun w hm => implRead a0 m w hm hs
  have hL := rdL_length a0.data.toList
  unfold GivesR at cs ci
  generalize rdL (rdA a0.data.toList) = L at cs ci hL
  generalize rdI a0 (rdA a0.data.toList) = N at cs ci
  generalize (rdA a0.data.toList).isSome = b at cs ci
  have hLb : L.length ≤ 1048576 := by omega
  cases b
  all_goals
    go_enter Tryd.func11, Tryd.ntmps11
    go_wp2_with fail
    refine (cs _).mono ?_
    rintro e x1 ⟨u1, rfl, p_1, hb01⟩
    have pu := p_1.under
    have m1 := (hb01.cell (p := ⟨0, 0, none⟩) h0).trans hm
    go_wp2_with fail
    refine (ci x1 m1).mono ?_
    rintro e x2 ⟨u2, rfl, r_2, hb2⟩
    have hb02 := hb01.trans (hb2.mono hb01.size)
    have p_2 := p_1.kept hb2
    have rf := r_2.from
    go_wp2_with fail
    refine (eqFS _ _ L _ r_2.fls p_2.fls hLb).mono ?_
    rintro e x3 ⟨rfl, hg3⟩
    have hb03 := hb02.trans (hg3.low.mono hb02.size)
    have p_3 := p_2.kept hg3.low
    have r_3 := r_2.kept hg3.low
    go_wp2_with fail
    refine (markFS _ L _ _ r_3 hLb).mono ?_
    rintro e x4 ⟨rfl, r_4, hg4⟩
    have ne3 : ∀ k, u1.ownBlock = some k → some k ≠ u2.ownBlock := fun k hk e => by
      have h1 := pu k hk
      have h2 := rf k e.symm
      omega
    have p_4 := p_3.grown hg4 ne3
    have hb04 := hb03.grown hg4 hb03.size (fun j hj => Nat.le_trans hb01.size (rf j hj))
    go_wp2_with fail
    refine (heldFS _ L.length _ _ r_4 hLb).mono ?_
    rintro e x5 ⟨rfl, hg5⟩
    have hb05 := hb04.trans (hg5.low.mono hb04.size)
    have p_5 := p_4.kept hg5.low
    have r_5 := r_4.kept hg5.low
    have m5 := (hb05.cell (p := ⟨0, 0, none⟩) h0).trans hm
    go_wp2_with fail
    refine (ci x5 m5).mono ?_
    rintro e x6 ⟨u6, rfl, t_6, hb6⟩
    have hb06 := hb05.trans (hb6.mono hb05.size)
    have p_6 := p_5.kept hb6
    have r_6 := r_5.kept hb6
    go_wp2_with fail
    refine (eqFS _ _ L _ t_6.fls p_6.fls hLb).mono ?_
    rintro e x7 ⟨rfl, hg7⟩
    have hb07 := hb06.trans (hg7.low.mono hb06.size)
    have r_7 := r_6.kept hg7.low
    go_wp2_with fail
    refine (heldFS _ L.length _ _ r_7 hLb).mono ?_
    rintro e x8 ⟨rfl, hg8⟩
    have hb08 := hb07.trans (hg8.low.mono hb07.size)
    clear hg8 hg7 hg5 hg4 hg3 hb6 hb2 p_1 p_2 p_3 p_4 p_5 p_6 r_2 r_3 r_4 r_5 r_6 r_7 t_6 pu rf ne3 cs ci m1 m5
    go_wp2
    go_ret
    exact ⟨rfl, hb08⟩

set_option maxRecDepth 100000 in
theorem lifted (os : Os) (started : os.Started) (H : Type) (enc : TypeId × Value → H) :
    ReturnsInHanded {} Tryd.checked os 11 .any (fun w args => (Rows.fnExactReadFieldsSpec.pre enc Tryd.prog Tryd.f11 [] false w args ∧ laidMetH Tryd.prog Rows.fnExactReadFieldsRow.laid w) ∧ sizedMet enc Tryd.prog Tryd.f11 (OpenSpec.ofChange Rows.fnExactReadFieldsSpec) false w args)
      (Rows.fnExactReadFieldsSpec.post enc Tryd.prog Tryd.f11 false true false false) := by
  refine returnsInHanded_of_calls own started (by kernel_rfl) (ChangeSpec.witness_shaped (enc := enc) (C := Tryd.checked) (os := os) (X := fun w _ => laidMetH Tryd.prog Rows.fnExactReadFieldsRow.laid w) false (World.laidAll Tryd.prog os Rows.fnExactReadFieldsRow.laid) #[.string ByteArray.empty] 8 (World.laidAll_os _ _ _)
      (World.shaped_of_ZipB (by kernel_rfl) (by kernel_rfl)) (by kernel_rfl) (by kernel_rfl) (by kernel_rfl)
      (by rw [MakeChecks.laidMetH_plain _ _ _ (by kernel_rfl)]; exact laidMet_laidAll _ (by kernel_rfl) (by kernel_rfl))) ?_
  intro w0 tape i0 _ hsh _ hok0 hpre0 _
  obtain ⟨_, _, _, fn', hfn', _, _, _, _, hval0⟩ := hok0
  obtain rfl : fn' = Tryd.f11 := Option.some.inj (hfn'.symm.trans Tryd.func11)
  obtain ⟨⟨⟨ds, gs, before, hw0, _⟩, _⟩, _⟩ := hpre0
  have hW := DataW.Whole.of_heap (w' := w0.forCall tape i0) (by rfl) hw0
  obtain ⟨mx, hmx⟩ := Tryd.maxLen_cell _ hsh
  clear hsh hw0
  refine Calls.mono (R := fun e W' => ∃ v, e = .returned v ∧ Rows.fnExactReadFieldsSpec.post enc Tryd.prog Tryd.f11 false true false false (w0.forCall tape i0) i0.args v W') ?_ fun e W' ⟨v, he, hp⟩ => by subst he; exact ChangeSpec.post_blind hp
  generalize w0.forCall tape i0 = W at hW hval0 hmx ⊢
  generalize i0.args = args at hW hval0 ⊢
  generalize w0.heap.size = base at hval0
  have hval : ∀ (j : Nat) t v, Tryd.f11.params[j]? = some t → args[j]? = some v → Value.okWide Tryd.prog W .any base t v := hval0
  have hW' := hW
  obtain ⟨p, q, hA0, hV, rfl, hfz, hnd⟩ := hW
  have hA : DataW.TrodAll enc Tryd.prog W 0 (fun _ => true) true Tryd.f11.params.toList args.toList ds p := hA0
  rw [Tryd.params11] at hA hval
  obtain ⟨v0, vs0, d0, ds0, p0, q0, hargs, rfl, rfl, h0, r0⟩ := trodAll_cons hA
  obtain ⟨rfl, rfl, rfl⟩ := trodAll_nil r0
  obtain rfl : args = #[v0] := by cases args; simp_all
  obtain ⟨rfl, rfl⟩ := trodVars_none hV
  obtain ⟨a0, rfl, rfl, rfl, w0⟩ := open_string Tryd.underlying9 (hval 0 9 v0 rfl rfl) h0
  clear hA0 hval0
  refine (walk a0 W w0 mx hmx).mono fun e W' ⟨he, bel⟩ => ?_
  subst he
  exact ⟨_, rfl, _, _, _, [], _, [], hW', trodAll_mk1 (shut_bool Tryd.underlying4 _), (trodAll_cons_mk (shut_string Tryd.underlying9 w0) trodAll_mk0), rfl, bel.frame _, fun h => by cases h⟩

theorem over : Rows.fnExactReadFieldsRow.holds Tryd.pinned (OpenSpec.ofChange Rows.fnExactReadFieldsSpec) :=
  OpenClaim.holds_of_wide 11 Tryd.f11 rfl rfl rfl rfl rfl rfl rfl ⟨rfl, rfl, rfl, rfl, rfl⟩ rfl rfl rfl rfl rfl (by kernel_rfl) Tryd.func11 (by kernel_rfl)
    (of_decide_eq_true (by kernel_rfl)) (by unfold Func.isWrapper; first | (rw [if_pos (by decide +kernel)]; kernel_rfl) | (rw [if_neg (by decide +kernel)]; exact ⟨rfl, rfl⟩))
    (fun os started H enc _ => lifted os started H enc)
end LFnExactReadFields

theorem fnExactReadFields_holds : Rows.FnExactReadFieldsCardSaid :=
  Claim7.holds_tied_plain_at .later [] [.data, .pinned] true (true, "6bac73862194e151807d4a8cafc20bfa60fcf8354ad3b1bfe93a18fd565ab411") false LFnExactReadFields.over (fun _ h => by cases h) (by kernel_rfl) (fun _ h => by cases h) fnExactReadFields_row_tie rfl ⟨rfl, rfl⟩ (by kernel_rfl) rfl
    (fun f fn hf hfn => by
      obtain rfl : f = 11 := Option.some.inj ((show Tryd.prog.funcNamed "loop.example/g00207/laws.FnExactReadFields" = some 11 by kernel_rfl).symm.trans hf) |>.symm
      obtain rfl : fn = Tryd.f11 := (Option.some.inj (Tryd.func11.symm.trans hfn)).symm
      exact ⟨by kernel_rfl, fun j t ht => by
        rw [Tryd.params11] at ht
        have hm : t ∈ [9] := by simpa using Array.mem_of_getElem? ht
        have hall : ([9].all fun u => !Tryd.prog.wantsStandIn u) = true := by kernel_rfl
        exact (show Tryd.prog.wantsStandIn t = false by simpa using List.all_eq_true.1 hall t hm)⟩)
    (by kernel_rfl)
#print axioms fnExactReadFields_holds
end Go.Proofs.YtnkalamfekkmbaaDoor
