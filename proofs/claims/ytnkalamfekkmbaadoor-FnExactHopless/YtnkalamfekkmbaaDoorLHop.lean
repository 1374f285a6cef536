/-
  FnExactHopless: at every list of fields Hopless answers as the specification, writes into no argument and keeps nothing of one, and its answer owns its memory. No condition.
-/
import Derived.Test.YtnkalamfekkmbaaDoorCards
import Derived.Test.YtnkalamfekkmbaaDoorTie
import Derived.Test.YtnkalamfekkmbaaDoorFldA
import Derived.Test.YtnkalamfekkmbaaDoorFldZ
import Derived.WalkKit
import Derived.ProofKit
import Derived.OpenShut
import Derived.ShutString
import Derived.ChangeOld
import Derived.Below
import Derived.Carry
import Derived.Lay
import Derived.SevenTiedAt
namespace Go.Proofs.YtnkalamfekkmbaaDoor
namespace LFnExactHopless
open Go.ChangeShapes Go.WideShapes Go.ChangeAt Go.RowKit
open Go.ChangeMaps (open_string shut_string)
set_option linter.unusedVariables false

theorem own : ownKnob Tryd.prog.godebug = none := by kernel_rfl
theorem laidOut : laidOutB Tryd.prog = true := by kernel_rfl

set_option maxHeartbeats 2000000 in
theorem walk (v : Value) (l : List Fl) (w : World) (hf : Fls w v l) (hz : ∀ f ∈ l, f.1.size ≤ maxLen ∧ f.2.size ≤ maxLen) :
    Calls Tryd.prog 9 #[v] w fun e w' => e = .returned (.bool true) ∧ Below w.heap.size w w' := by
  have hff := hf
  obtain ⟨a, cap, rfl, _⟩ := hff
  have cs := fun v B w h hs => specHop v l B w h hs
  have ci := fun v w h hs => Calls.mono (implHop v l w h hs) fun e w' h => GivesF.any h
  have hL : (hopA l).length ≤ 30 := hopA_length l
  generalize hopA l = L at cs ci hL
  go_enter Tryd.func9, Tryd.ntmps9
  go_wp2_with fail
  refine (szS _ l _ hf hz).mono ?_
  rintro e x1 ⟨⟨r, rfl, hr⟩, hb01⟩
  rcases hr with rfl | ⟨r0, r1, hsz⟩
  · go_wp2
    go_ret
    exact ⟨rfl, hb01⟩
  have hl : l.length ≤ 1048576 := by omega
  have hs : szL l ≤ 1048576 := by omega
  have hLb : L.length ≤ 1048576 := by omega
  go_wp2_with fail
  refine (toFS _ l _ (hf.kept hb01) hl).mono ?_
  rintro e x2 ⟨u2, rfl, o2, hb2⟩
  have hb02 := hb01.trans (hb2.mono hb01.size)
  go_wp2_with fail
  refine (cs _ _ _ o2.has hs).mono ?_
  rintro e x3 ⟨u3, rfl, o3, hb3⟩
  have hb03 := hb02.trans (hb3.mono hb02.size)
  have p_3 := o3.has
  have pu := p_3.under
  go_wp2_with fail
  refine (toFS _ l _ (hf.kept hb03) hl).mono ?_
  rintro e x4 ⟨u4, rfl, o4, hb4⟩
  have hb04 := hb03.trans (hb4.mono hb03.size)
  have p_4 := p_3.kept hb4
  have q_4 := o4.has
  have qf := q_4.from
  have qu := q_4.under
  go_wp2_with fail
  refine (ci _ _ q_4.fls hs).mono ?_
  rintro e x5 ⟨u5, rfl, r_5, hb5⟩
  have hb05 := hb04.trans (hb5.mono hb04.size)
  have p_5 := p_4.kept hb5
  have q_5 := q_4.kept hb5
  have rf := r_5.from
  go_wp2_with fail
  refine (eqFS _ _ L _ r_5.fls p_5.fls hLb).mono ?_
  rintro e x6 ⟨rfl, hg6⟩
  have hb06 := hb05.trans (hg6.low.mono hb05.size)
  have p_6 := p_5.kept hg6.low
  have q_6 := q_5.kept hg6.low
  have r_6 := r_5.kept hg6.low
  go_wp2_with fail
  refine (toFS _ l _ (hf.kept hb06) hl).mono ?_
  rintro e x7 ⟨u7, rfl, o7, hb7⟩
  have hb07 := hb06.trans (hb7.mono hb06.size)
  have p_7 := p_6.kept hb7
  have q_7 := q_6.kept hb7
  have r_7 := r_6.kept hb7
  go_wp2_with fail
  refine (eqFS _ _ l _ q_7.fls o7.fls hl).mono ?_
  rintro e x8 ⟨rfl, hg8⟩
  have hb08 := hb07.trans (hg8.low.mono hb07.size)
  have p_8 := p_7.kept hg8.low
  have q_8 := q_7.kept hg8.low
  have r_8 := r_7.kept hg8.low
  go_wp2_with fail
  refine (markFS _ l _ _ q_8 hl).mono ?_
  rintro e x9 ⟨rfl, _, hg9⟩
  have ne1 : ∀ k, u3.ownBlock = some k → some k ≠ u4.ownBlock := fun k hk e => by
    have h1 := pu k hk
    have h2 := qf k e.symm
    omega
  have ne2 : ∀ k, u5.ownBlock = some k → some k ≠ u4.ownBlock := fun k hk e => by
    have h1 := rf k hk
    have h2 := qu k e.symm
    omega
  have p_9 := p_8.grown hg9 ne1
  have r_9 := r_8.grown hg9 ne2
  have hb09 := hb08.grown hg9 hb08.size (fun j hj => Nat.le_trans hb03.size (qf j hj))
  go_wp2_with fail
  refine (eqFS _ _ L _ r_9.fls p_9.fls hLb).mono ?_
  rintro e x10 ⟨rfl, hg10⟩
  have hb010 := hb09.trans (hg10.low.mono hb09.size)
  have p_10 := p_9.kept hg10.low
  have r_10 := r_9.kept hg10.low
  go_wp2_with fail
  refine (markFS _ L _ _ r_10 hLb).mono ?_
  rintro e x11 ⟨rfl, r_11, hg11⟩
  have ne3 : ∀ k, u3.ownBlock = some k → some k ≠ u5.ownBlock := fun k hk e => by
    have h1 := pu k hk
    have h2 := rf k e.symm
    have h3 := hb4.size
    omega
  have p_11 := p_10.grown hg11 ne3
  have hb011 := hb010.grown hg11 hb010.size (fun j hj => Nat.le_trans hb04.size (rf j hj))
  go_wp2_with fail
  refine (heldFS _ L.length _ _ r_11 hLb).mono ?_
  rintro e x12 ⟨rfl, hg12⟩
  have hb012 := hb011.trans (hg12.low.mono hb011.size)
  have p_12 := p_11.kept hg12.low
  have r_12 := r_11.kept hg12.low
  go_wp2_with fail
  refine (toFS _ l _ (hf.kept hb012) hl).mono ?_
  rintro e x13 ⟨u13, rfl, o13, hb13⟩
  have hb013 := hb012.trans (hb13.mono hb012.size)
  have p_13 := p_12.kept hb13
  have r_13 := r_12.kept hb13
  go_wp2_with fail
  refine (ci _ _ o13.has.fls hs).mono ?_
  rintro e x14 ⟨u14, rfl, t_14, hb14⟩
  have hb014 := hb013.trans (hb14.mono hb013.size)
  have p_14 := p_13.kept hb14
  have r_14 := r_13.kept hb14
  go_wp2_with fail
  refine (eqFS _ _ L _ t_14.fls p_14.fls hLb).mono ?_
  rintro e x15 ⟨rfl, hg15⟩
  have hb015 := hb014.trans (hg15.low.mono hb014.size)
  have r_15 := r_14.kept hg15.low
  go_wp2_with fail
  refine (heldFS _ L.length _ _ r_15 hLb).mono ?_
  rintro e x16 ⟨rfl, hg16⟩
  have hb016 := hb015.trans (hg16.low.mono hb015.size)
  clear hb2 hb3 hb4 hb5 hb7 hb13 hb14 hg6 hg8 hg9 hg10 hg11 hg12 hg15 hg16 o2 o3 o4 o7 o13 p_3 p_4 p_5 p_6 p_7 p_8 p_9 p_10 p_11 p_12 p_13 p_14 q_4 q_5 q_6 q_7 q_8 r_5 r_6 r_7 r_8 r_9 r_10 r_11 r_12 r_13 r_14 r_15 t_14 pu qf qu rf ne1 ne2 ne3
  go_wp2
  go_ret
  exact ⟨rfl, hb016⟩

set_option maxRecDepth 100000 in
theorem lifted (os : Os) (started : os.Started) (H : Type) (enc : TypeId × Value → H) :
    ReturnsInHanded {} Tryd.checked os 9 .any (fun w args => (Rows.fnExactHoplessSpec.pre enc Tryd.prog Tryd.f9 [] false w args ∧ laidMetH Tryd.prog Rows.fnExactHoplessRow.laid w) ∧ sizedMet enc Tryd.prog Tryd.f9 (OpenSpec.ofChange Rows.fnExactHoplessSpec) false w args)
      (Rows.fnExactHoplessSpec.post enc Tryd.prog Tryd.f9 false true false false) := by
  refine returnsInHanded_of_change_and (C := Tryd.checked) (X := fun w _ => laidMetH Tryd.prog Rows.fnExactHoplessRow.laid w) (fun _ _ _ hh h => h.of_heap hh) own started (by kernel_rfl) Tryd.func9
    (ChangeSpec.witness_shaped (enc := enc) (C := Tryd.checked) (os := os) (X := fun w _ => laidMetH Tryd.prog Rows.fnExactHoplessRow.laid w) false (World.laidAll Tryd.prog os Rows.fnExactHoplessRow.laid) #[.slice none 0 0] 8 (World.laidAll_os _ _ _)
      (World.shaped_of_ZipB (by kernel_rfl) (by kernel_rfl)) (by kernel_rfl) (by kernel_rfl) (by kernel_rfl)
      (by rw [MakeChecks.laidMetH_plain _ _ _ (by kernel_rfl)]; exact laidMet_laidAll _ (by kernel_rfl) (by kernel_rfl))) ?_
  intro W base args ds gs before hval0 hW _ _ hL _
  have hval : ∀ (j : Nat) t v, Tryd.f9.params[j]? = some t → args[j]? = some v → Value.okWide Tryd.prog W .any base t v := hval0
  have hW' := hW
  obtain ⟨p, q, hA0, hV, rfl, hfz, hnd⟩ := hW
  have hA : DataW.TrodAll enc Tryd.prog W 0 (fun _ => true) true Tryd.f9.params.toList args.toList ds p := hA0
  rw [Tryd.params9] at hA hval
  obtain ⟨v0, vs0, d0, ds0, p0, q0, hargs, rfl, rfl, h0, r0⟩ := trodAll_cons hA
  obtain ⟨rfl, rfl, rfl⟩ := trodAll_nil r0
  obtain rfl : args = #[v0] := by cases args; simp_all
  obtain ⟨rfl, rfl⟩ := trodVars_none hV
  obtain ⟨sa0, sl0, sc0, rfl⟩ := okWide_slice Tryd.underlying44 (hval 0 44 v0 rfl rfl)
  have k0 := h0
  have lt0 : ∀ x ∈ p0, x.block < W.heap.size := by obtain ⟨m, hm⟩ := k0; exact DataW.trod_lt m _ _ _ hm
  obtain ⟨l0, wf0, wz0⟩ : ∃ fs : List Fl, Fls W (.slice sa0 sl0 sc0) fs ∧ ∀ f ∈ fs, f.1.size ≤ maxLen ∧ f.2.size ≤ maxLen := by
    obtain ⟨fuel, hf⟩ := h0
    exact open_flds hf
  clear hA0 hval0
  refine (walk (.slice sa0 sl0 sc0) l0 W wf0 wz0).mono fun e W' ⟨he, bel⟩ => ?_
  subst he
  exact ⟨_, rfl, _, _, _, [], _, [], hW', trodAll_mk1 (shut_bool Tryd.underlying4 _), (trodAll_cons_mk (Below.trod laidOut (by kernel_rfl) (of_decide_eq_true (by kernel_rfl)) k0 bel lt0) trodAll_mk0), rfl, bel.frame _, fun h => by cases h⟩

theorem over : Rows.fnExactHoplessRow.holds Tryd.pinned (OpenSpec.ofChange Rows.fnExactHoplessSpec) :=
  OpenClaim.holds_of_wide 9 Tryd.f9 rfl rfl rfl rfl rfl rfl rfl ⟨rfl, rfl, rfl, rfl, rfl⟩ rfl rfl rfl rfl rfl (by kernel_rfl) Tryd.func9 (by kernel_rfl)
    (of_decide_eq_true (by kernel_rfl)) (by unfold Func.isWrapper; first | (rw [if_pos (by decide +kernel)]; kernel_rfl) | (rw [if_neg (by decide +kernel)]; exact ⟨rfl, rfl⟩))
    (fun os started H enc _ => lifted os started H enc)
end LFnExactHopless

theorem fnExactHopless_holds : Rows.FnExactHoplessCardSaid :=
  Claim7.holds_tied_plain_at .later [] [.data, .pinned] true (true, "6bac73862194e151807d4a8cafc20bfa60fcf8354ad3b1bfe93a18fd565ab411") false LFnExactHopless.over (fun _ h => by cases h) (by kernel_rfl) (fun _ h => by cases h) fnExactHopless_row_tie rfl ⟨rfl, rfl⟩ (by kernel_rfl) rfl
    (fun f fn hf hfn => by
      obtain rfl : f = 9 := Option.some.inj ((show Tryd.prog.funcNamed "loop.example/g00207/laws.FnExactHopless" = some 9 by kernel_rfl).symm.trans hf) |>.symm
      obtain rfl : fn = Tryd.f9 := (Option.some.inj (Tryd.func9.symm.trans hfn)).symm
      exact ⟨by kernel_rfl, fun j t ht => by
        rw [Tryd.params9] at ht
        have hm : t ∈ [44] := by simpa using Array.mem_of_getElem? ht
        have hall : ([44].all fun u => !Tryd.prog.wantsStandIn u) = true := by kernel_rfl
        exact (show Tryd.prog.wantsStandIn t = false by simpa using List.all_eq_true.1 hall t hm)⟩)
    (by kernel_rfl)
#print axioms fnExactHopless_holds
end Go.Proofs.YtnkalamfekkmbaaDoor
