/-
  At every list of parts the law FnExactChunked returns true: the program's Chunked answers as the specification's, and its argument stays. The listed tables are tied to the library's text by the given tie; the proof reads one of them.
-/
import Derived.Test.YtbdnfajdpajfpaaDoorCards
import Derived.Test.YtbdnfajdpajfpaaDoorTie
import Derived.Test.YtbdnfajdpajfpaaDoorPrtO
import Derived.Test.YtbdnfajdpajfpaaDoorTabI
import Derived.WalkKit
import Derived.ProofKit
import Derived.OpenShut
import Derived.ShutString
import Derived.ChangeOld
import Derived.Below
import Derived.Carry
import Derived.Lay
import Derived.SevenTiedAt
namespace Go.Proofs.YtbdnfajdpajfpaaDoor
namespace LFnExactChunked
open Go.ChangeShapes Go.WideShapes Go.ChangeAt Go.RowKit
open Go.ChangeMaps (open_string shut_string)
set_option linter.unusedVariables false

theorem own : ownKnob Tryd.prog.godebug = none := by kernel_rfl
theorem laidOut : laidOutB Tryd.prog = true := by kernel_rfl

set_option maxHeartbeats 1000000 in
theorem walk (v : Value) (l : List ByteArray) (w : World) (hl : Strs w v l) (hz : ∀ p ∈ l, p.size ≤ maxLen) (ht : w.cell? ⟨2, 15, none⟩ = some (.int .u8 4) ∧ 2 < w.heap.size) :
    Calls Tryd.prog 4 #[v] w fun e w' => e = .returned (.bool true) ∧ Below w.heap.size w w' := by
  have hsz := lawSzS v l w hl hz
  by_cases hfit : l.length + sumP l ≤ 1048576
  · have h0 : 0 ≤ szP l := by rw [← szP_yes hfit]; omega
    have h0' : ¬ szP l < 0 := by omega
    have hs : sumP l ≤ 100000000 := by omega
    have hn : l.length ≤ 1048576 := by omega
    have HL : Hid (Strs w v l) := hl
    have HT : Hid _ := ht
    clear hl ht hz
    generalize szP l = z at hsz h0 h0'
    go_enter Tryd.func4, Tryd.ntmps4
    go_wp2_with fail
    refine hsz.mono ?_
    rintro e w1 ⟨rfl, hb1⟩
    have B1 : Hid (Below w.heap.size w w1) := hb1
    clear hb1 hsz
    go_wp2_with fail
    refine (lawToS v l _ (HL.out.kept B1.out) hn).mono ?_
    rintro e w2 ⟨u1, rfl, ho1, hb2⟩
    have B2 : Hid (Below w.heap.size w w2) := B1.out.trans (hb2.mono B1.out.size)
    have S1 : Hid (Strs w2 u1 l) := ho1.strs
    clear hb2 ho1 B1
    go_wp2_with fail
    refine (specCh u1 l _ S1.out hs).mono ?_
    rintro e w3 ⟨rfl, hb3⟩
    have B3 : Hid (Below w.heap.size w w3) := B2.out.trans (hb3.mono B2.out.size)
    clear hb3 B2 S1
    go_wp2_with fail
    refine (lawToS v l _ (HL.out.kept B3.out) hn).mono ?_
    rintro e w4 ⟨u2, rfl, ho2, hb4⟩
    have B4 : Hid (Below w.heap.size w w4) := B3.out.trans (hb4.mono B3.out.size)
    have S2 : Hid (Strs w4 u2 l) := ho2.strs
    clear hb4 ho2 B3
    go_wp2_with fail
    refine (implCh u2 l _ S2.out hs (cellG HT.out B4.out)).mono ?_
    rintro e w5 ⟨rfl, hb5⟩
    have B5 : Hid (Below w.heap.size w w5) := B4.out.trans (hb5.mono B4.out.size)
    have S3 : Hid (Strs w5 u2 l) := S2.out.kept hb5
    clear hb5 B4 S2
    go_wp2_with fail
    refine (lawToS v l _ (HL.out.kept B5.out) hn).mono ?_
    rintro e w6 ⟨u3, rfl, ho3, hb6⟩
    have B6 : Hid (Below w.heap.size w w6) := B5.out.trans (hb6.mono B5.out.size)
    have S4 : Hid (Strs w6 u2 l) := S3.out.kept hb6
    have S5 : Hid (Strs w6 u3 l) := ho3.strs
    clear hb6 ho3 B5 S3
    go_wp2_with fail
    refine (lawEqS u2 u3 l _ S4.out S5.out hn).mono ?_
    rintro e w7 ⟨rfl, q, rfl⟩
    clear S4 S5
    go_wp2
    go_ret
    exact ⟨rfl, ⟨B6.out.os, B6.out.tape, B6.out.output, B6.out.size, B6.out.block⟩⟩
  · have h0 : szP l = -1 := (szP_no hfit).symm
    rw [h0] at hsz
    clear hfit h0 hl hz ht
    go_enter Tryd.func4, Tryd.ntmps4
    go_wp2_with (go_at_call 13; refine hsz.mono ?_; rintro e w1 ⟨rfl, hb1⟩)
    go_ret
    exact ⟨rfl, hb1⟩

set_option maxRecDepth 100000 in
theorem lifted (os : Os) (started : os.Started) (H : Type) (enc : TypeId × Value → H) :
    ReturnsInHanded {} Tryd.checked os 4 .any (fun w args => (Rows.fnExactChunkedSpec.pre enc Tryd.prog Tryd.f4 [] false w args ∧ laidMetH Tryd.prog Rows.fnExactChunkedRow.laid w) ∧ sizedMet enc Tryd.prog Tryd.f4 (OpenSpec.ofChange Rows.fnExactChunkedSpec) false w args)
      (Rows.fnExactChunkedSpec.post enc Tryd.prog Tryd.f4 false true false false) := by
  refine returnsInHanded_of_change_and (C := Tryd.checked) (X := fun w _ => laidMetH Tryd.prog Rows.fnExactChunkedRow.laid w) (fun _ _ _ hh h => h.of_heap hh) own started (by kernel_rfl) Tryd.func4
    (ChangeSpec.witness_shaped (enc := enc) (C := Tryd.checked) (os := os) (X := fun w _ => laidMetH Tryd.prog Rows.fnExactChunkedRow.laid w) false (World.laidAll Tryd.prog os Rows.fnExactChunkedRow.laid) #[.slice none 0 0] 8 (World.laidAll_os _ _ _)
      (World.shaped_of_ZipB (by kernel_rfl) (by kernel_rfl)) (by kernel_rfl) (by kernel_rfl) (by kernel_rfl)
      (by rw [MakeChecks.laidMetH_plain _ _ _ (by kernel_rfl)]; exact laidMet_laidAll _ (by kernel_rfl) (by kernel_rfl))) ?_
  intro W base args ds gs before hval0 hW _ _ hL _
  have hval : ∀ (j : Nat) t v, Tryd.f4.params[j]? = some t → args[j]? = some v → Value.okWide Tryd.prog W .any base t v := hval0
  have hW' := hW
  obtain ⟨p, q, hA0, hV, rfl, hfz, hnd⟩ := hW
  have hA : DataW.TrodAll enc Tryd.prog W 0 (fun _ => true) true Tryd.f4.params.toList args.toList ds p := hA0
  rw [Tryd.params4] at hA hval
  obtain ⟨v0, vs0, d0, ds0, p0, q0, hargs, rfl, rfl, h0, r0⟩ := trodAll_cons hA
  obtain ⟨rfl, rfl, rfl⟩ := trodAll_nil r0
  obtain rfl : args = #[v0] := by cases args; simp_all
  obtain ⟨rfl, rfl⟩ := trodVars_none hV
  obtain ⟨sa0, sl0, sc0, rfl⟩ := okWide_slice Tryd.underlying24 (hval 0 24 v0 rfl rfl)
  have k0 := h0
  have lt0 : ∀ x ∈ p0, x.block < W.heap.size := by obtain ⟨m, hm⟩ := k0; exact DataW.trod_lt m _ _ _ hm
  obtain ⟨l0, wf0, wz0⟩ : ∃ l : List ByteArray, Strs W (.slice sa0 sl0 sc0) l ∧ ∀ p ∈ l, p.size ≤ maxLen := by
    obtain ⟨fuel, hf⟩ := h0
    exact open_strs hf
  clear hA0 hval0
  refine (walk (.slice sa0 sl0 sc0) l0 W wf0 wz0 (xch_laid hL)).mono fun e W' ⟨he, bel⟩ => ?_
  subst he
  exact ⟨_, rfl, _, _, _, [], _, [], hW', trodAll_mk1 (shut_bool Tryd.underlying4 _), (trodAll_cons_mk (Below.trod laidOut (by kernel_rfl) (of_decide_eq_true (by kernel_rfl)) k0 bel lt0) trodAll_mk0), rfl, bel.frame _, fun h => by cases h⟩

theorem over : Rows.fnExactChunkedRow.holds Tryd.pinned (OpenSpec.ofChange Rows.fnExactChunkedSpec) :=
  OpenClaim.holds_of_wide 4 Tryd.f4 rfl rfl rfl rfl rfl rfl rfl ⟨rfl, rfl, rfl, rfl, rfl⟩ rfl rfl rfl rfl rfl (by kernel_rfl) Tryd.func4 (by kernel_rfl)
    (of_decide_eq_true (by kernel_rfl)) (by unfold Func.isWrapper; first | (rw [if_pos (by decide +kernel)]; kernel_rfl) | (rw [if_neg (by decide +kernel)]; exact ⟨rfl, rfl⟩))
    (fun os started H enc _ => lifted os started H enc)
end LFnExactChunked

theorem fnExactChunked_holds : Rows.FnExactChunkedCardSaid :=
  Claim7.holds_tied_plain_at .later [] [.data, .data, .data] true (true, "a2778bb6c9a74f6ce2b36464805ef08b27ef1341ded20eca6ea359940a0d8b50") false LFnExactChunked.over (fun _ h => by cases h) (by kernel_rfl) (fun _ h => by cases h) fnExactChunked_row_tie rfl ⟨rfl, rfl⟩ (by kernel_rfl) rfl
    (fun f fn hf hfn => by
      obtain rfl : f = 4 := Option.some.inj ((show Tryd.prog.funcNamed "loop.example/g00207/laws.FnExactChunked" = some 4 by kernel_rfl).symm.trans hf) |>.symm
      obtain rfl : fn = Tryd.f4 := (Option.some.inj (Tryd.func4.symm.trans hfn)).symm
      exact ⟨by kernel_rfl, fun j t ht => by
        rw [Tryd.params4] at ht
        have hm : t ∈ [24] := by simpa using Array.mem_of_getElem? ht
        have hall : ([24].all fun u => !Tryd.prog.wantsStandIn u) = true := by kernel_rfl
        exact (show Tryd.prog.wantsStandIn t = false by simpa using List.all_eq_true.1 hall t hm)⟩)
    (by kernel_rfl)
#print axioms fnExactChunked_holds
end Go.Proofs.YtbdnfajdpajfpaaDoor
