/-
  FnExactRecords: at every disk Records answers as the specification, and its answer owns its memory. No condition.
-/
import Derived.Test.YtemmgfnepdgpbaaGreatDoorCards
import Derived.Test.YtemmgfnepdgpbaaGreatDoorTie
import Derived.Test.YtemmgfnepdgpbaaGreatDoorJ24
import Derived.Test.YtemmgfnepdgpbaaGreatDoorJ25
import Derived.WalkKit
import Derived.ProofKit
import Derived.OpenShut
import Derived.ShutString
import Derived.ChangeOld
import Derived.Below
import Derived.Carry
import Derived.Lay
import Derived.SevenTiedAt
namespace Go.Proofs.YtemmgfnepdgpbaaGreatDoor
namespace LFnExactRecords
open Go.ChangeShapes Go.WideShapes Go.ChangeAt Go.RowKit
open Go.ChangeMaps (open_string shut_string)
open Go.Extern.Stop Go.Stop Go.Extern
set_option linter.unusedVariables false

theorem own : ownKnob Tryz.prog.godebug = none := by kernel_rfl

theorem walk (a0 : ByteArray) (w : World) (w0 : a0.size ≤ maxLen) (hx : XsR w) :
    Calls Tryz.prog 5 #[.string a0] w fun e w' => e = .returned (.bool true) ∧ Below w.heap.size w w' :=
  walkRcsX XsR (fun w w' h hb => h.low hb) (fun d w hx hs => implRcs d w hx hs) a0 w w0 hx
/-- The settled world, the handle laid. -/
noncomputable def baseW (os : Os) : World :=
  let w0 := World.holding Tryz.prog os ⟨#[], #[], []⟩
  { w0 with heap := w0.heap.modify 1 fun
      | .cells _ t frozen => .cells #[.iface 158 (.agg #[.pointer (some ⟨8, 74, none⟩)])] t frozen
      | o => o }
/-- .. and all the other listed variables. -/
noncomputable def witW (os : Os) : World := (baseW os).layVars Tryz.prog lmP
theorem met_at {P : Program} {w0 : World} {laid : List (String × DataW Unit)} (args : Array Value)
    (hf : w0.layFits P laid [] = true) (hi : w0.layIfaces P laid (w0.layVars P laid) = true) : laidMet P laid ((w0.layVars P laid).forCall (fun _ _ => 0) ⟨#[], args, []⟩).memory := by
  have e1 : (laid.filter fun x => (laid.map (·.1)).contains x.1) = laid := List.filter_eq_self.2 fun x hx => List.contains_iff_mem.2 (List.mem_map.2 ⟨x, hx, rfl⟩)
  have e2 : (laid.filter fun x => !(laid.map (·.1)).contains x.1) = [] := List.filter_eq_nil_iff.2 fun x hx => by rw [List.contains_iff_mem.2 (List.mem_map.2 ⟨x, hx, rfl⟩)]; simp
  have h : laidMet P laid (w0.layVars P laid) := laidMet_layVars (w0 := w0) (laid.map (·.1)) [] (by rw [e1]) (by rw [e1]; exact hf) (by rw [e1]; exact hi) (by rw [e2]; exact LaidIn.none)
  exact h.of_heap (by simp [World.memory, World.forCall, Input.heap])
theorem witMet (os : Os) (args : Array Value) : laidMetH Tryz.prog lmR ((witW os).forCall (fun _ _ => 0) ⟨#[], args, []⟩).memory :=
  laidMetH_of_parts (by rw [lmR_plain]; exact met_at args (by kernel_rfl) (by kernel_rfl)) (by rw [lmR_hand]; kernel_rfl)
theorem var_low {W W' : World} {v : Value} (h : W.var? Tryz.prog "loop.example/g00207/impl.errNoRecord" = some #[v]) (hb : Below W.heap.size W W') : W'.var? Tryz.prog "loop.example/g00207/impl.errNoRecord" = some #[v] := by
  have hc : W.cell? ⟨0, 0, none⟩ = some v := by simpa using World.var?_cell gNo h 0
  unfold World.var? at h ⊢
  rw [gNo] at h ⊢
  simp only [Option.bind_some] at h ⊢
  rw [hb.block 0 (cell_ltS hc)]
  exact h

set_option maxRecDepth 100000 in
theorem lifted (os : Os) (started : os.Started) (H : Type) (enc : TypeId × Value → H) :
    ReturnsInHanded {} Tryz.checked os 5 .any (fun w args => (Rows.fnExactRecordsSpec.pre enc Tryz.prog Tryz.f5 [] false w args ∧ laidMetH Tryz.prog Rows.fnExactRecordsRow.laid w) ∧ sizedMet enc Tryz.prog Tryz.f5 (OpenSpec.ofChange Rows.fnExactRecordsSpec) false w args)
      (Rows.fnExactRecordsSpec.post enc Tryz.prog Tryz.f5 false true false false) := by
  refine returnsInHanded_of_calls own started (by kernel_rfl) (ChangeSpec.witness_shaped (enc := enc) (C := Tryz.checked) (os := os) (X := fun w _ => laidMetH Tryz.prog Rows.fnExactRecordsRow.laid w) false (witW os) #[.string ByteArray.empty] 8 (World.layVars_os _ _ _)
      (World.shaped_of_ZipB (by kernel_rfl) (by kernel_rfl)) (by kernel_rfl) (by kernel_rfl) (by kernel_rfl)
      (witMet os _)) ?_
  intro w0 tape i0 _ hsh _ hok0 hpre0 _
  obtain ⟨_, _, _, fn', hfn', _, _, _, _, hval0⟩ := hok0
  obtain rfl : fn' = Tryz.f5 := Option.some.inj (hfn'.symm.trans Tryz.func5)
  obtain ⟨⟨⟨ds, gs, before, hw0, _⟩, hL0⟩, _⟩ := hpre0
  have hL : laidMetH Tryz.prog Rows.fnExactRecordsRow.laid (w0.forCall tape i0) := hL0.of_heap (by rfl)
  clear hL0
  have hW := DataW.Whole.of_heap (w' := w0.forCall tape i0) (by rfl) hw0
  obtain ⟨mx, hmx⟩ := Tryz.maxLen_cell _ hsh
  clear hsh hw0
  refine Calls.mono (R := fun e W' => ∃ v, e = .returned v ∧ Rows.fnExactRecordsSpec.post enc Tryz.prog Tryz.f5 false true false false (w0.forCall tape i0) i0.args v W') ?_ fun e W' ⟨v, he, hp⟩ => by subst he; exact ChangeSpec.post_blind hp
  generalize w0.forCall tape i0 = W at hW hval0 hmx hL ⊢
  generalize i0.args = args at hW hval0 ⊢
  generalize w0.heap.size = base at hval0
  have hval : ∀ (j : Nat) t v, Tryz.f5.params[j]? = some t → args[j]? = some v → Value.okWide Tryz.prog W .any base t v := hval0
  have hW' := hW
  obtain ⟨p, q, hA0, hV, rfl, hfz, hnd⟩ := hW
  have hA : DataW.TrodAll enc Tryz.prog W 0 (fun _ => true) true Tryz.f5.params.toList args.toList ds p := hA0
  rw [Tryz.params5] at hA hval
  obtain ⟨v0, vs0, d0, ds0, p0, q0, hargs, rfl, rfl, h0, r0⟩ := trodAll_cons hA
  obtain ⟨rfl, rfl, rfl⟩ := trodAll_nil r0
  obtain rfl : args = #[v0] := by cases args; simp_all
  obtain ⟨hTB, ⟨na, hva⟩, hTY⟩ := records_laid hL
  have hV2 : DataW.TrodVars enc Tryz.prog W (fun _ => true) ["loop.example/g00207/impl.errNoRecord"] gs q := hV
  obtain ⟨rfl, rfl⟩ := hV2.unique (vars_read1 enc gNo gNoT Tryz.underlying74 hva trivial _)
  have hno : W.cell? ⟨0, 0, none⟩ = some (.iface 216 (.pointer (some na))) := by simpa using World.var?_cell gNo hva 0
  obtain ⟨a0, rfl, rfl, rfl, w0⟩ := open_string Tryz.underlying9 (hval 0 9 v0 rfl rfl) h0
  clear hA0 hval0
  refine (walk a0 W w0 ⟨⟨mx, hmx⟩, hTB, ⟨na, hno⟩, hTY⟩).mono fun e W' ⟨he, bel⟩ => ?_
  subst he
  exact ⟨_, rfl, _, _, _, [], _, [.cell 0 0], hW', trodAll_mk1 (shut_bool Tryz.underlying4 _), (trodAll_cons_mk (shut_string Tryz.underlying9 w0) trodAll_mk0), vars_read1 enc gNo gNoT Tryz.underlying74 (var_low hva bel) trivial _, bel.frame _, fun h => by cases h⟩

theorem over : Rows.fnExactRecordsRow.holds Tryz.pinned (OpenSpec.ofChange Rows.fnExactRecordsSpec) :=
  OpenClaim.holds_of_wide 5 Tryz.f5 rfl rfl rfl rfl rfl rfl rfl ⟨rfl, rfl, rfl, rfl, rfl⟩ rfl rfl rfl rfl rfl (by kernel_rfl) Tryz.func5 (by kernel_rfl)
    (of_decide_eq_true (by kernel_rfl)) (by unfold Func.isWrapper; first | (rw [if_pos (by decide +kernel)]; kernel_rfl) | (rw [if_neg (by decide +kernel)]; exact ⟨rfl, rfl⟩))
    (fun os started H enc _ => lifted os started H enc)
end LFnExactRecords

theorem fnExactRecords_holds : Rows.FnExactRecordsCardSaid :=
  Claim7.holds_tied_plain_at .later [] [.data, .data, .data, .data, .handle, .sentinel, .pinned] true (true, "1a03ff84d6edf9460cf350daddaaae082c1a213646170e7b3393740a1dfb2b5f") true LFnExactRecords.over (fun _ h => by cases h) (by kernel_rfl) (fun _ h => by cases h) fnExactRecords_row_tie rfl ⟨rfl, rfl⟩ (by kernel_rfl) rfl
    (fun f fn hf hfn => by
      obtain rfl : f = 5 := Option.some.inj ((show Tryz.prog.funcNamed "loop.example/g00207/laws.FnExactRecords" = some 5 by kernel_rfl).symm.trans hf) |>.symm
      obtain rfl : fn = Tryz.f5 := (Option.some.inj (Tryz.func5.symm.trans hfn)).symm
      exact ⟨by kernel_rfl, fun j t ht => by
        rw [Tryz.params5] at ht
        have hm : t ∈ [9] := by simpa using Array.mem_of_getElem? ht
        have hall : ([9].all fun u => !Tryz.prog.wantsStandIn u) = true := by kernel_rfl
        exact (show Tryz.prog.wantsStandIn t = false by simpa using List.all_eq_true.1 hall t hm)⟩)
    (by kernel_rfl)
#print axioms fnExactRecords_holds
end Go.Proofs.YtemmgfnepdgpbaaGreatDoor
