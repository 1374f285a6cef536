/-
  At every code the law FnChunked returns true: a body is unchunked from its chunks, however it was cut into parts, and whatever stands behind them; no part of them is. The listed tables are tied to the library's text by the given tie; the proof reads one of them.
-/
import Derived.Test.YtbdnfajdpajfpaaDoorCards
import Derived.Test.YtbdnfajdpajfpaaDoorTie
import Derived.Test.YtbdnfajdpajfpaaDoorFnW
import Derived.Test.YtbdnfajdpajfpaaDoorPrtO
import Derived.Test.YtbdnfajdpajfpaaDoorTabI
import Derived.WalkKit
import Derived.ProofKit
import Derived.OpenShut
import Derived.ShutString
import Derived.ChangeOld
import Derived.Below
import Derived.Carry
import Derived.Lay
import Derived.SevenTiedAt
namespace Go.Proofs.YtbdnfajdpajfpaaDoor
namespace LFnChunked
open Go.ChangeShapes Go.WideShapes Go.ChangeAt Go.RowKit
open Go.ChangeMaps (open_string shut_string)
set_option linter.unusedVariables false

theorem own : ownKnob Tryd.prog.godebug = none := by kernel_rfl
theorem laidOut : laidOutB Tryd.prog = true := by kernel_rfl

set_option maxHeartbeats 4000000 in
set_option maxRecDepth 100000 in
theorem walk (sa : Option Addr) (sl sc : Nat) (zs : List Int) (w : World) (hrow : IsRow w sa sl sc zs) (ht : w.cell? ⟨2, 15, none⟩ = some (.int .u8 4) ∧ 2 < w.heap.size) :
    Calls Tryd.prog 3 #[.slice sa sl sc] w fun e w' => e = .returned (.bool true) ∧ Below w.heap.size w w' := by
  have hlen := hrow.len
  by_cases hbig : 4096 < sl
  · go_enter Tryd.func3, Tryd.ntmps3
    go_wp2_with fail
    refine (isBig _ _ _ _ hbig hlen).mono ?_
    rintro e x ⟨rfl, rfl⟩
    go_wp2
    go_ret
    exact ⟨rfl, Below.refl _ _⟩
  have hl : sl ≤ 4096 := by omega
  have HC : Hid (Code8 w w.heap.size sa sl) := hrow.code.code
  have HT : Hid _ := ht
  clear hrow hlen hbig ht
  go_enter Tryd.func3, Tryd.ntmps3
  go_wp2_with fail
  refine (notBig _ _ _ _ hl).mono ?_
  rintro e x ⟨rfl, rfl⟩
  go_wp2_with fail
  refine (drawChunked _ _ _ _ HC.out hl).mono ?_
  rintro e w1 ⟨u, l, rfl, ho, hl1, hs1, hb1⟩
  have B1 : Hid (Below w.heap.size w w1) := hb1
  have S1 : Hid (Strs w1 u l) := ho.strs
  clear ho hb1
  go_wp2_with fail
  refine (implCh u l _ S1.out (by omega) (cellG HT.out B1.out)).mono ?_
  rintro e w2 ⟨rfl, hb2⟩
  have B2 : Hid (Below w.heap.size w w2) := B1.out.trans (hb2.mono B1.out.size)
  have S2 : Hid (Strs w2 u l) := S1.out.kept hb2
  clear hb2 B1 S1
  go_wp2_with fail
  refine (drawUnchunked _ _ _ _ (code8_onp HC.out B2.out) hl).mono ?_
  rintro e w3 ⟨t, rfl, htz, hb3⟩
  have B3 : Hid (Below w.heap.size w w3) := B2.out.trans (hb3.mono B2.out.size)
  have S3 : Hid (Strs w3 u l) := S2.out.kept hb3
  clear hb3 B2 S2
  have hU1 : Hid (∀ w, Calls Tryd.prog 9 #[.string t] w fun e w' => e = .returned (unV t.data.toList) ∧ Below w.heap.size w w') := fun w => implUn t w (by omega)
  have hU2 : Hid (∀ w, Calls Tryd.prog 10 #[.string t] w fun e w' => e = .returned (unV t.data.toList) ∧ Below w.heap.size w w') := fun w => specUn t w (by omega)
  obtain ⟨us, un, ur, hform⟩ := unV_form t.data.toList
  rw [hform] at hU1 hU2
  clear hform
  go_wp2_with fail
  refine (hU1.out _).mono ?_
  rintro e w4 ⟨rfl, hb4⟩
  have B4 : Hid (Below w.heap.size w w4) := B3.out.trans (hb4.mono B3.out.size)
  have S4 : Hid (Strs w4 u l) := S3.out.kept hb4
  clear hb4 B3 S3 hU1
  go_wp2_with fail
  refine (hU2.out _).mono ?_
  rintro e w5 ⟨rfl, hb5⟩
  have B5 : Hid (Below w.heap.size w w5) := B4.out.trans (hb5.mono B4.out.size)
  have S5 : Hid (Strs w5 u l) := S4.out.kept hb5
  clear hb5 B4 S4 hU2
  go_wp2_with fail
  refine (specCh u l _ S5.out (by omega)).mono ?_
  rintro e w6 ⟨rfl, hb6⟩
  have B6 : Hid (Below w.heap.size w w6) := B5.out.trans (hb6.mono B5.out.size)
  have S6 : Hid (Strs w6 u l) := S5.out.kept hb6
  clear hb6 B5 S5
  have hsz := chA_size l
  by_cases h0 : (chA l).size = 0
  · have e1 := void5 h0
    have e2 : (chA l).toList.isEmpty = true := by rw [e1]; rfl
    go_wp2
    go_ret
    exact ⟨rfl, B6.out⟩
  have e1 := full5 h0
  have e2 : (chA l).toList.isEmpty = false := by simpa using e1
  have HW : Hid (fewP l) := chA_few h0
  have hR1 : Hid (∀ w, Calls Tryd.prog 9 #[.string (chA l ++ (⟨#[48, 120]⟩ : ByteArray))] w fun e w' => e = .returned (.tuple #[.string (catP l), .int .i64 ((chA l).size : Int), .bool true]) ∧ Below w.heap.size w w') := fun w => readBack l HW.out _ (by decide) w
  have hR2 : Hid (∀ k, k < (chA l).size → ∀ w, Calls Tryd.prog 9 #[.string ((chA l).extract 0 k)] w fun e w' => e = .returned (.tuple #[.string ⟨#[]⟩, .int .i64 0, .bool false]) ∧ Below w.heap.size w w') := fun k hk w => readPartC l HW.out k hk w
  have hR3 : Hid (∀ w, Calls Tryd.prog 9 #[.string (chA [catP l])] w fun e w' => e = .returned (.tuple #[.string (catP l), .int .i64 ((chA [catP l]).size : Int), .bool true]) ∧ Below w.heap.size w w') := fun w => readOne l HW.out w
  have hO : Hid (∀ w, Strs w (.slice (some ⟨w.heap.size - 1, 0, none⟩) 1 1) [catP l] → (w.cell? ⟨2, 15, none⟩ = some (.int .u8 4) ∧ 2 < w.heap.size) → Calls Tryd.prog 7 #[.slice (some ⟨w.heap.size - 1, 0, none⟩) 1 1] w fun e w' => e = .returned (.string (chA [catP l])) ∧ Below w.heap.size w w') := fun w h1 h2 => implCh _ _ w h1 (by have h3 := catP_size l; rw [sumP_cons]; simp [sumP] at h3 hs1 ⊢; omega) h2
  have hcz := catP_size l
  generalize hsd : chA l = s at e1 e2 h0 hsz hR1 hR2
  generalize chA [catP l] = s1 at hR3 hO
  obtain ⟨a6, cap6, hu6, g1, g2, g3⟩ := S6.out
  subst hu6
  have HS : Hid _ := g3
  unfold maxLen at g2
  clear g3 hsd S6
  go_wp2
  go_loop [12, 13] (fun x i => ∃ k : Nat, i = .int .i64 k ∧ k ≤ l.length ∧ x = .string (catP (l.take k))) (fun _ i => l.length - (intOf i).toNat)
  case atStart => exact ⟨0, rfl, Nat.zero_le _, rfl⟩
  case round =>
    obtain ⟨k, rfl, hk, rfl⟩ := hrel
    by_cases hlt : k < l.length
    · obtain ⟨g, o, rfl, hg, hc⟩ := HS.out (by omega)
      have c1 := hc k hlt
      have hnx : Hid (catP (l.take (k + 1)) = catP (l.take k) ++ l[k]) := catP_take hlt
      have z1 := catP_size (l.take k)
      have z2 := sumP_take l (k + 1)
      have z3 := sumP_next hlt
      have q1 : ¬ 9223372036854775807 < (catP (l.take k)).size + l[k].size := by omega
      generalize hc1 : catP (l.take (k + 1)) = c2 at hnx
      generalize catP (l.take k) = c0 at hnx q1 z1
      clear hc z1 z2 z3
      go_wp2
      go_round
      case rel => exact ⟨k + 1, by go_num, by omega, by rw [hc1, show c2 = c0 ++ l[k] from hnx.out]⟩
      case measure => simp [intOf]; omega
    · obtain rfl : k = l.length := by omega
      rw [List.take_length]
      have z1 : (s ++ (⟨#[48, 120]⟩ : ByteArray)).size = s.size + 2 := by rw [ByteArray.size_append]; rfl
      have q1 : ¬ 9223372036854775807 < s.size + 2 := by omega
      generalize catP l = all at hR1 hR3 hO hcz
      go_wp2_with fail
      refine (hR1.out _).mono ?_
      rintro e w7 ⟨rfl, hb7⟩
      have B7 : Hid (Below w.heap.size w w7) := B6.out.trans (hb7.mono B6.out.size)
      clear hb7 B6 hR1 z1 q1
      go_wp2_with fail
      refine (pick5 _ _ _ s.size (by omega) (by omega) _ (code8_onp HC.out B7.out) hl).mono ?_
      rintro e w8 ⟨⟨r, rfl, hr⟩, rfl⟩
      have f1 : (s.size : Int) - 1 - (r : Int) = ((s.size - 1 - r : Nat) : Int) := by omega
      have f2 : ((s.size : Int) - 1 - (r : Int)).toNat = s.size - 1 - r := by omega
      have f3 : 0 ≤ (s.size : Int) - 1 - (r : Int) := by omega
      have f4 : (s.size : Int) - 1 - (r : Int) ≤ (s.size : Int) := by omega
      go_wp2_with fail
      refine (hR2.out (s.size - 1 - r) (by omega) _).mono ?_
      rintro e w9 ⟨rfl, hb9⟩
      have B9 : Hid (Below w.heap.size w w9) := B7.out.trans (hb9.mono B7.out.size)
      clear hb9 B7 hR2 f1 f2 f3 f4
      have BA : Hid (Below w.heap.size w (w9.alloc (.cells #[.string all] 9))) := B9.out.alloc B9.out.size _
      have hO2 := hO.out (w9.alloc (.cells #[.string all] 9)) (by
        have := strs_one w9 all
        rw [show (w9.alloc (.cells #[.string all] 9)).heap.size - 1 = w9.heap.size by simp]
        exact this) (cellG HT.out BA.out)
      rw [show (w9.alloc (.cells #[.string all] 9)).heap.size - 1 = w9.heap.size by simp] at hO2
      clear hO B9
      go_wp2_with fail
      refine hO2.mono ?_
      rintro e wa ⟨rfl, hba⟩
      have BB : Hid (Below w.heap.size w wa) := BA.out.trans (hba.mono BA.out.size)
      clear hba BA hO2
      go_wp2_with fail
      refine (hR3.out _).mono ?_
      rintro e wb ⟨rfl, hbb⟩
      have BC : Hid (Below w.heap.size w wb) := BB.out.trans (hbb.mono BB.out.size)
      clear hbb BB hR3
      go_wp2
      go_ret
      exact ⟨by first | rfl | simp, BC.out⟩

set_option maxRecDepth 100000 in
theorem lifted (os : Os) (started : os.Started) (H : Type) (enc : TypeId × Value → H) :
    ReturnsInHanded {} Tryd.checked os 3 .any (fun w args => (Rows.fnChunkedSpec.pre enc Tryd.prog Tryd.f3 [] false w args ∧ laidMetH Tryd.prog Rows.fnChunkedRow.laid w) ∧ sizedMet enc Tryd.prog Tryd.f3 (OpenSpec.ofChange Rows.fnChunkedSpec) false w args)
      (Rows.fnChunkedSpec.post enc Tryd.prog Tryd.f3 false true false false) := by
  refine returnsInHanded_of_change_and (C := Tryd.checked) (X := fun w _ => laidMetH Tryd.prog Rows.fnChunkedRow.laid w) (fun _ _ _ hh h => h.of_heap hh) own started (by kernel_rfl) Tryd.func3
    (ChangeSpec.witness_shaped (enc := enc) (C := Tryd.checked) (os := os) (X := fun w _ => laidMetH Tryd.prog Rows.fnChunkedRow.laid w) false (World.laidAll Tryd.prog os Rows.fnChunkedRow.laid) #[.slice none 0 0] 8 (World.laidAll_os _ _ _)
      (World.shaped_of_ZipB (by kernel_rfl) (by kernel_rfl)) (by kernel_rfl) (by kernel_rfl) (by kernel_rfl)
      (by rw [MakeChecks.laidMetH_plain _ _ _ (by kernel_rfl)]; exact laidMet_laidAll _ (by kernel_rfl) (by kernel_rfl))) ?_
  intro W base args ds gs before hval0 hW _ _ hL _
  have hval : ∀ (j : Nat) t v, Tryd.f3.params[j]? = some t → args[j]? = some v → Value.okWide Tryd.prog W .any base t v := hval0
  have hW' := hW
  obtain ⟨p, q, hA0, hV, rfl, hfz, hnd⟩ := hW
  have hA : DataW.TrodAll enc Tryd.prog W 0 (fun _ => true) true Tryd.f3.params.toList args.toList ds p := hA0
  rw [Tryd.params3] at hA hval
  obtain ⟨v0, vs0, d0, ds0, p0, q0, hargs, rfl, rfl, h0, r0⟩ := trodAll_cons hA
  obtain ⟨rfl, rfl, rfl⟩ := trodAll_nil r0
  obtain rfl : args = #[v0] := by cases args; simp_all
  obtain ⟨rfl, rfl⟩ := trodVars_none hV
  obtain ⟨sa, sl, sc, rfl⟩ := okWide_slice Tryd.underlying22 (hval 0 22 v0 rfl rfl)
  have k0 := h0
  have lt0 : ∀ x ∈ p0, x.block < W.heap.size := by obtain ⟨m, hm⟩ := k0; exact DataW.trod_lt m _ _ _ hm
  obtain ⟨z0, w0⟩ : ∃ zs, IsRow W sa sl sc zs := by
    obtain ⟨fuel, hf⟩ := h0
    rcases open_ints Tryd.underlying22 Tryd.underlying5 (by kernel_rfl) hf with ⟨hcs, _⟩ | ⟨x, l, c, zs, hcs, _, hl, hm, hz, _, hcell, hwz⟩
    · simp [Value.cells] at hcs
      obtain ⟨rfl, rfl, rfl⟩ := hcs
      exact ⟨[], .inl ⟨rfl, rfl, rfl, rfl⟩⟩
    · simp [Value.cells] at hcs
      obtain ⟨rfl, rfl, rfl⟩ := hcs
      exact ⟨zs, .inr ⟨_, rfl, hl, hm, by simpa using hz, hcell, hwz⟩⟩
  clear hA0 hval0
  refine (walk sa sl sc z0 W w0 (chk_laid hL)).mono fun e W' ⟨he, bel⟩ => ?_
  subst he
  exact ⟨_, rfl, _, _, _, [], _, [], hW', trodAll_mk1 (shut_bool Tryd.underlying4 _), (trodAll_cons_mk (Below.trod laidOut (by kernel_rfl) (of_decide_eq_true (by kernel_rfl)) k0 bel lt0) trodAll_mk0), rfl, bel.frame _, fun h => by cases h⟩

theorem over : Rows.fnChunkedRow.holds Tryd.pinned (OpenSpec.ofChange Rows.fnChunkedSpec) :=
  OpenClaim.holds_of_wide 3 Tryd.f3 rfl rfl rfl rfl rfl rfl rfl ⟨rfl, rfl, rfl, rfl, rfl⟩ rfl rfl rfl rfl rfl (by kernel_rfl) Tryd.func3 (by kernel_rfl)
    (of_decide_eq_true (by kernel_rfl)) (by unfold Func.isWrapper; first | (rw [if_pos (by decide +kernel)]; kernel_rfl) | (rw [if_neg (by decide +kernel)]; exact ⟨rfl, rfl⟩))
    (fun os started H enc _ => lifted os started H enc)
end LFnChunked

theorem fnChunked_holds : Rows.FnChunkedCardSaid :=
  Claim7.holds_tied_plain_at .later [] [.data, .data, .data] true (true, "a2778bb6c9a74f6ce2b36464805ef08b27ef1341ded20eca6ea359940a0d8b50") false LFnChunked.over (fun _ h => by cases h) (by kernel_rfl) (fun _ h => by cases h) fnChunked_row_tie rfl ⟨rfl, rfl⟩ (by kernel_rfl) rfl
    (fun f fn hf hfn => by
      obtain rfl : f = 3 := Option.some.inj ((show Tryd.prog.funcNamed "loop.example/g00207/laws.FnChunked" = some 3 by kernel_rfl).symm.trans hf) |>.symm
      obtain rfl : fn = Tryd.f3 := (Option.some.inj (Tryd.func3.symm.trans hfn)).symm
      exact ⟨by kernel_rfl, fun j t ht => by
        rw [Tryd.params3] at ht
        have hm : t ∈ [22] := by simpa using Array.mem_of_getElem? ht
        have hall : ([22].all fun u => !Tryd.prog.wantsStandIn u) = true := by kernel_rfl
        exact (show Tryd.prog.wantsStandIn t = false by simpa using List.all_eq_true.1 hall t hm)⟩)
    (by kernel_rfl)
#print axioms fnChunked_holds
end Go.Proofs.YtbdnfajdpajfpaaDoor
