/-
  The laws' heldReplicaS.
  Numbers that the library hands on one by one and gathers (slices.Values, slices.Collect at int64).
  What is a right message, and so many servers: the specification's, by contract.
-/
import Derived.Test.YtdkhdjickkcaiaaRN13
import Derived.Test.YtdkhdjickkcaiaaRN03
import Derived.Test.YtdkhdjickkcaiaaRN10
import Derived.RangeFuncNested
import Derived.RangeFuncBound
import Derived.RangeFuncCalls
import Derived.RangeFuncLeaves
import Derived.RangeFuncBox
import Derived.Shelf.Abstract
import Derived.WalkKit
import Derived.OwnWalkIn
import Derived.TacticsInMore
import Derived.LoopNIn
import Derived.LoopIn
import Derived.Test.YtdkhdjickkcaiaaRN09
import Derived.Test.YtdkhdjickkcaiaaRN06
import Derived.Test.YtdkhdjickkcaiaaRows
import Derived.Test.YtdkhdjickkcaiaaRN01
import Derived.WalkSpells
import Derived.Test.YtdkhdjickkcaiaaRN07
import Derived.Laws.RangeAny
import Derived.Below
import Derived.Deep.RegionWith
import Derived.Deep.DeepCutAuto
namespace Go.Proofs.Ytdkhdjickkcaiaa.Rl
open Go.RowKit Go.Sort
set_option linter.unusedVariables false
set_option linter.unusedSimpArgs false

theorem mkRs_at (s : Nat) (T : List Rx) (k : Nat) (h : k < T.length) (h' : k < (mkRs s T).length) : (mkRs s T)[k] = mkR1 (s + cRs (T.take k)) T[k] := by
  have e := mkQ_next s T k h
  have e2 : (mkRs s T)[k]? = (mkQ s T (k + 1))[k]? := by
    unfold mkQ
    rw [List.getElem?_append_left (by rw [mkRs_length, List.length_take]; omega)]
    conv => lhs; rw [← List.take_append_drop (k + 1) T, mkRs_append]
    rw [List.getElem?_append_left (by rw [mkRs_length, List.length_take]; omega)]
  rw [← e, List.getElem?_set_self (by rw [mkQ_length _ _ _ (by omega)]; exact h), List.getElem?_eq_getElem h'] at e2
  exact Option.some.inj e2
set_option maxRecDepth 100000 in
set_option maxHeartbeats 64000000 in
theorem heldRps (s : Nat) (hs1 : 1 ≤ s) (v : Value) (L : List Rx) (hs2 : s + cRs L ≤ 50000000) (w : World) (h : RsGot w v (mkRs s L)) (ht : ∀ x ∈ L, x.T.map (·.m) = x.r.te) (hf : ∀ x ∈ L, Fit x.r) (hn : L.length ≤ 1048576) :
    Calls Try.prog 36 #[v, .int .i64 (s : Int)] w fun e w' => e = .returned (.int .i64 ((s : Int) + (cRs L : Int))) ∧ Below w.heap.size w w' := by
  have HH : Hid (RsGot w v (mkRs s L)) := h
  have hml := mkRs_length s L
  obtain ⟨⟨a, cap, rfl, _⟩, _⟩ := h
  have HF : Hid (∀ x ∈ L, Fit x.r) := hf
  have HT0 : Hid (∀ x ∈ L, x.T.map (·.m) = x.r.te) := ht
  rw [hml] at HH ⊢
  have HML : Hid ((mkRs s L).length = L.length) := hml
  clear hf ht hml
  go_enter Try.func36, Try.ntmps36
  go_wp2
  go_loopw [1, 5] (fun m i wr => ∃ k : Nat, k ≤ L.length ∧ i = .int .i64 k ∧ m = .int .i64 ((s : Int) + (cRs (L.take k) : Int)) ∧ Hid (Below w.heap.size w wr)) (fun _ i _ => L.length - (intOf i).toNat)
  case atStart => exact ⟨0, Nat.zero_le _, rfl, by simp [cRs], (show Hid _ from Below.refl _ _)⟩
  case round =>
    obtain ⟨k, hk, rfl, rfl, hb⟩ := hrel
    by_cases hlt : k < L.length
    · have H2 := HH.out.kept hb.out
      obtain ⟨g, q, rfl⟩ := rxAt H2.1 (by rw [HML.out]; omega)
      have hkm : k < (mkRs s L).length := by rw [HML.out]; exact hlt
      have CK := rxCells H2.1 hkm
      have hob := H2.2 _ (List.getElem_mem hkm)
      rw [mkRs_at s L k hlt hkm] at CK hob
      have HCT : Hid (cRs (L.take (k + 1)) = cRs (L.take k) + cRx L[k]) := cRs_next hlt
      have hup : cRs (L.take (k + 1)) ≤ cRs L := cRs_le L (k + 1)
      have hup2 : cRs (L.take k) + cRx L[k] ≤ cRs L := by have := HCT.out; omega
      have hki : (k : Int) < (L.length : Int) := by omega
      have hfx := HF.out L[k] (List.getElem_mem hlt)
      have htx := HT0.out L[k] (List.getElem_mem hlt)
      have hcr : cR L[k].r = L[k].r.l.length + L[k].r.ok.length + L[k].r.ch.length + cT L[k].T := by unfold cR; rw [show cT L[k].T = _ from cT_of htx]
      have HCR : Hid (cRx L[k] = 6 + (L[k].r.l.length + L[k].r.ok.length + L[k].r.ch.length + cT L[k].T)) := by show _ = _; unfold cRx; rw [hcr]
      obtain ⟨n0, hn0⟩ : ∃ n, n = s + cRs (L.take k) := ⟨_, rfl⟩
      have hn0i : (s : Int) + (cRs (L.take k) : Int) = (n0 : Int) := by omega
      have HN0 : Hid (n0 = s + cRs (L.take k)) := hn0
      rw [hn0i]
      rw [← hn0] at CK hob
      have hn1 : 1 ≤ n0 := by omega
      have hn2 : n0 + (6 + (L[k].r.l.length + L[k].r.ok.length + L[k].r.ch.length + cT L[k].T)) ≤ 50000000 := by have := HCR.out; omega
      clear hup hup2 hn0 hn0i hcr H2
      generalize L[k] = x at *
      obtain ⟨⟨xi, xp, xv, xn, xla, xl, xc, xok, xch, xte⟩, la, lc, oa, oc, ca, cc, ta, tc, T⟩ := x
      simp only at hn2 hfx htx
      have hol : Sls txtE wr (.slice la (marksX (n0 + 5) xl.length).length lc) (marksX (n0 + 5) xl.length) := hob.l
      have hoo : Sls intE wr (.slice oa (marksU (n0 + 6 + xl.length) xok.length).length oc) (marksU (n0 + 6 + xl.length) xok.length) := hob.ok
      have hoc : Sls intE wr (.slice ca (marksU (n0 + 6 + xl.length + xok.length) xch.length).length cc) (marksU (n0 + 6 + xl.length + xok.length) xch.length) := hob.ch
      have hot : TeGot wr (.slice ta ((mkTe (n0 + 6 + xl.length + xok.length + xch.length) T).map (·.m)).length tc) (mkTe (n0 + 6 + xl.length + xok.length + xch.length) T) := hob.te
      rw [marksX_length] at hol
      rw [marksU_len] at hoo hoc
      rw [List.length_map, mkTe_length] at hot
      obtain ⟨c0, c1, c2, c3, c4, c5, c6, c7, c8, c9⟩ := CK
      simp only [mkR1, mkTb, marksX_length, marksU_len, List.length_map, mkTe_length] at c0 c1 c2 c3 c4 c5 c6 c7 c8 c9
      have hlT : T.length = xte.length := by rw [← htx, List.length_map]
      have hl1 := hfx.l.1
      have hl2 := hfx.ok
      have hl3 := hfx.ch
      have hl4 : T.length ≤ 1048576 := by rw [hlT]; exact hfx.te.1
      have HL5 : Hid (∀ x ∈ T, x.m.l.length ≤ 1048576) := fun x hx => (hfx.te.2 _ (by show x.m ∈ xte; rw [← htx]; exact List.mem_map_of_mem hx)).1
      simp only at hl1 hl2 hl3
      obtain ⟨N0, hN0⟩ : ∃ N : Int, N = (n0 : Int) := ⟨_, rfl⟩
      obtain ⟨N1, hN1⟩ : ∃ N : Int, N = (n0 : Int) + 1 := ⟨_, rfl⟩
      obtain ⟨N2, hN2⟩ : ∃ N : Int, N = (n0 : Int) + 2 := ⟨_, rfl⟩
      obtain ⟨N3, hN3⟩ : ∃ N : Int, N = (n0 : Int) + 3 := ⟨_, rfl⟩
      obtain ⟨N4, hN4⟩ : ∃ N : Int, N = (n0 : Int) + 4 := ⟨_, rfl⟩
      obtain ⟨N5, hN5⟩ : ∃ N : Int, N = (n0 : Int) + 5 := ⟨_, rfl⟩
      obtain ⟨N6, hN6⟩ : ∃ N : Int, N = N5 + (xl.length : Int) := ⟨_, rfl⟩
      obtain ⟨N7, hN7⟩ : ∃ N : Int, N = N6 + 1 := ⟨_, rfl⟩
      obtain ⟨N8, hN8⟩ : ∃ N : Int, N = N7 + (xok.length : Int) := ⟨_, rfl⟩
      obtain ⟨N9, hN9⟩ : ∃ N : Int, N = N8 + (xch.length : Int) := ⟨_, rfl⟩
      obtain ⟨NA, hNA⟩ : ∃ N : Int, N = N9 + (cT T : Int) := ⟨_, rfl⟩
      have HN : Hid (NA = (n0 : Int) + (6 + (xl.length + xok.length + xch.length + cT T : Nat) : Nat)) := (show _ = _ by omega)
      have ew1 : wrap64 (N0 + 1) = N1 := by unfold wrap64; omega
      have ew2 : wrap64 (N1 + 1) = N2 := by unfold wrap64; omega
      have ew3 : wrap64 (N2 + 1) = N3 := by unfold wrap64; omega
      have ew4 : wrap64 (N3 + 1) = N4 := by unfold wrap64; omega
      have ew5 : wrap64 (N4 + 1) = N5 := by unfold wrap64; omega
      have ew6 : wrap64 (N6 + 1) = N7 := by unfold wrap64; omega
      have j1 := fun W hW => heldTxt (n0 + 5) (by omega) (by omega) (.slice la xl.length lc) xl.length W hW hl1
      have j2 := fun W hW => heldNu (n0 + 6 + xl.length) (by omega) (.slice oa xok.length oc) xok.length W hW hl2
      have j3 := fun W hW => heldNu (n0 + 6 + xl.length + xok.length) (by omega) (.slice ca xch.length cc) xch.length W hW hl3
      have j4 := fun W hW => heldMsS (n0 + 6 + xl.length + xok.length + xch.length) (by omega) (.slice ta T.length tc) T (by omega) W hW HL5.out hl4
      rw [show ((n0 + 5 : Nat) : Int) = N5 from by omega, ← hN6] at j1
      rw [show ((n0 + 6 + xl.length : Nat) : Int) = N7 from by omega, ← hN8] at j2
      rw [show ((n0 + 6 + xl.length + xok.length : Nat) : Int) = N8 from by omega, ← hN9] at j3
      rw [show ((n0 + 6 + xl.length + xok.length + xch.length : Nat) : Int) = N9 from by omega, ← hNA] at j4
      obtain ⟨b3, hb3⟩ : ∃ b : Bool, (Int.tmod N3 3 == 0) = b := ⟨_, rfl⟩
      have hb4 : nB n0 = b3 := by rw [← hb3, hN3]; rfl
      rw [hb4] at c3
      rw [← hN0] at c0 ⊢
      rw [← hN1] at c1
      rw [← hN2] at c2
      rw [← hN4] at c4
      rw [← hN5, ← hN6] at c6
      have d0 : (N0 != N0) = false := by simp
      have d1 : (N1 != N1) = false := by simp
      have d2 : (N2 != N2) = false := by simp
      have d3 : (b3 != b3) = false := by simp
      have d4 : (N4 != N4) = false := by simp
      have d6 : (N6 != N6) = false := by simp
      have m6 : ¬ N6 < 0 := by omega
      have m8 : ¬ N8 < 0 := by omega
      have m9 : ¬ N9 < 0 := by omega
      have mA : ¬ NA < 0 := by omega
      have OL : Hid (Sls txtE wr (.slice la xl.length lc) (marksX (n0 + 5) xl.length)) := hol
      have OO : Hid (Sls intE wr (.slice oa xok.length oc) (marksU (n0 + 6 + xl.length) xok.length)) := hoo
      have OC : Hid (Sls intE wr (.slice ca xch.length cc) (marksU (n0 + 6 + xl.length + xok.length) xch.length)) := hoc
      have OT : Hid (TeGot wr (.slice ta T.length tc) (mkTe (n0 + 6 + xl.length + xok.length + xch.length) T)) := hot
      clear hN0 hN1 hN2 hN3 hN4 hN5 hN6 hN7 hN8 hN9 hNA hol hoo hoc hot hob hb4 hfx htx hlT hl1 hl2 hl3 hl4 hn1 hn2
      go_wp2_with fail
      refine (j1 _ OL.out).mono ?_
      rintro e w6 ⟨rfl, hb6⟩
      have B6 : Hid (Below w.heap.size w w6) := (show Hid _ from hb.out.trans (hb6.mono hb.out.size))
      have k6 := (hb6.cell (p := ⟨g, q + k * 10 + 6, none⟩) (cell_ltR c6)).trans c6
      have k7 := (hb6.cell (p := ⟨g, q + k * 10 + 7, none⟩) (cell_ltR c7)).trans c7
      have k8 := (hb6.cell (p := ⟨g, q + k * 10 + 8, none⟩) (cell_ltR c8)).trans c8
      have k9 := (hb6.cell (p := ⟨g, q + k * 10 + 9, none⟩) (cell_ltR c9)).trans c9
      have O2 : Hid (Sls intE w6 (.slice oa xok.length oc) (marksU (n0 + 6 + xl.length) xok.length)) := (show Hid _ from Sls.kept OO.out hb6)
      have O3 : Hid (Sls intE w6 (.slice ca xch.length cc) (marksU (n0 + 6 + xl.length + xok.length) xch.length)) := (show Hid _ from Sls.kept OC.out hb6)
      have O4 : Hid (TeGot w6 (.slice ta T.length tc) (mkTe (n0 + 6 + xl.length + xok.length + xch.length) T)) := (show Hid _ from TeGot.kept OT.out hb6)
      clear hb6 c0 c1 c2 c3 c4 c5 c6 c7 c8 c9 j1 d0 d1 d2 d3 d4 OL OO OC OT
      go_wp2_with fail
      refine (j2 _ O2.out).mono ?_
      rintro e w7 ⟨rfl, rfl⟩
      go_wp2_with fail
      refine (j3 _ O3.out).mono ?_
      rintro e w8 ⟨rfl, rfl⟩
      go_wp2_with fail
      refine (j4 _ O4.out).mono ?_
      rintro e w9 ⟨rfl, hb9⟩
      have B9 : Hid (Below w.heap.size w w9) := (show Hid _ from B6.out.trans (hb9.mono B6.out.size))
      clear hb9 k6 k7 k8 k9 j2 j3 j4
      go_wp2_with fail
      go_roundw
      case rel =>
        refine ⟨k + 1, by omega, by go_num, ?_, B9⟩
        have e1 := HCT.out
        have e2 := HN0.out
        have e3 := HN.out
        have e4 := HCR.out
        rw [e1, e3, e4]
        congr 1
        omega
      case measure => simp [intOf]; omega
    · obtain rfl : k = L.length := by omega
      have et : L.take L.length = L := List.take_of_length_le (Nat.le_refl _)
      rw [et]
      go_wp2
      go_ret
      exact ⟨rfl, hb.out⟩
end Go.Proofs.Ytdkhdjickkcaiaa.Rl
namespace Go.Proofs.Ytdkhdjickkcaiaa.Rl
open Go.RowKit Go.Sort Go.Shelf
set_option linter.unusedVariables false
set_option linter.unusedSimpArgs false

attribute [local go_sem] Oper.semAt_some
/-- Blocks below B lie as they lay. -/
def KeepL (B : Nat) (W W' : World) : Prop := ∀ k, k < B → W'.heap[k]? = W.heap[k]?
theorem KeepL.trans {B : Nat} {X Y Z : World} (h : KeepL B X Y) (h' : KeepL B Y Z) : KeepL B X Z := fun k hk => (h' k hk).trans (h k hk)
theorem KeepL.book {B : Nat} {w : World} (hB : B ≤ w.heap.size) (W : World) (l : Nat) (o o' : Obj) (hl : w.heap.size ≤ l) (_ : W.heap[l]? = some o) (_ : o.isCells = false) (_ : o.isWalk = false) : KeepL B W (W.putObj l o') :=
  fun k hk => World.putObj_heap_other (by omega)
set_option maxRecDepth 100000 in
set_option maxHeartbeats 4000000 in
/-- What the library's function over numbers hands on. -/
theorem valIter (n : Nat) (hn : 1 ≤ n) (B g cap : Nat) (L : List Int) (l Bv : Nat) (J Jx : List Int → World → Prop) (W : World) (hJ : AbidesFrom W.heap.size J) (hg : g < B) (hlen : L.length ≤ 1048576)
    (hY : ∀ pre x W1, J pre W1 → pre.length < L.length → YieldAt Fence.wide (n - 1) Try.prog l #[.int .i64 x] W1 fun e W' =>
      (e = .returned (.bool true) ∧ J (pre ++ [x]) W' ∧ KeepL B W1 W') ∨ (e = .returned (.bool false) ∧ Jx (pre ++ [x]) W'))
    (hBv : W.cell? ⟨Bv, 0, none⟩ = some (.slice (some ⟨g, 0, none⟩) L.length cap)) (hc : ∀ j (h : j < L.length), W.cell? ⟨g, j, none⟩ = some (.int .i64 L[j])) (h0 : J [] W) :
    Calls Try.prog 99 #[.func (.yield l) #[] #[], .pointer (some ⟨Bv, 0, none⟩)] W fun e W' => (∃ v, e = .returned v) ∧
      ((∃ ys, ys = L ∧ J ys W') ∨ (∃ pre, pre <+: L ∧ Jx pre W')) := by
  have hY' : Hid (∀ pre x W1, J pre W1 → pre.length < L.length → YieldAt Fence.wide (n - 1) Try.prog l #[.int .i64 x] W1 fun e W' => (e = .returned (.bool true) ∧ J (pre ++ [x]) W' ∧ KeepL B W1 W') ∨ (e = .returned (.bool false) ∧ Jx (pre ++ [x]) W')) := hY
  have HC : Hid (∀ j (h : j < L.length), W.cell? ⟨g, j, none⟩ = some (.int .i64 L[j])) := hc
  have J0 : Hid (J [] W.drew) := hJ [] W W.drew none h0 ⟨rfl, rfl, rfl, Nat.le_refl _, fun _ _ _ => rfl⟩ (fun r e => by cases e)
  have J1 : Hid (J [] W) := h0
  clear hY hc h0 hJ
  go_enter Try.func99, Try.ntmps99
  go_wp2
  refine (wpIn_wide (n := n)).1 ?_
  gi_loopw [7] (fun i wr => ∃ k : Nat, k ≤ L.length ∧ i = .int .i64 k ∧ Hid (J (L.take k) wr) ∧ Hid (wr.heap[g]? = W.heap[g]?)) (fun i _ => L.length - (intOf i).toNat)
  case atStart => exact ⟨0, Nat.zero_le _, rfl, by rw [List.take_zero]; first | exact J1 | exact J0, (show Hid _ from rfl)⟩
  case round =>
    obtain ⟨k, hk, rfl, hJs, hgg⟩ := hrel
    by_cases hlt : k < L.length
    · have hc0 : wr.cell? ⟨g, k, none⟩ = some (.int .i64 L[k]) := (World.cell?_of_block (a := ⟨g, k, none⟩) hgg.out).trans (HC.out k hlt)
      obtain ⟨fn, tmps, assign, body, hy, hR⟩ := hY'.out _ L[k] wr hJs.out (by rw [List.length_take]; omega)
      have HT : Hid (L.take (k + 1) = L.take k ++ [L[k]]) := (show _ = _ from List.take_succ_eq_append_getElem hlt)
      have hR' : RoundIn Fence.wide (n - 1) Try.prog l fn tmps assign body wr fun e W' => (e = .returned (.bool true) ∧ Hid (J (L.take (k + 1)) W') ∧ Hid (KeepL B wr W')) ∨ (e = .returned (.bool false) ∧ Hid (Jx (L.take (k + 1)) W')) := by
        rw [HT.out]; exact hR
      clear hR hJs HT hk
      gi_wp2
      refine hR'.mono ?_
      rintro e W3 (⟨rfl, hJ3, hk3⟩ | ⟨rfl, hJx3⟩)
      · gi_wp2
        go_roundw
        case rel => exact ⟨k + 1, hlt, by go_num, hJ3, (show Hid _ from (hk3.out g hg).trans hgg.out)⟩
        case measure => simp [intOf]; omega
      · gi_wp2
        refine bodyPost_ret (results_none rfl _ _ _) rfl ?_
        exact ⟨⟨_, rfl⟩, .inr ⟨_, List.take_prefix _ _, hJx3.out⟩⟩
    · obtain rfl : k = L.length := by omega
      have HJ : Hid (J L wr) := by
        have := hJs.out
        rw [List.take_of_length_le (Nat.le_refl _)] at this
        exact this
      gi_wp2
      go_end0
      exact ⟨⟨_, rfl⟩, .inl ⟨_, rfl, HJ.out⟩⟩
/-- The library's value of a function over a row. -/
theorem implVals (a : Option Addr) (n c : Nat) (w : World) :
    Calls Try.prog 92 #[.slice a n c] w fun e w' => e = .returned (.func (.func 99) #[] #[.pointer (some ⟨w.heap.size, 0, none⟩)]) ∧ w' = w.alloc (.cells #[.slice a n c] 41) := by
  go_enter Try.func92, Try.ntmps92
  go_wp2
  go_ret
  exact ⟨rfl, rfl⟩
theorem vals_stops (n : Nat) (hn : 1 ≤ n) (B g cap : Nat) (L : List Int) (Bv : Nat) (w : World) (hg : g < B) (hB : B ≤ w.heap.size) (hBv : Bv < w.heap.size) (hlen : L.length ≤ 1048576)
    (hv : w.cell? ⟨Bv, 0, none⟩ = some (.slice (some ⟨g, 0, none⟩) L.length cap)) (hc : ∀ j (h : j < L.length), w.cell? ⟨g, j, none⟩ = some (.int .i64 L[j])) :
    SeqStopsK Fence.wide n Try.prog 99 #[.pointer (some ⟨Bv, 0, none⟩)] (fun x : Int => #[Value.int .i64 x]) (KeepL B) (fun ys => ys = L) (fun pre => pre <+: L) L.length w := fun l J Jx W hW hJ _ hY h0 =>
  callsIn_wide.2 (valIter n hn B g cap L l Bv J Jx W hJ hg hlen hY ((hW.cell (p := ⟨Bv, 0, none⟩) hBv).trans hv) (fun j h => (hW.cell (p := ⟨g, j, none⟩) (by show g < w.heap.size; omega)).trans (hc j h)) h0)
/-- What a call gathers, between two rounds. -/
structure ApI (w : World) (S : Nat) (W : World) (v : Value) (l : List Int) : Prop where
  box : Boxed W S 41 v
  own : OwnsN W w.heap.size v l
  low : Below w.heap.size w W
theorem cellsN_is (l : List Int) : cellsE intE l = l.map (Value.int .i64) := by
  induction l with
  | nil => rfl
  | cons a t ih => rw [cellsE_cons, ih]; rfl
theorem ApI.push {w : World} {S : Nat} {W w1 : World} {v v' : Value} {l l' : List Int} (h : ApI w S W v l) (hS : w.heap.size ≤ S) (ho : OwnsN w1 w.heap.size v' l') (hg : W.grownBy w1 v.ownBlock) :
    (w1.cell? ⟨S, 0, none⟩ = some v ∧ w1.frozen? ⟨S, 0, none⟩ = false) ∧ ApI w S (w1.setCell ⟨S, 0, none⟩ v') v' l' ∧ KeepsOthers W (w1.setCell ⟨S, 0, none⟩ v') ∧ KeepL w.heap.size W (w1.setCell ⟨S, 0, none⟩ v') := by
  have hne : some S ≠ v.ownBlock := h.box.not_row (by decide) h.own
  have hb1 : Boxed w1 S 41 v := h.box.kept hg hne
  have ko : KeepsOthers W w1 := KeepsOthers.of_grownBy hg fun j o ej hj => by
    rcases h.own.2 with ⟨rfl, _⟩ | ⟨g, cap, cur, rfl, _, hgb, _⟩
    · simp [Value.ownBlock] at ej
    · obtain rfl : g = j := by simpa [Value.ownBlock] using ej
      rw [hgb] at hj; cases hj; rfl
  have lo : Below w.heap.size w w1 := h.low.grown hg h.low.size (fun k ek => OwnsE.from h.own k ek)
  have lo2 := lo.setCell (p := ⟨S, 0, none⟩) (by show w.heap.size ≤ S; exact hS) v'
  refine ⟨⟨hb1.cell, hb1.frozen⟩, ⟨hb1.set v', ?_, lo2⟩, ko.trans (KeepsOthers.setCell _ _ _), fun k hk => (lo2.block k hk).trans (h.low.block k hk).symm⟩
  exact World.ownsRow.kept ho (grownBy_setCell' w1 S v') (.inr (hb1.not_row (by decide) ho).symm)
theorem ApI.form {w : World} {B : Nat} {v : Value} {l : List Int} (h : OwnsN w B v l) : ∃ a cap, v = .slice a l.length cap := by
  rcases h.2 with ⟨rfl, h0⟩ | ⟨g, cap, cur, rfl, _⟩
  · exact ⟨none, 0, by rw [h0]⟩
  · exact ⟨_, cap, rfl⟩
set_option maxRecDepth 100000 in
set_option maxHeartbeats 4000000 in
/-- What is handed on, gathered. -/
theorem implApp (g cap : Nat) (L : List Int) (Bv : Nat) (w : World) (hg : g < w.heap.size) (hBv : Bv < w.heap.size) (hlen : L.length ≤ 1048576)
    (hv : w.cell? ⟨Bv, 0, none⟩ = some (.slice (some ⟨g, 0, none⟩) L.length cap)) (hc : ∀ j (h : j < L.length), w.cell? ⟨g, j, none⟩ = some (.int .i64 L[j])) :
    Calls Try.prog 104 #[.slice none 0 0, .func (.func 99) #[] #[.pointer (some ⟨Bv, 0, none⟩)]] w fun e w' => ∃ v, e = .returned v ∧ OwnsN w' w.heap.size v L ∧ Below w.heap.size w w' := by
  obtain ⟨i0, hi, hz0, hz1, hz2⟩ := info_parts Try.infoN2
  have S0 : Hid (ApI w w.heap.size (w.alloc (.cells #[.slice none 0 0] 41)) (.slice none 0 0) []) := ⟨Boxed.new w 41 _, OwnsE.none _ _, (Below.refl _ w).alloc (Nat.le_refl _) _⟩
  have hst := fun n hn => vals_stops n hn w.heap.size g cap L Bv (w.alloc (.cells #[.slice none 0 0] 41)) hg (by simp) (by simp; omega) hlen (by rw [World.cell?_alloc_old _ _ _ (by show Bv ≠ w.heap.size; omega)]; exact hv) (fun j h => by rw [World.cell?_alloc_old _ _ _ (by show g ≠ w.heap.size; omega)]; exact hc j h)
  refine (callsIn_wide (n := 5)).1 ?_
  refine callsIn_of_wp_marks Try.func104 rfl trivial ?_ rfl
  simp only [Try.ntmps104, List.size_toArray, List.length_cons, List.length_nil, Nat.reduceAdd, Nat.reduceSub, Array.replicate_succ, Array.replicate_zero, List.push_toArray, List.append_toArray, List.nil_append, List.cons_append]
  refine wpIn_wide.2 ?_
  clear hv hc
  go_wp2
  refine (wpIn_wide (n := 5)).1 ?_
  refine wpIn_rangeFunc_ownG (α := Int) rfl (by decide) (gf := 99) (lb := #[.pointer (some ⟨Bv, 0, none⟩)]) rfl trivial (enters_of Try.func99 (by kernel_rfl) rfl)
    (hst 4 (by decide)) KeepL.trans (KeepL.book (by simp)) (Below.refl _ _) (fun _ => rfl)
    (fun pre W => (∃ v, Boxed W w.heap.size 41 v ∧ W.ownsRow w.heap.size 2 1 v pre.length (cellsE intE pre) ∧ True) ∧ Below w.heap.size w W)
    (fun c pre W => False)
    (OwnFrom.and (Own.from (holdsRow_own w.heap.size w.heap.size 41 2 1 (fun pre : List Int => pre.length) (fun pre => cellsE intE pre) (fun pre _ => True)) _) (ownFrom_below (Nat.le_refl _) (by simp)))
    (fun c => ownFrom_pure _ (fun pre : List Int => False))
    ⟨⟨_, S0.out.box, S0.out.own, trivial⟩, S0.out.low⟩
    (fun x => { tmps := #[.slice none 0 0, .func (.func 99) #[] #[.pointer (some ⟨Bv, 0, none⟩)], .pointer (some ⟨w.heap.size, 0, none⟩), undef, .slice none 0 0, .int .i64 x, .func (.func 99) #[] #[.pointer (some ⟨Bv, 0, none⟩)], .int .i64 x, undef, undef, undef, undef, undef], defers := [] }) ?assign ?body ?done ?stop
  case assign =>
    intro lo x W K hK
    gi_wp2
    exact hK
  case body =>
    rintro lo pre x W ⟨⟨v, hv, hrow, _⟩, hB⟩ hlt
    have S1 : Hid (ApI w w.heap.size W v pre) := ⟨hv, hrow, hB⟩
    obtain ⟨va, vc, rfl⟩ := ApI.form S1.out.own
    have cS := hv.cell
    have hpl : pre.length ≤ 1048576 := by omega
    clear hv hrow hB hst hlt
    gi_wp2_with (
      gi_at_builtin
      refine wpListIn_append_own _ rfl (.tmp 8) (.tmp 10) 41 rfl w.heap.size 2 i0 (.int .i64 0) 1 8 Try.underlying41 hi hz0 hz1 hz2 rfl (by decide) (.slice va pre.length vc) pre.length (cellsE intE pre) rfl (OwnsE.alloc S1.out.own _) ⟨W.heap.size, 0, none⟩ 1 1 [.int .i64 x] rfl rfl (cell_one_new _ _ _) (by intro u hu; simp at hu; subst hu; rfl) (by unfold maxLen; omega) (by omega) (by have := S1.out.low.size; simp; omega) ?_
      intro v' w2 ho hg hnil
      have hg2 : Hid (W.grownBy w2 (Value.slice va pre.length vc).ownBlock) := ⟨hg.os, hg.tape, hg.output, by have := hg.size; simp at this; omega, fun k hk hne => by rw [hg.block k (by simp; omega) hne]; exact Below.heap_alloc _ _ _ hk⟩
      have ho2 : Hid (OwnsN w2 w.heap.size v' (pre ++ [x])) := (show w2.ownsRow _ _ _ _ _ _ from by rw [cellsE_append, cellsE_single, List.length_append]; exact ho)
      clear ho hg hnil
      obtain ⟨a9, n9, c9, rfl⟩ : ∃ a n c, v' = .slice a n c := by
        obtain ⟨a9, c9, e9⟩ := ApI.form ho2.out
        exact ⟨a9, _, c9, e9⟩
      obtain ⟨⟨c8, f8⟩, hS2, hK2, hN2⟩ := S1.out.push (Nat.le_refl _) ho2.out hg2.out
      have S2 : Hid (ApI w w.heap.size (w2.setCell ⟨w.heap.size, 0, none⟩ (.slice a9 n9 c9)) (.slice a9 n9 c9) (pre ++ [x])) := hS2
      have K2 : Hid (KeepsOthers W (w2.setCell ⟨w.heap.size, 0, none⟩ (.slice a9 n9 c9))) := hK2
      have N2 : Hid (KeepL w.heap.size W (w2.setCell ⟨w.heap.size, 0, none⟩ (.slice a9 n9 c9))) := hN2
      clear hS2 hK2 hN2)
    exact ⟨K2.out.from _, N2.out, ⟨_, S2.out.box, S2.out.own, trivial⟩, S2.out.low⟩
  case done =>
    rintro D ys W hD rfl ⟨⟨v, hv, hrow, _⟩, hB⟩ hK
    have hD' : w.heap.size + 1 ≤ D := by simpa using hD
    have ho : OwnsN W w.heap.size v ys := hrow
    obtain ⟨va, vc, rfl⟩ := ApI.form ho
    have cS := hv.cell
    have HO : Hid (OwnsN W w.heap.size (.slice va ys.length vc) ys) := ho
    have HB : Hid (Below w.heap.size w W) := hB
    have HK : Hid (W.heap[D]? = some (.deferred (some []))) := hK
    clear hrow ho hB hv hst S0
    go_wp2
    refine ⟨by simp, .inl ⟨_, _, rfl, run_takeDeferred HK.out, ?_⟩⟩
    refine ⟨_, results_tmp rfl _ _ _, _, rfl, ?_, HB.out.trans (belowK_b (w := w) (Nat.le_refl _) W D _ _ (by omega) HK.out rfl rfl)⟩
    exact World.ownsRow.kept HO.out (grownBy_putObj' W D (.deferred none)) (.inr (fun e => by
      rcases HO.out.2 with ⟨e0, _⟩ | ⟨g', cap', cur, e0, _, hgb, _⟩
      · rw [e0] at e; cases e
      · rw [e0] at e
        obtain rfl : D = g' := by simpa [Value.ownBlock] using e.symm
        rw [HK.out] at hgb
        cases hgb))
  case stop =>
    rintro D c pre W hD hpre hF hK
    exact hF.elim
/-- Gathered anew. -/
theorem implColl (g cap : Nat) (L : List Int) (Bv : Nat) (w : World) (hg : g < w.heap.size) (hBv : Bv < w.heap.size) (hlen : L.length ≤ 1048576)
    (hv : w.cell? ⟨Bv, 0, none⟩ = some (.slice (some ⟨g, 0, none⟩) L.length cap)) (hc : ∀ j (h : j < L.length), w.cell? ⟨g, j, none⟩ = some (.int .i64 L[j])) :
    Calls Try.prog 97 #[.func (.func 99) #[] #[.pointer (some ⟨Bv, 0, none⟩)]] w fun e w' => ∃ v, e = .returned v ∧ OwnsN w' w.heap.size v L ∧ Below w.heap.size w w' := by
  have j1 := implApp g cap L Bv w hg hBv hlen hv hc
  clear hv hc
  go_enter Try.func97, Try.ntmps97
  go_wp2_with fail
  refine j1.mono ?_
  rintro e w2 ⟨v, rfl, ho, hb⟩
  have HO : Hid (OwnsN w2 w.heap.size v L) := ho
  have HB : Hid (Below w.heap.size w w2) := hb
  clear ho hb j1
  go_wp2
  go_ret
  exact ⟨_, rfl, HO.out, HB.out⟩
end Go.Proofs.Ytdkhdjickkcaiaa.Rl
namespace Go.Proofs.Ytdkhdjickkcaiaa.Rl
open Go.RowKit Go.Sort
set_option linter.unusedVariables false
set_option linter.unusedSimpArgs false

abbrev pOk (p : Int) : Prop := p = 1 ∨ p = 3 ∨ p = 5
theorem specPrs (p : Int) (w : World) : Calls Try.prog 22 #[.int .i64 p] w fun e w' => e = .returned (.bool (decide (pOk p))) ∧ w = w' := by
  by_cases h1 : p = 1
  · subst h1
    have hd : Hid (decide (pOk 1) = true) := (show _ = _ from decide_eq_true (.inl rfl))
    go_enter Try.func22, Try.ntmps22
    go_wp2
    go_ret
    exact ⟨congrArg (fun b => Ending.returned (.bool b)) hd.out.symm, rfl⟩
  by_cases h3 : p = 3
  · subst h3
    have hd : Hid (decide (pOk 3) = true) := (show _ = _ from decide_eq_true (.inr (.inl rfl)))
    go_enter Try.func22, Try.ntmps22
    go_wp2
    go_ret
    exact ⟨congrArg (fun b => Ending.returned (.bool b)) hd.out.symm, rfl⟩
  have e1 : (p == 1) = false := by simpa using h1
  have e3 : (p == 3) = false := by simpa using h3
  by_cases h5 : p = 5
  · subst h5
    have hd : Hid (decide (pOk 5) = true) := (show _ = _ from decide_eq_true (.inr (.inr rfl)))
    go_enter Try.func22, Try.ntmps22
    go_wp2
    go_ret
    exact ⟨congrArg (fun b => Ending.returned (.bool b)) hd.out.symm, rfl⟩
  have e5 : (p == 5) = false := by simpa using h5
  have hd : Hid (decide (pOk p) = false) := (show _ = _ from decide_eq_false (fun h => by rcases h with h | h | h <;> contradiction))
  go_enter Try.func22, Try.ntmps22
  go_wp2
  go_ret
  exact ⟨congrArg (fun b => Ending.returned (.bool b)) hd.out.symm, rfl⟩
end Go.Proofs.Ytdkhdjickkcaiaa.Rl
