/-
  The library's Backward over Items: what it hands on, one by one.
-/
import Derived.Test.YtnnmbgenepfacaaRpK
import Derived.RangeFuncNested
import Derived.RangeFuncBound
import Derived.RangeFuncCalls
import Derived.RangeFuncLeaves
import Derived.RangeFuncBox
import Derived.Shelf.Abstract
import Derived.Shelf.RegionOpen
import Derived.WalkKit
import Derived.OwnWalkIn
import Derived.TacticsInMore
import Derived.LoopNIn
import Derived.LoopIn
namespace Go.Proofs.Ytnnmbgenepfacaa
open Go.RowKit Go.Sort Go.Shelf Rom
set_option linter.unusedVariables false
set_option linter.unusedSimpArgs false

/-- Every row of Items, and every box of such a row, lies as it lay. -/
def KeepI (W W' : World) : Prop := ∀ (k : Nat) (vs : Array Value) (ty : TypeId) (fz : Nat × Nat), (ty = 47 ∨ ty = 32) → W.heap[k]? = some (.cells vs ty fz) → W'.heap[k]? = some (.cells vs ty fz)
theorem KeepI.refl (W : World) : KeepI W W := fun _ _ _ _ _ h => h
theorem KeepI.trans {A B C : World} (h : KeepI A B) (k : KeepI B C) : KeepI A C := fun j vs ty fz ht e => k j vs ty fz ht (h j vs ty fz ht e)
theorem KeepI.book {w : World} (W : World) (l : Nat) (o o' : Obj) (_ : w.heap.size ≤ l) (h : W.heap[l]? = some o) (hc : o.isCells = false) (_ : o.isWalk = false) : KeepI W (W.putObj l o') := by
  intro k vs ty fz _ e
  have hne : k ≠ l := by
    intro hk
    subst hk
    rw [h] at e
    injection e with e
    subst e
    cases hc
  rw [World.putObj_heap_other hne]
  exact e
theorem KeepI.below {W W' : World} (h : Below W.heap.size W W') : KeepI W W' := fun k vs ty fz _ e => by
  rw [h.block k (Array.getElem?_eq_some_iff.1 e).1]; exact e
theorem KeepI.grown {W W' : World} {r : Option Nat} (hg : W.grownBy W' r) (hr : ∀ k, r = some k → ∀ vs ty fz, (ty = 47 ∨ ty = 32) → W.heap[k]? ≠ some (.cells vs ty fz)) : KeepI W W' := fun k vs ty fz ht e => by
  rw [hg.block k (Array.getElem?_eq_some_iff.1 e).1 (fun h => hr k h.symm vs ty fz ht e)]; exact e

/-- One that is handed on: its place, and an item whose key is not long. -/
structure ItB where
  i : Int
  x : It
  small : x.1.size ≤ 500
def itB (i : Int) (x : It) : ItB := if h : x.1.size ≤ 500 then ⟨i, x, h⟩ else ⟨0, (⟨#[]⟩, 0), by decide⟩
theorem itB_is {i : Int} {x : It} (h : x.1.size ≤ 500) : (itB i x).i = i ∧ (itB i x).x = x := by
  unfold itB
  rw [dif_pos h]
  exact ⟨rfl, rfl⟩
/-- From the last one to the first. -/
def bakL (its : List It) (m : Nat) : List ItB := (List.range m).map fun j => itB ((its.length - 1 - j : Nat) : Int) (its.getD (its.length - 1 - j) (⟨#[]⟩, 0))
theorem bakL_next (its : List It) (m : Nat) : bakL its (m + 1) = bakL its m ++ [itB ((its.length - 1 - m : Nat) : Int) (its.getD (its.length - 1 - m) (⟨#[]⟩, 0))] := by
  unfold bakL
  rw [List.range_succ, List.map_append]
  rfl
theorem bakL_length (its : List It) (m : Nat) : (bakL its m).length = m := by simp [bakL]
theorem bakL_keys {its : List It} (h : ∀ x ∈ its, x.1.size ≤ 500) : (bakL its its.length).map (·.x.1) = (its.map (·.1)).reverse := by
  have e0 : (bakL its its.length).map (·.x.1) = (List.range its.length).map (fun j => (itB ((its.length - 1 - j : Nat) : Int) (its.getD (its.length - 1 - j) (⟨#[]⟩, 0))).x.1) := by
    unfold bakL
    rw [List.map_map]
    rfl
  rw [e0]
  apply List.ext_getElem
  · simp
  · intro j h1 h2
    have hj : j < its.length := by simpa using h1
    have hj2 : its.length - 1 - j < its.length := by omega
    have e : its.getD (its.length - 1 - j) (⟨#[]⟩, 0) = its[its.length - 1 - j] := by simp [List.getD, hj2]
    simp only [List.getElem_map, List.getElem_range, List.getElem_reverse, List.length_map]
    rw [e, (itB_is (h _ (List.getElem_mem hj2))).2]
set_option maxRecDepth 100000 in
set_option maxHeartbeats 4000000 in
theorem implBack (n : Nat) (hn : 1 ≤ n) (its : List It) (hsz : ∀ x ∈ its, x.1.size ≤ 500) (hil : its.length ≤ 200) (l Bv g o cp : Nat) (A : Addr) (J Jx : List ItB → World → Prop) (W : World) (hJ : AbidesFrom W.heap.size J)
    (hY : ∀ pre x W1, J pre W1 → pre.length < its.length → YieldAt Fence.wide (n - 1) Try.prog l #[.int .i64 x.i, itV x.x] W1 fun e W' =>
      (e = .returned (.bool true) ∧ J (pre ++ [x]) W' ∧ KeepI W1 W') ∨ (e = .returned (.bool false) ∧ Jx (pre ++ [x]) W'))
    (hBv : W.heap[Bv]? = some (.cells #[.slice (some A) its.length cp] 32 (0, 0))) (hcp : its.length ≤ cp) (hcm : cp ≤ maxLen)
    (hrow : 0 < its.length → A = ⟨g, o, none⟩ ∧ (∃ vs fz, W.heap[g]? = some (.cells vs 47 fz)) ∧ ∀ j (hj : j < its.length), W.cell? ⟨g, o + j * 2, none⟩ = some (.string its[j].1) ∧ W.cell? ⟨g, o + j * 2 + 1, none⟩ = some (.int .i64 its[j].2)) (h0 : J [] W) :
    Calls Try.prog 92 #[.func (.yield l) #[] #[], .pointer (some ⟨Bv, 0, none⟩)] W fun e W' => (∃ v, e = .returned v) ∧
      ((∃ ys, ys.map (·.x.1) = (its.map (·.1)).reverse ∧ J ys W') ∨ (∃ pre, True ∧ Jx pre W')) := by
  have hkeys := bakL_keys hsz
  have HK : Hid ((bakL its its.length).map (·.x.1) = (its.map (·.1)).reverse) := hkeys
  have hY' : Hid (∀ pre x W1, J pre W1 → pre.length < its.length → YieldAt Fence.wide (n - 1) Try.prog l #[.int .i64 x.i, itV x.x] W1 fun e W' => (e = .returned (.bool true) ∧ J (pre ++ [x]) W' ∧ KeepI W1 W') ∨ (e = .returned (.bool false) ∧ Jx (pre ++ [x]) W')) := hY
  have hbx : Boxed W Bv 32 (.slice (some A) its.length cp) := hBv
  have c0 := hbx.cell
  have J0 : Hid (J [] W) := h0
  have HB : Hid (W.heap[Bv]? = some (.cells #[.slice (some A) its.length cp] 32 (0, 0))) := hBv
  unfold maxLen at hcm
  clear hY hkeys hJ h0 hBv hbx
  go_enter Try.func92, Try.ntmps92
  go_wp2
  refine (wpIn_wide (n := n)).1 ?_
  gi_loopw [3] (fun i wr => ∃ m : Nat, m ≤ its.length ∧ i = .int .i64 ((its.length : Int) - 1 - (m : Int)) ∧ Hid (J (bakL its m) wr) ∧ Hid (KeepI W wr)) (fun i _ => (intOf i + 1).toNat)
  case atStart => exact ⟨0, Nat.zero_le _, by simp, (show Hid _ from J0), (show Hid _ from KeepI.refl _)⟩
  case round =>
    clear c0
    obtain ⟨m, hm, rfl, hJs, hkp⟩ := hrel
    have cB : wr.cell? ⟨Bv, 0, none⟩ = some (.slice (some A) its.length cp) := (show Boxed wr Bv 32 _ from hkp.out Bv _ _ _ (.inr rfl) HB.out).cell
    by_cases hlt : m < its.length
    · obtain ⟨j, hj⟩ : ∃ j, j = its.length - 1 - m := ⟨_, rfl⟩
      have hjl : j < its.length := by omega
      obtain ⟨rfl, ⟨vs, fz, hg⟩, hc⟩ := hrow (by omega)
      have eg : wr.heap[g]? = W.heap[g]? := (hkp.out g vs _ fz (.inl rfl) hg).trans hg.symm
      have d1 := (World.cell?_of_block (a := ⟨g, o + j * 2, none⟩) eg).trans (hc j hjl).1
      have d2 := (World.cell?_of_block (a := ⟨g, o + j * 2 + 1, none⟩) eg).trans (hc j hjl).2
      have hib := itB_is (i := (j : Int)) (hsz its[j] (List.getElem_mem hjl))
      have egd : its.getD (its.length - 1 - m) (⟨#[]⟩, 0) = its[j] := by rw [← hj]; simp [List.getD, hjl]
      obtain ⟨fn, tmps, assign, body, hy, hR⟩ := hY'.out _ (itB (j : Int) its[j]) wr hJs.out (by rw [bakL_length]; exact hlt)
      rw [hib.1, hib.2] at hy
      have HT : Hid (bakL its (m + 1) = bakL its m ++ [itB (j : Int) its[j]]) := by
        show _ = _
        rw [bakL_next, egd, ← hj]
      have hR' : RoundIn Fence.wide (n - 1) Try.prog l fn tmps assign body wr fun e W' => (e = .returned (.bool true) ∧ Hid (J (bakL its (m + 1)) W') ∧ KeepI wr W') ∨ (e = .returned (.bool false) ∧ Hid (Jx (bakL its (m + 1)) W')) := by
        rw [HT.out]; exact hR
      have ei : (its.length : Int) - 1 - (m : Int) = (j : Int) := by omega
      have hji : (j : Int) < (its.length : Int) := by omega
      have HJM : Hid ((j : Int) - 1 = (its.length : Int) - 1 - ((m + 1 : Nat) : Int)) := (show _ = _ from by omega)
      have hj9 : j < 200 := by omega
      unfold itV at hy
      generalize its[j] = x at d1 d2 hy
      obtain ⟨x1, x2⟩ := x
      dsimp only at d1 d2 hy
      rw [ei]
      have hkp2 : Hid (KeepI W wr) := hkp
      clear hR hJs HT egd hib hc hg eg hsz hrow ei hj hkp
      gi_wp2
      refine hR'.mono ?_
      rintro e W3 (⟨rfl, hJ3, hk3⟩ | ⟨rfl, hJx3⟩)
      · have HK3 : Hid (KeepI W W3) := (show Hid _ from hkp2.out.trans hk3)
        gi_wp2
        go_roundw
        case rel => exact ⟨m + 1, by omega, by rw [← HJM.out], hJ3, HK3⟩
        case measure => first | (simp [intOf]; done) | (simp [intOf]; omega)
      · gi_wp2
        refine bodyPost_ret (results_none rfl _ _ _) rfl ?_
        exact ⟨⟨_, rfl⟩, .inr ⟨_, trivial, hJx3.out⟩⟩
    · obtain rfl : m = its.length := by omega
      have ei : ((its.length : Int) - 1 - (its.length : Int)) = -1 := by omega
      rw [ei]
      gi_wp2
      go_end0
      exact ⟨⟨_, rfl⟩, .inl ⟨_, HK.out, hJs.out⟩⟩
/-- The iterator's value. -/
theorem implBackF (v : Value) (w : World) (hv : ∃ a n c, v = .slice a n c) :
    Calls Try.prog 74 #[v] w fun e w' => e = .returned (.func (.func 92) #[] #[.pointer (some ⟨w.heap.size, 0, none⟩)]) ∧ w' = w.alloc (.cells #[v] 32) := by
  obtain ⟨a, n, c, rfl⟩ := hv
  go_enter Try.func74, Try.ntmps74
  go_wp2
  go_ret
  exact ⟨rfl, rfl⟩
/-- What it hands on, as the law of ranges over functions wants it. -/
theorem back_stops (n : Nat) (hn : 1 ≤ n) (its : List It) (hsz : ∀ x ∈ its, x.1.size ≤ 500) (hil : its.length ≤ 200) (Bv g o cp : Nat) (A : Addr) (w : World)
    (hBv : w.heap[Bv]? = some (.cells #[.slice (some A) its.length cp] 32 (0, 0))) (hcp : its.length ≤ cp) (hcm : cp ≤ maxLen)
    (hrow : 0 < its.length → A = ⟨g, o, none⟩ ∧ (∃ vs fz, w.heap[g]? = some (.cells vs 47 fz)) ∧ ∀ j (hj : j < its.length), w.cell? ⟨g, o + j * 2, none⟩ = some (.string its[j].1) ∧ w.cell? ⟨g, o + j * 2 + 1, none⟩ = some (.int .i64 its[j].2)) :
    SeqStopsK Fence.wide n Try.prog 92 #[.pointer (some ⟨Bv, 0, none⟩)] (fun x : ItB => #[.int .i64 x.i, itV x.x]) KeepI (fun ys => ys.map (·.x.1) = (its.map (·.1)).reverse) (fun _ => True) its.length w := fun l J Jx W hW hJ _ hY h0 =>
  callsIn_wide.2 (implBack n hn its hsz hil l Bv g o cp A J Jx W hJ hY ((hW.block Bv (Array.getElem?_eq_some_iff.1 hBv).1).trans hBv) hcp hcm (fun h => by
    obtain ⟨e, ⟨vs, fz, hg⟩, hc⟩ := hrow h
    have hgl := (Array.getElem?_eq_some_iff.1 hg).1
    exact ⟨e, ⟨vs, fz, (hW.block g hgl).trans hg⟩, fun j hj => ⟨(hW.cell (p := ⟨g, o + j * 2, none⟩) hgl).trans (hc j hj).1, (hW.cell (p := ⟨g, o + j * 2 + 1, none⟩) hgl).trans (hc j hj).2⟩⟩) h0)
end Go.Proofs.Ytnnmbgenepfacaa
