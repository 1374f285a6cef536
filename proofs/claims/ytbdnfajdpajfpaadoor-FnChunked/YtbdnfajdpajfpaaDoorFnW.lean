/-
  What the law on chunks needs: the law's own pick, and what is read of what was written.
-/
import Derived.Test.YtbdnfajdpajfpaaDoorDrP
import Derived.Test.YtbdnfajdpajfpaaDoorPrtC
import Derived.Test.YtbdnfajdpajfpaaDoorChkR
import Derived.Test.YtbdnfajdpajfpaaDoorChkW
namespace Go.Proofs.YtbdnfajdpajfpaaDoor
open Go.RowKit

theorem ret_ofp {a b : Int} (h : a = b) : Ending.returned (.int .i64 a) = Ending.returned (.int .i64 b) := by rw [h]
theorem code8_onp {w w' : World} {sa : Option Addr} {sl : Nat} (h : Code8 w w.heap.size sa sl) (hb : Below w.heap.size w w') : Code8 w' w'.heap.size sa sl := by
  intro j hj
  obtain ⟨g, o, z, h1, h2, h3⟩ := (h.kept hb (Nat.le_refl _)) j hj
  have := hb.size
  exact ⟨g, o, z, h1, by omega, h3⟩
set_option maxHeartbeats 400000 in
theorem pick5 (sa : Option Addr) (sl sc : Nat) (n : Nat) (hn1 : 1 ≤ n) (hn2 : n ≤ 10000) (w : World) (hc : Code8 w w.heap.size sa sl) (hl : sl ≤ 4096) :
    Calls Tryd.prog 12 #[.slice sa sl sc, .int .i64 1, .int .i64 (n : Int)] w fun e w' => (∃ r : Nat, e = .returned (.int .i64 r) ∧ r < n) ∧ w = w' := by
  have hnz : ((n : Int) == 0) = false := by simp; omega
  go_enter Tryd.func12, Tryd.ntmps12
  go_wp2
  go_loop [7, 8] (fun x i => ∃ (k : Nat) (p : Int), k ≤ sl ∧ i = .int .i64 k ∧ x = .int .i64 p ∧ 0 ≤ p ∧ p ≤ 1000002) (fun _ i => sl - (intOf i).toNat)
  case atStart => exact ⟨0, _, Nat.zero_le _, rfl, rfl, by omega, by omega⟩
  case round =>
    obtain ⟨k, p, hk, rfl, rfl, b0, b1⟩ := hrel
    by_cases hlt : k < sl
    · obtain ⟨g, o, z, rfl, hg, hcell, hz0, hz1⟩ := hc k hlt
      clear hc
      go_wp2
      go_round
      case rel => exact ⟨k + 1, _, by omega, by go_num, rfl, by omega, by omega⟩
      case measure => simp [intOf]; omega
    · obtain rfl : k = sl := by omega
      have e0 : p.tmod (n : Int) = p % (n : Int) := Int.tmod_eq_emod_of_nonneg b0
      have e1 : 0 ≤ p % (n : Int) := Int.emod_nonneg p (by omega)
      have e2 : p % (n : Int) < (n : Int) := Int.emod_lt_of_pos p (by omega)
      obtain ⟨r, hr⟩ := Int.eq_ofNat_of_zero_le e1
      have hrn : r < n := by omega
      have hr2 : p.tmod (n : Int) = (r : Int) := e0.trans hr
      have hw : IntKind.i64.wrap (r : Int) = (r : Int) := by rw [IntKind.wrap_i64]; omega
      go_wp2
      go_ret
      exact ⟨⟨r, by first | rfl | exact ret_ofp hr | exact ret_ofp hr2 | (simp [hr2, hw, hr]), hrn⟩, rfl⟩

theorem unV_form (l : List UInt8) : ∃ s n r, unV l = .tuple #[.string s, .int .i64 n, .bool r] := by
  unfold unV
  split
  · exact ⟨_, _, _, rfl⟩
  · exact ⟨_, _, _, rfl⟩
theorem chA_few {l : List ByteArray} (h : ¬ (chA l).size = 0) : fewP l := by
  refine Classical.byContradiction fun x => h ?_
  rw [← chA_no x]
  rfl
theorem chA_list {l : List ByteArray} (h : fewP l) : (chA l).data.toList = chL l := by rw [← chA_yes h]
theorem chA_len {l : List ByteArray} (h : fewP l) : (chA l).size = (chL l).length := by rw [← chA_list h]; simp
/-- Read whole, with something behind it. -/
theorem readBack (l : List ByteArray) (h : fewP l) (m : ByteArray) (hm : m.size ≤ 10) (w : World) :
    Calls Tryd.prog 9 #[.string (chA l ++ m)] w fun e w' => e = .returned (.tuple #[.string (catP l), .int .i64 ((chA l).size : Int), .bool true]) ∧ Below w.heap.size w w' := by
  have hz := chA_size l
  have e : (chA l ++ m).size = (chA l).size + m.size := ByteArray.size_append
  have := implUn (chA l ++ m) w (by omega)
  rw [add_list, chA_list h, un_ch h.2, ← chA_len h] at this
  exact this
theorem readPartC (l : List ByteArray) (h : fewP l) (k : Nat) (hk : k < (chA l).size) (w : World) :
    Calls Tryd.prog 9 #[.string ((chA l).extract 0 k)] w fun e w' => e = .returned (.tuple #[.string ⟨#[]⟩, .int .i64 0, .bool false]) ∧ Below w.heap.size w w' := by
  have hz := chA_size l
  have e : ((chA l).extract 0 k).data.toList = (chL l).take k := by
    rw [← chA_list h, ByteArray.data_extract, Array.toList_extract]
    simp [List.extract]
  have e2 : ((chA l).extract 0 k).size ≤ (chA l).size := by
    have : ((chA l).extract 0 k).data.toList.length = ((chA l).extract 0 k).size := by simp
    rw [← this, e, List.length_take, chA_len h]
    exact Nat.min_le_right _ _
  have := implUn ((chA l).extract 0 k) w (by omega)
  rw [e, un_part h.2 (by rw [← chA_len h]; exact hk)] at this
  exact this
theorem few_one {l : List ByteArray} (h : fewP l) : fewP [catP l] := by
  refine ⟨by simp, ?_⟩
  rw [sumP_cons, catP_size]
  have := h.2
  simp [sumP] at this ⊢
  omega
theorem readOne (l : List ByteArray) (h : fewP l) (w : World) :
    Calls Tryd.prog 9 #[.string (chA [catP l])] w fun e w' => e = .returned (.tuple #[.string (catP l), .int .i64 ((chA [catP l]).size : Int), .bool true]) ∧ Below w.heap.size w w' := by
  have := readBack [catP l] (few_one h) ⟨#[]⟩ (by decide) w
  rw [catP_one, show chA [catP l] ++ (⟨#[]⟩ : ByteArray) = chA [catP l] from ba_ext (by rw [add_list]; simp)] at this
  exact this
theorem strs_one (w : World) (s : ByteArray) : Strs (w.alloc (.cells #[.string s] 9)) (.slice (some ⟨w.heap.size, 0, none⟩) 1 1) [s] := by
  refine ⟨_, 1, rfl, by simp, by unfold maxLen; omega, fun _ => ⟨w.heap.size, 0, rfl, by simp, fun j hj => ?_⟩⟩
  obtain rfl : j = 0 := by simp at hj; omega
  rw [World.cell?_alloc_mark]
  rfl
theorem catP_take {l : List ByteArray} {k : Nat} (h : k < l.length) : catP (l.take (k + 1)) = catP (l.take k) ++ l[k] := by
  rw [List.take_succ_eq_append_getElem h, catP_snoc]
end Go.Proofs.YtbdnfajdpajfpaaDoor
