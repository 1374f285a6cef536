/-
  The specification's Chunked by its contract.
-/
import Derived.Test.YtbdnfajdpajfpaaPrtB
import Derived.Deep.RegionWith
namespace Go.Proofs.Ytbdnfajdpajfpaa
open Go.RowKit

theorem cat_end (s : List UInt8) : ((⟨s.toArray⟩ : ByteArray) ++ (⟨#[48, 13, 10, 13, 10]⟩ : ByteArray)) = ⟨(s ++ [48, 13, 10, 13, 10]).toArray⟩ := ba_ext (by simp)
theorem size_list (s : List UInt8) : (⟨s.toArray⟩ : ByteArray).size = s.length := by show s.toArray.size = _; simp
theorem one_text {p x : ByteArray} (h0 : ¬ p.size = 0) (hx : x.data.toList = hexF 13 p.size) : (x ++ (⟨#[13, 10]⟩ : ByteArray) ++ p ++ (⟨#[13, 10]⟩ : ByteArray)).data.toList = oneL p := by
  rw [oneL_some h0, add_list, add_list, add_list, hx]

set_option maxHeartbeats 4000000 in
set_option maxRecDepth 100000 in
theorem specCh (v : Value) (l : List ByteArray) (w : World) (h : Strs w v l) (hs : sumP l ≤ 100000000) :
    Calls Try.prog 37 #[v] w fun e w' => e = .returned (.string (chA l)) ∧ Below w.heap.size w w' := by
  obtain ⟨a, cap, rfl, h1, h2, h3⟩ := h
  unfold maxLen at h2
  have H3 : Hid _ := h3
  clear h3
  go_enter Try.func37, Try.ntmps37
  go_wp2
  go_loopw [3, 4, 5] (fun n x i wr => ∃ (k m : Nat), n = .int .i64 m ∧ i = .int .i64 k ∧ k ≤ l.length ∧ m ≤ 4000 ∧ (k = 0 ∨ l.length ≤ 100) ∧ Hid (m = sumP (l.take k)) ∧ OwnsB wr w.heap.size x ((l.take k).flatMap oneL) ∧ Below w.heap.size w wr) (fun _ _ i _ => l.length - (intOf i).toNat)
  case atStart => exact ⟨0, 0, rfl, rfl, Nat.zero_le _, by omega, .inl rfl, by simp [Hid, sumP], OwnsB.empty w, (Below.refl _ _).alloc (Nat.le_refl _) _⟩
  case round =>
    obtain ⟨k, m, rfl, rfl, hk, hm, hk0, hmm, hown, hb⟩ := hrel
    by_cases hlt : k < l.length
    · obtain ⟨g, o, rfl, hg, hc⟩ := H3.out (by omega)
      have c1 := (hb.cell (p := ⟨g, o + k, none⟩) hg).trans (hc k hlt)
      have hnx := sumP_next hlt
      have htk := sumP_take l (k + 1)
      have hme : m = sumP (l.take k) := hmm.out
      have hsz := sumP_at hlt
      have HN : Hid _ := flat_next hlt
      have hm1 : Hid (m + l[k].size = sumP (l.take (k + 1))) := by show _ = _; omega
      have hfl : ((l.take k).flatMap oneL).length ≤ m + 18 * k := by
        have e1 := flat_length (l.take k) (by omega)
        have e2 : (l.take k).length ≤ k := by rw [List.length_take]; exact Nat.min_le_left _ _
        omega
      have hno : (4000 < m + l[k].size ∨ 100 < l.length) → (⟨#[]⟩ : ByteArray) = chA l := fun x => chA_no fun y => by
        have y1 := y.1
        have y2 := y.2
        omega
      have HNO : Hid _ := hno
      generalize hpd : l[k] = p at c1 hsz HN hm1 HNO
      clear hc hnx htk hme hno hmm
      by_cases hbad1 : 4000 < m + p.size
      · have HR : Hid ((⟨#[]⟩ : ByteArray) = chA l) := HNO.out (.inl hbad1)
        have hb1' : (4000 : Int) < (m : Int) + (p.size : Int) := by omega
        clear HNO HN hm1
        go_wp2
        go_ret
        exact ⟨ret_str HR.out, hb⟩
      have hb1' : ¬ (4000 : Int) < (m : Int) + (p.size : Int) := by omega
      by_cases hbad2 : 100 < l.length
      · have HR : Hid ((⟨#[]⟩ : ByteArray) = chA l) := HNO.out (.inr hbad2)
        have hb2' : (100 : Int) < (l.length : Int) := by omega
        clear HNO HN hm1
        go_wp2
        go_ret
        exact ⟨ret_str HR.out, hb⟩
      have hb2' : ¬ (100 : Int) < (l.length : Int) := by omega
      clear HNO
      generalize hS1 : (l.take (k + 1)).flatMap oneL = s1 at HN
      generalize hM1 : sumP (l.take (k + 1)) = m1 at hm1
      generalize (l.take k).flatMap oneL = s0 at hown HN hfl
      by_cases h0 : p.size = 0
      · have e1 := void5 h0
        have e2 : p.toList.isEmpty = true := by rw [e1]; rfl
        have hS : Hid (s1 = s0) := by show s1 = s0; rw [show s1 = s0 ++ oneL p from HN.out, oneL_none h0, List.append_nil]
        clear HN
        go_wp2
        go_roundw
        case rel => exact ⟨k + 1, m + p.size, by go_num, by go_num, by omega, by omega, .inr (by omega), by rw [hM1]; exact hm1, by rw [hS1, show s1 = s0 from hS.out]; exact hown, hb⟩
        case measure => simp [intOf]; omega
      · have e1 := full5 h0
        have e2 : p.toList.isEmpty = false := by simpa using e1
        have hlx := hexL_list (n := p.size) (by omega)
        have hfx := hexA_fits (n := p.size) (by omega)
        have hx : ∀ w, Calls Try.prog 48 #[.int .i64 (p.size : Int)] w fun e w' => e = .returned (.string (hexA (p.size : Int))) ∧ w = w' := fun w => specHex _ w
        have HX : Hid _ := hx
        clear hx
        generalize hexA (p.size : Int) = x0 at HX hlx hfx
        have hT : Hid ((x0 ++ (⟨#[13, 10]⟩ : ByteArray) ++ p ++ (⟨#[13, 10]⟩ : ByteArray)).data.toList = oneL p) := one_text h0 hlx
        have z1 : (x0 ++ (⟨#[13, 10]⟩ : ByteArray)).size = x0.size + 2 := by rw [ByteArray.size_append]; rfl
        have z2 : (x0 ++ (⟨#[13, 10]⟩ : ByteArray) ++ p).size = x0.size + 2 + p.size := by rw [ByteArray.size_append, z1]
        have z3 : (x0 ++ (⟨#[13, 10]⟩ : ByteArray) ++ p ++ (⟨#[13, 10]⟩ : ByteArray)).size = x0.size + 2 + p.size + 2 := by rw [ByteArray.size_append, z2]; rfl
        have Z3 : Hid _ := z3
        have q1 : ¬ 9223372036854775807 < x0.size + 2 := by omega
        have q2 : ¬ 9223372036854775807 < x0.size + 2 + p.size := by omega
        have q3 : ¬ 9223372036854775807 < x0.size + 2 + p.size + 2 := by omega
        clear hlx z3
        go_wp2
        go_region_law (first
          | (refine step_ownStr rfl (.tmp 32) (.tmp 45) rfl w.heap.size _ s0 (x0 ++ (⟨#[13, 10]⟩ : ByteArray) ++ p ++ (⟨#[13, 10]⟩ : ByteArray)) (by first | rfl | (simp [Act.eval]; done)) (OwnsB.drew hown) (by first | rfl | (simp [Act.eval]; done)) (by have := Z3.out; omega) hb.size ?_; intro v2 w2 ho2 hg2)
          | (go_simp; go_at_call 48; refine (HX.out _).mono ?_; rintro e w5 ⟨rfl, rfl⟩))
        all_goals
          have hb02 := hb.grown (show wr.grownBy w2 _ from ⟨hg2.os, hg2.tape, hg2.output, hg2.size, hg2.block⟩) hb.size (OwnsB.from hown)
          rw [show _ = oneL p from hT.out, ← show s1 = _ from HN.out] at ho2
          clear hown hb hg2 c1 z1 z2
          go_wp2
          go_roundw
          case rel => exact ⟨k + 1, m + p.size, by go_num, by go_num, by omega, by omega, .inr (by omega), by rw [hM1]; exact hm1, by rw [hS1]; exact ho2, hb02⟩
          case measure => simp [intOf]; omega
    · obtain rfl : k = l.length := by omega
      have hl100 : l.length ≤ 100 := by omega
      have hl' : ¬ (100 : Int) < (l.length : Int) := by omega
      have hme : m = sumP (l.take l.length) := hmm.out
      rw [List.take_length] at hown hme
      have hfl : (l.flatMap oneL).length ≤ m + 18 * l.length := by
        have e1 := flat_length l (by omega)
        omega
      have HF : Hid ((⟨(l.flatMap oneL ++ [48, 13, 10, 13, 10]).toArray⟩ : ByteArray) = chA l) := by
        show _ = chA l
        rw [← chA_yes ⟨hl100, by omega⟩]
        rfl
      generalize l.flatMap oneL = s0 at hown HF hfl
      have htx := hown.text
      have hsz := size_list s0
      have q1 : ¬ 9223372036854775807 < s0.length + 5 := by omega
      clear hme hmm
      go_wp2
      go_ret
      exact ⟨ret_str (by first | exact (cat_end s0).trans HF.out | exact HF.out), hb⟩
end Go.Proofs.Ytbdnfajdpajfpaa
