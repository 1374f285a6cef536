/-
  The specification's Chunked by its contract.
  Drawn parts and drawn texts of chunks: whatever is drawn, few parts, none long.
  Drawn states of chunks: whatever is drawn, a small state.
-/
import Derived.Test.YteibacmohplblaaGreatDoorG30
import Derived.Deep.RegionWith
import Derived.Test.YteibacmohplblaaGreatDoorG28
import Derived.Test.YteibacmohplblaaGreatDoorG21
import Derived.Test.YteibacmohplblaaGreatDoorG20
namespace Go.Proofs.YteibacmohplblaaGreatDoor
open Go.RowKit

theorem cat_end (s : List UInt8) : ((⟨s.toArray⟩ : ByteArray) ++ (⟨#[48, 13, 10, 13, 10]⟩ : ByteArray)) = ⟨(s ++ [48, 13, 10, 13, 10]).toArray⟩ := ba_ext (by simp)
theorem size_list (s : List UInt8) : (⟨s.toArray⟩ : ByteArray).size = s.length := by show s.toArray.size = _; simp
theorem one_text {p x : ByteArray} (h0 : ¬ p.size = 0) (hx : x.data.toList = hexF 13 p.size) : (x ++ (⟨#[13, 10]⟩ : ByteArray) ++ p ++ (⟨#[13, 10]⟩ : ByteArray)).data.toList = oneL p := by
  rw [oneL_some h0, add_list, add_list, add_list, hx]

set_option maxHeartbeats 4000000 in
set_option maxRecDepth 100000 in
theorem specCh (v : Value) (l : List ByteArray) (w : World) (h : StrsP w v l) (hs : sumP l ≤ 100000000) :
    Calls Tryz.prog 129 #[v] w fun e w' => e = .returned (.string (chA l)) ∧ Below w.heap.size w w' := by
  obtain ⟨a, cap, rfl, h1, h2, h3⟩ := h
  unfold maxLen at h2
  have H3 : Hid _ := h3
  clear h3
  go_enter Tryz.func129, Tryz.ntmps129
  go_wp2
  go_loopw [3, 4, 5] (fun n x i wr => ∃ (k m : Nat), n = .int .i64 m ∧ i = .int .i64 k ∧ k ≤ l.length ∧ m ≤ 4000 ∧ (k = 0 ∨ l.length ≤ 100) ∧ Hid (m = sumP (l.take k)) ∧ OwnsB wr w.heap.size x ((l.take k).flatMap oneL) ∧ Below w.heap.size w wr) (fun _ _ i _ => l.length - (intOf i).toNat)
  case atStart => exact ⟨0, 0, rfl, rfl, Nat.zero_le _, by omega, .inl rfl, by simp [Hid, sumP], OwnsB.empty w, (Below.refl _ _).alloc (Nat.le_refl _) _⟩
  case round =>
    obtain ⟨k, m, rfl, rfl, hk, hm, hk0, hmm, hown, hb⟩ := hrel
    by_cases hlt : k < l.length
    · obtain ⟨g, o, rfl, hg, hc⟩ := H3.out (by omega)
      have c1 := (hb.cell (p := ⟨g, o + k, none⟩) hg).trans (hc k hlt)
      have hnx := sumP_next hlt
      have htk := sumP_take l (k + 1)
      have hme : m = sumP (l.take k) := hmm.out
      have hsz := sumP_at hlt
      have HN : Hid _ := flat_next hlt
      have hm1 : Hid (m + l[k].size = sumP (l.take (k + 1))) := by show _ = _; omega
      have hfl : ((l.take k).flatMap oneL).length ≤ m + 18 * k := by
        have e1 := flat_length (l.take k) (by omega)
        have e2 : (l.take k).length ≤ k := by rw [List.length_take]; exact Nat.min_le_left _ _
        omega
      have hno : (4000 < m + l[k].size ∨ 100 < l.length) → (⟨#[]⟩ : ByteArray) = chA l := fun x => chA_no fun y => by
        have y1 := y.1
        have y2 := y.2
        omega
      have HNO : Hid _ := hno
      generalize hpd : l[k] = p at c1 hsz HN hm1 HNO
      clear hc hnx htk hme hno hmm
      by_cases hbad1 : 4000 < m + p.size
      · have HR : Hid ((⟨#[]⟩ : ByteArray) = chA l) := HNO.out (.inl hbad1)
        have hb1' : (4000 : Int) < (m : Int) + (p.size : Int) := by omega
        clear HNO HN hm1
        go_wp2
        go_ret
        exact ⟨ret_str HR.out, hb⟩
      have hb1' : ¬ (4000 : Int) < (m : Int) + (p.size : Int) := by omega
      by_cases hbad2 : 100 < l.length
      · have HR : Hid ((⟨#[]⟩ : ByteArray) = chA l) := HNO.out (.inr hbad2)
        have hb2' : (100 : Int) < (l.length : Int) := by omega
        clear HNO HN hm1
        go_wp2
        go_ret
        exact ⟨ret_str HR.out, hb⟩
      have hb2' : ¬ (100 : Int) < (l.length : Int) := by omega
      clear HNO
      generalize hS1 : (l.take (k + 1)).flatMap oneL = s1 at HN
      generalize hM1 : sumP (l.take (k + 1)) = m1 at hm1
      generalize (l.take k).flatMap oneL = s0 at hown HN hfl
      by_cases h0 : p.size = 0
      · have e1 := void5 h0
        have e2 : p.toList.isEmpty = true := by rw [e1]; rfl
        have hS : Hid (s1 = s0) := by show s1 = s0; rw [show s1 = s0 ++ oneL p from HN.out, oneL_none h0, List.append_nil]
        clear HN
        go_wp2
        go_roundw
        case rel => exact ⟨k + 1, m + p.size, by go_num, by go_num, by omega, by omega, .inr (by omega), by rw [hM1]; exact hm1, by rw [hS1, show s1 = s0 from hS.out]; exact hown, hb⟩
        case measure => simp [intOf]; omega
      · have e1 := full5 h0
        have e2 : p.toList.isEmpty = false := by simpa using e1
        have hlx := hexL_list (n := p.size) (by omega)
        have hfx := hexA_fits (n := p.size) (by omega)
        have hx : ∀ w, Calls Tryz.prog 147 #[.int .i64 (p.size : Int)] w fun e w' => e = .returned (.string (hexA (p.size : Int))) ∧ w = w' := fun w => specHex _ w
        have HX : Hid _ := hx
        clear hx
        generalize hexA (p.size : Int) = x0 at HX hlx hfx
        have hT : Hid ((x0 ++ (⟨#[13, 10]⟩ : ByteArray) ++ p ++ (⟨#[13, 10]⟩ : ByteArray)).data.toList = oneL p) := one_text h0 hlx
        have z1 : (x0 ++ (⟨#[13, 10]⟩ : ByteArray)).size = x0.size + 2 := by rw [ByteArray.size_append]; rfl
        have z2 : (x0 ++ (⟨#[13, 10]⟩ : ByteArray) ++ p).size = x0.size + 2 + p.size := by rw [ByteArray.size_append, z1]
        have z3 : (x0 ++ (⟨#[13, 10]⟩ : ByteArray) ++ p ++ (⟨#[13, 10]⟩ : ByteArray)).size = x0.size + 2 + p.size + 2 := by rw [ByteArray.size_append, z2]; rfl
        have Z3 : Hid _ := z3
        have q1 : ¬ 9223372036854775807 < x0.size + 2 := by omega
        have q2 : ¬ 9223372036854775807 < x0.size + 2 + p.size := by omega
        have q3 : ¬ 9223372036854775807 < x0.size + 2 + p.size + 2 := by omega
        clear hlx z3
        go_wp2
        go_region_law (first
          | (refine step_ownStr rfl (.tmp 32) (.tmp 45) rfl w.heap.size _ s0 (x0 ++ (⟨#[13, 10]⟩ : ByteArray) ++ p ++ (⟨#[13, 10]⟩ : ByteArray)) (by first | rfl | (simp [Act.eval]; done)) (OwnsB.drew hown) (by first | rfl | (simp [Act.eval]; done)) (by have := Z3.out; omega) hb.size ?_; intro v2 w2 ho2 hg2)
          | (go_simp; go_at_call 147; refine (HX.out _).mono ?_; rintro e w5 ⟨rfl, rfl⟩))
        all_goals
          have hb02 := hb.grown (show wr.grownBy w2 _ from ⟨hg2.os, hg2.tape, hg2.output, hg2.size, hg2.block⟩) hb.size (OwnsB.from hown)
          rw [show _ = oneL p from hT.out, ← show s1 = _ from HN.out] at ho2
          clear hown hb hg2 c1 z1 z2
          go_wp2
          go_roundw
          case rel => exact ⟨k + 1, m + p.size, by go_num, by go_num, by omega, by omega, .inr (by omega), by rw [hM1]; exact hm1, by rw [hS1]; exact ho2, hb02⟩
          case measure => simp [intOf]; omega
    · obtain rfl : k = l.length := by omega
      have hl100 : l.length ≤ 100 := by omega
      have hl' : ¬ (100 : Int) < (l.length : Int) := by omega
      have hme : m = sumP (l.take l.length) := hmm.out
      rw [List.take_length] at hown hme
      have hfl : (l.flatMap oneL).length ≤ m + 18 * l.length := by
        have e1 := flat_length l (by omega)
        omega
      have HF : Hid ((⟨(l.flatMap oneL ++ [48, 13, 10, 13, 10]).toArray⟩ : ByteArray) = chA l) := by
        show _ = chA l
        rw [← chA_yes ⟨hl100, by omega⟩]
        rfl
      generalize l.flatMap oneL = s0 at hown HF hfl
      have htx := hown.text
      have hsz := size_list s0
      have q1 : ¬ 9223372036854775807 < s0.length + 5 := by omega
      clear hme hmm
      go_wp2
      go_ret
      exact ⟨ret_str (by first | exact (cat_end s0).trans HF.out | exact HF.out), hb⟩
end Go.Proofs.YteibacmohplblaaGreatDoor
namespace Go.Proofs.YteibacmohplblaaGreatDoor
open Go.RowKit

theorem OwnsP.born (w : World) : OwnsP (w.alloc (.cells #[] 9)) w.heap.size (.slice (some ⟨w.heap.size, 0, none⟩) 0 0) [] :=
  World.ownsRow_lit w #[] 0 (Nat.le_refl _) (by unfold maxLen; decide) rfl
theorem OwnsP.from {w : World} {B : Nat} {v : Value} {l : List ByteArray} (h : OwnsP w B v l) : ∀ k, v.ownBlock = some k → B ≤ k := fun k hk => (World.ownsRow.lt h k hk).1
theorem OwnsP.beside {w w' : World} {B b : Nat} {v : Value} {l : List ByteArray} (h : OwnsP w B v l) (hb : Beside b w w') (hB : b < B) : OwnsP w' B v l := by
  refine ⟨h.1, ?_⟩
  rcases h.2 with h0 | ⟨g, cap, cur, hv, hbg, hg, rest⟩
  · exact .inl h0
  · exact .inr ⟨g, cap, cur, hv, hbg, by rw [hb.2.2.2.2 g (Array.getElem?_eq_some_iff.1 hg).1 (by omega)]; exact hg, rest⟩
theorem OwnsP.kept {w w' : World} {B : Nat} {v : Value} {l : List ByteArray} (h : OwnsP w B v l) (hb : Below w.heap.size w w') : OwnsP w' B v l := by
  refine ⟨h.1, ?_⟩
  rcases h.2 with h0 | ⟨g, cap, cur, hv, hbg, hg, rest⟩
  · exact .inl h0
  · exact .inr ⟨g, cap, cur, hv, hbg, by rw [hb.block g (Array.getElem?_eq_some_iff.1 hg).1]; exact hg, rest⟩
theorem OwnsP.low {w : World} {B B' : Nat} {v : Value} {l : List ByteArray} (h : OwnsP w B v l) (hB : B' ≤ B) : OwnsP w B' v l := by
  refine ⟨h.1, ?_⟩
  rcases h.2 with h0 | ⟨g, cap, cur, hv, hb, hg, rest⟩
  · exact .inl h0
  · exact .inr ⟨g, cap, cur, hv, by omega, hg, rest⟩
/-- One text appended. -/
theorem wpList_pushP {ops : Array Oper} {rest : List Oper} {o : Oper} {a : Act} {Q : Exit → Act → World → Prop} (w : World) (hgd : o.guard = none) (s x : Operand)
    (ho : o.op = .call { callee := .builtin .append, args := #[s, x], argTypes := #[74, 74] }) (B : Nat) (v : Value) (l : List ByteArray) (c : ByteArray) (hs : a.eval s = v) (hown : OwnsP w B v l)
    (hx : a.eval x = .slice (some ⟨w.heap.size, 0, none⟩) 1 1) (hlen : l.length ≤ 1000000) (hB : B ≤ w.heap.size)
    (h : ∀ v' w', OwnsP w' B v' (l ++ [c]) → w.grownBy w' v.ownBlock → wpList Tryz.prog ops Q rest (a.put o.dst v') w') :
    wpList Tryz.prog ops Q (o :: rest) a (w.alloc (.cells #[.string c] 9)) := by
  obtain ⟨i0, hi, hz0, hz1, hz2⟩ := info_parts Tryz.info9p
  refine wpList_append_own _ hgd s x 74 ho B 9 i0 (.string ⟨#[]⟩) 1 16 Tryz.underlying74 hi hz0 hz1 hz2 rfl (by decide) v l.length (l.map Value.string) hs (World.ownsRow.alloc hown _) ⟨w.heap.size, 0, none⟩ 1 1 [.string c] hx rfl (cell_one_new _ _ _)
    (by intro u hu; simp at hu; subst hu; rfl) (by unfold maxLen; omega) (by omega) (by simp; omega) ?_
  intro v' w' h1 h2 _
  refine h v' w' ?_ ⟨h2.os, h2.tape, h2.output, ?_, ?_⟩
  · unfold OwnsP
    rw [List.map_append, List.length_append]
    exact h1
  · have := h2.size
    simp at this
    omega
  · intro k hk hne
    rw [h2.block k (by simp; omega) hne]
    exact Below.heap_alloc _ _ _ hk
theorem make_text5 (w : World) (n : Nat) (hn : n ≤ 10000) : ∃ w', (Instr.makeSlice 22 (.int .i64 (n : Int)) (.int .i64 (n : Int))).run Tryz.prog w = .ok (.slice (some ⟨w.heap.size, 0, none⟩) n n) w' ∧ Below w.heap.size w w' ∧ ∃ t : ByteArray, t.size = n ∧ (convert 22 9 (.slice (some ⟨w.heap.size, 0, none⟩) n n)).run Tryz.prog w' = .ok (.string t) w' := by
  obtain ⟨i0, hi, hz0, hz1, hz2⟩ := info_parts Tryz.info5
  obtain ⟨w', h1, h2, h3⟩ := run_makeSlice_full (P := Tryz.prog) w w.heap.size 22 5 i0 (.int .u8 0) 1 Tryz.underlying22 hi hz0 hz1 .i64 .i64 n (by omega) (by rw [hz2]; omega) (by unfold maxLen; omega) (Nat.le_refl _)
  have hl : (madeCells (Value.int IntKind.u8 0).cells (n * 1)).toList = bytesV (List.replicate n 0) := by
    have e := toList_madeCells_one (.int .u8 0) (n * 1)
    rw [show (Value.int IntKind.u8 0).cells = #[.int .u8 0] from rfl, e, Nat.mul_one]
    unfold bytesV
    rw [List.map_replicate]
    rfl
  rw [hl] at h2
  have ho : OwnsB w' w.heap.size (.slice (some ⟨w.heap.size, 0, none⟩) n n) (List.replicate n 0) := by
    unfold OwnsB
    rw [List.length_replicate]
    exact h2
  refine ⟨w', h1, (Below.refl _ w).grown h3 (Nat.le_refl _) (fun j hj => by cases hj), _, ?_, ho.text⟩
  show (List.replicate n (0 : UInt8)).toArray.size = n
  simp

theorem sumP_empty (n : Nat) : sumP (List.replicate n ⟨#[]⟩) = 0 := by
  induction n with
  | zero => rfl
  | succ n ih => rw [List.replicate_succ, sumP_cons, ih]; rfl
set_option maxHeartbeats 4000000 in
theorem l5Parts (b : Nat) (sa : Option Addr) (sl sc : Nat) (w : World) (hc : Cur w b sa sl sc) :
    Calls Tryz.prog 130 #[.pointer (some ⟨b, 0, none⟩)] w fun e w' => ∃ u l, e = .returned u ∧ OwnsP w' w.heap.size u l ∧ l.length ≤ 101 ∧ sumP l ≤ 5000 ∧ Cur w' b sa sl sc ∧ Beside b w w' := by
  have hbz : b < w.heap.size := hc.2.2.1
  have hc0 : Cur (w.alloc (.cells #[] 9)) b sa sl sc := hc.kept ((Below.refl _ w).alloc (Nat.le_refl _) _) hbz
  have hb0 : Beside b w (w.alloc (.cells #[] 9)) := (Beside.refl b w).below ((Below.refl _ w).alloc (Nat.le_refl _) _)
  have ho0 : OwnsP (w.alloc (.cells #[] 9)) w.heap.size (.slice (some ⟨w.heap.size, 0, none⟩) 0 0) [] := OwnsP.born w
  go_enter Tryz.func130, Tryz.ntmps130
  go_wp2_with fail
  refine (l1Below b sa sl sc 5 (by omega) (by omega) _ hc0).mono ?_
  rintro e w1 ⟨x, rfl, hx0, hx1, hc1, hb1⟩
  obtain ⟨x, rfl⟩ := Int.eq_ofNat_of_zero_le hx0
  have ho1 := ho0.beside hb1 hbz
  have hB1 := hb0.trans hb1
  clear ho0 hb0 hb1 hc0
  go_wp2
  go_loopw [3, 4] (fun u n wr => ∃ (k : Nat) (l : List ByteArray), n = .int .i64 k ∧ k ≤ 4 ∧ l.length + k ≤ 4 ∧ sumP l ≤ 20 * l.length ∧ OwnsP wr w.heap.size u l ∧ Cur wr b sa sl sc ∧ Beside b w wr) (fun _ n _ => (intOf n).toNat)
  case atStart => exact ⟨x, [], rfl, by omega, by simp; omega, by simp [sumP], ho1, hc1, hB1⟩
  case round =>
    obtain ⟨k, l, rfl, hk, hlk, hsl, ho, hcr, hbr⟩ := hrel
    have hsz : w.heap.size ≤ wr.heap.size := hbr.2.2.2.1
    by_cases hpos : 0 < k
    · have hpos' : (0 : Int) < (k : Int) := by omega
      go_wp2_with (first
        | (go_at_call 56; refine (l1DrawText b sa sl sc ⟨#[97, 98, 13, 10, 48]⟩ 20 (by decide) (by decide) (by omega) _ hcr).mono ?_; rintro e w2 ⟨t, rfl, ht, hc2, hb2⟩; have ho2 := ho.beside hb2 hbz; have hB2 := hbr.trans hb2)
        | (at_builtin; refine wpList_pushP _ rfl (.tmp 12) (.tmp 15) rfl w.heap.size _ l t rfl ho2 rfl (by omega) hB2.2.2.2.1 ?_; intro v3 w3 ho3 hg3; have hW3 := (Below.refl w.heap.size w2).grown hg3 hB2.2.2.2.1 (OwnsP.from ho2); have hc3 := hc2.kept hW3 hbz; have hB3 : Beside b w w3 := hB2.grow hW3 (Nat.le_refl _)))
      go_roundw
      case rel =>
        refine ⟨k - 1, l ++ [t], ?_, by omega, by rw [List.length_append, List.length_singleton]; omega, by rw [sumP_snoc, List.length_append, List.length_singleton]; omega, ho3, hc3, hB3⟩
        rw [show ((k - 1 : Nat) : Int) = (k : Int) - 1 by omega]
      case measure => simp [intOf]; omega
    · obtain rfl : k = 0 := by omega
      go_wp2_with fail
      refine (l1Once b sa sl sc 30 (by omega) (by omega) _ hcr).mono ?_
      rintro e w2 ⟨tt, rfl, hc2, hb2⟩
      have ho2 := ho.beside hb2 hbz
      have hB2 := hbr.trans hb2
      cases tt with
      | false =>
        go_wp2
        go_ret
        exact ⟨_, l, rfl, ho2, by omega, by omega, hc2, hB2⟩
      | true =>
        go_wp2_with fail
        refine (l1Below b sa sl sc 2 (by omega) (by omega) _ hc2).mono ?_
        rintro e w3 ⟨y, rfl, hy0, hy1, hc3, hb3⟩
        have ho3 := ho2.beside hb3 hbz
        have hB3 := hB2.trans hb3
        rcases (show y = 0 ∨ y = 1 by omega) with rfl | rfl
        · go_wp2_with fail
          refine (l1Below b sa sl sc 2 (by omega) (by omega) _ hc3).mono ?_
          rintro e w4 ⟨z, rfl, hz0, hz1, hc4, hb4⟩
          obtain ⟨z, rfl⟩ := Int.eq_ofNat_of_zero_le hz0
          have hB4 := hB3.trans hb4
          obtain ⟨w5, hrun, ho5, hb5⟩ := make_strs w4 (100 + z) (by omega)
          have hzz : ((100 + z : Nat) : Int) = 100 + (z : Int) := by omega
          rw [hzz] at hrun
          go_wp2
          go_ret
          exact ⟨_, _, rfl, ho5.low hB4.2.2.2.1, by rw [List.length_replicate]; omega, by rw [sumP_empty]; omega, hc4.kept hb5 (Nat.lt_of_lt_of_le hbz hB4.2.2.2.1), hB4.below hb5⟩
        · go_wp2_with fail
          refine (l1Below b sa sl sc 60 (by omega) (by omega) _ hc3).mono ?_
          rintro e w4 ⟨z, rfl, hz0, hz1, hc4, hb4⟩
          obtain ⟨z, rfl⟩ := Int.eq_ofNat_of_zero_le hz0
          have ho4 := ho3.beside hb4 hbz
          have hB4 := hB3.trans hb4
          obtain ⟨w5, hrun, hb5, t, ht, hcv⟩ := make_text5 w4 (4000 - z) (by omega)
          have hzz : ((4000 - z : Nat) : Int) = 4000 - (z : Int) := by omega
          rw [hzz] at hrun
          have ho5 := ho4.kept hb5
          have hc5 := hc4.kept hb5 (Nat.lt_of_lt_of_le hbz hB4.2.2.2.1)
          have hB5 := hB4.below hb5
          go_wp2_with (at_builtin; refine wpList_pushP _ rfl (.tmp 29) (.tmp 35) rfl w.heap.size _ l t rfl ho5 rfl (by omega) hB5.2.2.2.1 ?_; intro v6 w6 ho6 hg6; have hW6 := (Below.refl w.heap.size w5).grown hg6 hB5.2.2.2.1 (OwnsP.from ho5); have hc6 := hc5.kept hW6 hbz; have hB6 : Beside b w w6 := hB5.grow hW6 (Nat.le_refl _))
          go_ret
          exact ⟨_, l ++ [t], rfl, ho6, by rw [List.length_append, List.length_singleton]; omega, by rw [sumP_snoc]; omega, hc6, hB6⟩

theorem chA_size (l : List ByteArray) : (chA l).size ≤ 6000 := by
  by_cases h : fewP l
  · rw [← chA_yes h, size_list]
    have h1 := few_take h l.length
    rw [List.take_length] at h1
    unfold chL
    rw [List.length_append, show ([48, 13, 10, 13, 10] : List UInt8).length = 5 from rfl]
    omega
  · rw [← chA_no h]; exact Nat.zero_le _
set_option maxHeartbeats 1000000 in
theorem l5Text (b : Nat) (sa : Option Addr) (sl sc : Nat) (w : World) (hc : Cur w b sa sl sc) :
    Calls Tryz.prog 104 #[.pointer (some ⟨b, 0, none⟩)] w fun e w' => ∃ t : ByteArray, e = .returned (.string t) ∧ t.size ≤ 6002 ∧ Cur w' b sa sl sc ∧ Beside b w w' := by
  have hbz : b < w.heap.size := hc.2.2.1
  go_enter Tryz.func104, Tryz.ntmps104
  go_wp2_with fail
  refine (l5Parts b sa sl sc _ hc).mono ?_
  rintro e w1 ⟨u, l, rfl, ho, hl, hs, hc1, hb1⟩
  have hlt : b < w1.heap.size := hc1.2.2.1
  go_wp2_with fail
  refine (specCh u l _ ho.strs (by omega)).mono ?_
  rintro e w2 ⟨rfl, hb2⟩
  have hsz := chA_size l
  generalize chA l = s at hsz
  have hc2 := hc1.kept hb2 hlt
  have hB2 := hb1.below hb2
  clear ho hc1 hb2 hb1
  go_wp2_with fail
  refine (l1Once b sa sl sc 2 (by omega) (by omega) _ hc2).mono ?_
  rintro e w3 ⟨tt, rfl, hc3, hb3⟩
  have hB3 := hB2.trans hb3
  cases tt with
  | false =>
    go_wp2
    go_ret
    exact ⟨s, rfl, by omega, hc3, hB3⟩
  | true =>
    go_wp2_with fail
    refine (l1Bend b sa sl sc s ⟨#[48, 97, 70, 13, 10, 32]⟩ (by omega) (by decide) (by decide) _ hc3).mono ?_
    rintro e w4 ⟨t, rfl, ht, hc4, hb4⟩
    go_wp2
    go_ret
    exact ⟨t, rfl, by omega, hc4, hB3.trans hb4⟩
end Go.Proofs.YteibacmohplblaaGreatDoor
namespace Go.Proofs.YteibacmohplblaaGreatDoor
open Go.RowKit
set_option linter.unusedVariables false

theorem Four.bs {w w' : World} {b k : Nat} {c : Ck} (h : Four w k c) (hb : Beside b w w') (hne : k ≠ b) : Four w' k c := by
  have e : w'.heap[k]? = w.heap[k]? := hb.2.2.2.2 k h.hi hne
  have q : ∀ j, w'.cell? ⟨k, j, none⟩ = w.cell? ⟨k, j, none⟩ := fun j => World.cell?_of_block (a := ⟨k, j, none⟩) e
  exact ⟨(q 0).trans h.c0, (q 1).trans h.c1, (q 2).trans h.c2, (q 3).trans h.c3, fun j => (World.frozen?_of_block (a := ⟨k, j, none⟩) e).trans (h.fz j), Nat.lt_of_lt_of_le h.hi hb.2.2.2.1⟩
theorem Beside.far {g b k : Nat} {a w : World} (h : Beside g a w) (hb : a.heap.size ≤ b) (v : Value) : Beside g a (w.setCell ⟨b, k, none⟩ v) :=
  ⟨h.1, h.2.1, h.2.2.1, by rw [World.size_setCell]; exact h.2.2.2.1, fun j hj hg => (Below.heap_setCell _ _ _ _ (by show j ≠ b; omega)).trans (h.2.2.2.2 j hj hg)⟩
theorem Cur.far {w : World} {b k j : Nat} {sa : Option Addr} {sl sc : Nat} (h : Cur w b sa sl sc) (hk : b < k) (v : Value) : Cur (w.setCell ⟨k, j, none⟩ v) b sa sl sc :=
  h.kept ((Below.refl (b + 1) w).setCell (show b + 1 ≤ k from hk) v) (Nat.lt_succ_self _)
theorem Cur.more {w : World} {b : Nat} {sa : Option Addr} {sl sc : Nat} (h : Cur w b sa sl sc) (o : Obj) : Cur (w.alloc o) b sa sl sc := h.kept ((Below.refl _ w).alloc (Nat.le_refl _) _) h.2.2.1
theorem Beside.more {g : Nat} {a w : World} (h : Beside g a w) (o : Obj) : Beside g a (w.alloc o) := h.below ((Below.refl _ w).alloc (Nat.le_refl _) _)
/-- A small state. -/
def Small (c : Ck) : Prop := c.dg.size ≤ 20 ∧ c.bd.size ≤ 4100
theorem small_fin (l : List UInt8) : Small (fin (ck0 ⟨#[]⟩) l) := by
  obtain ⟨_, ⟨b1, _⟩, d1, e1, _⟩ := ok_fin (ok_ck0 (bd := ⟨#[]⟩) (by show 0 ≤ 4000; omega)) l
  exact ⟨by omega, by omega⟩
def isI5 (v : Value) : Bool := match v with | .int .i64 _ => true | _ => false
def isS5 (v : Value) : Bool := match v with | .string s => decide (s.size ≤ 20) | _ => false
theorem isI5_out {v : Value} (h : isI5 v = true) : ∃ z : Int, v = .int .i64 z := by
  unfold isI5 at h
  split at h
  · exact ⟨_, rfl⟩
  · cases h
theorem isS5_out {v : Value} (h : isS5 v = true) : ∃ s : ByteArray, v = .string s ∧ s.size ≤ 20 := by
  unfold isS5 at h
  split at h
  · exact ⟨_, rfl, of_decide_eq_true h⟩
  · cases h
theorem tabI5 {b : Nat} {w w' : World} {C : Array Value} {t : TypeId} (hb : Beside b (w.alloc (.cells C t)) w') (hne : w.heap.size ≠ b) (y : Nat) (hy : y < C.size) (hall : C.toList.all isI5 = true) : ∃ z : Int, w'.cell? ⟨w.heap.size, y, none⟩ = some (.int .i64 z) := by
  have hm : C[y] ∈ C.toList := by simp
  obtain ⟨z, hz⟩ := isI5_out (List.all_eq_true.1 hall _ hm)
  refine ⟨z, besideCell hb hne ?_⟩
  rw [World.cell?_alloc_mark, Array.getElem?_eq_getElem hy, hz]
theorem tabS5 {b : Nat} {w w' : World} {C : Array Value} {t : TypeId} (hb : Beside b (w.alloc (.cells C t)) w') (hne : w.heap.size ≠ b) (y : Nat) (hy : y < C.size) (hall : C.toList.all isS5 = true) : ∃ z : ByteArray, w'.cell? ⟨w.heap.size, y, none⟩ = some (.string z) ∧ z.size ≤ 20 := by
  have hm : C[y] ∈ C.toList := by simp
  obtain ⟨z, hz, hs⟩ := isS5_out (List.all_eq_true.1 hall _ hm)
  refine ⟨z, besideCell hb hne ?_, hs⟩
  rw [World.cell?_alloc_mark, Array.getElem?_eq_getElem hy, hz]
end Go.Proofs.YteibacmohplblaaGreatDoor
