/-
  Drawn parts and drawn texts of chunks: whatever is drawn, few parts, none long.
-/
import Derived.Test.YtbdnfajdpajfpaaBend
import Derived.Test.YtbdnfajdpajfpaaPrtD
namespace Go.Proofs.Ytbdnfajdpajfpaa
open Go.RowKit

theorem OwnsP.born (w : World) : OwnsP (w.alloc (.cells #[] 9)) w.heap.size (.slice (some ⟨w.heap.size, 0, none⟩) 0 0) [] :=
  World.ownsRow_lit w #[] 0 (Nat.le_refl _) (by unfold maxLen; decide) rfl
theorem OwnsP.from {w : World} {B : Nat} {v : Value} {l : List ByteArray} (h : OwnsP w B v l) : ∀ k, v.ownBlock = some k → B ≤ k := fun k hk => (World.ownsRow.lt h k hk).1
theorem OwnsP.beside {w w' : World} {B b : Nat} {v : Value} {l : List ByteArray} (h : OwnsP w B v l) (hb : Beside b w w') (hB : b < B) : OwnsP w' B v l := by
  refine ⟨h.1, ?_⟩
  rcases h.2 with h0 | ⟨g, cap, cur, hv, hbg, hg, rest⟩
  · exact .inl h0
  · exact .inr ⟨g, cap, cur, hv, hbg, by rw [hb.2.2.2.2 g (Array.getElem?_eq_some_iff.1 hg).1 (by omega)]; exact hg, rest⟩
theorem OwnsP.kept {w w' : World} {B : Nat} {v : Value} {l : List ByteArray} (h : OwnsP w B v l) (hb : Below w.heap.size w w') : OwnsP w' B v l := by
  refine ⟨h.1, ?_⟩
  rcases h.2 with h0 | ⟨g, cap, cur, hv, hbg, hg, rest⟩
  · exact .inl h0
  · exact .inr ⟨g, cap, cur, hv, hbg, by rw [hb.block g (Array.getElem?_eq_some_iff.1 hg).1]; exact hg, rest⟩
theorem OwnsP.low {w : World} {B B' : Nat} {v : Value} {l : List ByteArray} (h : OwnsP w B v l) (hB : B' ≤ B) : OwnsP w B' v l := by
  refine ⟨h.1, ?_⟩
  rcases h.2 with h0 | ⟨g, cap, cur, hv, hb, hg, rest⟩
  · exact .inl h0
  · exact .inr ⟨g, cap, cur, hv, by omega, hg, rest⟩
/-- One text appended. -/
theorem wpList_pushP {ops : Array Oper} {rest : List Oper} {o : Oper} {a : Act} {Q : Exit → Act → World → Prop} (w : World) (hgd : o.guard = none) (s x : Operand)
    (ho : o.op = .call { callee := .builtin .append, args := #[s, x], argTypes := #[60, 60] }) (B : Nat) (v : Value) (l : List ByteArray) (c : ByteArray) (hs : a.eval s = v) (hown : OwnsP w B v l)
    (hx : a.eval x = .slice (some ⟨w.heap.size, 0, none⟩) 1 1) (hlen : l.length ≤ 1000000) (hB : B ≤ w.heap.size)
    (h : ∀ v' w', OwnsP w' B v' (l ++ [c]) → w.grownBy w' v.ownBlock → wpList Try.prog ops Q rest (a.put o.dst v') w') :
    wpList Try.prog ops Q (o :: rest) a (w.alloc (.cells #[.string c] 9)) := by
  obtain ⟨i0, hi, hz0, hz1, hz2⟩ := info_parts Try.info9p
  refine wpList_append_own _ hgd s x 60 ho B 9 i0 (.string ⟨#[]⟩) 1 16 Try.underlying60 hi hz0 hz1 hz2 rfl (by decide) v l.length (l.map Value.string) hs (World.ownsRow.alloc hown _) ⟨w.heap.size, 0, none⟩ 1 1 [.string c] hx rfl (cell_one_new _ _ _)
    (by intro u hu; simp at hu; subst hu; rfl) (by unfold maxLen; omega) (by omega) (by simp; omega) ?_
  intro v' w' h1 h2 _
  refine h v' w' ?_ ⟨h2.os, h2.tape, h2.output, ?_, ?_⟩
  · unfold OwnsP
    rw [List.map_append, List.length_append]
    exact h1
  · have := h2.size
    simp at this
    omega
  · intro k hk hne
    rw [h2.block k (by simp; omega) hne]
    exact Below.heap_alloc _ _ _ hk
theorem make_text5 (w : World) (n : Nat) (hn : n ≤ 10000) : ∃ w', (Instr.makeSlice 22 (.int .i64 (n : Int)) (.int .i64 (n : Int))).run Try.prog w = .ok (.slice (some ⟨w.heap.size, 0, none⟩) n n) w' ∧ Below w.heap.size w w' ∧ ∃ t : ByteArray, t.size = n ∧ (convert 22 9 (.slice (some ⟨w.heap.size, 0, none⟩) n n)).run Try.prog w' = .ok (.string t) w' := by
  obtain ⟨i0, hi, hz0, hz1, hz2⟩ := info_parts Try.info5
  obtain ⟨w', h1, h2, h3⟩ := run_makeSlice_full (P := Try.prog) w w.heap.size 22 5 i0 (.int .u8 0) 1 Try.underlying22 hi hz0 hz1 .i64 .i64 n (by omega) (by rw [hz2]; omega) (by unfold maxLen; omega) (Nat.le_refl _)
  have hl : (madeCells (Value.int IntKind.u8 0).cells (n * 1)).toList = bytesV (List.replicate n 0) := by
    have e := toList_madeCells_one (.int .u8 0) (n * 1)
    rw [show (Value.int IntKind.u8 0).cells = #[.int .u8 0] from rfl, e, Nat.mul_one]
    unfold bytesV
    rw [List.map_replicate]
    rfl
  rw [hl] at h2
  have ho : OwnsB w' w.heap.size (.slice (some ⟨w.heap.size, 0, none⟩) n n) (List.replicate n 0) := by
    unfold OwnsB
    rw [List.length_replicate]
    exact h2
  refine ⟨w', h1, (Below.refl _ w).grown h3 (Nat.le_refl _) (fun j hj => by cases hj), _, ?_, ho.text⟩
  show (List.replicate n (0 : UInt8)).toArray.size = n
  simp

theorem sumP_empty (n : Nat) : sumP (List.replicate n ⟨#[]⟩) = 0 := by
  induction n with
  | zero => rfl
  | succ n ih => rw [List.replicate_succ, sumP_cons, ih]; rfl
set_option maxHeartbeats 4000000 in
theorem l5Parts (b : Nat) (sa : Option Addr) (sl sc : Nat) (w : World) (hc : Cur w b sa sl sc) :
    Calls Try.prog 38 #[.pointer (some ⟨b, 0, none⟩)] w fun e w' => ∃ u l, e = .returned u ∧ OwnsP w' w.heap.size u l ∧ l.length ≤ 101 ∧ sumP l ≤ 5000 ∧ Cur w' b sa sl sc ∧ Beside b w w' := by
  have hbz : b < w.heap.size := hc.2.2.1
  have hc0 : Cur (w.alloc (.cells #[] 9)) b sa sl sc := hc.kept ((Below.refl _ w).alloc (Nat.le_refl _) _) hbz
  have hb0 : Beside b w (w.alloc (.cells #[] 9)) := (Beside.refl b w).below ((Below.refl _ w).alloc (Nat.le_refl _) _)
  have ho0 : OwnsP (w.alloc (.cells #[] 9)) w.heap.size (.slice (some ⟨w.heap.size, 0, none⟩) 0 0) [] := OwnsP.born w
  go_enter Try.func38, Try.ntmps38
  go_wp2_with fail
  refine (l1Below b sa sl sc 5 (by omega) (by omega) _ hc0).mono ?_
  rintro e w1 ⟨x, rfl, hx0, hx1, hc1, hb1⟩
  obtain ⟨x, rfl⟩ := Int.eq_ofNat_of_zero_le hx0
  have ho1 := ho0.beside hb1 hbz
  have hB1 := hb0.trans hb1
  clear ho0 hb0 hb1 hc0
  go_wp2
  go_loopw [3, 4] (fun u n wr => ∃ (k : Nat) (l : List ByteArray), n = .int .i64 k ∧ k ≤ 4 ∧ l.length + k ≤ 4 ∧ sumP l ≤ 20 * l.length ∧ OwnsP wr w.heap.size u l ∧ Cur wr b sa sl sc ∧ Beside b w wr) (fun _ n _ => (intOf n).toNat)
  case atStart => exact ⟨x, [], rfl, by omega, by simp; omega, by simp [sumP], ho1, hc1, hB1⟩
  case round =>
    obtain ⟨k, l, rfl, hk, hlk, hsl, ho, hcr, hbr⟩ := hrel
    have hsz : w.heap.size ≤ wr.heap.size := hbr.2.2.2.1
    by_cases hpos : 0 < k
    · have hpos' : (0 : Int) < (k : Int) := by omega
      go_wp2_with (first
        | (go_at_call 49; refine (l1DrawText b sa sl sc ⟨#[97, 98, 13, 10, 48]⟩ 20 (by decide) (by decide) (by omega) _ hcr).mono ?_; rintro e w2 ⟨t, rfl, ht, hc2, hb2⟩; have ho2 := ho.beside hb2 hbz; have hB2 := hbr.trans hb2)
        | (at_builtin; refine wpList_pushP _ rfl (.tmp 12) (.tmp 15) rfl w.heap.size _ l t rfl ho2 rfl (by omega) hB2.2.2.2.1 ?_; intro v3 w3 ho3 hg3; have hW3 := (Below.refl w.heap.size w2).grown hg3 hB2.2.2.2.1 (OwnsP.from ho2); have hc3 := hc2.kept hW3 hbz; have hB3 : Beside b w w3 := hB2.grow hW3 (Nat.le_refl _)))
      go_roundw
      case rel =>
        refine ⟨k - 1, l ++ [t], ?_, by omega, by rw [List.length_append, List.length_singleton]; omega, by rw [sumP_snoc, List.length_append, List.length_singleton]; omega, ho3, hc3, hB3⟩
        rw [show ((k - 1 : Nat) : Int) = (k : Int) - 1 by omega]
      case measure => simp [intOf]; omega
    · obtain rfl : k = 0 := by omega
      go_wp2_with fail
      refine (l1Once b sa sl sc 30 (by omega) (by omega) _ hcr).mono ?_
      rintro e w2 ⟨tt, rfl, hc2, hb2⟩
      have ho2 := ho.beside hb2 hbz
      have hB2 := hbr.trans hb2
      cases tt with
      | false =>
        go_wp2
        go_ret
        exact ⟨_, l, rfl, ho2, by omega, by omega, hc2, hB2⟩
      | true =>
        go_wp2_with fail
        refine (l1Below b sa sl sc 2 (by omega) (by omega) _ hc2).mono ?_
        rintro e w3 ⟨y, rfl, hy0, hy1, hc3, hb3⟩
        have ho3 := ho2.beside hb3 hbz
        have hB3 := hB2.trans hb3
        rcases (show y = 0 ∨ y = 1 by omega) with rfl | rfl
        · go_wp2_with fail
          refine (l1Below b sa sl sc 2 (by omega) (by omega) _ hc3).mono ?_
          rintro e w4 ⟨z, rfl, hz0, hz1, hc4, hb4⟩
          obtain ⟨z, rfl⟩ := Int.eq_ofNat_of_zero_le hz0
          have hB4 := hB3.trans hb4
          obtain ⟨w5, hrun, ho5, hb5⟩ := make_strs w4 (100 + z) (by omega)
          have hzz : ((100 + z : Nat) : Int) = 100 + (z : Int) := by omega
          rw [hzz] at hrun
          go_wp2
          go_ret
          exact ⟨_, _, rfl, ho5.low hB4.2.2.2.1, by rw [List.length_replicate]; omega, by rw [sumP_empty]; omega, hc4.kept hb5 (Nat.lt_of_lt_of_le hbz hB4.2.2.2.1), hB4.below hb5⟩
        · go_wp2_with fail
          refine (l1Below b sa sl sc 60 (by omega) (by omega) _ hc3).mono ?_
          rintro e w4 ⟨z, rfl, hz0, hz1, hc4, hb4⟩
          obtain ⟨z, rfl⟩ := Int.eq_ofNat_of_zero_le hz0
          have ho4 := ho3.beside hb4 hbz
          have hB4 := hB3.trans hb4
          obtain ⟨w5, hrun, hb5, t, ht, hcv⟩ := make_text5 w4 (4000 - z) (by omega)
          have hzz : ((4000 - z : Nat) : Int) = 4000 - (z : Int) := by omega
          rw [hzz] at hrun
          have ho5 := ho4.kept hb5
          have hc5 := hc4.kept hb5 (Nat.lt_of_lt_of_le hbz hB4.2.2.2.1)
          have hB5 := hB4.below hb5
          go_wp2_with (at_builtin; refine wpList_pushP _ rfl (.tmp 29) (.tmp 35) rfl w.heap.size _ l t rfl ho5 rfl (by omega) hB5.2.2.2.1 ?_; intro v6 w6 ho6 hg6; have hW6 := (Below.refl w.heap.size w5).grown hg6 hB5.2.2.2.1 (OwnsP.from ho5); have hc6 := hc5.kept hW6 hbz; have hB6 : Beside b w w6 := hB5.grow hW6 (Nat.le_refl _))
          go_ret
          exact ⟨_, l ++ [t], rfl, ho6, by rw [List.length_append, List.length_singleton]; omega, by rw [sumP_snoc]; omega, hc6, hB6⟩

theorem chA_size (l : List ByteArray) : (chA l).size ≤ 6000 := by
  by_cases h : fewP l
  · rw [← chA_yes h, size_list]
    have h1 := few_take h l.length
    rw [List.take_length] at h1
    unfold chL
    rw [List.length_append, show ([48, 13, 10, 13, 10] : List UInt8).length = 5 from rfl]
    omega
  · rw [← chA_no h]; exact Nat.zero_le _
set_option maxHeartbeats 1000000 in
theorem l5Text (b : Nat) (sa : Option Addr) (sl sc : Nat) (w : World) (hc : Cur w b sa sl sc) :
    Calls Try.prog 32 #[.pointer (some ⟨b, 0, none⟩)] w fun e w' => ∃ t : ByteArray, e = .returned (.string t) ∧ t.size ≤ 6002 ∧ Cur w' b sa sl sc ∧ Beside b w w' := by
  have hbz : b < w.heap.size := hc.2.2.1
  go_enter Try.func32, Try.ntmps32
  go_wp2_with fail
  refine (l5Parts b sa sl sc _ hc).mono ?_
  rintro e w1 ⟨u, l, rfl, ho, hl, hs, hc1, hb1⟩
  have hlt : b < w1.heap.size := hc1.2.2.1
  go_wp2_with fail
  refine (specCh u l _ ho.strs (by omega)).mono ?_
  rintro e w2 ⟨rfl, hb2⟩
  have hsz := chA_size l
  generalize chA l = s at hsz
  have hc2 := hc1.kept hb2 hlt
  have hB2 := hb1.below hb2
  clear ho hc1 hb2 hb1
  go_wp2_with fail
  refine (l1Once b sa sl sc 2 (by omega) (by omega) _ hc2).mono ?_
  rintro e w3 ⟨tt, rfl, hc3, hb3⟩
  have hB3 := hB2.trans hb3
  cases tt with
  | false =>
    go_wp2
    go_ret
    exact ⟨s, rfl, by omega, hc3, hB3⟩
  | true =>
    go_wp2_with fail
    refine (l1Bend b sa sl sc s ⟨#[48, 97, 70, 13, 10, 32]⟩ (by omega) (by decide) (by decide) _ hc3).mono ?_
    rintro e w4 ⟨t, rfl, ht, hc4, hb4⟩
    go_wp2
    go_ret
    exact ⟨t, rfl, by omega, hc4, hB3.trans hb4⟩
end Go.Proofs.Ytbdnfajdpajfpaa
