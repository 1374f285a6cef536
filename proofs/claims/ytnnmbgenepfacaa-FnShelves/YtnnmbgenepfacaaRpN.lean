/-
  The program's staying: how many have room.
-/
import Derived.Test.YtnnmbgenepfacaaRpK
namespace Go.Proofs.Ytnnmbgenepfacaa
open Go.RowKit Go.Sort Rom
set_option linter.unusedVariables false
set_option linter.unusedSimpArgs false

theorem sum_mono {l : List It} (h : ∀ x ∈ l, 1 ≤ x.2) {k : Nat} : ∀ n, k ≤ n → n ≤ l.length → sumI (l.take k) ≤ sumI (l.take n)
  | 0, hk, _ => by rw [show k = 0 by omega]; exact Int.le_refl _
  | n + 1, hk, hn => by
    by_cases e : k = n + 1
    · rw [e]; exact Int.le_refl _
    · have h1 := sum_mono (k := k) h n (by omega) (by omega)
      rw [sumI_take (show n < l.length by omega)]
      have h2 := h l[n] (List.getElem_mem (show n < l.length by omega))
      omega
theorem keepN_at {q : Int} {l : List It} {k : Nat} (h : ∀ x ∈ l, 1 ≤ x.2) (hk : k ≤ l.length) (h1 : sumI (l.take k) ≤ q) (h2 : k ≤ 50) (h3 : k = l.length ∨ k = 50 ∨ (k < l.length ∧ q < sumI (l.take (k + 1)))) : ∀ n, k ≤ n → n ≤ l.length → keepN q l n = k
  | 0, hn, _ => by rw [show k = 0 by omega]; rfl
  | n + 1, hn, hl => by
    by_cases e : k = n + 1
    · rw [← e]; exact keepN_stop ⟨h1, h2⟩
    · rw [keepN_on (fun hh => by
        rcases h3 with h3 | h3 | ⟨h3, h4⟩
        · omega
        · omega
        · have := sum_mono h (k := k + 1) (n + 1) (by omega) hl
          omega)]
      exact keepN_at h hk h1 h2 h3 n (by omega) (by omega)
set_option maxRecDepth 100000 in
set_option maxHeartbeats 4000000 in
theorem implStay (q : Int) (v : Value) (l : List It) (w : World) (h : Sls itE w v l) (hl : l.length ≤ 100) (hq : 1 ≤ q ∧ q ≤ 100000) (hs : ∀ x ∈ l, 1 ≤ x.2 ∧ x.2 ≤ 100000) :
    Calls Try.prog 73 #[v, .int .i64 q] w fun e w' => e = .returned (.int .i64 (keepN q l l.length : Int)) ∧ Below w.heap.size w w' := by
  obtain ⟨a, cap, rfl, h1, h2, h3⟩ := h.itm
  have H2 : Hid (cap ≤ maxLen) := h2
  have HL : Hid (∀ (k : Nat) (hk : k < l.length) W, Below w.heap.size w W → ∃ g o, a = some ⟨g, o, Option.none⟩ ∧ W.cell? ⟨g, o + k * 2, Option.none⟩ = some (.string l[k].1) ∧ W.cell? ⟨g, o + k * 2 + 1, Option.none⟩ = some (.int .i64 l[k].2)) := (show ∀ _, _ from fun k hk W hW => by
    obtain ⟨g, o, ha, hg, hc⟩ := h3 (by omega)
    exact ⟨g, o, ha, (hW.cell (p := ⟨g, o + k * 2, none⟩) hg).trans (hc k hk).1, (hW.cell (p := ⟨g, o + k * 2 + 1, none⟩) hg).trans (hc k hk).2⟩)
  have HS : Hid (∀ x ∈ l, 1 ≤ x.2 ∧ x.2 ≤ 100000) := hs
  have HK : Hid (∀ k, k ≤ l.length → sumI (l.take k) ≤ q → k ≤ 50 → (k = l.length ∨ k = 50 ∨ (k < l.length ∧ q < sumI (l.take (k + 1)))) → keepN q l l.length = k) := (show ∀ _, _ from fun k hk h1 h2 h3 => keepN_at (fun x hx => (hs x hx).1) hk h1 h2 h3 l.length hk (Nat.le_refl _))
  have HM : Hid (∀ k, k ≤ l.length → 0 ≤ sumI (l.take k)) := (show ∀ _, _ from fun k hk => by
    have := sum_mono (fun x hx => (hs x hx).1) (k := 0) k (Nat.zero_le _) hk
    have e : sumI (l.take 0) = 0 := rfl
    omega)
  generalize keepN q l l.length = R at HK ⊢
  clear h h2 h3 hs
  go_enter Try.func73, Try.ntmps73
  go_wp2
  go_loopw [5, 11] (fun lv i wr => ∃ k : Nat, k ≤ l.length ∧ k ≤ 50 ∧ i = .int .i64 k ∧ lv = .int .i64 (q - sumI (l.take k)) ∧ Hid (sumI (l.take k) ≤ q) ∧ Hid (Below w.heap.size w wr)) (fun _ i _ => l.length - (intOf i).toNat)
  case atStart => exact ⟨0, Nat.zero_le _, Nat.zero_le _, rfl, by simp [sumI], (show Hid (sumI (l.take 0) ≤ q) from (show sumI [] ≤ q from by simp [sumI]; omega)), (show Hid _ from Below.refl _ _)⟩
  case round =>
    obtain ⟨k, hk, hk5, rfl, rfl, hsum, hb⟩ := hrel
    by_cases hlt : k < l.length
    · obtain ⟨g, o, rfl, c1, c2⟩ := HL.out k hlt wr hb.out
      have hki : (k : Int) < (l.length : Int) := by omega
      have hsz := HS.out _ (List.getElem_mem hlt)
      have HS5 : Hid (sumI (l.take (k + 1)) = sumI (l.take k) + l[k].2) := sumI_take hlt
      have HKK := HK.out k hk hsum.out hk5
      have hsp := HM.out k hk
      have hsq := hsum.out
      generalize l[k] = x at c1 c2 hsz HS5
      obtain ⟨x1, x2⟩ := x
      dsimp only at c1 c2 hsz HS5
      have hz := hb.out.size
      have BA : Hid (Below w.heap.size w (wr.alloc (.cells #[.string x1, .int .i64 x2] 47))) := (show Hid _ from hb.out.alloc hz _)
      obtain ⟨S0, hS0⟩ : ∃ z, z = sumI (l.take k) := ⟨_, rfl⟩
      rw [← hS0] at HS5 hsp hsq ⊢
      obtain ⟨S1, hS1⟩ : ∃ z, z = sumI (l.take (k + 1)) := ⟨_, rfl⟩
      rw [← hS1] at HS5 HKK
      have HSX : Hid (S1 = sumI (l.take (k + 1))) := hS1
      clear hS0 hS1
      by_cases e5 : k = 50
      · have HE : Hid ((k : Int) = (R : Int)) := (show _ = _ from by rw [HKK (.inr (.inl e5))])
        have e1 : ((k : Int) == 50) = true := by rw [beq_iff_eq]; omega
        clear HKK e5
        go_wp2
        go_ret
        exact ⟨congrArg (fun z => Ending.returned (.int .i64 z)) HE.out, BA.out⟩
      · have e1 : ((k : Int) == 50) = false := by rw [beq_eq_false_iff_ne]; omega
        by_cases eg : q - S0 < x2
        · have HE : Hid ((k : Int) = (R : Int)) := (show _ = _ from by rw [HKK (.inr (.inr ⟨hlt, by rw [HS5.out]; omega⟩))])
          clear HKK
          go_wp2
          go_ret
          exact ⟨congrArg (fun z => Ending.returned (.int .i64 z)) HE.out, BA.out⟩
        · have ew : IntKind.i64.wrap (q - S0 - x2) = q - S1 := by rw [IntKind.wrap_i64, HS5.out]; omega
          have H6 : Hid (sumI (l.take (k + 1)) ≤ q) := (show _ ≤ _ from by rw [← HSX.out, HS5.out]; omega)
          clear HKK
          go_wp2
          go_roundw
          case rel => exact ⟨k + 1, by omega, by omega, by go_num, by rw [← HSX.out], H6, BA⟩
          case measure => simp [intOf]; omega
    · obtain rfl : k = l.length := by omega
      have HE : Hid ((l.length : Int) = (R : Int)) := (show _ = _ from by rw [HK.out l.length hk hsum.out hk5 (.inl rfl)])
      generalize sumI (l.take l.length) = T
      go_wp2
      go_ret
      exact ⟨congrArg (fun z => Ending.returned (.int .i64 z)) HE.out, hb.out⟩
end Go.Proofs.Ytnnmbgenepfacaa
