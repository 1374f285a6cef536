/-
  The library's Grow and Concat over numbers, none of them too.
-/
import Derived.Test.YtdoolnaekmffbaaRpB
namespace Go.Proofs.Ytdoolnaekmffbaa
open Go.RowKit Go.Sort Rom
set_option linter.unusedVariables false
set_option linter.unusedSimpArgs false

theorem grow0 (w : World) : Calls Try.prog 58 #[.slice none 0 0, .int .i64 0] w fun e w' => e = .returned (.slice none 0 0) ∧ w = w' := by
  go_enter Try.func58, Try.ntmps58
  go_wp2
  go_ret
  exact ⟨rfl, rfl⟩
theorem growP (n : Nat) (w : World) (h2 : n ≤ 100000) :
    Calls Try.prog 58 #[.slice none 0 0, .int .i64 (n : Int)] w fun e w' => ∃ a cap, e = .returned (.slice a 0 cap) ∧ OwnsE intE 2 w' w.heap.size (.slice a 0 cap) [] ∧ Below w.heap.size w w' := by
  by_cases h : n = 0
  · subst h
    exact (grow0 w).mono fun e w' ⟨h1, h2⟩ => ⟨none, 0, h1, OwnsE.none _ _, h2 ▸ Below.refl _ _⟩
  · exact (growN n w (by omega) h2).mono fun e w' ⟨g, c, h1, h2, h3⟩ => ⟨_, c, h1, h2, h3⟩
set_option maxHeartbeats 1000000 in
theorem catP (gb n : Nat) (ps : List (Value × List Int)) (w : World) (hn : n = ps.length) (hn3 : n ≤ 3) (hgb : gb < w.heap.size)
    (hc : ∀ j (hj : j < ps.length), w.cell? ⟨gb, j, none⟩ = some ps[j].1) (hs : ∀ j (hj : j < ps.length), Sls intE w ps[j].1 ps[j].2)
    (hz : (catLN ps ps.length).length ≤ 1100) :
    Calls Try.prog 44 #[.slice (some ⟨gb, 0, none⟩) n n] w fun e w' => ∃ u, e = .returned u ∧ OwnsE intE 2 w' w.heap.size u (catLN ps ps.length) ∧ Below w.heap.size w w' := by
  subst hn
  have HC : Hid (∀ W, Below w.heap.size w W → ∀ j (hj : j < ps.length), W.cell? ⟨gb, j, none⟩ = some ps[j].1) := fun W hW j hj => (hW.cell (p := ⟨gb, j, none⟩) hgb).trans (hc j hj)
  have HS : Hid (∀ W, Below w.heap.size w W → ∀ j (hj : j < ps.length), Sls intE W ps[j].1 ps[j].2) := fun W hW j hj => (hs j hj).kept hW
  clear hc hs
  have HZ : Hid (∀ k, (catLN ps k).length ≤ (catLN ps ps.length).length) := catLN_le ps
  obtain ⟨L, hL⟩ : ∃ L, L = catLN ps ps.length := ⟨_, rfl⟩
  rw [← hL] at hz HZ ⊢
  have HL : Hid (L = catLN ps ps.length) := hL
  clear hL
  go_enter Try.func44, Try.ntmps44
  go_wp2
  go_loop [3, 11] (fun s i => ∃ k : Nat, k ≤ ps.length ∧ i = .int .i64 k ∧ s = .int .i64 ((catLN ps k).length : Int)) (fun _ i => ps.length - (intOf i).toNat)
  case atStart => exact ⟨0, Nat.zero_le _, rfl, rfl⟩
  case round =>
    obtain ⟨k, hk, rfl, rfl⟩ := hrel
    by_cases hlt : k < ps.length
    · have c1 := HC.out w (Below.refl _ _) k hlt
      have s1 := HS.out w (Below.refl _ _) k hlt
      have HN : Hid (catLN ps (k + 1) = catLN ps k ++ ps[k].2) := catLN_next hlt
      have hz1 := HZ.out (k + 1)
      rw [HN.out, List.length_append] at hz1
      generalize ps[k] = p at c1 s1 HN hz1
      obtain ⟨v, m⟩ := p
      obtain ⟨a, cap, hv, _⟩ := s1
      dsimp only at hv c1 HN hz1
      subst hv
      have HN2 : Hid ((catLN ps (k + 1)).length = (catLN ps k).length + m.length) := by show _ = _; rw [HN.out, List.length_append]
      generalize (catLN ps k).length = z at hz1 HN2
      clear HN HC HS HZ
      go_wp2
      go_round
      case rel => exact ⟨k + 1, by omega, by go_num, by rw [HN2.out]; go_num⟩
      case measure => simp [intOf]; omega
    · obtain rfl : k = ps.length := by omega
      rw [← HL.out]
      go_wp2_with (go_at_call 58; refine (growP L.length w (by omega)).mono ?_; rintro e w1 ⟨g1, cap1, rfl, ho1, hb1⟩)
      have HO1 : Hid _ := ho1
      have HB1 : Hid _ := hb1
      clear ho1 hb1
      go_loopw [6, 27] (fun s i wr => ∃ (k : Nat) (sa : Option Addr) (sc : Nat), k ≤ ps.length ∧ i = .int .i64 k ∧ s = .slice sa (catLN ps k).length sc ∧ Hid (OwnsE intE 2 wr w.heap.size (.slice sa (catLN ps k).length sc) (catLN ps k)) ∧ Hid (Below w.heap.size w wr)) (fun _ i _ => ps.length - (intOf i).toNat)
      case atStart => exact ⟨0, _, _, Nat.zero_le _, rfl, rfl, HO1, HB1⟩
      case round =>
        clear HO1 HB1
        obtain ⟨k, sa, sc, hk, rfl, rfl, ho, hb⟩ := hrel
        by_cases hlt : k < ps.length
        · have c1 := HC.out wr hb.out k hlt
          have s1 := HS.out wr hb.out k hlt
          have HN : Hid (catLN ps (k + 1) = catLN ps k ++ ps[k].2) := catLN_next hlt
          have hz1 := HZ.out (k + 1)
          rw [HN.out, List.length_append] at hz1
          generalize ps[k] = p at c1 s1 HN hz1
          obtain ⟨v, m⟩ := p
          obtain ⟨a, cap, hv, hm1, hm2, hm3⟩ := s1
          dsimp only at hv c1 HN hz1 hm1 hm2 hm3
          subst hv
          generalize catLN ps k = C at ho HN hz1
          unfold maxLen at hm2
          clear HC HS HZ
          cases a with
          | none =>
            obtain rfl : m = [] := by
              rcases m with _ | ⟨y, m⟩
              · rfl
              · obtain ⟨_, _, h, _⟩ := hm3 (by simp)
                cases h
            have HN2 : Hid (catLN ps (k + 1) = C) := by show _ = _; rw [HN.out, List.append_nil]
            clear HN hm3
            go_wp2_with (at_builtin; refine wpList_noneN rfl (.tmp 31) (.tmp 32) rfl w.heap.size _ _ rfl ho.out _ rfl ?_)
            go_roundw
            case rel => exact ⟨k + 1, sa, sc, by omega, by go_num, by rw [HN2.out], by rw [HN2.out]; exact ho, hb⟩
            case measure => simp [intOf]; omega
          | some ad =>
            have HM : Hid (∀ j u, (cellsE intE m)[j]? = some u → wr.cell? (ad.add j) = some u) := by
              intro j u hu
              by_cases hm0 : 0 < m.length
              · obtain ⟨g, o, e, _, h⟩ := hm3 hm0
                injection e with e
                subst e
                rw [addr_add]
                exact h j u hu
              · have : m = [] := List.eq_nil_of_length_eq_zero (by omega)
                rw [this] at hu
                simp [cellsE] at hu
            have hbs := hb.out.size
            clear hm3
            go_wp2_with (at_builtin; refine wpList_rowE (E := intE) _ rfl (.tmp 31) (.tmp 32) 24 2 (.int .i64 0) 8 Try.underlying24 Try.infoN2 rfl rfl w.heap.size _ C rfl ho.out ad cap m rfl HM.out (by unfold maxLen; omega) (by omega) hbs ?_; intro v4 w4 ho4 hg4 _; obtain ⟨a4, c4, hv4, _, _⟩ := ho4.form; subst hv4)
            go_roundw
            case rel => exact ⟨k + 1, a4, c4, by omega, by go_num, by rw [HN.out, List.length_append], by rw [HN.out]; exact ho4, (show Hid _ from belowE hb.out hg4 hbs (OwnsE.from ho.out))⟩
            case measure => simp [intOf]; omega
        · obtain rfl : k = ps.length := by omega
          rw [← HL.out] at ho ⊢
          go_wp2
          go_ret
          exact ⟨_, rfl, ho.out, hb.out⟩
end Go.Proofs.Ytdoolnaekmffbaa
