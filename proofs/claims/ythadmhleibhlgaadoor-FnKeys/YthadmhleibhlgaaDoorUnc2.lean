/-
  The contract of the specification's Uncoded.
-/
import Derived.Test.YthadmhleibhlgaaDoorUnc
namespace Go.Proofs.YthadmhleibhlgaaDoor
open Go.RowKit

set_option maxRecDepth 100000 in
set_option maxHeartbeats 2000000 in
theorem specUnc (s : ByteArray) (w : World) (hs : s.size ≤ maxLen) :
    Calls Tryd.prog 35 #[.string s] w fun e w' => e = .returned (uncE s) ∧ Below w.heap.size w w' := by
  unfold maxLen at hs
  by_cases h : s.size ≤ 200
  · have hd : decide (200 < (s.size : Int)) = false := by simp; omega
    go_enter Tryd.func35, Tryd.ntmps35
    go_wp2
    clear hd
    go_loopw [4, 5] (fun v i wr => ∃ (k : Nat) (acc : List UInt8), k ≤ s.size ∧ i = .int .i64 k ∧ acc.length ≤ k ∧ OwnsB wr w.heap.size v acc ∧ Below w.heap.size w wr ∧ Hid (UncAt s acc k)) (fun _ i _ => s.size - (intOf i).toNat)
    case atStart => exact ⟨0, [], Nat.zero_le _, rfl, Nat.le_refl _, OwnsB.empty w, (Below.refl _ w).alloc (Nat.le_refl _) _, UncAt.start s⟩
    case round =>
      obtain ⟨k, acc, hk, rfl, hal, hown, hb, hat⟩ := hrel
      have hbs := hb.size
      by_cases hlt : k < s.size
      · by_cases h37 : (s[k].toNat : Int) = 37
        · have hq := beq_yes3 h37
          by_cases h2 : k + 2 < s.size
          · have hd2 : decide ((s.size : Int) ≤ (k : Int) + 2) = false := by simp; omega
            have hb1 : (k : Int) + 2 < s.size := by omega
            have hb0 : (k : Int) + 1 < s.size := by omega
            have e1 : ((k : Int) + 1).toNat = k + 1 := by omega
            have e2 : ((k : Int) + 2).toNat = k + 2 := by omega
            by_cases hg1 : 0 ≤ digV (s[k + 1].toNat : Int)
            · by_cases hg2 : 0 ≤ digV (s[k + 2].toNat : Int)
              · have HN : Hid (UncAt s (acc ++ [hexB s[k + 1] s[k + 2]]) (k + 3)) := hat.out.hex h2 h37 hg1 hg2
                have hx := hexB_val hg1 hg2
                have hz := byte_lt (hexB s[k + 1] s[k + 2])
                have hbd1 := digV_bd (s[k + 1].toNat : Int)
                have hbd2 := digV_bd (s[k + 2].toNat : Int)
                generalize hexB s[k + 1] s[k + 2] = c at HN hx hz
                have hxx : 16 * digV (s[k + 1].toNat : Int) + digV (s[k + 2].toNat : Int) = (c.toNat : Int) := hx.symm
                have hwr : IntKind.u8.wrap (c.toNat : Int) = (c.toNat : Int) := by rw [show IntKind.u8.wrap (c.toNat : Int) = (c.toNat : Int) % 256 from rfl]; omega
                clear hx h37 hd2
                obtain ⟨hbd1, hbd1'⟩ := hbd1
                obtain ⟨hbd2, hbd2'⟩ := hbd2
                go_wp2_with (go_at_call 64; refine (specHexV _ _).mono ?_; rintro e w1 ⟨rfl, rfl⟩)
                have hw1 : IntKind.i64.wrap ((k : Int) + 1) = (k : Int) + 1 := by rw [IntKind.wrap_i64]; omega
                have hw2 : IntKind.i64.wrap ((k : Int) + 2) = (k : Int) + 2 := by rw [IntKind.wrap_i64]; omega
                have hwa : IntKind.i64.wrap (16 * digV (s[k + 1].toNat : Int)) = 16 * digV (s[k + 1].toNat : Int) := by rw [IntKind.wrap_i64]; omega
                have hwc : IntKind.i64.wrap (c.toNat : Int) = (c.toNat : Int) := by rw [IntKind.wrap_i64]; omega
                have p1 : 0 ≤ (k : Int) + 1 := by omega
                have p2 : 0 ≤ (k : Int) + 2 := by omega
                go_region_law (first | (refine step_own rfl (.tmp 47) (.tmp 61) rfl w.heap.size _ _ (by simp [Act.eval]) (OwnsB.drew (OwnsB.alloc hown _)) ⟨_, 0, none⟩ 1 [c] (by simp [Act.eval]) (cells1 _ _ _ (by first | rfl | simp [hxx, hwr])) (by simp; omega) (by simp; omega) ?_; intro v2 w2 ho2 hg2 _) | (go_simp; go_at_call 64; refine (specHexV _ _).mono ?_; rintro e w1 ⟨rfl, rfl⟩))
                all_goals
                  have hg3 := grown_from hg2
                  have HG : Hid (OwnsB w2 w.heap.size v2 (acc ++ [c]) ∧ Below w.heap.size w w2) := ⟨ho2, hb.grown hg3 hbs (OwnsB.from hown)⟩
                  clear ho2 hg2 hg3
                  go_wp2
                  go_roundw
                  case rel => exact ⟨k + 3, _, by omega, by go_num, by simp; omega, HG.out.1, HG.out.2, HN⟩
                  case measure => simp [intOf]; omega
              · have HN : Hid (_ = Ending.returned (uncE s)) := uncE_none (hat.out.bad h h2 h37 (fun x => hg2 x.2))
                clear h37
                go_wp2_with (go_at_call 64; refine (specHexV _ _).mono ?_; rintro e w1 ⟨rfl, rfl⟩)
                go_ret2
                exact ⟨HN.out, hb⟩
            · have HN : Hid (_ = Ending.returned (uncE s)) := uncE_none (hat.out.bad h h2 h37 (fun x => hg1 x.1))
              clear h37
              go_wp2_with (go_at_call 64; refine (specHexV _ _).mono ?_; rintro e w1 ⟨rfl, rfl⟩)
              go_ret2
              exact ⟨HN.out, hb⟩
          · have hd2 : decide ((s.size : Int) ≤ (k : Int) + 2) = true := by simp; omega
            have HN : Hid (_ = Ending.returned (uncE s)) := uncE_none (hat.out.short h hlt h2 h37)
            clear h37
            go_wp2
            go_ret2
            exact ⟨HN.out, hb⟩
        · have hq := beq_no3 h37
          have HN : Hid (UncAt s (acc ++ [s[k]]) (k + 1)) := hat.out.plain hlt h37
          clear h37
          go_wp2_with (at_builtin; refine wpList_push _ rfl (.tmp 20) (.tmp 24) rfl w.heap.size _ _ _ s[k] rfl rfl hown rfl (by omega) hbs ?_; intro v2 w2 ho2 hg2)
          go_roundw
          case rel => exact ⟨k + 1, _, by omega, by go_num, by simp; omega, ho2, hb.grown hg2 hbs (OwnsB.from hown), HN⟩
          case measure => simp [intOf]; omega
      · have HN : Hid (_ = Ending.returned (uncE s)) := uncE_some (hat.out.done h hlt)
        have hback := hown.text
        go_wp2
        go_ret2
        exact ⟨HN.out, hb⟩
  · have HN : Hid (_ = Ending.returned (uncE s)) := uncE_none (uncA_big (s := s) (by omega))
    have hd : decide (200 < (s.size : Int)) = true := by simp; omega
    go_enter Tryd.func35, Tryd.ntmps35
    go_wp2
    go_ret2
    exact ⟨HN.out, (Below.refl _ w).alloc (Nat.le_refl _) _⟩
end Go.Proofs.YthadmhleibhlgaaDoor
