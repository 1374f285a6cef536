/-
  The contracts of Uncoded, the specification's and the program's: both answer what a text of at most 200 bytes is the code of, or that it is none.
-/
import Derived.Test.YthadmhleibhlgaaDoorOwn2
import Derived.Test.YthadmhleibhlgaaDoorNum
import Derived.Test.YthadmhleibhlgaaDoorPthA
namespace Go.Proofs.YthadmhleibhlgaaDoor
open Go.RowKit

theorem two_at (s : ByteArray) (k : Nat) (h : k + 2 < s.size) : (s.extract (k + 1) (k + 3)).data.toList = [s[k + 1], s[k + 2]] := by
  rw [ByteArray.data_extract, Array.toList_extract]
  show (s.data.toList.drop (k + 1)).take (k + 3 - (k + 1)) = _
  rw [drop_at3 s (k + 1) (by omega), drop_at3 s (k + 2) h, show k + 3 - (k + 1) = 2 from by omega]
  rfl
theorem two_num (a b : UInt8) : numL 16 [a, b] = 16 * digV (a.toNat : Int) + digV (b.toNat : Int) := by
  show (0 * 16 + digV (a.toNat : Int)) * 16 + digV (b.toNat : Int) = _
  omega
theorem two_yes {x : ByteArray} {a b : UInt8} (hs : x.size = 2) (hx : x.data.toList = [a, b]) (h1 : 0 ≤ digV (a.toNat : Int)) (h2 : 0 ≤ digV (b.toNat : Int)) : numV 16 13 x = 16 * digV (a.toNat : Int) + digV (b.toNat : Int) ∧ numOk 16 13 x = true := by
  have ha := digV_bd (a.toNat : Int)
  have hb := digV_bd (b.toNat : Int)
  have e : numOk 16 13 x = true := numOk_in (by omega) (by omega) (by rw [hx]; simp [allB, digN_yes h1 (show digV (a.toNat : Int) < 16 by omega), digN_yes h2 (show digV (b.toNat : Int) < 16 by omega)])
  exact ⟨by rw [num_yes e, hx, two_num], e⟩
theorem two_no {x : ByteArray} {a b : UInt8} (hs : x.size = 2) (hx : x.data.toList = [a, b]) (h : ¬ (0 ≤ digV (a.toNat : Int) ∧ 0 ≤ digV (b.toNat : Int))) : numOk 16 13 x = false := by
  refine numOk_in (by omega) (by omega) ?_
  rw [hx]
  have e : allB (digN 16) [a, b] = (digN 16 (a.toNat : Int) && digN 16 (b.toNat : Int)) := by simp [allB]
  rw [e]
  by_cases h1 : 0 ≤ digV (a.toNat : Int)
  · rw [digN_no (r := (b.toNat : Int)) (fun x => h ⟨h1, x.1⟩)]; simp
  · rw [digN_no (r := (a.toNat : Int)) (fun x => h1 x.1)]; simp
theorem uncTo_length {s : ByteArray} {acc : List UInt8} {k : Nat} (h : acc.length ≤ k) (hk : k ≤ s.size) (hs : s.size ≤ 200) : acc.length ≤ 200 := by omega

set_option maxHeartbeats 2000000 in
theorem implUnc (s : ByteArray) (w : World) (hs : s.size ≤ maxLen) :
    Calls Tryd.prog 31 #[.string s] w fun e w' => e = .returned (uncE s) ∧ Below w.heap.size w w' := by
  unfold maxLen at hs
  by_cases h : s.size ≤ 200
  · have hd : decide (200 < (s.size : Int)) = false := by simp; omega
    go_enter Tryd.func31, Tryd.ntmps31
    go_wp2
    clear hd
    go_loopw [4, 5] (fun v i wr => ∃ (k : Nat) (acc : List UInt8), k ≤ s.size ∧ i = .int .i64 k ∧ acc.length ≤ k ∧ OwnsB wr w.heap.size v acc ∧ Below w.heap.size w wr ∧ Hid (UncAt s acc k)) (fun _ i _ => s.size - (intOf i).toNat)
    case atStart => exact ⟨0, [], Nat.zero_le _, rfl, Nat.le_refl _, OwnsB.nil _ _, Below.refl _ w, UncAt.start s⟩
    case round =>
      obtain ⟨k, acc, hk, rfl, hal, hown, hb, hat⟩ := hrel
      have hbs := hb.size
      by_cases hlt : k < s.size
      · by_cases h37 : (s[k].toNat : Int) = 37
        · have hq := beq_yes3 h37
          by_cases h2 : k + 2 < s.size
          · have hd2 : decide ((s.size : Int) ≤ (k : Int) + 2) = false := by simp; omega
            have hsz : (s.extract (k + 1) (k + 3)).size = 2 := by simp; omega
            have hxl : (s.extract (k + 1) (k + 3)).data.toList = [s[k + 1], s[k + 2]] := two_at s k h2
            by_cases hg : 0 ≤ digV (s[k + 1].toNat : Int) ∧ 0 ≤ digV (s[k + 2].toNat : Int)
            · have HN : Hid (UncAt s (acc ++ [hexB s[k + 1] s[k + 2]]) (k + 3)) := hat.out.hex h2 h37 hg.1 hg.2
              have hv := two_yes hsz hxl hg.1 hg.2
              have hx := hexB_val hg.1 hg.2
              have hz := byte_lt (hexB s[k + 1] s[k + 2])
              generalize hexB s[k + 1] s[k + 2] = c at HN hx hz
              rw [← hx] at hv
              have HV : Hid (numV 16 13 (s.extract (k + 1) (k + 3)) = (c.toNat : Int) ∧ numOk 16 13 (s.extract (k + 1) (k + 3)) = true) := hv
              have hwr : IntKind.u8.wrap (c.toNat : Int) = (c.toNat : Int) := by rw [show IntKind.u8.wrap (c.toNat : Int) = (c.toNat : Int) % 256 from rfl]; omega
              have hb1 : (k : Int) + 3 ≤ s.size := by omega
              have hw1 : IntKind.i64.wrap ((k : Int) + 1) = (k : Int) + 1 := by rw [IntKind.wrap_i64]; omega
              have hw3 : IntKind.i64.wrap ((k : Int) + 3) = (k : Int) + 3 := by rw [IntKind.wrap_i64]; omega
              clear hv hx hg h37 hxl hsz
              go_wp2_with (first | (go_at_call 61; refine (implHexD _ _ (by unfold maxLen; simp; omega)).mono ?_; unfold numE; rw [HV.out.1, HV.out.2]; rintro e w1 ⟨rfl, hb2⟩; have hown1 := hown.kept hb2; have hbb := hb.trans (hb2.mono hbs); have hbs1 := hbb.size) | (at_builtin; refine wpList_push _ rfl (.tmp 44) (.tmp 47) rfl w.heap.size _ _ _ c rfl rfl hown1 rfl (by omega) hbs1 ?_; intro v2 w2 ho2 hg2))
              go_roundw
              case rel => exact ⟨k + 3, _, by omega, by go_num, by simp; omega, ho2, hbb.grown hg2 hbs1 (OwnsB.from hown1), HN⟩
              case measure => simp [intOf]; omega
            · have HN : Hid (_ = Ending.returned (uncE s)) := uncE_none (hat.out.bad h h2 h37 hg)
              have hv := two_no hsz hxl hg
              have HV : Hid (numV 16 13 (s.extract (k + 1) (k + 3)) = 0 ∧ numOk 16 13 (s.extract (k + 1) (k + 3)) = false) := ⟨num_no hv, hv⟩
              clear hv hg h37 hxl hsz
              go_wp2_with (go_at_call 61; refine (implHexD _ _ (by unfold maxLen; simp; omega)).mono ?_; unfold numE; rw [HV.out.1, HV.out.2]; rintro e w1 ⟨rfl, hb2⟩; have hbb := hb.trans (hb2.mono hbs))
              go_ret2
              exact ⟨HN.out, hbb⟩
          · have hd2 : decide ((s.size : Int) ≤ (k : Int) + 2) = true := by simp; omega
            have HN : Hid (_ = Ending.returned (uncE s)) := uncE_none (hat.out.short h hlt h2 h37)
            clear h37
            go_wp2
            go_ret2
            exact ⟨HN.out, hb⟩
        · have hq := beq_no3 h37
          have HN : Hid (UncAt s (acc ++ [s[k]]) (k + 1)) := hat.out.plain hlt h37
          clear h37
          go_wp2_with (at_builtin; refine wpList_push _ rfl (.tmp 21) (.tmp 25) rfl w.heap.size _ _ _ s[k] rfl rfl hown rfl (by omega) hbs ?_; intro v2 w2 ho2 hg2)
          go_roundw
          case rel => exact ⟨k + 1, _, by omega, by go_num, by simp; omega, ho2, hb.grown hg2 hbs (OwnsB.from hown), HN⟩
          case measure => simp [intOf]; omega
      · have HN : Hid (_ = Ending.returned (uncE s)) := uncE_some (hat.out.done h hlt)
        have hback := hown.text
        go_wp2
        go_ret2
        exact ⟨HN.out, hb⟩
  · have HN : Hid (_ = Ending.returned (uncE s)) := uncE_none (uncA_big (s := s) (by omega))
    have hd : decide (200 < (s.size : Int)) = true := by simp; omega
    go_enter Tryd.func31, Tryd.ntmps31
    go_wp2
    go_ret2
    exact ⟨HN.out, Below.refl _ _⟩
end Go.Proofs.YthadmhleibhlgaaDoor
