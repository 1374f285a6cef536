/-
  The contracts of Coded, the specification's and the program's: both answer the code of a text of at most 200 bytes, and nothing of another.
-/
import Derived.Test.YthadmhleibhlgaaDoorOwn2
import Derived.Test.YthadmhleibhlgaaDoorPln
namespace Go.Proofs.YthadmhleibhlgaaDoor
open Go.RowKit

theorem ret_str {a b : ByteArray} (h : a = b) : Ending.returned (.string a) = .returned (.string b) := by rw [h]

theorem capS_at (q : Nat) (h : q < 16) : (⟨#[48, 49, 50, 51, 52, 53, 54, 55, 56, 57, 65, 66, 67, 68, 69, 70]⟩ : ByteArray)[q]'h = capB q := by
  have : ∀ j : Fin 16, (⟨#[48, 49, 50, 51, 52, 53, 54, 55, 56, 57, 65, 66, 67, 68, 69, 70]⟩ : ByteArray)[j.val]'j.isLt = capB j.val := by decide
  exact this ⟨q, h⟩
theorem half16 (c : UInt8) : ∃ q r : Nat, q < 16 ∧ r < 16 ∧ c.toNat / 16 = q ∧ c.toNat % 16 = r ∧ IntKind.u8.wrap ((c.toNat : Int) / 16) = (q : Int) ∧ (c.toNat : Int).tmod 16 = (r : Int) := by
  have h := byte_lt c
  refine ⟨c.toNat / 16, c.toNat % 16, by omega, by omega, rfl, rfl, ?_, ?_⟩
  · show ((c.toNat : Int) / 16) % 256 = _
    omega
  · rw [Int.tmod_eq_emod_of_nonneg (by omega)]
    omega

set_option maxHeartbeats 1000000 in
theorem specCod (s : ByteArray) (w : World) (hs : s.size ≤ 200) :
    Calls Tryd.prog 65 #[.string s] w fun e w' => e = .returned (.string (codS s)) ∧ Below w.heap.size w w' := by
  go_enter Tryd.func65, Tryd.ntmps65
  go_wp2
  go_loopw [3, 4] (fun v i wr => ∃ k : Nat, k ≤ s.size ∧ i = .int .i64 k ∧ OwnsB wr w.heap.size v (codTo s k) ∧ Below w.heap.size w wr) (fun _ i _ => s.size - (intOf i).toNat)
  case atStart => exact ⟨0, Nat.zero_le _, rfl, OwnsB.empty w, (Below.refl _ w).alloc (Nat.le_refl _) _⟩
  case round =>
    obtain ⟨k, hk, rfl, hown, hb⟩ := hrel
    have hl := codTo_length (s := s) k
    have hbs := hb.size
    by_cases hlt : k < s.size
    · cases hp : plnN (s[k].toNat : Int) with
      | true =>
        have HE : Hid (codTo s k ++ [s[k]] = codTo s (k + 1)) := codTo_yes hlt hp
        go_wp2_with (first | (go_at_call 86; refine (l3Pln _ _).mono ?_; rintro e w1 ⟨rfl, hb1⟩; have hown1 := hown.kept hb1; have hbb := hb.trans (hb1.mono hbs); have hbs1 := hbb.size) | (at_builtin; refine wpList_push _ rfl (.tmp 16) (.tmp 20) rfl w.heap.size _ _ _ s[k] rfl rfl hown1 rfl (by omega) hbs1 ?_; intro v2 w2 ho2 hg2))
        go_roundw
        case rel => exact ⟨k + 1, by omega, by go_num, by rw [← HE.out]; exact ho2, hbb.grown hg2 hbs1 (OwnsB.from hown1)⟩
        case measure => simp [intOf]; omega
      | false =>
        have HE : Hid (codTo s k ++ [37, capB (s[k].toNat / 16), capB (s[k].toNat % 16)] = codTo s (k + 1)) := codTo_no hlt hp
        obtain ⟨q, r, hq, hr, hq1, hr1, hq2, hr2⟩ := half16 s[k]
        rw [hq1, hr1, ← capS_at q hq, ← capS_at r hr] at HE
        have hq3 : (q : Int) < 16 := by omega
        have hr3 : (r : Int) < 16 := by omega
        clear hq1 hr1
        have hc0 := byte_lt s[k]
        have hc1 : (0 : Int) ≤ (s[k].toNat : Int) := by omega
        have hc2 : (s[k].toNat : Int) ≤ 255 := by omega
        go_wp2_with (go_at_call 86; refine (l3Pln _ _).mono ?_; rintro e w1 ⟨rfl, hb1⟩; have hown1 := hown.kept hb1; have hbb := hb.trans (hb1.mono hbs); have hbs1 := hbb.size)
        go_region_law (refine step_own rfl (.tmp 22) (.tmp 33) rfl w.heap.size _ _ (by simp [Act.eval]) (OwnsB.drew (OwnsB.alloc hown1 _)) ⟨w1.heap.size, 0, none⟩ 3 [37, (⟨#[48, 49, 50, 51, 52, 53, 54, 55, 56, 57, 65, 66, 67, 68, 69, 70]⟩ : ByteArray)[q]'hq, (⟨#[48, 49, 50, 51, 52, 53, 54, 55, 56, 57, 65, 66, 67, 68, 69, 70]⟩ : ByteArray)[r]'hr] (by simp [Act.eval]) (cells3 w1 _ _ _ _ _ _ rfl rfl rfl) (by simp; omega) (by simp; omega) ?_; intro v2 w2 ho2 hg2 _)
        all_goals
          have hg3 := grown_from hg2
          have HG : Hid (OwnsB w2 w.heap.size v2 (codTo s (k + 1)) ∧ Below w.heap.size w w2) := ⟨by rw [← HE.out]; exact ho2, hbb.grown hg3 hbs1 (OwnsB.from hown1)⟩
          clear ho2 hg2 hg3 HE hq2 hr2
          go_wp2
          go_roundw
          case rel => exact ⟨k + 1, by omega, by go_num, HG.out.1, HG.out.2⟩
          case measure => simp [intOf]; omega
    · have HE : Hid ((⟨(codTo s k).toArray⟩ : ByteArray) = codS s) := codTo_end hlt
      have hback := hown.text
      go_wp2
      go_ret
      exact ⟨ret_str HE.out, hb⟩
end Go.Proofs.YthadmhleibhlgaaDoor
