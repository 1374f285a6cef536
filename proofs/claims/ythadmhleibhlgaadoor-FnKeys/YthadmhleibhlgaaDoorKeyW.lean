/-
  The law FnKeys walked: whatever the code.
-/
import Derived.Test.YthadmhleibhlgaaDoorPthH
import Derived.Test.YthadmhleibhlgaaDoorKey2
import Derived.Deep.Cut
import Derived.Deep.CutRange
namespace Go.Proofs.YthadmhleibhlgaaDoor
open Go.RowKit

theorem step_on2 {w w1 w2 : World} (h : Below w.heap.size w w1) (h2 : Below w1.heap.size w1 w2) : Below w.heap.size w w2 := h.trans (h2.mono h.size)

set_option maxRecDepth 100000 in
set_option maxHeartbeats 4000000 in
theorem keysWalk (sa : Option Addr) (sl sc : Nat) (w : World) (hc : Code8 w w.heap.size sa sl) (hl : sl ≤ 4096) :
    Calls Tryd.prog 5 #[.slice sa sl sc] w fun e w' => e = .returned (.bool true) ∧ Below w.heap.size w w' := by
  go_enter Tryd.func5, Tryd.ntmps5
  go_wp2_with fail
  refine (notBig sa sl sc _ hl).mono ?_
  rintro e w0 ⟨rfl, rfl⟩
  go_wp2_with fail
  refine (drawQuery sa sl sc _ hc hl).mono ?_
  rintro e w1 ⟨q, rfl, hqz, B1⟩
  have kq := implQry q
  have kqs := specQry q
  have hqq := qryA_again (q := q) (by omega)
  have hqs := qryA_size q
  have kq2 := implQry (qryA q)
  rw [hqq] at kq2
  clear hqq
  generalize qryA q = qa at kq kqs kq2 hqs
  go_wp2_with fail
  refine (kq _ (by unfold maxLen; omega)).mono ?_
  rintro e w2 ⟨rfl, hb2⟩
  have B2 := step_on2 B1 hb2
  clear hb2 B1 kq
  go_wp2_with fail
  refine (drawKey sa sl sc _ (hc.on B2) hl).mono ?_
  rintro e w3 ⟨h, t, rfl, hhz, htz, hb3⟩
  have B3 := step_on2 B2 hb3
  clear hb3 B2
  have kk := fun w => implKey h t w (by omega) (by omega)
  have kks := fun w => specKey h t w (by omega) (by omega)
  obtain ⟨kv, b1, hkv, hkb⟩ : ∃ kv b1, keyE h t = .tuple #[.string kv, .bool b1] ∧ (b1 = false → kv = ⟨#[]⟩) := by
    unfold keyE keyT
    cases keyA h t with
    | none => exact ⟨_, _, rfl, fun _ => rfl⟩
    | some x => exact ⟨_, _, rfl, fun e => by cases e⟩
  rw [hkv] at kk kks
  clear hkv
  go_wp2_with fail
  refine (kk _).mono ?_
  rintro e w4 ⟨rfl, hb4⟩
  have B4 := step_on2 B3 hb4
  clear hb4 B3 kk
  go_wp2_with fail
  refine (kks _).mono ?_
  rintro e w5 ⟨rfl, hb5⟩
  have B5 := step_on2 B4 hb5
  clear hb5 B4 kks
  have hcase : (b1 = true) ∨ (b1 = false ∧ kv = ⟨#[]⟩) := by
    cases b1
    · exact Or.inr ⟨rfl, hkb rfl⟩
    · exact Or.inl rfl
  clear hkb
  have HC : Hid ((b1 = true) ∨ (b1 = false ∧ kv = ⟨#[]⟩)) := hcase
  clear hcase
  go_wp2_with fail
  refine (kqs _ (by unfold maxLen; omega)).mono ?_
  rintro e w6 ⟨rfl, hb6⟩
  have B6 := step_on2 B5 hb6
  clear hb6
  go_wp2_with fail
  refine (kq2 _ (by unfold maxLen; omega)).mono ?_
  rintro e w7 ⟨rfl, hb7⟩
  have B7 := step_on2 B6 hb7
  clear hb7
  have hal : Below w7.heap.size w7 (w7.alloc (.cells #[.string ⟨#[120, 61, 49]⟩, .string ⟨#[121]⟩, .string ⟨#[107, 61, 118]⟩, .string ⟨#[120, 61, 50]⟩] 9)) := (Below.refl _ w7).alloc (Nat.le_refl _) _
  have B8 := step_on2 B7 hal
  go_wp2_with fail
  refine (pick4 sa sl sc 1 (by decide) (by decide) _ (hc.on B8) hl).mono ?_
  rintro e w8 ⟨i, rfl, hi0, hi1, rfl⟩
  obtain ⟨i, rfl⟩ := Int.eq_ofNat_of_zero_le hi0
  go_wp2_with fail
  refine (pick4 sa sl sc 2 (by decide) (by decide) _ (hc.on B8) hl).mono ?_
  rintro e w9 ⟨j, rfl, hj0, hj1, rfl⟩
  obtain ⟨j, rfl⟩ := Int.eq_ofNat_of_zero_le hj0
  obtain ⟨K, hK1, hK2⟩ := same_key i j (by omega) (by omega)
  have ci := tab4At w7 i (by omega)
  have cj := tab4At w7 j (by omega)
  have zi := tab4_size i (by omega)
  have zj := tab4_size j (by omega)
  generalize tab4.getD i ⟨#[]⟩ = xi at ci zi hK1 hK2
  generalize tab4.getD j ⟨#[]⟩ = xj at cj zj hK1 hK2
  have zt := tgt_size zi zj
  have k1 := fun w => implKey ⟨#[72, 46, 97]⟩ (tgt1 xi xj) w (by decide) (by omega)
  have k2 := fun w => implKey ⟨#[104, 46, 65]⟩ (tgt2 xi xj) w (by decide) (by omega)
  rw [hK1] at k1
  rw [hK2] at k2
  unfold tgt1 at k1
  unfold tgt2 at k2
  have s1 : (⟨#[47, 98, 47, 46, 46, 47, 99, 63]⟩ ++ xi : ByteArray).size ≤ 11 := by rw [ByteArray.size_append]; show 8 + xi.size ≤ 11; omega
  have s2 : (⟨#[47, 98, 47, 46, 46, 47, 99, 63]⟩ ++ xi ++ ⟨#[38]⟩ : ByteArray).size ≤ 12 := by rw [ByteArray.size_append]; show _ + 1 ≤ 12; omega
  have s3 : (⟨#[47, 37, 54, 51, 63, 38]⟩ ++ xj : ByteArray).size ≤ 9 := by rw [ByteArray.size_append]; show 6 + xj.size ≤ 9; omega
  have s4 : (⟨#[47, 37, 54, 51, 63, 38]⟩ ++ xj ++ ⟨#[38, 38]⟩ : ByteArray).size ≤ 11 := by rw [ByteArray.size_append]; show _ + 2 ≤ 11; omega
  clear hK1 hK2 zt hal B7 B6 B5 hc
  have hi4 : i < 4 := by omega
  have hj4 : j < 4 := by omega
  generalize hW : w7.alloc (.cells #[.string ⟨#[120, 61, 49]⟩, .string ⟨#[121]⟩, .string ⟨#[107, 61, 118]⟩, .string ⟨#[120, 61, 50]⟩] 9) = W at ci cj B8 ⊢
  have hzW : w7.heap.size < W.heap.size := by rw [← hW]; simp
  clear hW
  go_wp2_with fail
  go_cut [14, 15] from 66 to 80 (fun a b wx => a = .string K ∧ b = .bool true ∧ Below W.heap.size W wx)
  case first =>
    go_region_with (go_at_call 43; refine (k1 _).mono ?_; rintro e w10 ⟨rfl, hb10⟩)
    all_goals (try go_wp2_with fail)
    all_goals go_meet
    all_goals exact ⟨rfl, rfl, ⟨hb10.os, hb10.tape, hb10.output, hb10.size, hb10.block⟩⟩
  case rest =>
    obtain ⟨rfl, rfl, hb10⟩ := hcut
    have ci2 := (hb10.cell (p := ⟨w7.heap.size, i, none⟩) hzW).trans ci
    have cj2 := (hb10.cell (p := ⟨w7.heap.size, j, none⟩) hzW).trans cj
    have B10 : Below w.heap.size w wc := step_on2 B8 hb10
    obtain ⟨w12, rfl⟩ : ∃ x, x = wc := ⟨wc, rfl⟩
    clear hb10 ci cj k1 s1 s2
    go_wp2_with fail
    go_cut [16, 17] from 81 to 95 (fun a b wx => a = .string K ∧ b = .bool true ∧ Below w12.heap.size w12 wx)
    case first =>
      go_region_with (go_at_call 43; refine (k2 _).mono ?_; rintro e w11 ⟨rfl, hb11⟩)
      all_goals (try go_wp2_with fail)
      all_goals go_meet
      all_goals exact ⟨rfl, rfl, ⟨hb11.os, hb11.tape, hb11.output, hb11.size, hb11.block⟩⟩
    case rest =>
      obtain ⟨rfl, rfl, hb11⟩ := hcut
      have B11 : Below w.heap.size w wc := step_on2 B10 hb11
      clear hb11 ci2 cj2 k2 s3 s4
      rcases HC.out with rfl | ⟨rfl, rfl⟩
      all_goals
        go_wp2
        go_ret
        exact ⟨rfl, B11⟩
end Go.Proofs.YthadmhleibhlgaaDoor
