/-
  The specification's Hash and Weight.
  The program's Hash.
  The program's Record, by its contract.
-/
import Derived.Test.YtemmgfnepdgpbaaGreatDoorJ17
import Derived.Test.YtemmgfnepdgpbaaGreatDoorJ13
import Derived.Test.YtemmgfnepdgpbaaGreatDoorJ10
import Derived.Test.YtemmgfnepdgpbaaGreatDoorJ16
import Derived.Test.YtemmgfnepdgpbaaGreatDoorRows
import Derived.StillTail
import Derived.Deep.QuietTactic
import Derived.Lib.QuietBelow
import Derived.BigQuiet
import Derived.Test.YtemmgfnepdgpbaaGreatDoorJ04
import Derived.WalkKit
import Derived.WalkSpells
import Derived.Test.YtemmgfnepdgpbaaGreatDoorJ15
namespace Go.Proofs.YtemmgfnepdgpbaaGreatDoor
open Go.RowKit Go.Sort Ow
set_option linter.unusedVariables false
set_option linter.unusedSimpArgs false

theorem hsh_step (h : Nat) (b : UInt8) : ((h : Int) * 16777619 + (b.toNat : Int) + 1) % 2147483647 = (hshN h b : Int) := by
  unfold hshN
  omega
theorem hsh_tmod (h : Nat) (b : UInt8) : Int.tmod ((h : Int) * 16777619 + (b.toNat : Int) + 1) 2147483647 = (hshN h b : Int) := by
  rw [Int.tmod_eq_emod_of_nonneg (by omega)]
  exact hsh_step h b
theorem wrapI (n : Int) (h : -9223372036854775808 ≤ n ∧ n ≤ 9223372036854775807) : wrap64 n = n := by unfold wrap64; omega
set_option maxHeartbeats 400000 in
theorem specHsh (s : ByteArray) (w : World) (hs : s.size ≤ maxLen) :
    Calls Tryz.prog 110 #[.string s] w fun e w' => e = .returned (.int .i64 (hshL s.data.toList : Nat)) ∧ w = w' := by
  have hlen : s.data.toList.length = s.size := by simp
  unfold maxLen at hs
  go_enter Tryz.func110, Tryz.ntmps110
  go_wp2
  go_loopw [3, 4] (fun h i wr => ∃ k : Nat, k ≤ s.size ∧ i = .int .i64 k ∧ h = .int .i64 (hshL (s.data.toList.take k) : Nat) ∧ w = wr) (fun _ i _ => s.size - (intOf i).toNat)
  case atStart => exact ⟨0, Nat.zero_le _, rfl, rfl, rfl⟩
  case round =>
    obtain ⟨k, hk, rfl, rfl, rfl⟩ := hrel
    by_cases hlt : k < s.size
    · have hnx : Hid (hshL (s.data.toList.take (k + 1)) = hshN (hshL (s.data.toList.take k)) (s.data.toList[k]'(by omega))) := hshL_take s.data.toList k (by omega)
      have hlt9 := hshL_lt (s.data.toList.take k)
      generalize hshL (s.data.toList.take k) = h1 at hnx hlt9
      go_wp2
      have hb : s[k].toNat < 256 := s[k].toNat_lt
      have e1 : s.data.toList[k]'(by omega) = s[k] := by simp; rfl
      refine ⟨⟨k + 1, by omega, by go_num, ?_, trivial⟩, by simp [intOf]; omega⟩
      rw [hnx.out, e1, wrapI (s[k].toNat : Int) (by omega), wrapI ((h1 : Int) * 16777619 + (s[k].toNat : Int)) (by omega), wrapI _ (by omega), hsh_tmod]
    · obtain rfl : k = s.size := by omega
      rw [← hlen, List.take_of_length_le (Nat.le_refl _)]
      go_wp2
      go_ret
      exact ⟨rfl, rfl⟩
end Go.Proofs.YtemmgfnepdgpbaaGreatDoor
namespace Go.Proofs.YtemmgfnepdgpbaaGreatDoor
open Go.RowKit Go.Sort Ow
set_option linter.unusedVariables false
set_option linter.unusedSimpArgs false

set_option maxHeartbeats 400000 in
theorem implHsh (s : ByteArray) (w : World) (hs : s.size ≤ 2000000) :
    Calls Tryz.prog 137 #[.string s] w fun e w' => e = .returned (.int .i64 (hshL s.data.toList : Nat)) ∧ Below w.heap.size w w' := by
  have hlen : s.data.toList.length = s.size := by simp
  obtain ⟨cap, C, hconv, hrow⟩ := bytes_laid (P := Tryz.prog) w 9 22 5 s Tryz.underlying9 Tryz.underlying22 Tryz.underlying5
  have HR : Hid (RowIs (w.alloc (.cells C 5 (C.size, C.size + 1))) w.heap.size s.data.toList) := hrow
  clear hrow
  go_enter Tryz.func137, Tryz.ntmps137
  go_wp2
  go_loopw [3, 9] (fun h i wr => ∃ k : Nat, k ≤ s.size ∧ i = .int .i64 k ∧ h = .int .i64 (hshL (s.data.toList.take k) : Nat) ∧ Hid (Below w.heap.size w wr) ∧ Hid (RowIs wr w.heap.size s.data.toList)) (fun _ i _ => s.size - (intOf i).toNat)
  case atStart => exact ⟨0, Nat.zero_le _, rfl, rfl, (show Hid _ from ((Below.refl _ w).alloc (Nat.le_refl _) _).drew), HR.out⟩
  case round =>
    obtain ⟨k, hk, rfl, rfl, hb, hr⟩ := hrel
    clear hconv
    by_cases hlt : k < s.size
    · have hat := hr.out k (by omega)
      have e1 : s.data.toList[k]'(by omega) = s[k] := by simp; rfl
      rw [e1] at hat
      have hcell : wr.cell? ⟨w.heap.size, k, none⟩ = some (.int .u8 (s[k].toNat : Int)) := hat.1
      clear hat
      have hnx : Hid (hshL (s.data.toList.take (k + 1)) = hshN (hshL (s.data.toList.take k)) (s.data.toList[k]'(by omega))) := hshL_take s.data.toList k (by omega)
      have hlt9 := hshL_lt (s.data.toList.take k)
      generalize hshL (s.data.toList.take k) = h1 at hnx hlt9
      have hki : (k : Int) < (s.size : Int) := by omega
      go_wp2
      have hb8 : s[k].toNat < 256 := s[k].toNat_lt
      refine ⟨⟨k + 1, by omega, by go_num, ?_, hb, hr⟩, by simp [intOf]; omega⟩
      rw [hnx.out, e1, wrapI (s[k].toNat : Int) (by omega), wrapI ((h1 : Int) * 16777619 + (s[k].toNat : Int)) (by omega), wrapI _ (by omega), hsh_tmod]
    · obtain rfl : k = s.size := by omega
      rw [← hlen, List.take_of_length_le (Nat.le_refl _)]
      go_wp2
      go_ret
      exact ⟨rfl, hb.out⟩
end Go.Proofs.YtemmgfnepdgpbaaGreatDoor
namespace Go.Proofs.YtemmgfnepdgpbaaGreatDoor
open Go.RowKit Go.Sort St Ow
set_option linter.unusedVariables false
set_option linter.unusedSimpArgs false

theorem txt_sizW (l : List UInt8) : (txtL l).size = l.length := by show l.toArray.size = _; simp
theorem rw_len2 {a b : Int} (ha : few a) (hb : few b) : (txtL (rwL [a, b])).size ≤ 32 := by
  have h1 := dd_len ha.2
  have h2 := dd_len hb.2
  rw [txt_sizW, rw_2]
  simp
  omega
theorem pastW {w w1 w2 : World} (h1 : Below w.heap.size w w1) (h2 : Below w1.heap.size w1 w2) : Below w.heap.size w w2 := h1.trans (h2.mono h1.size)
set_option maxHeartbeats 2000000 in
theorem implRec (s : ByteArray) (w : World) (hs : s.size ≤ 1048576) (ht : TabS w) :
    Calls Tryz.prog 112 #[.string s] w fun e w' => e = .returned (.string (rcdA s)) ∧ Below w.heap.size w w' := by
  by_cases hb : s.size ≤ 9000
  · have hbi : ¬ (9000 : Int) < (s.size : Int) := by omega
    have hl : s.data.toList.length = s.size := by simp
    have fh : few (St.hs s.data.toList) := hs_few _
    have fs : few (s.size : Int) := ⟨by omega, by omega⟩
    have jh := fun W => implHsh s W (by omega)
    have jr := implShR2 (s.size : Int) (St.hs s.data.toList) fs fh
    have hz := rw_len2 fs fh
    have HR : Hid ((txtL (rwL [(s.size : Int), St.hs s.data.toList]) ++ s) ++ (⟨#[10]⟩ : ByteArray) = rcdA s) := (show _ = _ by
      unfold rcdA
      rw [if_pos hb]
      apply ByteArray.ext
      apply Array.ext'
      rw [rw_2]
      unfold recL txtL
      rw [hl]
      simp)
    rw [show ((hshL s.data.toList : Nat) : Int) = St.hs s.data.toList from rfl] at jh
    have HT : Hid (TabS w) := ht
    generalize St.hs s.data.toList = H at jh jr hz HR fh
    generalize txtL (rwL [(s.size : Int), H]) = N at jr hz HR
    generalize rcdA s = R at HR ⊢
    clear fh fs hl ht
    go_enter Tryz.func112, Tryz.ntmps112
    go_wp2_with fail
    refine (jh _).mono ?_
    rintro e w1 ⟨rfl, hb1⟩
    have jr1 := jr w1 _ rfl (HT.out.low hb1)
    clear jr jh HT
    go_wp2_with fail
    refine jr1.mono ?_
    rintro e w2 ⟨rfl, hb2⟩
    have y0 : (N ++ s).size = N.size + s.size := by rw [ByteArray.size_append]
    have y1 : ((N ++ s) ++ (⟨#[10]⟩ : ByteArray)).size = N.size + s.size + 1 := by rw [ByteArray.size_append, y0]; rfl
    go_wp2
    go_ret
    exact ⟨by rw [← HR.out]; rfl, pastW hb1 hb2⟩
  · have hbi : (9000 : Int) < (s.size : Int) := by omega
    have HR : Hid (rcdA s = ⟨#[]⟩) := (show _ = _ by unfold rcdA; rw [if_neg hb])
    generalize rcdA s = R at HR ⊢
    clear hb ht
    go_enter Tryz.func112, Tryz.ntmps112
    go_wp2
    go_ret
    exact ⟨by rw [HR.out]; rfl, Below.refl _ _⟩
end Go.Proofs.YtemmgfnepdgpbaaGreatDoor
