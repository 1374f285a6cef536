/-
  The contract of the specification's Key.
-/
import Derived.Test.YthadmhleibhlgaaDoorKey
namespace Go.Proofs.YthadmhleibhlgaaDoor
open Go.RowKit

set_option maxRecDepth 100000 in
set_option maxHeartbeats 2000000 in
theorem specKey_none (h t : ByteArray) (w : World) (hhs : h.size ≤ 1048576) (hts : t.size ≤ 1048576) (ha : nrmA (keyP t) = none) :
    Calls Tryd.prog 44 #[.string h, .string t] w fun e w' => e = .returned (keyE h t) ∧ Below w.heap.size w w' := by
  have hkz := key_size t
  have hh : h.size ≤ maxLen := by unfold maxLen; omega
  have hn := fun w => specNrm (keyP t) w (by unfold maxLen; omega)
  unfold nrmE nrmT at hn
  rw [ha] at hn
  have HN : Hid (_ = Ending.returned (keyE h t)) := keyE_none (keyA_nrm ha)
  clear ha hkz
  go_enter Tryd.func44, Tryd.ntmps44
  go_wp2
  go_loop [6, 7, 8] (fun pp qq i => ∃ k : Nat, k ≤ t.size ∧ i = .int .i64 k ∧ pp = .string t ∧ qq = .string ⟨#[]⟩ ∧ Hid (NoQ t k)) (fun _ _ i => t.size - (intOf i).toNat)
  case atStart => exact ⟨0, Nat.zero_le _, rfl, rfl, rfl, NoQ.zero t⟩
  case round =>
    obtain ⟨k, hk, rfl, rfl, rfl, hno⟩ := hrel
    by_cases hlt : k < t.size
    · by_cases hc : (t[k].toNat : Int) = 63
      · have hqq := beq_yes3 hc
        obtain ⟨e1, e2⟩ := hno.out.hit hlt hc
        rw [e1] at hn
        have c1 : (k : Int) + 1 ≤ (t.size : Int) := by omega
        have c5 : 0 ≤ (k : Int) + 1 := by omega
        have c6 : ((k : Int) + 1).toNat = k + 1 := by omega
        clear hc e1 e2
        go_wp2_with ((go_at_call 39; refine (hn _).mono ?_; rintro e w1 ⟨rfl, hb1⟩))
        go_ret2
        exact ⟨HN.out, hb1⟩
      · have hqq := beq_no3 hc
        have HQ : Hid (NoQ t (k + 1)) := hno.out.next hlt hc
        clear hc
        go_wp2
        go_round
        case rel => exact ⟨k + 1, by omega, by go_num, rfl, rfl, HQ⟩
        case measure => simp [intOf]; omega
    · obtain ⟨e1, e2⟩ := hno.out.miss hlt
      rw [e1] at hn
      clear e1 e2
      go_wp2_with ((go_at_call 39; refine (hn _).mono ?_; rintro e w1 ⟨rfl, hb1⟩))
      go_ret2
      exact ⟨HN.out, hb1⟩
set_option maxRecDepth 100000 in
set_option maxHeartbeats 2000000 in
theorem specKey_tok (h t : ByteArray) (w : World) (hhs : h.size ≤ 1048576) (hts : t.size ≤ 1048576) (p : ByteArray) (ha : nrmA (keyP t) = some p) (ht : tokB h = false) :
    Calls Tryd.prog 44 #[.string h, .string t] w fun e w' => e = .returned (keyE h t) ∧ Below w.heap.size w w' := by
  have hkz := key_size t
  have hh : h.size ≤ maxLen := by unfold maxLen; omega
  have hn := fun w => specNrm (keyP t) w (by unfold maxLen; omega)
  unfold nrmE nrmT at hn
  rw [ha] at hn
  have hpz := nrmA_size ha
  have HN : Hid (_ = Ending.returned (keyE h t)) := keyE_none (keyA_tok ha ht)
  clear ha hkz
  go_enter Tryd.func44, Tryd.ntmps44
  go_wp2
  go_loop [6, 7, 8] (fun pp qq i => ∃ k : Nat, k ≤ t.size ∧ i = .int .i64 k ∧ pp = .string t ∧ qq = .string ⟨#[]⟩ ∧ Hid (NoQ t k)) (fun _ _ i => t.size - (intOf i).toNat)
  case atStart => exact ⟨0, Nat.zero_le _, rfl, rfl, rfl, NoQ.zero t⟩
  case round =>
    obtain ⟨k, hk, rfl, rfl, rfl, hno⟩ := hrel
    by_cases hlt : k < t.size
    · by_cases hc : (t[k].toNat : Int) = 63
      · have hqq := beq_yes3 hc
        obtain ⟨e1, e2⟩ := hno.out.hit hlt hc
        rw [e1] at hn
        have c1 : (k : Int) + 1 ≤ (t.size : Int) := by omega
        have c5 : 0 ≤ (k : Int) + 1 := by omega
        have c6 : ((k : Int) + 1).toNat = k + 1 := by omega
        clear hc e1 e2
        go_wp2_with (first | (go_at_call 39; refine (hn _).mono ?_; rintro e w1 ⟨rfl, hb1⟩) | (go_at_call 18; refine (specTok _ _ hh).mono ?_; rw [ht]; rintro e w2 ⟨rfl, hb2⟩; have hb02 := hb1.trans (hb2.mono hb1.size)))
        go_ret2
        exact ⟨HN.out, hb02⟩
      · have hqq := beq_no3 hc
        have HQ : Hid (NoQ t (k + 1)) := hno.out.next hlt hc
        clear hc
        go_wp2
        go_round
        case rel => exact ⟨k + 1, by omega, by go_num, rfl, rfl, HQ⟩
        case measure => simp [intOf]; omega
    · obtain ⟨e1, e2⟩ := hno.out.miss hlt
      rw [e1] at hn
      clear e1 e2
      go_wp2_with (first | (go_at_call 39; refine (hn _).mono ?_; rintro e w1 ⟨rfl, hb1⟩) | (go_at_call 18; refine (specTok _ _ hh).mono ?_; rw [ht]; rintro e w2 ⟨rfl, hb2⟩; have hb02 := hb1.trans (hb2.mono hb1.size)))
      go_ret2
      exact ⟨HN.out, hb02⟩
set_option maxRecDepth 100000 in
set_option maxHeartbeats 2000000 in
theorem specKey_with (h t : ByteArray) (w : World) (hhs : h.size ≤ 1048576) (hts : t.size ≤ 1048576) (p : ByteArray) (ha : nrmA (keyP t) = some p) (ht : tokB h = true) (h0 : 0 < (qryA (keyQ t)).size) :
    Calls Tryd.prog 44 #[.string h, .string t] w fun e w' => e = .returned (keyE h t) ∧ Below w.heap.size w w' := by
  have hkz := key_size t
  have hh : h.size ≤ maxLen := by unfold maxLen; omega
  have hn := fun w => specNrm (keyP t) w (by unfold maxLen; omega)
  have hq := fun w => specQry (keyQ t) w (by unfold maxLen; omega)
  have hl := fun w => specLow h w hh
  have hqz := qryA_size (keyQ t)
  have hlz := lowS_size h
  unfold nrmE nrmT at hn
  rw [ha] at hn
  have hpz := nrmA_size ha
  have hqf := full3 h0
  have HN : Hid (Ending.returned (.tuple #[.string (lowS h ++ (p ++ ⟨#[63]⟩ ++ qryA (keyQ t))), .bool true]) = Ending.returned (keyE h t)) := keyE_some (keyA_with ha ht h0) (by rw [app_assoc])
  clear h0
  generalize qryA (keyQ t) = q at hq hqz hqf HN
  generalize lowS h = lh at hl hlz HN
  have z1 : lh.size ≤ 1048576 := by omega
  clear hlz
  have z2 : (p ++ ⟨#[63]⟩ : ByteArray).size ≤ 201 := by rw [ByteArray.size_append]; show p.size + 1 ≤ 201; omega
  have z3 : (p ++ ⟨#[63]⟩ ++ q : ByteArray).size ≤ 402 := by rw [ByteArray.size_append]; omega
  clear ha hkz
  go_enter Tryd.func44, Tryd.ntmps44
  go_wp2
  go_loop [6, 7, 8] (fun pp qq i => ∃ k : Nat, k ≤ t.size ∧ i = .int .i64 k ∧ pp = .string t ∧ qq = .string ⟨#[]⟩ ∧ Hid (NoQ t k)) (fun _ _ i => t.size - (intOf i).toNat)
  case atStart => exact ⟨0, Nat.zero_le _, rfl, rfl, rfl, NoQ.zero t⟩
  case round =>
    obtain ⟨k, hk, rfl, rfl, rfl, hno⟩ := hrel
    by_cases hlt : k < t.size
    · by_cases hc : (t[k].toNat : Int) = 63
      · have hqq := beq_yes3 hc
        obtain ⟨e1, e2⟩ := hno.out.hit hlt hc
        rw [e1] at hn
        rw [e2] at hq
        have c1 : (k : Int) + 1 ≤ (t.size : Int) := by omega
        have c5 : 0 ≤ (k : Int) + 1 := by omega
        have c6 : ((k : Int) + 1).toNat = k + 1 := by omega
        clear hc e1 e2
        go_wp2_with (first | (go_at_call 39; refine (hn _).mono ?_; rintro e w1 ⟨rfl, hb1⟩) | (go_at_call 18; refine (specTok _ _ hh).mono ?_; rw [ht]; rintro e w2 ⟨rfl, hb2⟩; have hb02 := hb1.trans (hb2.mono hb1.size)) | (go_at_call 45; refine (hq _).mono ?_; rintro e w3 ⟨rfl, hb3⟩; have hb03 := hb02.trans (hb3.mono hb02.size)) | (go_at_call 27; refine (hl _).mono ?_; rintro e w4 ⟨rfl, hb4⟩; have hb04 := hb03.trans (hb4.mono hb03.size)))
        go_ret2
        exact ⟨HN.out, hb04⟩
      · have hqq := beq_no3 hc
        have HQ : Hid (NoQ t (k + 1)) := hno.out.next hlt hc
        clear hc
        go_wp2
        go_round
        case rel => exact ⟨k + 1, by omega, by go_num, rfl, rfl, HQ⟩
        case measure => simp [intOf]; omega
    · obtain ⟨e1, e2⟩ := hno.out.miss hlt
      rw [e1] at hn
      rw [e2] at hq
      clear e1 e2
      go_wp2_with (first | (go_at_call 39; refine (hn _).mono ?_; rintro e w1 ⟨rfl, hb1⟩) | (go_at_call 18; refine (specTok _ _ hh).mono ?_; rw [ht]; rintro e w2 ⟨rfl, hb2⟩; have hb02 := hb1.trans (hb2.mono hb1.size)) | (go_at_call 45; refine (hq _).mono ?_; rintro e w3 ⟨rfl, hb3⟩; have hb03 := hb02.trans (hb3.mono hb02.size)) | (go_at_call 27; refine (hl _).mono ?_; rintro e w4 ⟨rfl, hb4⟩; have hb04 := hb03.trans (hb4.mono hb03.size)))
      go_ret2
      exact ⟨HN.out, hb04⟩
set_option maxRecDepth 100000 in
set_option maxHeartbeats 2000000 in
theorem specKey_bare (h t : ByteArray) (w : World) (hhs : h.size ≤ 1048576) (hts : t.size ≤ 1048576) (p : ByteArray) (ha : nrmA (keyP t) = some p) (ht : tokB h = true) (h0 : ¬ 0 < (qryA (keyQ t)).size) :
    Calls Tryd.prog 44 #[.string h, .string t] w fun e w' => e = .returned (keyE h t) ∧ Below w.heap.size w w' := by
  have hkz := key_size t
  have hh : h.size ≤ maxLen := by unfold maxLen; omega
  have hn := fun w => specNrm (keyP t) w (by unfold maxLen; omega)
  have hq := fun w => specQry (keyQ t) w (by unfold maxLen; omega)
  have hl := fun w => specLow h w hh
  have hqz := qryA_size (keyQ t)
  have hlz := lowS_size h
  unfold nrmE nrmT at hn
  rw [ha] at hn
  have hpz := nrmA_size ha
  have hqf := void3 h0
  have HN : Hid (Ending.returned (.tuple #[.string (lowS h ++ p), .bool true]) = Ending.returned (keyE h t)) := keyE_some (keyA_bare ha ht h0) rfl
  clear h0
  generalize qryA (keyQ t) = q at hq hqz hqf
  generalize lowS h = lh at hl hlz HN
  have z1 : lh.size ≤ 1048576 := by omega
  clear hlz
  clear ha hkz
  go_enter Tryd.func44, Tryd.ntmps44
  go_wp2
  go_loop [6, 7, 8] (fun pp qq i => ∃ k : Nat, k ≤ t.size ∧ i = .int .i64 k ∧ pp = .string t ∧ qq = .string ⟨#[]⟩ ∧ Hid (NoQ t k)) (fun _ _ i => t.size - (intOf i).toNat)
  case atStart => exact ⟨0, Nat.zero_le _, rfl, rfl, rfl, NoQ.zero t⟩
  case round =>
    obtain ⟨k, hk, rfl, rfl, rfl, hno⟩ := hrel
    by_cases hlt : k < t.size
    · by_cases hc : (t[k].toNat : Int) = 63
      · have hqq := beq_yes3 hc
        obtain ⟨e1, e2⟩ := hno.out.hit hlt hc
        rw [e1] at hn
        rw [e2] at hq
        have c1 : (k : Int) + 1 ≤ (t.size : Int) := by omega
        have c5 : 0 ≤ (k : Int) + 1 := by omega
        have c6 : ((k : Int) + 1).toNat = k + 1 := by omega
        clear hc e1 e2
        go_wp2_with (first | (go_at_call 39; refine (hn _).mono ?_; rintro e w1 ⟨rfl, hb1⟩) | (go_at_call 18; refine (specTok _ _ hh).mono ?_; rw [ht]; rintro e w2 ⟨rfl, hb2⟩; have hb02 := hb1.trans (hb2.mono hb1.size)) | (go_at_call 45; refine (hq _).mono ?_; rintro e w3 ⟨rfl, hb3⟩; have hb03 := hb02.trans (hb3.mono hb02.size)) | (go_at_call 27; refine (hl _).mono ?_; rintro e w4 ⟨rfl, hb4⟩; have hb04 := hb03.trans (hb4.mono hb03.size)))
        go_ret2
        exact ⟨HN.out, hb04⟩
      · have hqq := beq_no3 hc
        have HQ : Hid (NoQ t (k + 1)) := hno.out.next hlt hc
        clear hc
        go_wp2
        go_round
        case rel => exact ⟨k + 1, by omega, by go_num, rfl, rfl, HQ⟩
        case measure => simp [intOf]; omega
    · obtain ⟨e1, e2⟩ := hno.out.miss hlt
      rw [e1] at hn
      rw [e2] at hq
      clear e1 e2
      go_wp2_with (first | (go_at_call 39; refine (hn _).mono ?_; rintro e w1 ⟨rfl, hb1⟩) | (go_at_call 18; refine (specTok _ _ hh).mono ?_; rw [ht]; rintro e w2 ⟨rfl, hb2⟩; have hb02 := hb1.trans (hb2.mono hb1.size)) | (go_at_call 45; refine (hq _).mono ?_; rintro e w3 ⟨rfl, hb3⟩; have hb03 := hb02.trans (hb3.mono hb02.size)) | (go_at_call 27; refine (hl _).mono ?_; rintro e w4 ⟨rfl, hb4⟩; have hb04 := hb03.trans (hb4.mono hb03.size)))
      go_ret2
      exact ⟨HN.out, hb04⟩
theorem specKey (h t : ByteArray) (w : World) (hhs : h.size ≤ 1048576) (hts : t.size ≤ 1048576) :
    Calls Tryd.prog 44 #[.string h, .string t] w fun e w' => e = .returned (keyE h t) ∧ Below w.heap.size w w' := by
  cases ha : nrmA (keyP t) with
  | none => exact specKey_none h t w hhs hts ha
  | some p =>
    cases ht : tokB h with
    | false => exact specKey_tok h t w hhs hts p ha ht
    | true =>
      by_cases h0 : 0 < (qryA (keyQ t)).size
      · exact specKey_with h t w hhs hts p ha ht h0
      · exact specKey_bare h t w hhs hts p ha ht h0
end Go.Proofs.YthadmhleibhlgaaDoor
