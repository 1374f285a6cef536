/-
  The contracts of Key, the specification's and the program's, and of the library's Cut at a text of one byte.
-/
import Derived.Test.YthadmhleibhlgaaDoorPthG
import Derived.Test.YthadmhleibhlgaaDoorNrm
import Derived.Test.YthadmhleibhlgaaDoorQry3
import Derived.Test.YthadmhleibhlgaaDoorShelfC
namespace Go.Proofs.YthadmhleibhlgaaDoor
open Go.RowKit

theorem below_drewN {n : Nat} {w w' : World} (h : Below n w w') (q : Nat) : Below n w (w'.drewN q) := ⟨h.os, h.tape, h.output, h.size, h.block⟩

set_option maxHeartbeats 1000000 in
theorem cutLite (t : ByteArray) (w : World) (hs : t.size ≤ 1048576) :
    Calls Tryd.prog 93 #[.string t, .string ⟨#[63]⟩] w fun e w' => (∃ b, e = .returned (.tuple #[.string (keyP t), .string (keyQ t), .bool b])) ∧ Below w.heap.size w w' := by
  have hi := Tryd.stringslite_Index_one t 63
  rw [← index_byte] at hi
  rcases Lib.indexB_cases t ⟨#[63]⟩ with hx | ⟨i, hx, hroom⟩
  · obtain ⟨e1, e2⟩ := key_miss hx
    rw [e1, e2]
    rw [show Lib.index t.data.toList [63] = -1 from hx] at hi
    go_enter Tryd.func93, Tryd.ntmps93
    go_wp2_with (go_at_call 115; refine (hi _).mono ?_; rintro e w' ⟨rfl, rfl⟩)
    go_ret3
    exact ⟨⟨_, rfl⟩, Below.refl _ _⟩
  · obtain ⟨e1, e2⟩ := key_hit hx
    rw [e1, e2]
    rw [show Lib.index t.data.toList [63] = i from hx] at hi
    have hr : i + 1 ≤ t.size := hroom
    have c1 : (0 : Int) ≤ (i : Int) := by omega
    have c2 : (i : Int) ≤ (t.size : Int) := by omega
    have c3 : (i : Int) + 1 ≤ (t.size : Int) := by omega
    have c4 : IntKind.i64.wrap ((i : Int) + 1) = (i : Int) + 1 := by rw [IntKind.wrap_i64]; omega
    have c5 : 0 ≤ (i : Int) + 1 := by omega
    have c6 : ((i : Int) + 1).toNat = i + 1 := by omega
    go_enter Tryd.func93, Tryd.ntmps93
    go_wp2_with (go_at_call 115; refine (hi _).mono ?_; rintro e w' ⟨rfl, rfl⟩)
    go_region
    all_goals
      go_wp2
      go_ret3
      exact ⟨⟨_, rfl⟩, ⟨rfl, rfl, rfl, Nat.le_refl _, fun _ _ => rfl⟩⟩
theorem cut1 (t : ByteArray) (w : World) (hs : t.size ≤ 1048576) :
    Calls Tryd.prog 73 #[.string t, .string ⟨#[63]⟩] w fun e w' => (∃ b, e = .returned (.tuple #[.string (keyP t), .string (keyQ t), .bool b])) ∧ Below w.heap.size w w' := by
  have k := cutLite t
  generalize keyP t = p at k
  generalize keyQ t = q at k
  go_enter Tryd.func73, Tryd.ntmps73
  go_wp2_with (go_at_call 93; refine (k _ hs).mono ?_; rintro e w' ⟨⟨b, rfl⟩, hb⟩)
  go_ret3
  exact ⟨⟨_, rfl⟩, hb⟩

set_option maxRecDepth 100000 in
set_option maxHeartbeats 2000000 in
theorem implKey (h t : ByteArray) (w : World) (hhs : h.size ≤ 1048576) (hts : t.size ≤ 1048576) :
    Calls Tryd.prog 43 #[.string h, .string t] w fun e w' => e = .returned (keyE h t) ∧ Below w.heap.size w w' := by
  have hc := cut1 t
  have hkz := key_size t
  have hh : h.size ≤ maxLen := by unfold maxLen; omega
  have hn := fun w => implNrm (keyP t) w (by unfold maxLen; omega)
  have hq := fun w => implQry (keyQ t) w (by unfold maxLen; omega)
  have hl := fun w => implLow h w hh
  have hqz := qryA_size (keyQ t)
  have hlz := lowS_size h
  unfold nrmE nrmT at hn
  cases ha : nrmA (keyP t) with
  | none =>
    rw [ha] at hn
    have HN : Hid (_ = Ending.returned (keyE h t)) := keyE_none (keyA_nrm ha)
    generalize keyP t = p0 at hc hn
    generalize keyQ t = q0 at hc
    go_enter Tryd.func43, Tryd.ntmps43
    go_wp2_with (first | (go_at_call 73; refine (hc _ hts).mono ?_; rintro e w0 ⟨⟨b, rfl⟩, hb0⟩) | (go_at_call 34; refine (hn _).mono ?_; rintro e w1 ⟨rfl, hb1⟩))
    go_ret2
    exact ⟨HN.out, hb0.trans (hb1.mono hb0.size)⟩
  | some p =>
    rw [ha] at hn
    have hpz := nrmA_size ha
    cases ht : tokB h with
    | false =>
      have HN : Hid (_ = Ending.returned (keyE h t)) := keyE_none (keyA_tok ha ht)
      generalize keyP t = p0 at hc hn
      generalize keyQ t = q0 at hc
      go_enter Tryd.func43, Tryd.ntmps43
      go_wp2_with (first | (go_at_call 73; refine (hc _ hts).mono ?_; rintro e w0 ⟨⟨b, rfl⟩, hb0⟩) | (go_at_call 34; refine (hn _).mono ?_; rintro e w1 ⟨rfl, hb1⟩; have hb01 := hb0.trans (hb1.mono hb0.size)) | (go_at_call 17; refine (implTok _ _ hh).mono ?_; rw [ht]; rintro e w2 ⟨rfl, hb2⟩; have hb02 := hb01.trans (hb2.mono hb01.size)))
      go_ret2
      exact ⟨HN.out, hb02⟩
    | true =>
      by_cases h0 : 0 < (qryA (keyQ t)).size
      · have hqf := full3 h0
        have HN : Hid (Ending.returned (.tuple #[.string (lowS h ++ p ++ (⟨#[63]⟩ ++ qryA (keyQ t))), .bool true]) = Ending.returned (keyE h t)) := keyE_some (keyA_with ha ht h0) (by rw [app_assoc])
        clear h0
        generalize keyP t = p0 at hc hn
        generalize qryA (keyQ t) = q at hq hqz hqf HN
        generalize keyQ t = q0 at hc hq
        generalize lowS h = lh at hl hlz HN
        have z1 : lh.size ≤ 1048576 := by omega
        have z2 : (lh ++ p).size ≤ 1048776 := by rw [ByteArray.size_append]; omega
        have z3 : ((⟨#[63]⟩ : ByteArray) ++ q).size ≤ 202 := by rw [ByteArray.size_append]; show 1 + q.size ≤ 202; omega
        clear hlz
        go_enter Tryd.func43, Tryd.ntmps43
        go_wp2_with (first | (go_at_call 73; refine (hc _ hts).mono ?_; rintro e w0 ⟨⟨b, rfl⟩, hb0⟩) | (go_at_call 34; refine (hn _).mono ?_; rintro e w1 ⟨rfl, hb1⟩; have hb01 := hb0.trans (hb1.mono hb0.size)) | (go_at_call 17; refine (implTok _ _ hh).mono ?_; rw [ht]; rintro e w2 ⟨rfl, hb2⟩; have hb02 := hb01.trans (hb2.mono hb01.size)) | (go_at_call 26; refine (hl _).mono ?_; rintro e w3 ⟨rfl, hb3⟩; have hb03 := hb02.trans (hb3.mono hb02.size)) | (go_at_call 41; refine (hq _).mono ?_; rintro e w4 ⟨rfl, hb4⟩; have hb04 := hb03.trans (hb4.mono hb03.size)))
        go_ret2
        exact ⟨HN.out, hb04⟩
      · have hqf := void3 h0
        have HN : Hid (Ending.returned (.tuple #[.string (lowS h ++ p), .bool true]) = Ending.returned (keyE h t)) := keyE_some (keyA_bare ha ht h0) rfl
        clear h0
        generalize keyP t = p0 at hc hn
        generalize qryA (keyQ t) = q at hq hqz hqf
        generalize keyQ t = q0 at hc hq
        generalize lowS h = lh at hl hlz HN
        have z1 : lh.size ≤ 1048576 := by omega
        clear hlz
        go_enter Tryd.func43, Tryd.ntmps43
        go_wp2_with (first | (go_at_call 73; refine (hc _ hts).mono ?_; rintro e w0 ⟨⟨b, rfl⟩, hb0⟩) | (go_at_call 34; refine (hn _).mono ?_; rintro e w1 ⟨rfl, hb1⟩; have hb01 := hb0.trans (hb1.mono hb0.size)) | (go_at_call 17; refine (implTok _ _ hh).mono ?_; rw [ht]; rintro e w2 ⟨rfl, hb2⟩; have hb02 := hb01.trans (hb2.mono hb01.size)) | (go_at_call 26; refine (hl _).mono ?_; rintro e w3 ⟨rfl, hb3⟩; have hb03 := hb02.trans (hb3.mono hb02.size)) | (go_at_call 41; refine (hq _).mono ?_; rintro e w4 ⟨rfl, hb4⟩; have hb04 := hb03.trans (hb4.mono hb03.size)))
        go_ret2
        exact ⟨HN.out, hb04⟩
end Go.Proofs.YthadmhleibhlgaaDoor
