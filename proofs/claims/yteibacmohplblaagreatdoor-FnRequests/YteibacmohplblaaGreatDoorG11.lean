/-
  The specification's Get of any fields.
  The contracts of Digits and HexDigits, the specification's and the program's, and of what they call: both read the same number.
  The specification's RequestOk, ResponseOk and Framing by their contracts.
-/
import Derived.Test.YteibacmohplblaaGreatDoorG10
import Derived.Test.YteibacmohplblaaGreatDoorRows
import Derived.Test.YteibacmohplblaaGreatDoorG06
import Derived.WalkKit
import Derived.WalkSpells
import Derived.Test.YteibacmohplblaaGreatDoorG08
namespace Go.Proofs.YteibacmohplblaaGreatDoor
open Go.RowKit

set_option maxHeartbeats 1000000 in
theorem specGetN (v : Value) (l : List Fl) (n : ByteArray) (w : World) (h : Fls w v l) (hz : szL l ≤ 1048576) (hl : l.length ≤ 1048576) (hn : n.size ≤ 1048576) :
    Calls Tryz.prog 70 #[v, .string n] w fun e w' => e = .returned (getE (getF l n)) ∧ Below w.heap.size w w' := by
  obtain ⟨a, cap, rfl, h1, h2, h3⟩ := h
  unfold maxLen at h2
  have hnm : n.size ≤ maxLen := by unfold maxLen; omega
  go_enter Tryz.func70, Tryz.ntmps70
  go_wp2
  go_loopw [6, 7, 8] (fun s b i wr => ∃ (k : Nat) (x : ByteArray) (fd : Bool), k ≤ l.length ∧ i = .int .i64 k ∧ s = .string x ∧ b = .bool fd ∧ x.size ≤ szL (l.take k) + 2 * k ∧ Hid (getF (l.take k) n = (x, fd)) ∧ Below w.heap.size w wr) (fun _ _ i _ => l.length - (intOf i).toNat)
  case atStart => exact ⟨0, ⟨#[]⟩, false, Nat.zero_le _, rfl, rfl, rfl, Nat.zero_le _, rfl, Below.refl _ _⟩
  case round =>
    obtain ⟨k, x, fd, hk, rfl, rfl, rfl, hxs, hget, hb⟩ := hrel
    by_cases hlt : k < l.length
    · obtain ⟨g, o, rfl, hg, hc⟩ := h3 (by omega)
      have c1 := (hb.cell (p := ⟨g, o + k * 2, none⟩) hg).trans (hc k hlt).1
      have c2 := (hb.cell (p := ⟨g, o + k * 2 + 1, none⟩) hg).trans (hc k hlt).2
      have hsz := szL_at hlt
      have hst := szL_take l k
      have hsn := szL_next hlt
      have hnx := getF_next n hlt
      rw [hget.out] at hnx
      generalize l[k] = f at c1 c2 hsz hnx hsn
      have HSN : Hid _ := hsn
      have HST : Hid _ := hst
      have zx : x.size ≤ 3145728 := by omega
      have zf : f.1.size ≤ 1048576 ∧ f.2.size ≤ 1048576 := by omega
      obtain ⟨zf1, zf2⟩ := zf
      clear hsn hst
      have hgr : g < wr.heap.size := Nat.lt_of_lt_of_le hg hb.size
      have z1 : f.1.size ≤ maxLen := by unfold maxLen; omega
      clear hc h3
      by_cases he : lowS f.1 = lowS n
      · have hq := same_yes he
        cases fd with
        | false =>
          rw [gStep_first he] at hnx
          have HN : Hid (getF (l.take (k + 1)) n = (x ++ f.2, true)) := hnx
          clear hnx he
          go_wp2_with fail
          refine (specLow _ _ z1).mono ?_
          rintro e w1 ⟨rfl, hb1⟩
          have d2 := (hb1.cell (p := ⟨g, o + k * 2 + 1, none⟩) hgr).trans c2
          go_wp2_with fail
          refine (specLow _ _ hnm).mono ?_
          rintro e w2 ⟨rfl, hb2⟩
          have e2 := (hb2.cell (p := ⟨g, o + k * 2 + 1, none⟩) (Nat.lt_of_lt_of_le hgr hb1.size)).trans d2
          have hb02 : Below w.heap.size w w2 := (hb.trans (hb1.mono hb.size)).trans (hb2.mono (Nat.le_trans hb.size hb1.size))
          clear c1 c2 d2 hb hb1 hb2
          go_wp2
          go_roundw
          case rel => exact ⟨k + 1, _, true, by omega, by go_num, rfl, rfl, by have hsn := HSN.out; rw [ByteArray.size_append]; omega, HN, hb02⟩
          case measure => simp [intOf]; omega
        | true =>
          rw [gStep_more he] at hnx
          have HN : Hid (getF (l.take (k + 1)) n = (x ++ ⟨#[44, 32]⟩ ++ f.2, true)) := hnx
          clear hnx he
          have zz : (x ++ (⟨#[44, 32]⟩ : ByteArray)).size = x.size + 2 := by rw [ByteArray.size_append]; rfl
          go_wp2_with fail
          refine (specLow _ _ z1).mono ?_
          rintro e w1 ⟨rfl, hb1⟩
          have d2 := (hb1.cell (p := ⟨g, o + k * 2 + 1, none⟩) hgr).trans c2
          go_wp2_with fail
          refine (specLow _ _ hnm).mono ?_
          rintro e w2 ⟨rfl, hb2⟩
          have e2 := (hb2.cell (p := ⟨g, o + k * 2 + 1, none⟩) (Nat.lt_of_lt_of_le hgr hb1.size)).trans d2
          have hb02 : Below w.heap.size w w2 := (hb.trans (hb1.mono hb.size)).trans (hb2.mono (Nat.le_trans hb.size hb1.size))
          clear c1 c2 d2 hb hb1 hb2
          go_wp2
          go_roundw
          case rel => exact ⟨k + 1, _, true, by omega, by go_num, rfl, rfl, by have hsn := HSN.out; rw [ByteArray.size_append, zz]; omega, HN, hb02⟩
          case measure => simp [intOf]; omega
      · have hq := same_no he
        rw [gStep_no he] at hnx
        have HN : Hid (getF (l.take (k + 1)) n = (x, fd)) := hnx
        clear hnx he
        go_wp2_with fail
        refine (specLow _ _ z1).mono ?_
        rintro e w1 ⟨rfl, hb1⟩
        go_wp2_with fail
        refine (specLow _ _ hnm).mono ?_
        rintro e w2 ⟨rfl, hb2⟩
        have hb02 : Below w.heap.size w w2 := (hb.trans (hb1.mono hb.size)).trans (hb2.mono (Nat.le_trans hb.size hb1.size))
        clear c1 c2 hb hb1 hb2
        go_wp2
        go_roundw
        case rel => exact ⟨k + 1, _, fd, by omega, by go_num, rfl, rfl, by have hsn := HSN.out; omega, HN, hb02⟩
        case measure => simp [intOf]; omega
    · have HN : Hid ((x, fd) = getF l n) := by rw [← getF_end n hlt]; exact hget.out.symm
      go_wp2
      go_ret2
      exact ⟨ret_get HN.out, hb⟩

end Go.Proofs.YteibacmohplblaaGreatDoor
namespace Go.Proofs.YteibacmohplblaaGreatDoor
open Go.RowKit

theorem ret_int {k : IntKind} {a b : Int} (h : a = b) : Ending.returned (.int k a) = .returned (.int k b) := by rw [h]

theorem specHexV_d (r : Int) (w : World) (h : 48 ≤ r ∧ r ≤ 57) :
    Calls Tryz.prog 167 #[.int .u8 r] w fun e w' => e = .returned (.int .i64 (digV r)) ∧ w' = w := by
  have hd := (digV_d h).symm
  have HD : Hid (_ = digV r) := hd
  clear hd
  obtain ⟨h1, h2⟩ := h
  go_enter Tryz.func167, Tryz.ntmps167
  go_wp2
  go_ret
  exact ⟨ret_int HD.out, rfl⟩
theorem specHexV_a (r : Int) (w : World) (h : 97 ≤ r ∧ r ≤ 102) :
    Calls Tryz.prog 167 #[.int .u8 r] w fun e w' => e = .returned (.int .i64 (digV r)) ∧ w' = w := by
  have hd := (digV_a h).symm
  have HD : Hid (_ = digV r) := hd
  clear hd
  obtain ⟨h1, h2⟩ := h
  go_enter Tryz.func167, Tryz.ntmps167
  go_wp2
  go_ret
  exact ⟨ret_int HD.out, rfl⟩
theorem specHexV_A (r : Int) (w : World) (h : 65 ≤ r ∧ r ≤ 70) :
    Calls Tryz.prog 167 #[.int .u8 r] w fun e w' => e = .returned (.int .i64 (digV r)) ∧ w' = w := by
  have hd := (digV_A h).symm
  have HD : Hid (_ = digV r) := hd
  clear hd
  obtain ⟨h1, h2⟩ := h
  go_enter Tryz.func167, Tryz.ntmps167
  go_wp2
  go_ret
  exact ⟨ret_int HD.out, rfl⟩
theorem specHexV_no (r : Int) (w : World) (h : ¬ (48 ≤ r ∧ r ≤ 57)) (h' : ¬ (97 ≤ r ∧ r ≤ 102)) (h'' : ¬ (65 ≤ r ∧ r ≤ 70)) :
    Calls Tryz.prog 167 #[.int .u8 r] w fun e w' => e = .returned (.int .i64 (digV r)) ∧ w' = w := by
  have hd := digV_no h h' h''
  have HD : Hid (digV r = -1) := hd
  clear hd
  rcases (show r < 48 ∨ (57 < r ∧ r < 65) ∨ (70 < r ∧ r < 97) ∨ 102 < r from by omega) with g | ⟨g, g'⟩ | ⟨g, g'⟩ | g
  all_goals
    clear h h' h''
    go_enter Tryz.func167, Tryz.ntmps167
    go_wp2
    go_ret
    exact ⟨ret_int HD.out.symm, rfl⟩
theorem specHexV (r : Int) (w : World) :
    Calls Tryz.prog 167 #[.int .u8 r] w fun e w' => e = .returned (.int .i64 (digV r)) ∧ w' = w := by
  by_cases h : 48 ≤ r ∧ r ≤ 57
  · exact specHexV_d r w h
  by_cases h' : 97 ≤ r ∧ r ≤ 102
  · exact specHexV_a r w h'
  by_cases h'' : 65 ≤ r ∧ r ≤ 70
  · exact specHexV_A r w h''
  · exact specHexV_no r w h h' h''

theorem implDigV_d (r : Int) (w : World) (h : 48 ≤ r ∧ r ≤ 57) :
    Calls Tryz.prog 134 #[.int .i32 r] w fun e w' => e = .returned (.int .i64 (digV r)) ∧ w' = w := by
  have hd := (digV_d h).symm
  have HD : Hid (_ = digV r) := hd
  clear hd
  obtain ⟨h1, h2⟩ := h
  go_enter Tryz.func134, Tryz.ntmps134
  go_wp2
  go_ret
  exact ⟨ret_int HD.out, rfl⟩
theorem implDigV_a (r : Int) (w : World) (h : 97 ≤ r ∧ r ≤ 102) :
    Calls Tryz.prog 134 #[.int .i32 r] w fun e w' => e = .returned (.int .i64 (digV r)) ∧ w' = w := by
  have hd := (digV_a h).symm
  have HD : Hid (_ = digV r) := hd
  clear hd
  obtain ⟨h1, h2⟩ := h
  go_enter Tryz.func134, Tryz.ntmps134
  go_wp2
  go_ret
  exact ⟨ret_int HD.out, rfl⟩
theorem implDigV_A (r : Int) (w : World) (h : 65 ≤ r ∧ r ≤ 70) :
    Calls Tryz.prog 134 #[.int .i32 r] w fun e w' => e = .returned (.int .i64 (digV r)) ∧ w' = w := by
  have hd := (digV_A h).symm
  have HD : Hid (_ = digV r) := hd
  clear hd
  obtain ⟨h1, h2⟩ := h
  go_enter Tryz.func134, Tryz.ntmps134
  go_wp2
  go_ret
  exact ⟨ret_int HD.out, rfl⟩
theorem implDigV_no (r : Int) (w : World) (h : ¬ (48 ≤ r ∧ r ≤ 57)) (h' : ¬ (97 ≤ r ∧ r ≤ 102)) (h'' : ¬ (65 ≤ r ∧ r ≤ 70)) :
    Calls Tryz.prog 134 #[.int .i32 r] w fun e w' => e = .returned (.int .i64 (digV r)) ∧ w' = w := by
  have hd := digV_no h h' h''
  have HD : Hid (digV r = -1) := hd
  clear hd
  rcases (show r < 48 ∨ (57 < r ∧ r < 65) ∨ (70 < r ∧ r < 97) ∨ 102 < r from by omega) with g | ⟨g, g'⟩ | ⟨g, g'⟩ | g
  all_goals
    clear h h' h''
    go_enter Tryz.func134, Tryz.ntmps134
    go_wp2
    go_ret
    exact ⟨ret_int HD.out.symm, rfl⟩
theorem implDigV (r : Int) (w : World) :
    Calls Tryz.prog 134 #[.int .i32 r] w fun e w' => e = .returned (.int .i64 (digV r)) ∧ w' = w := by
  by_cases h : 48 ≤ r ∧ r ≤ 57
  · exact implDigV_d r w h
  by_cases h' : 97 ≤ r ∧ r ≤ 102
  · exact implDigV_a r w h'
  by_cases h'' : 65 ≤ r ∧ r ≤ 70
  · exact implDigV_A r w h''
  · exact implDigV_no r w h h' h''

theorem specDig_out (s : ByteArray) (w : World) (hs : s.size ≤ maxLen) (h : s.size < 1 ∨ 15 < s.size) :
    Calls Tryz.prog 71 #[.string s] w fun e w' => e = .returned (numE 10 15 s) ∧ Below w.heap.size w w' := by
  unfold maxLen at hs
  have ht := numE_no (numOk_out (b := 10) h)
  have HT : Hid (_ = Ending.returned (numE 10 15 s)) := ht
  clear ht
  rcases h with h | h
  · go_enter Tryz.func71, Tryz.ntmps71
    go_wp2
    go_ret2
    exact ⟨HT.out, Below.refl _ _⟩
  · have h' : ¬ s.size < 1 := by omega
    go_enter Tryz.func71, Tryz.ntmps71
    go_wp2
    go_ret2
    exact ⟨HT.out, Below.refl _ _⟩

set_option maxHeartbeats 400000 in
theorem specDig_in (s : ByteArray) (w : World) (h1 : 1 ≤ s.size) (h2 : s.size ≤ 15) :
    Calls Tryz.prog 71 #[.string s] w fun e w' => e = .returned (numE 10 15 s) ∧ Below w.heap.size w w' := by
  have d1 : decide ((s.size : Int) < 1) = false := by simp; omega
  have d2 : decide (15 < (s.size : Int)) = false := by simp; omega
  go_enter Tryz.func71, Tryz.ntmps71
  go_wp2
  go_loop [4, 5] (fun v i => ∃ (k : Nat) (n : Int), k ≤ s.size ∧ i = .int .i64 k ∧ v = .int .i64 n ∧ 0 ≤ n ∧ n ≤ 1000000000000000 ∧ Hid (allB (digN 10) (s.data.toList.take k) = true) ∧ Hid (n = numL 10 (s.data.toList.take k))) (fun _ i => s.size - (intOf i).toNat)
  case atStart => exact ⟨0, 0, Nat.zero_le _, rfl, rfl, by decide, by decide, allB_nil _ _, rfl⟩
  case round =>
    obtain ⟨k, n, hk, rfl, rfl, hn0, hn1, ha, hn⟩ := hrel
    by_cases hlt : k < s.size
    · by_cases hg : 48 ≤ (s[k].toNat : Int) ∧ (s[k].toNat : Int) ≤ 57
      · have e1 := digV_d hg
        have e2 := allB_step hlt ha.out (digN_yes (b := 10) (digV_ten.2 hg).1 (digV_ten.2 hg).2)
        have e3 := numL_step hlt hn.out
        rw [e1] at e3
        have e4 := num_bound10 (by omega) (by omega) e2
        rw [← e3] at e4
        have H2 : Hid (allB (digN 10) (s.data.toList.take (k + 1)) = true) := e2
        have H3 : Hid (n * 10 + ((s[k].toNat : Int) - 48) = numL 10 (s.data.toList.take (k + 1))) := e3
        have H4 : Hid (0 ≤ n * 10 + ((s[k].toNat : Int) - 48) ∧ n * 10 + ((s[k].toNat : Int) - 48) ≤ 1000000000000000) := e4
        clear e1 e2 e3 e4
        obtain ⟨hg1, hg2⟩ := hg
        go_wp2
        go_round
        case rel => exact ⟨k + 1, _, by omega, by go_num, rfl, H4.out.1, H4.out.2, H2, H3⟩
        case measure => simp [intOf]; omega
      · have hf := numE_no (numOk_in (b := 10) h1 h2 (allB_not hlt (digN_no (fun x => hg (digV_ten.1 x)))))
        have HF : Hid (_ = Ending.returned (numE 10 15 s)) := hf
        clear hf
        rcases (show (s[k].toNat : Int) < 48 ∨ 57 < (s[k].toNat : Int) from by omega) with g | g
        all_goals
          go_wp2
          go_ret2
          exact ⟨HF.out, Below.refl _ _⟩
    · have hf := numE_yes (numOk_in (b := 10) h1 h2 (allB_end hlt ha.out)) (hn.out.trans (by rw [take_all s k hlt]))
      have HF : Hid (_ = Ending.returned (numE 10 15 s)) := hf
      clear hf
      go_wp2
      go_ret2
      exact ⟨HF.out, Below.refl _ _⟩

theorem specDig (s : ByteArray) (w : World) (hs : s.size ≤ maxLen) :
    Calls Tryz.prog 71 #[.string s] w fun e w' => e = .returned (numE 10 15 s) ∧ Below w.heap.size w w' := by
  by_cases h : s.size < 1 ∨ 15 < s.size
  · exact specDig_out s w hs h
  · exact specDig_in s w (by omega) (by omega)

theorem specHexD_out (s : ByteArray) (w : World) (hs : s.size ≤ maxLen) (h : s.size < 1 ∨ 13 < s.size) :
    Calls Tryz.prog 168 #[.string s] w fun e w' => e = .returned (numE 16 13 s) ∧ Below w.heap.size w w' := by
  unfold maxLen at hs
  have ht := numE_no (numOk_out (b := 16) h)
  have HT : Hid (_ = Ending.returned (numE 16 13 s)) := ht
  clear ht
  rcases h with h | h
  · go_enter Tryz.func168, Tryz.ntmps168
    go_wp2
    go_ret2
    exact ⟨HT.out, Below.refl _ _⟩
  · have h' : ¬ s.size < 1 := by omega
    go_enter Tryz.func168, Tryz.ntmps168
    go_wp2
    go_ret2
    exact ⟨HT.out, Below.refl _ _⟩

set_option maxHeartbeats 400000 in
theorem specHexD_in (s : ByteArray) (w : World) (h1 : 1 ≤ s.size) (h2 : s.size ≤ 13) :
    Calls Tryz.prog 168 #[.string s] w fun e w' => e = .returned (numE 16 13 s) ∧ Below w.heap.size w w' := by
  have d1 : decide ((s.size : Int) < 1) = false := by simp; omega
  have d2 : decide (13 < (s.size : Int)) = false := by simp; omega
  go_enter Tryz.func168, Tryz.ntmps168
  go_wp2
  go_loop [4, 5] (fun v i => ∃ (k : Nat) (n : Int), k ≤ s.size ∧ i = .int .i64 k ∧ v = .int .i64 n ∧ 0 ≤ n ∧ n ≤ 4503599627370496 ∧ Hid (allB (digN 16) (s.data.toList.take k) = true) ∧ Hid (n = numL 16 (s.data.toList.take k))) (fun _ i => s.size - (intOf i).toNat)
  case atStart => exact ⟨0, 0, Nat.zero_le _, rfl, rfl, by decide, by decide, allB_nil _ _, rfl⟩
  case round =>
    obtain ⟨k, n, hk, rfl, rfl, hn0, hn1, ha, hn⟩ := hrel
    by_cases hlt : k < s.size
    · have hbd := digV_bd (s[k].toNat : Int)
      by_cases hg : 0 ≤ digV (s[k].toNat : Int)
      · have e2 := allB_step hlt ha.out (digN_yes (b := 16) hg (by omega))
        have e3 := numL_step hlt hn.out
        have e4 := num_bound16 (by omega) (by omega) e2
        rw [← e3] at e4
        have H2 : Hid (allB (digN 16) (s.data.toList.take (k + 1)) = true) := e2
        have H3 : Hid (n * 16 + digV (s[k].toNat : Int) = numL 16 (s.data.toList.take (k + 1))) := e3
        have H4 : Hid (0 ≤ n * 16 + digV (s[k].toNat : Int) ∧ n * 16 + digV (s[k].toNat : Int) ≤ 4503599627370496) := e4
        clear e2 e3 e4
        obtain ⟨hb1, hb2⟩ := hbd
        go_wp2_with (go_at_call 167; refine (specHexV _ _).mono ?_; rintro e w' ⟨rfl, rfl⟩)
        go_round
        case rel => exact ⟨k + 1, _, by omega, by go_num, rfl, H4.out.1, H4.out.2, H2, H3⟩
        case measure => simp [intOf]; omega
      · have hf := numE_no (numOk_in (b := 16) h1 h2 (allB_not hlt (digN_no (fun x => hg x.1))))
        have HF : Hid (_ = Ending.returned (numE 16 13 s)) := hf
        clear hf
        have hg' : digV (s[k].toNat : Int) < 0 := by omega
        clear hg
        go_wp2_with (go_at_call 167; refine (specHexV _ _).mono ?_; rintro e w' ⟨rfl, rfl⟩)
        go_ret2
        exact ⟨HF.out, Below.refl _ _⟩
    · have hf := numE_yes (numOk_in (b := 16) h1 h2 (allB_end hlt ha.out)) (hn.out.trans (by rw [take_all s k hlt]))
      have HF : Hid (_ = Ending.returned (numE 16 13 s)) := hf
      clear hf
      go_wp2
      go_ret2
      exact ⟨HF.out, Below.refl _ _⟩

theorem specHexD (s : ByteArray) (w : World) (hs : s.size ≤ maxLen) :
    Calls Tryz.prog 168 #[.string s] w fun e w' => e = .returned (numE 16 13 s) ∧ Below w.heap.size w w' := by
  by_cases h : s.size < 1 ∨ 13 < s.size
  · exact specHexD_out s w hs h
  · exact specHexD_in s w (by omega) (by omega)

theorem implNum10_out (s : ByteArray) (w : World) (hs : s.size ≤ maxLen) (h : s.size < 1 ∨ 15 < s.size) :
    Calls Tryz.prog 110 #[.string s, .int .i64 10, .int .i64 15] w fun e w' => e = .returned (numE 10 15 s) ∧ Below w.heap.size w w' := by
  unfold maxLen at hs
  have ht := numE_no (numOk_out (b := 10) h)
  have HT : Hid (_ = Ending.returned (numE 10 15 s)) := ht
  clear ht
  rcases h with h | h
  · go_enter Tryz.func110, Tryz.ntmps110
    go_wp2
    go_ret2
    exact ⟨HT.out, Below.refl _ _⟩
  · have h' : ¬ s.size < 1 := by omega
    go_enter Tryz.func110, Tryz.ntmps110
    go_wp2
    go_ret2
    exact ⟨HT.out, Below.refl _ _⟩

set_option maxHeartbeats 400000 in
theorem implNum10_in (s : ByteArray) (w : World) (h1 : 1 ≤ s.size) (h2 : s.size ≤ 15) :
    Calls Tryz.prog 110 #[.string s, .int .i64 10, .int .i64 15] w fun e w' => e = .returned (numE 10 15 s) ∧ Below w.heap.size w w' := by
  have d1 : decide ((s.size : Int) < 1) = false := by simp; omega
  have d2 : decide (15 < (s.size : Int)) = false := by simp; omega
  go_enter Tryz.func110, Tryz.ntmps110
  go_wp2
  go_loopw [8] (fun v wr => ∃ (pos : Nat) (n : Int), pos ≤ s.size ∧ wr = w.iter s pos ∧ v = .int .i64 n ∧ 0 ≤ n ∧ n ≤ 1000000000000000 ∧ Hid (allB (digN 10) (s.data.toList.take pos) = true) ∧ Hid (n = numL 10 (s.data.toList.take pos))) (fun _ wr => s.size - wr.iterPos w.heap.size)
  case atStart => exact ⟨0, 0, Nat.zero_le _, rfl, rfl, by decide, by decide, allB_nil _ _, rfl⟩
  case round =>
    obtain ⟨pos, n, hpos, rfl, rfl, hn0, hn1, ha, hn⟩ := hrel
    by_cases hp : pos < s.size
    · by_cases hasc : (s[pos]).toNat < 128
      · have hnx : ∀ ty, (Instr.next (.pointer (some ⟨w.heap.size, 0, none⟩)) true ty).run Tryz.prog (w.iter s pos) = _ := fun ty => run_next_ascii w s pos ty hp hasc
        have hbd := digV_bd (s[pos].toNat : Int)
        by_cases hg : 0 ≤ digV (s[pos].toNat : Int) ∧ digV (s[pos].toNat : Int) < 10
        · have e2 := allB_step hp ha.out (digN_yes (b := 10) hg.1 hg.2)
          have e3 := numL_step hp hn.out
          have e4 := num_bound10 (by omega) (by omega) e2
          rw [← e3] at e4
          have H2 : Hid (allB (digN 10) (s.data.toList.take (pos + 1)) = true) := e2
          have H3 : Hid (n * 10 + digV (s[pos].toNat : Int) = numL 10 (s.data.toList.take (pos + 1))) := e3
          have H4 : Hid (0 ≤ n * 10 + digV (s[pos].toNat : Int) ∧ n * 10 + digV (s[pos].toNat : Int) ≤ 1000000000000000) := e4
          clear e2 e3 e4
          obtain ⟨hb1, hb2⟩ := hbd
          obtain ⟨hg1, hg2⟩ := hg
          go_wp2_with (go_at_call 134; refine (implDigV _ _).mono ?_; rintro e w' ⟨rfl, rfl⟩)
          go_roundw
          case rel => exact ⟨pos + 1, _, by omega, rfl, rfl, H4.out.1, H4.out.2, H2, H3⟩
          case measure => simp; omega
        · have hf := numE_no (numOk_in (b := 10) h1 h2 (allB_not hp (digN_no hg)))
          have HF : Hid (_ = Ending.returned (numE 10 15 s)) := hf
          clear hf
          rcases (show digV (s[pos].toNat : Int) < 0 ∨ (0 ≤ digV (s[pos].toNat : Int) ∧ 10 ≤ digV (s[pos].toNat : Int)) from by omega) with g | ⟨g, g'⟩
          all_goals
            clear hg
            go_wp2_with (go_at_call 134; refine (implDigV _ _).mono ?_; rintro e w' ⟨rfl, rfl⟩)
            go_ret2
            exact ⟨HF.out, below_iter _ _ _⟩
      · have hnx : ∀ ty, (Instr.next (.pointer (some ⟨w.heap.size, 0, none⟩)) true ty).run Tryz.prog (w.iter s pos) = _ := fun ty => run_next_any w s pos ty hp
        have hd := (decode_high s pos hp (by omega)).1
        have hz : digV (s[pos].toNat : Int) = -1 := digV_high (by omega)
        have hf := numE_no (numOk_in (b := 10) h1 h2 (allB_not hp (digN_no (by omega))))
        have HF : Hid (_ = Ending.returned (numE 10 15 s)) := hf
        clear hf hz
        generalize (Utf8.decode s pos).1 = r at hnx hd
        generalize (Utf8.decode s pos).2 = p2 at hnx
        have ht : digV (r : Int) = -1 := digV_high (by omega)
        go_wp2_with (go_at_call 134; refine (implDigV _ _).mono ?_; rintro e w' ⟨rfl, rfl⟩)
        go_ret2
        exact ⟨HF.out, below_iter _ _ _⟩
    · have hnx : ∀ ty, (Instr.next (.pointer (some ⟨w.heap.size, 0, none⟩)) true ty).run Tryz.prog (w.iter s pos) = _ := fun ty => run_next_end w s pos ty hp
      have hf := numE_yes (numOk_in (b := 10) h1 h2 (allB_end hp ha.out)) (hn.out.trans (by rw [take_all s pos hp]))
      have HF : Hid (_ = Ending.returned (numE 10 15 s)) := hf
      clear hf
      go_wp2
      go_ret2
      exact ⟨HF.out, below_iter _ _ _⟩

theorem implNum10 (s : ByteArray) (w : World) (hs : s.size ≤ maxLen) :
    Calls Tryz.prog 110 #[.string s, .int .i64 10, .int .i64 15] w fun e w' => e = .returned (numE 10 15 s) ∧ Below w.heap.size w w' := by
  by_cases h : s.size < 1 ∨ 15 < s.size
  · exact implNum10_out s w hs h
  · exact implNum10_in s w (by omega) (by omega)

theorem implNum16_out (s : ByteArray) (w : World) (hs : s.size ≤ maxLen) (h : s.size < 1 ∨ 13 < s.size) :
    Calls Tryz.prog 110 #[.string s, .int .i64 16, .int .i64 13] w fun e w' => e = .returned (numE 16 13 s) ∧ Below w.heap.size w w' := by
  unfold maxLen at hs
  have ht := numE_no (numOk_out (b := 16) h)
  have HT : Hid (_ = Ending.returned (numE 16 13 s)) := ht
  clear ht
  rcases h with h | h
  · go_enter Tryz.func110, Tryz.ntmps110
    go_wp2
    go_ret2
    exact ⟨HT.out, Below.refl _ _⟩
  · have h' : ¬ s.size < 1 := by omega
    go_enter Tryz.func110, Tryz.ntmps110
    go_wp2
    go_ret2
    exact ⟨HT.out, Below.refl _ _⟩

set_option maxHeartbeats 400000 in
theorem implNum16_in (s : ByteArray) (w : World) (h1 : 1 ≤ s.size) (h2 : s.size ≤ 13) :
    Calls Tryz.prog 110 #[.string s, .int .i64 16, .int .i64 13] w fun e w' => e = .returned (numE 16 13 s) ∧ Below w.heap.size w w' := by
  have d1 : decide ((s.size : Int) < 1) = false := by simp; omega
  have d2 : decide (13 < (s.size : Int)) = false := by simp; omega
  go_enter Tryz.func110, Tryz.ntmps110
  go_wp2
  go_loopw [8] (fun v wr => ∃ (pos : Nat) (n : Int), pos ≤ s.size ∧ wr = w.iter s pos ∧ v = .int .i64 n ∧ 0 ≤ n ∧ n ≤ 4503599627370496 ∧ Hid (allB (digN 16) (s.data.toList.take pos) = true) ∧ Hid (n = numL 16 (s.data.toList.take pos))) (fun _ wr => s.size - wr.iterPos w.heap.size)
  case atStart => exact ⟨0, 0, Nat.zero_le _, rfl, rfl, by decide, by decide, allB_nil _ _, rfl⟩
  case round =>
    obtain ⟨pos, n, hpos, rfl, rfl, hn0, hn1, ha, hn⟩ := hrel
    by_cases hp : pos < s.size
    · by_cases hasc : (s[pos]).toNat < 128
      · have hnx : ∀ ty, (Instr.next (.pointer (some ⟨w.heap.size, 0, none⟩)) true ty).run Tryz.prog (w.iter s pos) = _ := fun ty => run_next_ascii w s pos ty hp hasc
        have hbd := digV_bd (s[pos].toNat : Int)
        by_cases hg : 0 ≤ digV (s[pos].toNat : Int) ∧ digV (s[pos].toNat : Int) < 16
        · have e2 := allB_step hp ha.out (digN_yes (b := 16) hg.1 hg.2)
          have e3 := numL_step hp hn.out
          have e4 := num_bound16 (by omega) (by omega) e2
          rw [← e3] at e4
          have H2 : Hid (allB (digN 16) (s.data.toList.take (pos + 1)) = true) := e2
          have H3 : Hid (n * 16 + digV (s[pos].toNat : Int) = numL 16 (s.data.toList.take (pos + 1))) := e3
          have H4 : Hid (0 ≤ n * 16 + digV (s[pos].toNat : Int) ∧ n * 16 + digV (s[pos].toNat : Int) ≤ 4503599627370496) := e4
          clear e2 e3 e4
          obtain ⟨hb1, hb2⟩ := hbd
          obtain ⟨hg1, hg2⟩ := hg
          go_wp2_with (go_at_call 134; refine (implDigV _ _).mono ?_; rintro e w' ⟨rfl, rfl⟩)
          go_roundw
          case rel => exact ⟨pos + 1, _, by omega, rfl, rfl, H4.out.1, H4.out.2, H2, H3⟩
          case measure => simp; omega
        · have hf := numE_no (numOk_in (b := 16) h1 h2 (allB_not hp (digN_no hg)))
          have HF : Hid (_ = Ending.returned (numE 16 13 s)) := hf
          clear hf
          rcases (show digV (s[pos].toNat : Int) < 0 ∨ (0 ≤ digV (s[pos].toNat : Int) ∧ 16 ≤ digV (s[pos].toNat : Int)) from by omega) with g | ⟨g, g'⟩
          all_goals
            clear hg
            go_wp2_with (go_at_call 134; refine (implDigV _ _).mono ?_; rintro e w' ⟨rfl, rfl⟩)
            go_ret2
            exact ⟨HF.out, below_iter _ _ _⟩
      · have hnx : ∀ ty, (Instr.next (.pointer (some ⟨w.heap.size, 0, none⟩)) true ty).run Tryz.prog (w.iter s pos) = _ := fun ty => run_next_any w s pos ty hp
        have hd := (decode_high s pos hp (by omega)).1
        have hz : digV (s[pos].toNat : Int) = -1 := digV_high (by omega)
        have hf := numE_no (numOk_in (b := 16) h1 h2 (allB_not hp (digN_no (by omega))))
        have HF : Hid (_ = Ending.returned (numE 16 13 s)) := hf
        clear hf hz
        generalize (Utf8.decode s pos).1 = r at hnx hd
        generalize (Utf8.decode s pos).2 = p2 at hnx
        have ht : digV (r : Int) = -1 := digV_high (by omega)
        go_wp2_with (go_at_call 134; refine (implDigV _ _).mono ?_; rintro e w' ⟨rfl, rfl⟩)
        go_ret2
        exact ⟨HF.out, below_iter _ _ _⟩
    · have hnx : ∀ ty, (Instr.next (.pointer (some ⟨w.heap.size, 0, none⟩)) true ty).run Tryz.prog (w.iter s pos) = _ := fun ty => run_next_end w s pos ty hp
      have hf := numE_yes (numOk_in (b := 16) h1 h2 (allB_end hp ha.out)) (hn.out.trans (by rw [take_all s pos hp]))
      have HF : Hid (_ = Ending.returned (numE 16 13 s)) := hf
      clear hf
      go_wp2
      go_ret2
      exact ⟨HF.out, below_iter _ _ _⟩

theorem implNum16 (s : ByteArray) (w : World) (hs : s.size ≤ maxLen) :
    Calls Tryz.prog 110 #[.string s, .int .i64 16, .int .i64 13] w fun e w' => e = .returned (numE 16 13 s) ∧ Below w.heap.size w w' := by
  by_cases h : s.size < 1 ∨ 13 < s.size
  · exact implNum16_out s w hs h
  · exact implNum16_in s w (by omega) (by omega)

theorem implDig (s : ByteArray) (w : World) (hs : s.size ≤ maxLen) :
    Calls Tryz.prog 67 #[.string s] w fun e w' => e = .returned (numE 10 15 s) ∧ Below w.heap.size w w' := by
  unfold numE
  go_enter Tryz.func67, Tryz.ntmps67
  go_wp2_with (go_at_call 110; refine (implNum10 _ _ hs).mono ?_; unfold numE; rintro e w' ⟨rfl, hb⟩)
  go_ret2
  exact ⟨rfl, hb⟩
theorem implHexD (s : ByteArray) (w : World) (hs : s.size ≤ maxLen) :
    Calls Tryz.prog 196 #[.string s] w fun e w' => e = .returned (numE 16 13 s) ∧ Below w.heap.size w w' := by
  unfold numE
  go_enter Tryz.func196, Tryz.ntmps196
  go_wp2_with (go_at_call 110; refine (implNum16 _ _ hs).mono ?_; unfold numE; rintro e w' ⟨rfl, hb⟩)
  go_ret2
  exact ⟨rfl, hb⟩
end Go.Proofs.YteibacmohplblaaGreatDoor
namespace Go.Proofs.YteibacmohplblaaGreatDoor
open Go.RowKit
set_option linter.unusedVariables false

theorem capN_yes {r : Int} (h : 65 ≤ r ∧ r ≤ 90) : capN r = true := decide_eq_true h
theorem capN_no {r : Int} (h : ¬ (65 ≤ r ∧ r ≤ 90)) : capN r = false := decide_eq_false h
theorem tarN_yes {r : Int} (h : 33 ≤ r ∧ r ≤ 126) : tarN r = true := decide_eq_true h
theorem tarN_no {r : Int} (h : ¬ (33 ≤ r ∧ r ≤ 126)) : tarN r = false := decide_eq_false h
theorem metB_no {s : ByteArray} (h : false = allB capN s.data.toList) : false = metB s := by unfold metB; rw [← h]; rfl
theorem metB_yes {s : ByteArray} (h : true = allB capN s.data.toList) : tokB s = metB s := by unfold metB; rw [← h]; rfl
theorem tarB_out {s : ByteArray} (h : s.size < 1 ∨ 200 < s.size) : false = tarB s := by
  unfold tarB; rw [decide_eq_false (by omega)]; rfl
theorem tarB_in {s : ByteArray} {b : Bool} (h1 : 1 ≤ s.size) (h2 : s.size ≤ 200) (h : b = allB tarN s.data.toList) : b = tarB s := by
  unfold tarB; rw [decide_eq_true ⟨h1, h2⟩, ← h]; rfl

set_option maxHeartbeats 400000 in
theorem specMet (s : ByteArray) (w : World) (hs : s.size ≤ maxLen) :
    Calls Tryz.prog 42 #[.string s] w fun e w' => e = .returned (.bool (metB s)) ∧ Below w.heap.size w w' := by
  have hm := hs
  unfold maxLen at hs
  go_enter Tryz.func42, Tryz.ntmps42
  go_wp2
  go_loop [3] (fun i => ∃ k : Nat, k ≤ s.size ∧ i = .int .i64 k ∧ Hid (allB capN (s.data.toList.take k) = true)) (fun i => s.size - (intOf i).toNat)
  case atStart => exact ⟨0, Nat.zero_le _, rfl, allB_nil _ _⟩
  case round =>
    obtain ⟨k, hk, rfl, ha⟩ := hrel
    by_cases hlt : k < s.size
    · by_cases hl : (s[k].toNat : Int) < 65
      · have HF : Hid (false = metB s) := metB_no (allB_not hlt (capN_no (by omega)))
        go_wp2
        go_ret
        exact ⟨ret_bool HF.out, Below.refl _ _⟩
      · by_cases hg : 90 < (s[k].toNat : Int)
        · have HF : Hid (false = metB s) := metB_no (allB_not hlt (capN_no (by omega)))
          go_wp2
          go_ret
          exact ⟨ret_bool HF.out, Below.refl _ _⟩
        · have HV : Hid (allB capN (s.data.toList.take (k + 1)) = true) := allB_step hlt ha.out (capN_yes (by omega))
          go_wp2
          go_round
          case rel => exact ⟨k + 1, by omega, by go_num, HV⟩
          case measure => simp [intOf]; omega
    · have HT : Hid (tokB s = metB s) := metB_yes (allB_end hlt ha.out)
      go_wp2_with (go_at_call 83; refine (specTok s _ hm).mono ?_; rintro e w1 ⟨rfl, hb1⟩)
      go_ret
      exact ⟨ret_bool HT.out, hb1⟩

set_option maxHeartbeats 400000 in
theorem specTar (s : ByteArray) (w : World) (hs : s.size ≤ maxLen) :
    Calls Tryz.prog 43 #[.string s] w fun e w' => e = .returned (.bool (tarB s)) ∧ Below w.heap.size w w' := by
  unfold maxLen at hs
  by_cases h1 : s.size < 1
  · have HF : Hid (false = tarB s) := tarB_out (.inl h1)
    have d1 : decide ((s.size : Int) < 1) = true := by simp; omega
    go_enter Tryz.func43, Tryz.ntmps43
    go_wp2
    go_ret
    exact ⟨ret_bool HF.out, Below.refl _ _⟩
  · by_cases h2 : 200 < s.size
    · have HF : Hid (false = tarB s) := tarB_out (.inr h2)
      have d1 : decide ((s.size : Int) < 1) = false := by simp; omega
      have d2 : decide (200 < (s.size : Int)) = true := by simp; omega
      go_enter Tryz.func43, Tryz.ntmps43
      go_wp2
      go_ret
      exact ⟨ret_bool HF.out, Below.refl _ _⟩
    · have d1 : decide ((s.size : Int) < 1) = false := by simp; omega
      have d2 : decide (200 < (s.size : Int)) = false := by simp; omega
      go_enter Tryz.func43, Tryz.ntmps43
      go_wp2
      go_loop [3] (fun i => ∃ k : Nat, k ≤ s.size ∧ i = .int .i64 k ∧ Hid (allB tarN (s.data.toList.take k) = true)) (fun i => s.size - (intOf i).toNat)
      case atStart => exact ⟨0, Nat.zero_le _, rfl, allB_nil _ _⟩
      case round =>
        obtain ⟨k, hk, rfl, ha⟩ := hrel
        by_cases hlt : k < s.size
        · by_cases hl : (s[k].toNat : Int) < 33
          · have HF : Hid (false = tarB s) := tarB_in (by omega) (by omega) (allB_not hlt (tarN_no (by omega)))
            go_wp2
            go_ret
            exact ⟨ret_bool HF.out, Below.refl _ _⟩
          · by_cases hg : 126 < (s[k].toNat : Int)
            · have HF : Hid (false = tarB s) := tarB_in (by omega) (by omega) (allB_not hlt (tarN_no (by omega)))
              go_wp2
              go_ret
              exact ⟨ret_bool HF.out, Below.refl _ _⟩
            · have HV : Hid (allB tarN (s.data.toList.take (k + 1)) = true) := allB_step hlt ha.out (tarN_yes (by omega))
              go_wp2
              go_round
              case rel => exact ⟨k + 1, by omega, by go_num, HV⟩
              case measure => simp [intOf]; omega
        · have HT : Hid (true = tarB s) := tarB_in (by omega) (by omega) (allB_end hlt ha.out)
          go_wp2
          go_ret
          exact ⟨ret_bool HT.out, Below.refl _ _⟩

/-- What a walk is told of fields that came in. -/
def Solid (v : Value) : Prop := ∀ n c, v = .slice none n c → c = 0
def Fits (w : World) (v : Value) (l : List Fl) : Prop := Fls w v l ∧ szL l ≤ 1048576 ∧ l.length ≤ 1048576 ∧ Solid v
theorem Fits.kept {w w' : World} {v : Value} {l : List Fl} (h : Fits w v l) (hb : Below w.heap.size w w') : Fits w' v l := ⟨h.1.kept hb, h.2⟩
theorem past6 {w w1 w2 : World} (h : Below w.heap.size w w1) (hb : Below w1.heap.size w1 w2) : Below w.heap.size w w2 := h.trans (hb.mono h.size)

theorem specOwn (v : Value) (l : List Fl) (w : World) (h : Fits w v l) :
    Calls Tryz.prog 44 #[v] w fun e w' => e = .returned (.bool (ownB l)) ∧ Below w.heap.size w w' := by
  have hg1 := specGetN v l clS w h.1 h.2.1 h.2.2.1 (by decide)
  have hz := h.2.1
  have hl := h.2.2.1
  unfold getE at hg1
  obtain ⟨a, cap, rfl, hcap⟩ := h.1
  have HF : Hid (Fits w (.slice a l.length cap) l) := h
  clear h hcap
  have ho : Hid (ownB l = (fldsOk l && (!(getF l clS).2 && !(getF l teS).2))) := rfl
  obtain ⟨x, p, hx⟩ : ∃ x p, getF l clS = (x, p) := ⟨_, _, rfl⟩
  obtain ⟨y, q, hy⟩ : ∃ y q, getF l teS = (y, q) := ⟨_, _, rfl⟩
  have hg2 : ∀ w, Fits w (.slice a l.length cap) l → Calls Tryz.prog 70 #[.slice a l.length cap, .string teS] w fun e w' => e = .returned (.tuple #[.string y, .bool q]) ∧ Below w.heap.size w w' := fun w h => by
    have := specGetN _ l teS w h.1 h.2.1 h.2.2.1 (by decide)
    unfold getE at this
    rw [hy] at this
    exact this
  rw [hx] at hg1
  have HO : Hid (ownB l = (fldsOk l && (!p && !q))) := by have := ho.out; rw [hx, hy] at this; exact this
  clear hx hy ho
  have hg3 : Hid (∀ w, Fits w (.slice a l.length cap) l → Calls Tryz.prog 70 #[.slice a l.length cap, .string teS] w fun e w' => e = .returned (.tuple #[.string y, .bool q]) ∧ Below w.heap.size w w') := hg2
  clear hg2
  unfold clS at hg1
  unfold teS at hg3
  go_enter Tryz.func44, Tryz.ntmps44
  go_wp2_with fail
  refine hg1.mono ?_
  rintro e w1 ⟨rfl, hb1⟩
  have HF1 : Hid (Fits w1 (.slice a l.length cap) l) := HF.out.kept hb1
  clear hg1
  go_wp2_with fail
  refine (hg3.out _ HF1.out).mono ?_
  rintro e w2 ⟨rfl, hb2'⟩
  have hb2 := past6 hb1 hb2'
  have HF2 : Hid (Fits w2 (.slice a l.length cap) l) := HF1.out.kept hb2'
  clear hb1 hb2' hg3
  go_wp2_with fail
  refine (specOk _ l _ HF2.out.1 hz).mono ?_
  rintro e w3 ⟨rfl, hb3'⟩
  have hb3 := past6 hb2 hb3'
  clear hb3' hb2
  cases ok : fldsOk l with
  | false =>
    rw [ok] at HO
    have H0 : Hid (false = ownB l) := by rw [HO.out]; rfl
    clear HO
    go_wp2
    go_ret
    exact ⟨ret_bool H0.out, hb3⟩
  | true =>
    rw [ok] at HO
    cases p with
    | true =>
      have H0 : Hid (false = ownB l) := by rw [HO.out]; rfl
      clear HO
      go_wp2
      go_ret
      exact ⟨ret_bool H0.out, hb3⟩
    | false =>
      cases q with
      | true =>
        have H0 : Hid (false = ownB l) := by rw [HO.out]; rfl
        clear HO
        go_wp2
        go_ret
        exact ⟨ret_bool H0.out, hb3⟩
      | false =>
        have H0 : Hid (true = ownB l) := by rw [HO.out]; rfl
        clear HO
        go_wp2
        go_ret
        exact ⟨ret_bool H0.out, hb3⟩
theorem specBare (s : Int) (w : World) :
    Calls Tryz.prog 77 #[.int .i64 s] w fun e w' => e = .returned (.bool (bareB s)) ∧ w = w' := by
  by_cases h1 : s = 204
  · subst h1
    have H0 : Hid (true = bareB 204) := rfl
    go_enter Tryz.func77, Tryz.ntmps77
    go_wp2
    go_ret
    exact ⟨ret_bool H0.out, rfl⟩
  · have d1 : (s == 204) = false := by simp [h1]
    by_cases h2 : s = 304
    · subst h2
      have H0 : Hid (true = bareB 304) := rfl
      go_enter Tryz.func77, Tryz.ntmps77
      go_wp2
      go_ret
      exact ⟨ret_bool H0.out, rfl⟩
    · have d2 : (s == 304) = false := by simp [h2]
      have H0 : Hid (false = bareB s) := by show false = bareB s; unfold bareB; simp [h1, h2]
      go_enter Tryz.func77, Tryz.ntmps77
      go_wp2
      go_ret
      exact ⟨ret_bool H0.out, rfl⟩
end Go.Proofs.YteibacmohplblaaGreatDoor
