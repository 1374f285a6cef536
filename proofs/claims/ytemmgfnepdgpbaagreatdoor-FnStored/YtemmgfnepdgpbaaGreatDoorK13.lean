/-
  The contracts of Digits and HexDigits, the specification's and the program's, and of what they call: both read the same number.
  The program's reader of a store: a row, its numbers, a piece.
  The program's numbers of a row, by their contract.
  Calls that lay new blocks and draw, and turn nothing that lay before.
-/
import Derived.Test.YtemmgfnepdgpbaaGreatDoorRows
import Derived.Test.YtemmgfnepdgpbaaGreatDoorK08
import Derived.WalkKit
import Derived.WalkSpells
import Derived.Test.YtemmgfnepdgpbaaGreatDoorK12
import Derived.Test.YtemmgfnepdgpbaaGreatDoorShelfH
import Derived.Laws.OwnMore
import Derived.WalkLawsBesides
import Derived.Below
import Derived.Laws.IdiomStrings
import Derived.Shelf.SlSortCmp.QuietGrown
namespace Go.Proofs.YtemmgfnepdgpbaaGreatDoor
open Go.RowKit

theorem ret_int {k : IntKind} {a b : Int} (h : a = b) : Ending.returned (.int k a) = .returned (.int k b) := by rw [h]

theorem implDigV_d (r : Int) (w : World) (h : 48 ≤ r ∧ r ≤ 57) :
    Calls Tryz.prog 156 #[.int .i32 r] w fun e w' => e = .returned (.int .i64 (digV r)) ∧ w' = w := by
  have hd := (digV_d h).symm
  have HD : Hid (_ = digV r) := hd
  clear hd
  obtain ⟨h1, h2⟩ := h
  go_enter Tryz.func156, Tryz.ntmps156
  go_wp2
  go_ret
  exact ⟨ret_int HD.out, rfl⟩
theorem implDigV_a (r : Int) (w : World) (h : 97 ≤ r ∧ r ≤ 102) :
    Calls Tryz.prog 156 #[.int .i32 r] w fun e w' => e = .returned (.int .i64 (digV r)) ∧ w' = w := by
  have hd := (digV_a h).symm
  have HD : Hid (_ = digV r) := hd
  clear hd
  obtain ⟨h1, h2⟩ := h
  go_enter Tryz.func156, Tryz.ntmps156
  go_wp2
  go_ret
  exact ⟨ret_int HD.out, rfl⟩
theorem implDigV_A (r : Int) (w : World) (h : 65 ≤ r ∧ r ≤ 70) :
    Calls Tryz.prog 156 #[.int .i32 r] w fun e w' => e = .returned (.int .i64 (digV r)) ∧ w' = w := by
  have hd := (digV_A h).symm
  have HD : Hid (_ = digV r) := hd
  clear hd
  obtain ⟨h1, h2⟩ := h
  go_enter Tryz.func156, Tryz.ntmps156
  go_wp2
  go_ret
  exact ⟨ret_int HD.out, rfl⟩
theorem implDigV_no (r : Int) (w : World) (h : ¬ (48 ≤ r ∧ r ≤ 57)) (h' : ¬ (97 ≤ r ∧ r ≤ 102)) (h'' : ¬ (65 ≤ r ∧ r ≤ 70)) :
    Calls Tryz.prog 156 #[.int .i32 r] w fun e w' => e = .returned (.int .i64 (digV r)) ∧ w' = w := by
  have hd := digV_no h h' h''
  have HD : Hid (digV r = -1) := hd
  clear hd
  rcases (show r < 48 ∨ (57 < r ∧ r < 65) ∨ (70 < r ∧ r < 97) ∨ 102 < r from by omega) with g | ⟨g, g'⟩ | ⟨g, g'⟩ | g
  all_goals
    clear h h' h''
    go_enter Tryz.func156, Tryz.ntmps156
    go_wp2
    go_ret
    exact ⟨ret_int HD.out.symm, rfl⟩
theorem implDigV (r : Int) (w : World) :
    Calls Tryz.prog 156 #[.int .i32 r] w fun e w' => e = .returned (.int .i64 (digV r)) ∧ w' = w := by
  by_cases h : 48 ≤ r ∧ r ≤ 57
  · exact implDigV_d r w h
  by_cases h' : 97 ≤ r ∧ r ≤ 102
  · exact implDigV_a r w h'
  by_cases h'' : 65 ≤ r ∧ r ≤ 70
  · exact implDigV_A r w h''
  · exact implDigV_no r w h h' h''

theorem specDig_out (s : ByteArray) (w : World) (hs : s.size ≤ maxLen) (h : s.size < 1 ∨ 15 < s.size) :
    Calls Tryz.prog 79 #[.string s] w fun e w' => e = .returned (numE 10 15 s) ∧ Below w.heap.size w w' := by
  unfold maxLen at hs
  have ht := numE_no (numOk_out (b := 10) h)
  have HT : Hid (_ = Ending.returned (numE 10 15 s)) := ht
  clear ht
  rcases h with h | h
  · go_enter Tryz.func79, Tryz.ntmps79
    go_wp2
    go_ret2
    exact ⟨HT.out, Below.refl _ _⟩
  · have h' : ¬ s.size < 1 := by omega
    go_enter Tryz.func79, Tryz.ntmps79
    go_wp2
    go_ret2
    exact ⟨HT.out, Below.refl _ _⟩

set_option maxHeartbeats 400000 in
theorem specDig_in (s : ByteArray) (w : World) (h1 : 1 ≤ s.size) (h2 : s.size ≤ 15) :
    Calls Tryz.prog 79 #[.string s] w fun e w' => e = .returned (numE 10 15 s) ∧ Below w.heap.size w w' := by
  have d1 : decide ((s.size : Int) < 1) = false := by simp; omega
  have d2 : decide (15 < (s.size : Int)) = false := by simp; omega
  go_enter Tryz.func79, Tryz.ntmps79
  go_wp2
  go_loop [4, 5] (fun v i => ∃ (k : Nat) (n : Int), k ≤ s.size ∧ i = .int .i64 k ∧ v = .int .i64 n ∧ 0 ≤ n ∧ n ≤ 1000000000000000 ∧ Hid (allB (digN 10) (s.data.toList.take k) = true) ∧ Hid (n = numL 10 (s.data.toList.take k))) (fun _ i => s.size - (intOf i).toNat)
  case atStart => exact ⟨0, 0, Nat.zero_le _, rfl, rfl, by decide, by decide, allB_nil _ _, rfl⟩
  case round =>
    obtain ⟨k, n, hk, rfl, rfl, hn0, hn1, ha, hn⟩ := hrel
    by_cases hlt : k < s.size
    · by_cases hg : 48 ≤ (s[k].toNat : Int) ∧ (s[k].toNat : Int) ≤ 57
      · have e1 := digV_d hg
        have e2 := allB_step hlt ha.out (digN_yes (b := 10) (digV_ten.2 hg).1 (digV_ten.2 hg).2)
        have e3 := numL_step hlt hn.out
        rw [e1] at e3
        have e4 := num_bound10 (by omega) (by omega) e2
        rw [← e3] at e4
        have H2 : Hid (allB (digN 10) (s.data.toList.take (k + 1)) = true) := e2
        have H3 : Hid (n * 10 + ((s[k].toNat : Int) - 48) = numL 10 (s.data.toList.take (k + 1))) := e3
        have H4 : Hid (0 ≤ n * 10 + ((s[k].toNat : Int) - 48) ∧ n * 10 + ((s[k].toNat : Int) - 48) ≤ 1000000000000000) := e4
        clear e1 e2 e3 e4
        obtain ⟨hg1, hg2⟩ := hg
        go_wp2
        go_round
        case rel => exact ⟨k + 1, _, by omega, by go_num, rfl, H4.out.1, H4.out.2, H2, H3⟩
        case measure => simp [intOf]; omega
      · have hf := numE_no (numOk_in (b := 10) h1 h2 (allB_not hlt (digN_no (fun x => hg (digV_ten.1 x)))))
        have HF : Hid (_ = Ending.returned (numE 10 15 s)) := hf
        clear hf
        rcases (show (s[k].toNat : Int) < 48 ∨ 57 < (s[k].toNat : Int) from by omega) with g | g
        all_goals
          go_wp2
          go_ret2
          exact ⟨HF.out, Below.refl _ _⟩
    · have hf := numE_yes (numOk_in (b := 10) h1 h2 (allB_end hlt ha.out)) (hn.out.trans (by rw [take_all s k hlt]))
      have HF : Hid (_ = Ending.returned (numE 10 15 s)) := hf
      clear hf
      go_wp2
      go_ret2
      exact ⟨HF.out, Below.refl _ _⟩

theorem specDig (s : ByteArray) (w : World) (hs : s.size ≤ maxLen) :
    Calls Tryz.prog 79 #[.string s] w fun e w' => e = .returned (numE 10 15 s) ∧ Below w.heap.size w w' := by
  by_cases h : s.size < 1 ∨ 15 < s.size
  · exact specDig_out s w hs h
  · exact specDig_in s w (by omega) (by omega)

theorem implNum10_out (s : ByteArray) (w : World) (hs : s.size ≤ maxLen) (h : s.size < 1 ∨ 15 < s.size) :
    Calls Tryz.prog 133 #[.string s, .int .i64 10, .int .i64 15] w fun e w' => e = .returned (numE 10 15 s) ∧ Below w.heap.size w w' := by
  unfold maxLen at hs
  have ht := numE_no (numOk_out (b := 10) h)
  have HT : Hid (_ = Ending.returned (numE 10 15 s)) := ht
  clear ht
  rcases h with h | h
  · go_enter Tryz.func133, Tryz.ntmps133
    go_wp2
    go_ret2
    exact ⟨HT.out, Below.refl _ _⟩
  · have h' : ¬ s.size < 1 := by omega
    go_enter Tryz.func133, Tryz.ntmps133
    go_wp2
    go_ret2
    exact ⟨HT.out, Below.refl _ _⟩

set_option maxHeartbeats 400000 in
theorem implNum10_in (s : ByteArray) (w : World) (h1 : 1 ≤ s.size) (h2 : s.size ≤ 15) :
    Calls Tryz.prog 133 #[.string s, .int .i64 10, .int .i64 15] w fun e w' => e = .returned (numE 10 15 s) ∧ Below w.heap.size w w' := by
  have d1 : decide ((s.size : Int) < 1) = false := by simp; omega
  have d2 : decide (15 < (s.size : Int)) = false := by simp; omega
  go_enter Tryz.func133, Tryz.ntmps133
  go_wp2
  go_loopw [8] (fun v wr => ∃ (pos : Nat) (n : Int), pos ≤ s.size ∧ wr = w.iter s pos ∧ v = .int .i64 n ∧ 0 ≤ n ∧ n ≤ 1000000000000000 ∧ Hid (allB (digN 10) (s.data.toList.take pos) = true) ∧ Hid (n = numL 10 (s.data.toList.take pos))) (fun _ wr => s.size - wr.iterPos w.heap.size)
  case atStart => exact ⟨0, 0, Nat.zero_le _, rfl, rfl, by decide, by decide, allB_nil _ _, rfl⟩
  case round =>
    obtain ⟨pos, n, hpos, rfl, rfl, hn0, hn1, ha, hn⟩ := hrel
    by_cases hp : pos < s.size
    · by_cases hasc : (s[pos]).toNat < 128
      · have hnx : ∀ ty, (Instr.next (.pointer (some ⟨w.heap.size, 0, none⟩)) true ty).run Tryz.prog (w.iter s pos) = _ := fun ty => run_next_ascii w s pos ty hp hasc
        have hbd := digV_bd (s[pos].toNat : Int)
        by_cases hg : 0 ≤ digV (s[pos].toNat : Int) ∧ digV (s[pos].toNat : Int) < 10
        · have e2 := allB_step hp ha.out (digN_yes (b := 10) hg.1 hg.2)
          have e3 := numL_step hp hn.out
          have e4 := num_bound10 (by omega) (by omega) e2
          rw [← e3] at e4
          have H2 : Hid (allB (digN 10) (s.data.toList.take (pos + 1)) = true) := e2
          have H3 : Hid (n * 10 + digV (s[pos].toNat : Int) = numL 10 (s.data.toList.take (pos + 1))) := e3
          have H4 : Hid (0 ≤ n * 10 + digV (s[pos].toNat : Int) ∧ n * 10 + digV (s[pos].toNat : Int) ≤ 1000000000000000) := e4
          clear e2 e3 e4
          obtain ⟨hb1, hb2⟩ := hbd
          obtain ⟨hg1, hg2⟩ := hg
          go_wp2_with (go_at_call 156; refine (implDigV _ _).mono ?_; rintro e w' ⟨rfl, rfl⟩)
          go_roundw
          case rel => exact ⟨pos + 1, _, by omega, rfl, rfl, H4.out.1, H4.out.2, H2, H3⟩
          case measure => simp; omega
        · have hf := numE_no (numOk_in (b := 10) h1 h2 (allB_not hp (digN_no hg)))
          have HF : Hid (_ = Ending.returned (numE 10 15 s)) := hf
          clear hf
          rcases (show digV (s[pos].toNat : Int) < 0 ∨ (0 ≤ digV (s[pos].toNat : Int) ∧ 10 ≤ digV (s[pos].toNat : Int)) from by omega) with g | ⟨g, g'⟩
          all_goals
            clear hg
            go_wp2_with (go_at_call 156; refine (implDigV _ _).mono ?_; rintro e w' ⟨rfl, rfl⟩)
            go_ret2
            exact ⟨HF.out, below_iter _ _ _⟩
      · have hnx : ∀ ty, (Instr.next (.pointer (some ⟨w.heap.size, 0, none⟩)) true ty).run Tryz.prog (w.iter s pos) = _ := fun ty => run_next_any w s pos ty hp
        have hd := (decode_high s pos hp (by omega)).1
        have hz : digV (s[pos].toNat : Int) = -1 := digV_high (by omega)
        have hf := numE_no (numOk_in (b := 10) h1 h2 (allB_not hp (digN_no (by omega))))
        have HF : Hid (_ = Ending.returned (numE 10 15 s)) := hf
        clear hf hz
        generalize (Utf8.decode s pos).1 = r at hnx hd
        generalize (Utf8.decode s pos).2 = p2 at hnx
        have ht : digV (r : Int) = -1 := digV_high (by omega)
        go_wp2_with (go_at_call 156; refine (implDigV _ _).mono ?_; rintro e w' ⟨rfl, rfl⟩)
        go_ret2
        exact ⟨HF.out, below_iter _ _ _⟩
    · have hnx : ∀ ty, (Instr.next (.pointer (some ⟨w.heap.size, 0, none⟩)) true ty).run Tryz.prog (w.iter s pos) = _ := fun ty => run_next_end w s pos ty hp
      have hf := numE_yes (numOk_in (b := 10) h1 h2 (allB_end hp ha.out)) (hn.out.trans (by rw [take_all s pos hp]))
      have HF : Hid (_ = Ending.returned (numE 10 15 s)) := hf
      clear hf
      go_wp2
      go_ret2
      exact ⟨HF.out, below_iter _ _ _⟩

theorem implNum10 (s : ByteArray) (w : World) (hs : s.size ≤ maxLen) :
    Calls Tryz.prog 133 #[.string s, .int .i64 10, .int .i64 15] w fun e w' => e = .returned (numE 10 15 s) ∧ Below w.heap.size w w' := by
  by_cases h : s.size < 1 ∨ 15 < s.size
  · exact implNum10_out s w hs h
  · exact implNum10_in s w (by omega) (by omega)

theorem implDig (s : ByteArray) (w : World) (hs : s.size ≤ maxLen) :
    Calls Tryz.prog 101 #[.string s] w fun e w' => e = .returned (numE 10 15 s) ∧ Below w.heap.size w w' := by
  unfold numE
  go_enter Tryz.func101, Tryz.ntmps101
  go_wp2_with (go_at_call 133; refine (implNum10 _ _ hs).mono ?_; unfold numE; rintro e w' ⟨rfl, hb⟩)
  go_ret2
  exact ⟨rfl, hb⟩
end Go.Proofs.YtemmgfnepdgpbaaGreatDoor
namespace Go.Proofs.YtemmgfnepdgpbaaGreatDoor
open Go.RowKit Go.Sort St
set_option linter.unusedVariables false
set_option linter.unusedSimpArgs false

theorem cloneS (s : ByteArray) (w : World) (hs : s.size ≤ 1048576) :
    Calls Tryz.prog 99 #[.string s] w fun e w' => e = .returned (.string s) ∧ Below w.heap.size w w' := by
  go_enter Tryz.func99, Tryz.ntmps99
  go_wp2_with (go_at_call 131; refine (Tryz.stringslite_Clone s _ (by omega)).mono ?_; rintro e w1 ⟨rfl, hb1⟩)
  go_ret
  exact ⟨rfl, hb1⟩
theorem txt_len (l : List UInt8) : (txtL l).size = l.length := by show l.toArray.size = l.length; simp
theorem implNewS (t : ByteArray) (w : World) :
    Calls Tryz.prog 34 #[.string t] w fun e w' => e = .returned (.pointer (some ⟨w.heap.size, 0, none⟩)) ∧ w' = w.alloc (.cells #[.string t, .int .i64 0] 89) := by
  go_enter Tryz.func34, Tryz.ntmps34
  go_wp2
  go_ret
  exact ⟨rfl, rfl⟩
set_option maxHeartbeats 1000000 in
theorem implRowS (b : Nat) (t : ByteArray) (k : Nat) (m : Int) (w : World) (h : Sdr w b t k) (hk : k ≤ t.size) (ht : t.size ≤ 1048576) (hm : w.cell? ⟨3, 0, none⟩ = some (.int .i64 m)) :
    Calls Tryz.prog 69 #[.pointer (some ⟨b, 0, none⟩)] w fun e w' => e = .returned (.string (txtL (rowX (t.data.toList.drop k)).1)) ∧ Sdr w' b t (t.size - (rowX (t.data.toList.drop k)).2.length) ∧ w.grownBy w' (some b) := by
  have hr := implRestS b t k w h hk ht
  have hz := rest_sizeS t hk
  have hd := drop_textS t k
  have hcut := fun W hW => Tryz.strings_Cut (t.extract k t.size) ⟨#[10]⟩ m W (by omega) hW
  rw [show (⟨#[10]⟩ : ByteArray).data.toList = [10] from rfl, hd, (cut_row _).1, (cut_row _).2] at hcut
  have hl := rowX_len (t.data.toList.drop k)
  rw [rest_lenS] at hl
  generalize (Lib.cut (t.data.toList.drop k) [10]).2.2 = q at hcut
  generalize rowX (t.data.toList.drop k) = p at hcut hl ⊢
  obtain ⟨x, r⟩ := p
  simp only at hcut hl ⊢
  have hcut' : Hid (∀ (W : World), W.cell? ⟨3, 0, none⟩ = some (.int .i64 m) → Calls Tryz.prog 97 #[.string (t.extract k t.size), .string ⟨#[10]⟩] W fun e w' => e = .returned (.tuple #[.string (txtL x), .string (txtL r), .bool q]) ∧ ∃ n, w' = W.drewN n) := hcut
  clear hcut
  have RD : Hid (Sdr w b t k) := h
  have hxs := txt_len x
  have hrs := txt_len r
  rw [← hrs]
  generalize txtL x = X at hcut' hxs ⊢
  generalize txtL r = R at hcut' hrs ⊢
  generalize t.extract k t.size = s at hr hcut'
  have hX : X.size ≤ 1048576 := by omega
  have hR : R.size ≤ t.size := by omega
  clear h hd hz hxs hrs hl
  go_enter Tryz.func69, Tryz.ntmps69
  go_wp2_with fail
  refine hr.mono ?_
  rintro e w1 ⟨rfl, hb1⟩
  have m1 := (hb1.cell (p := ⟨3, 0, none⟩) (cell_ltS hm)).trans hm
  have R1 : Hid (Sdr w1 b t k) := RD.out.kept hb1
  go_wp2_with fail
  refine (hcut'.out w1 m1).mono ?_
  rintro e w2 ⟨rfl, n, hw2⟩
  have hb2 : Below w.heap.size w w2 := by rw [hw2]; exact past6S hb1 (drewN_belowS w1 n)
  have R2 : Hid (Sdr w2 b t k) := by rw [hw2]; exact R1.out.kept (drewN_belowS w1 n)
  clear hw2 hb1 m1 R1 RD hcut'
  have c0 := R2.out.c0
  have c1 := R2.out.c1
  have fz := R2.out.fz 1
  have H1 : Hid (Sdr (w2.setCell ⟨b, 1, none⟩ (.int .i64 ((t.size : Int) - (R.size : Int)))) b t (t.size - R.size)) := by
    have := R2.out.put (t.size - R.size)
    rw [show ((t.size - R.size : Nat) : Int) = (t.size : Int) - (R.size : Int) from by omega] at this
    exact this
  have H2 : Hid (w.grownBy (w2.setCell ⟨b, 1, none⟩ (.int .i64 ((t.size : Int) - (R.size : Int)))) (some b)) := grown_putS (grown_belowS (grown_selfS w (some b)) hb2) _ _
  clear R2 hb2
  go_wp2_with fail
  refine (cloneS X _ hX).mono ?_
  rintro e w4 ⟨rfl, hb4⟩
  go_wp2
  go_ret
  exact ⟨rfl, H1.out.kept hb4, grown_belowS H2.out hb4⟩

theorem genSplN (c : Nat) (h1 : 1 ≤ c) (h4 : c ≤ 4) (s : ByteArray) (w : World) (hs : s.size ≤ 1048576) :
    Calls Tryz.prog 132 #[.string s, .string ⟨#[32]⟩, .int .i64 0, .int .i64 c] w fun e w' =>
      e = .returned (.slice (some ⟨w.heap.size, 0, none⟩) (splN c s).length (min c (s.size + 1))) ∧ w' = w.alloc (.cells (Lib.cellsOf (splN c s) (min c (s.size + 1))) 9) := by
  exact Any.strings_genSplit_core Tryz.lays221 (by kernel_rfl) s ⟨#[32]⟩ 0 c (min c (s.size + 1)) w (by omega) (Nat.le_refl 1) (Nat.zero_le _)
    (fun x C hx => (Tryz.strings_Index_one x 32 _).mono fun e w' ⟨he, hw⟩ => ⟨by rw [he]; show _ = Ending.returned (.int .i64 (Lib.index x.data.toList [32])); rw [index_byteS], hw⟩)
    ((Tryz.strings_Count_one s 32 w).mono fun e w' ⟨he, hw⟩ => ⟨by rw [he]; show _ = Ending.returned (Value.int .i64 ((Lib.count s.data.toList [32] : Nat) : Int)); rw [Lib.count_one]; rfl, hw⟩)
    (by omega) (by omega) (by rw [if_neg (by omega)]; omega)
set_option maxHeartbeats 1000000 in
theorem splitN (c : Nat) (h1 : 1 ≤ c) (h4 : c ≤ 4) (s : ByteArray) (w : World) (hs : s.size ≤ 1048576) :
    Calls Tryz.prog 100 #[.string s, .string ⟨#[32]⟩, .int .i64 c] w fun e w' =>
      e = .returned (.slice (some ⟨w.heap.size, 0, none⟩) (splN c s).length (min c (s.size + 1))) ∧ w' = w.alloc (.cells (Lib.cellsOf (splN c s) (min c (s.size + 1))) 9) := by
  have k := genSplN c h1 h4 s w hs
  generalize (splN c s).length = n at k
  generalize Lib.cellsOf (splN c s) (min c (s.size + 1)) = C at k
  generalize min c (s.size + 1) = N at k
  clear h1 h4 hs
  go_enter Tryz.func100, Tryz.ntmps100
  go_wp2_with (go_at_call 132; refine k.mono ?_; rintro e w' ⟨rfl, hw⟩; rw [hw])
  go_ret
  exact ⟨rfl, rfl⟩

set_option maxHeartbeats 1000000 in
theorem implPcS_no (b : Nat) (t : ByteArray) (k n : Nat) (w : World) (h : Sdr w b t k) (hk : k ≤ t.size) (ht : t.size ≤ 1048576) (hn : ¬ n ≤ t.size - k) :
    Calls Tryz.prog 72 #[.pointer (some ⟨b, 0, none⟩), .int .i64 n] w fun e w' => e = .returned (.string ⟨#[]⟩) ∧ Below w.heap.size w w' := by
  have hr := implTake_noS b t k n w h hk ht hn
  clear h hn
  go_enter Tryz.func72, Tryz.ntmps72
  go_wp2_with fail
  refine hr.mono ?_
  rintro e w1 ⟨rfl, hb1⟩
  go_wp2_with fail
  refine (cloneS ⟨#[]⟩ _ (by decide)).mono ?_
  rintro e w2 ⟨rfl, hb2⟩
  go_wp2
  go_ret
  exact ⟨rfl, past6S hb1 hb2⟩
set_option maxHeartbeats 1000000 in
theorem implPcS_yes (b : Nat) (t : ByteArray) (k n : Nat) (w : World) (h : Sdr w b t k) (hk : k ≤ t.size) (ht : t.size ≤ 1048576) (hn : n ≤ t.size - k) :
    Calls Tryz.prog 72 #[.pointer (some ⟨b, 0, none⟩), .int .i64 n] w fun e w' => e = .returned (.string (txtL ((t.data.toList.drop k).take n))) ∧ Sdr w' b t (k + n) ∧ w.grownBy w' (some b) := by
  have hr := implTake_yesS b t k n w h hk ht hn
  have hs : (txtL ((t.data.toList.drop k).take n)).size ≤ 1048576 := by
    rw [txt_len, List.length_take, rest_lenS]
    omega
  generalize txtL ((t.data.toList.drop k).take n) = X at hr hs ⊢
  clear h hn
  go_enter Tryz.func72, Tryz.ntmps72
  go_wp2_with fail
  refine hr.mono ?_
  rintro e w1 ⟨rfl, h1, hg1⟩
  go_wp2_with fail
  refine (cloneS X _ hs).mono ?_
  rintro e w2 ⟨rfl, hb2⟩
  go_wp2
  go_ret
  exact ⟨rfl, h1.kept hb2, grown_belowS hg1 hb2⟩
end Go.Proofs.YtemmgfnepdgpbaaGreatDoor
namespace Go.Proofs.YtemmgfnepdgpbaaGreatDoor
open Go.RowKit Go.Sort St
set_option linter.unusedVariables false
set_option linter.unusedSimpArgs false

theorem ownsNu_put {w : World} {B g n cap : Nat} {l : List Int} (hn : n = l.length) (h : OwnsNu w B (.slice (some ⟨g, 0, Option.none⟩) n cap) l) {j : Nat} (hj : j < l.length) (x : Int) : OwnsNu (w.setCell ⟨g, j, Option.none⟩ (.int .i64 x)) B (.slice (some ⟨g, 0, Option.none⟩) n cap) (l.set j x) := by
  have := h.put hn hj (i := 0) (by decide) (.int .i64 x) x rfl
  rw [show j * nuE.k + 0 = j from by show j * 1 + 0 = j; omega] at this
  exact this
theorem cellsNu_at (l : List Int) (j : Nat) (hj : j < l.length) : (cellsE nuE l)[j]? = some (.int .i64 l[j]) := by
  have := cellsE_at nuE l j hj 0 (by decide)
  rw [show j * nuE.k + 0 = j from by show j * 1 + 0 = j; omega] at this
  exact this
theorem madeNu (n : Nat) : (madeCells (Value.cells (.int .i64 0)) (n * 1)).toList = cellsE nuE (List.replicate n 0) := by
  rw [Nat.mul_one]
  apply List.ext_getElem?
  intro j
  by_cases hj : j < n
  · have e : (madeCells (Value.cells (.int .i64 0)) n).toList[j]? = some (.int .i64 0) := by simp [madeCells, hj, Value.cells, Nat.mod_one]
    rw [e, cellsNu_at (List.replicate n 0) j (by simpa using hj)]
    simp
  · rw [List.getElem?_eq_none (by simp [madeCells]; omega), List.getElem?_eq_none (by rw [cellsE_length]; simp; show n * 1 ≤ j; omega)]
theorem Sdr.grown {w w' : World} {b k : Nat} {t : ByteArray} {r : Option Nat} (h : Sdr w b t k) (hg : w.grownBy w' r) (hr : r ≠ some b) : Sdr w' b t k := by
  have e : w'.heap[b]? = w.heap[b]? := hg.block b h.hi (fun e => hr e.symm)
  have q : ∀ k, w'.cell? ⟨b, k, none⟩ = w.cell? ⟨b, k, none⟩ := fun k => World.cell?_of_block (a := ⟨b, k, none⟩) e
  exact ⟨(q 0).trans h.c0, (q 1).trans h.c1, fun j => (World.frozen?_of_block (a := ⟨b, j, none⟩) e).trans (h.fz j), Nat.lt_of_lt_of_le h.hi hg.size⟩
theorem splitK_size : ∀ (k : Nat) (l : List UInt8), ∀ x ∈ Lib.splitK [32] 0 k l, x.length ≤ l.length
  | 0, l, x, hx => by rw [Lib.splitK, List.mem_singleton] at hx; rw [hx]; exact Nat.le_refl _
  | k + 1, l, x, hx => by
    rw [Lib.splitK] at hx
    split at hx
    · rw [List.mem_singleton] at hx; rw [hx]; exact Nat.le_refl _
    · rcases List.mem_cons.1 hx with rfl | hx
      · simp; omega
      · have := splitK_size k _ x hx
        rw [List.length_drop] at this
        omega
theorem splN_size (c : Nat) (s x : ByteArray) (hx : x ∈ splN c s) : x.size ≤ s.size := by
  have h : x.data.toList ∈ (splN c s).map (·.data.toList) := List.mem_map_of_mem hx
  rw [splN_data] at h
  have := splitK_size _ _ _ h
  simpa using this
theorem splN_most (c : Nat) (s : ByteArray) (hc : 1 ≤ c) : (splN c s).length ≤ min c (s.size + 1) := by
  have := Lib.splitB_length_le ⟨#[32]⟩ 0 (min c (s.size + 1) - 1) s
  unfold splN
  omega
theorem spl_cell (C : List ByteArray) (N : Nat) (W : World) (hC : C.length ≤ N) (j : Nat) (hj : j < C.length) : (W.alloc (.cells (Lib.cellsOf C N) 9)).cell? ⟨W.heap.size, j, none⟩ = some (.string C[j]) := by
  rw [World.cell?_alloc_mark]
  unfold Lib.cellsOf
  rw [List.getElem?_toArray, List.getElem?_append_left (by simpa using hj), List.getElem?_map, List.getElem?_eq_getElem hj]
  rfl
set_option maxRecDepth 100000 in
set_option maxHeartbeats 4000000 in
theorem implNumsS (c : Nat) (h1 : 1 ≤ c) (h4 : c ≤ 4) (b : Nat) (t : ByteArray) (k : Nat) (m : Int) (w : World) (h : Sdr w b t k) (hk : k ≤ t.size) (ht : t.size ≤ 1048576) (hm : w.cell? ⟨3, 0, none⟩ = some (.int .i64 m)) (hmb : 3 ≠ b) :
    Calls Tryz.prog 70 #[.pointer (some ⟨b, 0, none⟩), .int .i64 c] w fun e w' => e = .returned (.slice (some ⟨w.heap.size, 0, none⟩) c c) ∧ OwnsNu w' w.heap.size (.slice (some ⟨w.heap.size, 0, none⟩) c c) (numsX c (txtL (rowX (t.data.toList.drop k)).1)) ∧ Sdr w' b t (t.size - (rowX (t.data.toList.drop k)).2.length) ∧ w.grownBy w' (some b) := by
  have hrow := fun W hW hM => implRowS b t k m W hW hk ht hM
  have hxs : (txtL (rowX (t.data.toList.drop k)).1).size ≤ 1048576 := by
    have := (rowX_len (t.data.toList.drop k)).1
    rw [rest_lenS] at this
    rw [txt_len]
    omega
  generalize txtL (rowX (t.data.toList.drop k)).1 = X at hrow hxs ⊢
  generalize t.size - (rowX (t.data.toList.drop k)).2.length = k2 at hrow ⊢
  have hrow' : Hid (∀ (W : World), Sdr W b t k → W.cell? ⟨3, 0, none⟩ = some (.int .i64 m) → Calls Tryz.prog 69 #[.pointer (some ⟨b, 0, none⟩)] W fun e w' => e = .returned (.string X) ∧ Sdr w' b t k2 ∧ W.grownBy w' (some b)) := hrow
  have hspl := fun W => splitN c h1 h4 X W hxs
  have hsl := splN_len c X h1
  have HSZ : Hid (∀ x ∈ splN c X, x.size ≤ 1048576) := (show ∀ _, _ from fun x hx => by have := splN_size c X x hx; omega)
  have HNX : Hid (numsX c X = (splN c X).map (numV 10 15) ++ List.replicate (c - (splN c X).length) 0) := (show _ = _ from rfl)
  have hmn : (splN c X).length ≤ min c (X.size + 1) := splN_most c X h1
  generalize numsX c X = ns at HNX ⊢
  generalize splN c X = C at hspl hsl HSZ HNX hmn
  obtain ⟨i0, hi, hz0, hz1, hz2⟩ := info_parts Tryz.infoNu2
  obtain ⟨w0, hrun, hown, hgr⟩ := run_make_full (P := Tryz.prog) w w.heap.size 64 2 i0 (.int .i64 0) 1 Tryz.underlying64 hi hz0 hz1 .i64 .i64 c (by rw [hz2]; omega) (by unfold maxLen; omega) (Nat.le_refl _)
  have hown0 : OwnsNu w0 w.heap.size (.slice (some ⟨w.heap.size, 0, Option.none⟩) c c) (tnS c C 0) := by
    rw [madeNu] at hown
    show w0.ownsRow _ _ 1 _ _ _
    rw [tnS_len hsl (Nat.zero_le _), tnS_zero]
    exact hown
  have hbw : b < w.heap.size := h.hi
  have m0 := ((Below.refl w.heap.size w).grown hgr (Nat.le_refl _) (fun j hj => by cases hj)).cell (p := ⟨3, 0, none⟩) (cell_ltS hm) |>.trans hm
  have R0 : Sdr w0 b t k := h.grown hgr (by simp)
  have G0 : Hid (w.grownBy w0 (some b)) := ⟨hgr.os, hgr.tape, hgr.output, hgr.size, fun j hj _ => hgr.block j hj (by simp)⟩
  have hdg := fun x W hx => implDig x W hx
  unfold numE at hdg
  clear hown hgr hi hz0 hz1 hz2 hrow h
  go_enter Tryz.func70, Tryz.ntmps70
  go_wp2_with fail
  refine (hrow'.out w0 R0 m0).mono ?_
  rintro e w1 ⟨rfl, R1, g1⟩
  have ho1 : OwnsNu w1 w.heap.size (.slice (some ⟨w.heap.size, 0, Option.none⟩) c c) (tnS c C 0) := hown0.grown g1 (fun q hq e => by
    have h2 : some w.heap.size = some q := hq
    injection e with e
    injection h2 with h2
    omega)
  have G1 : Hid (w.grownBy w1 (some b)) := G0.out.trans g1
  have hws : w.heap.size < w1.heap.size := ho1.under _ rfl
  clear hown0 G0 R0 m0 g1 hrow' hrun
  go_wp2_with fail
  refine (hspl w1).mono ?_
  rintro e w2 ⟨rfl, hw2⟩
  have hb2 : Below w1.heap.size w1 w2 := by rw [hw2]; exact (Below.refl _ w1).alloc (Nat.le_refl _) _
  have HC : Hid (∀ j (hj : j < C.length), w2.cell? ⟨w1.heap.size, j, none⟩ = some (.string C[j])) := (show ∀ _, _ from fun j hj => by rw [hw2]; exact spl_cell C _ w1 hmn j hj)
  have hw2s : w1.heap.size < w2.heap.size := by rw [hw2]; simp
  have ho2 : Hid (OwnsNu w2 w.heap.size (.slice (some ⟨w.heap.size, 0, Option.none⟩) c c) (tnS c C 0)) := ho1.kept hb2
  have R2 : Hid (Sdr w2 b t k2) := R1.kept hb2
  have G2 : Hid (w.grownBy w2 (some b)) := grown_belowS G1.out hb2
  clear ho1 R1 G1 hb2 hw2 hspl
  generalize min c (X.size + 1) = N at hmn
  go_wp2_with fail
  go_loopw [15] (fun i wr => ∃ j : Nat, j ≤ C.length ∧ i = .int .i64 j ∧ Hid (OwnsNu wr w.heap.size (.slice (some ⟨w.heap.size, 0, Option.none⟩) c c) (tnS c C j)) ∧ Hid (w2.grownBy wr (some w.heap.size))) (fun i _ => C.length - (intOf i).toNat)
  case atStart => exact ⟨0, Nat.zero_le _, rfl, ho2, grown_selfS w2 _⟩
  case round =>
    obtain ⟨j, hj, rfl, ho, hg⟩ := hrel
    by_cases hlt : j < C.length
    · have c1 := hg.out.cell (HC.out j hlt) (by simp; omega)
      have hji : (j : Int) < (C.length : Int) := by omega
      have hd := fun W => hdg C[j] W (by have := HSZ.out _ (List.getElem_mem hlt); unfold maxLen; omega)
      have HN : Hid ((tnS c C j).set j (numV 10 15 C[j]) = tnS c C (j + 1)) := tnS_next hsl hlt
      have HLN : Hid ((tnS c C j).length = c) := tnS_len hsl hj
      generalize C[j] = x at c1 hd HN
      generalize numV 10 15 x = v at hd HN
      generalize numOk 10 15 x = q at hd
      have hjc : j < c := by omega
      go_wp2_with fail
      refine (hd _).mono ?_
      rintro e w3 ⟨rfl, hb3⟩
      have ho3 := ho.out.kept hb3
      have hlt2 : j < (tnS c C j).length := by rw [HLN.out]; exact hjc
      have d1 := ownsNu_at ho3 j hlt2
      have f1 := ho3.free HLN.out.symm j
      have HP : Hid (OwnsNu (w3.setCell ⟨w.heap.size, j, none⟩ (.int .i64 v)) w.heap.size (.slice (some ⟨w.heap.size, 0, Option.none⟩) c c) (tnS c C (j + 1))) := by
        have := ownsNu_put HLN.out.symm ho3 hlt2 v
        rw [HN.out] at this
        exact this
      have HG : Hid (w2.grownBy (w3.setCell ⟨w.heap.size, j, none⟩ (.int .i64 v)) (some w.heap.size)) := grown_putS (grown_belowS hg.out hb3) _ _
      generalize ((tnS c C j)[j]'hlt2) = dd0 at d1
      have hjci : (j : Int) < (c : Int) := by omega
      clear hb3 hg ho ho3 HN HLN hlt2
      go_wp2
      go_roundw
      case rel => exact ⟨j + 1, by omega, by go_num, HP, HG⟩
      case measure => simp [intOf]; omega
    · obtain rfl : j = C.length := by omega
      have HO : Hid (OwnsNu wr w.heap.size (.slice (some ⟨w.heap.size, 0, Option.none⟩) c c) ns) := by
        have := ho.out
        rw [tnS_all, ← HNX.out] at this
        exact this
      have HR : Hid (Sdr wr b t k2) := R2.out.grown hg.out (fun e => by injection e with e; omega)
      have HG : Hid (w.grownBy wr (some b)) := (show w.grownBy wr (some b) from ⟨hg.out.os.trans G2.out.os, hg.out.tape.trans G2.out.tape, hg.out.output.trans G2.out.output, Nat.le_trans G2.out.size hg.out.size, fun j hj hne => (hg.out.block j (Nat.lt_of_lt_of_le hj G2.out.size) (fun e => by injection e with e; omega)).trans (G2.out.block j hj hne)⟩)
      clear ho hg
      go_wp2
      go_ret
      exact ⟨rfl, HO.out, HR.out, HG.out⟩
end Go.Proofs.YtemmgfnepdgpbaaGreatDoor
namespace Go.Proofs.YtemmgfnepdgpbaaGreatDoor
open Go.RowKit Go.Sort

theorem mixed : Tryz.prog.follows .mixedOrders = true := by kernel_rfl

/-- New blocks and draws alone. -/
def Grew (w w' : World) : Prop := Below w.heap.size w w' ∧ w.drawn ≤ w'.drawn
theorem Grew.refl (w : World) : Grew w w := ⟨Below.refl _ _, Nat.le_refl _⟩
theorem Grew.of_eq {w w' : World} (h : w = w') : Grew w w' := h ▸ Grew.refl w
theorem Grew.trans {a b c : World} (h : Grew a b) (k : Grew b c) : Grew a c :=
  ⟨⟨k.1.os.trans h.1.os, k.1.tape.trans h.1.tape, k.1.output.trans h.1.output, Nat.le_trans h.1.size k.1.size, fun i hi => (k.1.block i (Nat.lt_of_lt_of_le hi h.1.size)).trans (h.1.block i hi)⟩, Nat.le_trans h.2 k.2⟩
theorem Grew.alloc {w w' : World} (h : Grew w w') (o : Obj) : Grew w (w'.alloc o) := ⟨h.1.alloc h.1.size o, h.2⟩
theorem Grew.drew {w w' : World} (h : Grew w w') : Grew w w'.drew := ⟨⟨h.1.os, h.1.tape, h.1.output, h.1.size, h.1.block⟩, Nat.le_trans h.2 (Nat.le_succ _)⟩
theorem Grew.drewN {w w' : World} (h : Grew w w') (n : Nat) : Grew w (w'.drewN n) := ⟨⟨h.1.os, h.1.tape, h.1.output, h.1.size, h.1.block⟩, Nat.le_trans h.2 (Nat.le_add_right _ _)⟩
theorem Grew.put {w w' : World} (h : Grew w w') {b : Nat} (hb : w.heap.size ≤ b) (j : Nat) (v : Value) : Grew w (w'.setCell ⟨b, j, none⟩ v) := ⟨h.1.setCell hb _, h.2⟩
theorem Grew.more {w w' : World} (h : Grew w w') (os : Array Obj) : Grew w (grow w' os) :=
  ⟨⟨h.1.os, h.1.tape, h.1.output, by rw [size_grow]; exact Nat.le_trans h.1.size (Nat.le_add_right _ _), fun k hk => (heap_grow_old _ _ (Nat.lt_of_lt_of_le hk h.1.size)).trans (h.1.block k hk)⟩, h.2⟩
theorem Grew.low {w w' : World} (h : Grew w w') : Below w.heap.size w w' := h.1
theorem Grew.out {w w' : World} (h : Grew w w') : ∃ q os, w' = grow (w.drewN q) os := by
  obtain ⟨⟨ho, ht, hp, hz, hk⟩, hd⟩ := h
  refine ⟨w'.drawn - w.drawn, w'.heap.extract w.heap.size w'.heap.size, ?_⟩
  obtain ⟨heap, tape, drawn, os, output⟩ := w'
  simp only at ho ht hp hz hk hd
  have e1 : w.drawn + (drawn - w.drawn) = drawn := by omega
  have e2 : w.heap ++ heap.extract w.heap.size heap.size = heap := by
    apply Array.ext_getElem?
    intro k
    rw [Array.getElem?_append]
    split
    · next h => exact (hk k h).symm
    · next h =>
      rw [Array.getElem?_extract]
      split
      · next h2 => rw [show w.heap.size + (k - w.heap.size) = k from by omega]
      · next h2 => rw [Array.getElem?_eq_none (by omega)]
  simp only [grow, World.drewN, e1, e2, ho, ht, hp]
theorem Grew.cell {w x : World} {b j : Nat} {v : Value} (hb : Grew w x) (h : w.cell? ⟨b, j, none⟩ = some v) (hB : b < w.heap.size) : x.cell? ⟨b, j, none⟩ = some v := (hb.1.cell (p := ⟨b, j, none⟩) hB).trans h
theorem callGrew {P : Program} {f : FuncId} {args : Array Value} {w : World} {n : Nat} {os : Array Obj} {v : Value}
    (h : Calls P f args (grow (w.drewN n) os) fun e w' => e = .returned v ∧ Grew (grow (w.drewN n) os) w') : Calls P f args (grow (w.drewN n) os) fun e w'' => e = .returned v ∧ ∃ p : GrownBy, w'' = grow (w.drewN p.n) p.os :=
  Calls.grown_of (h.mono fun _ _ ⟨he, hg⟩ => ⟨he, hg.out⟩)
theorem callSame {P : Program} {f : FuncId} {args : Array Value} {w : World} {n : Nat} {os : Array Obj} {v : Value}
    (h : Calls P f args (grow (w.drewN n) os) fun e w' => e = .returned v ∧ grow (w.drewN n) os = w') : Calls P f args (grow (w.drewN n) os) fun e w'' => e = .returned v ∧ ∃ p : GrownBy, w'' = grow (w.drewN p.n) p.os :=
  callGrew (h.mono fun _ _ ⟨he, hg⟩ => ⟨he, Grew.of_eq hg⟩)
/-- What is boxed stays. -/
theorem boxed {w : World} {t : TypeId} {fr : Nat × Nat} (C : Array Value) (j n : Nat) (os : Array Obj) : (grow ((w.alloc (.cells C t fr)).drewN n) os).cell? ⟨w.heap.size, j, none⟩ = C[j]? := by
  rw [cell?_grow _ _ _ (by show w.heap.size < (w.alloc (.cells C t fr)).heap.size; simp)]
  exact World.cell?_alloc_mark w C t fr j
end Go.Proofs.YtemmgfnepdgpbaaGreatDoor
