/-
  The contracts of Digits, the specification's and the program's.
  The parts of a date that is shown.
  Drawn dates and fields for policy.
  Drawn responses for policy.
-/
import Derived.Test.YtemmgfnepdgpbaaGreatDoorK08
import Derived.Test.YtemmgfnepdgpbaaGreatDoorK13
import Derived.Test.YtemmgfnepdgpbaaGreatDoorK34
import Derived.WalkKit
import Derived.WalkSpells
import Derived.Test.YtemmgfnepdgpbaaGreatDoorK36
import Derived.Deep.LoopGhost
import Derived.Test.YtemmgfnepdgpbaaGreatDoorK33
import Derived.Deep.DeepCutAuto
import Derived.Test.YtemmgfnepdgpbaaGreatDoorK23
namespace Go.Proofs.YtemmgfnepdgpbaaGreatDoor.Dd
open Go.RowKit

theorem grew_iter (w : World) (s : ByteArray) (pos : Nat) : Grew w (w.iter s pos) := (Grew.refl w).alloc _
theorem implDigV_d (r : Int) (w : World) (h : 48 ≤ r ∧ r ≤ 57) :
    Calls Tryz.prog 156 #[.int .i32 r] w fun e w' => e = .returned (.int .i64 (digV r)) ∧ w' = w := by
  have hd := (digV_d h).symm
  have HD : Hid (_ = digV r) := hd
  clear hd
  obtain ⟨h1, h2⟩ := h
  go_enter Tryz.func156, Tryz.ntmps156
  go_wp2
  go_ret
  exact ⟨ret_int HD.out, rfl⟩
theorem implDigV_a (r : Int) (w : World) (h : 97 ≤ r ∧ r ≤ 102) :
    Calls Tryz.prog 156 #[.int .i32 r] w fun e w' => e = .returned (.int .i64 (digV r)) ∧ w' = w := by
  have hd := (digV_a h).symm
  have HD : Hid (_ = digV r) := hd
  clear hd
  obtain ⟨h1, h2⟩ := h
  go_enter Tryz.func156, Tryz.ntmps156
  go_wp2
  go_ret
  exact ⟨ret_int HD.out, rfl⟩
theorem implDigV_A (r : Int) (w : World) (h : 65 ≤ r ∧ r ≤ 70) :
    Calls Tryz.prog 156 #[.int .i32 r] w fun e w' => e = .returned (.int .i64 (digV r)) ∧ w' = w := by
  have hd := (digV_A h).symm
  have HD : Hid (_ = digV r) := hd
  clear hd
  obtain ⟨h1, h2⟩ := h
  go_enter Tryz.func156, Tryz.ntmps156
  go_wp2
  go_ret
  exact ⟨ret_int HD.out, rfl⟩
theorem implDigV_no (r : Int) (w : World) (h : ¬ (48 ≤ r ∧ r ≤ 57)) (h' : ¬ (97 ≤ r ∧ r ≤ 102)) (h'' : ¬ (65 ≤ r ∧ r ≤ 70)) :
    Calls Tryz.prog 156 #[.int .i32 r] w fun e w' => e = .returned (.int .i64 (digV r)) ∧ w' = w := by
  have hd := digV_no h h' h''
  have HD : Hid (digV r = -1) := hd
  clear hd
  rcases (show r < 48 ∨ (57 < r ∧ r < 65) ∨ (70 < r ∧ r < 97) ∨ 102 < r from by omega) with g | ⟨g, g'⟩ | ⟨g, g'⟩ | g
  all_goals
    clear h h' h''
    go_enter Tryz.func156, Tryz.ntmps156
    go_wp2
    go_ret
    exact ⟨ret_int HD.out.symm, rfl⟩
theorem implDigV (r : Int) (w : World) :
    Calls Tryz.prog 156 #[.int .i32 r] w fun e w' => e = .returned (.int .i64 (digV r)) ∧ w' = w := by
  by_cases h : 48 ≤ r ∧ r ≤ 57
  · exact implDigV_d r w h
  by_cases h' : 97 ≤ r ∧ r ≤ 102
  · exact implDigV_a r w h'
  by_cases h'' : 65 ≤ r ∧ r ≤ 70
  · exact implDigV_A r w h''
  · exact implDigV_no r w h h' h''

theorem specDig_out (s : ByteArray) (w : World) (hs : s.size ≤ maxLen) (h : s.size < 1 ∨ 15 < s.size) :
    Calls Tryz.prog 79 #[.string s] w fun e w' => e = .returned (numE 10 15 s) ∧ Grew w w' := by
  unfold maxLen at hs
  have ht := numE_no (numOk_out (b := 10) h)
  have HT : Hid (_ = Ending.returned (numE 10 15 s)) := ht
  clear ht
  rcases h with h | h
  · go_enter Tryz.func79, Tryz.ntmps79
    go_wp2
    go_ret2
    exact ⟨HT.out, Grew.refl _⟩
  · have h' : ¬ s.size < 1 := by omega
    go_enter Tryz.func79, Tryz.ntmps79
    go_wp2
    go_ret2
    exact ⟨HT.out, Grew.refl _⟩

set_option maxHeartbeats 400000 in
theorem specDig_in (s : ByteArray) (w : World) (h1 : 1 ≤ s.size) (h2 : s.size ≤ 15) :
    Calls Tryz.prog 79 #[.string s] w fun e w' => e = .returned (numE 10 15 s) ∧ Grew w w' := by
  have d1 : decide ((s.size : Int) < 1) = false := by simp; omega
  have d2 : decide (15 < (s.size : Int)) = false := by simp; omega
  go_enter Tryz.func79, Tryz.ntmps79
  go_wp2
  go_loop [4, 5] (fun v i => ∃ (k : Nat) (n : Int), k ≤ s.size ∧ i = .int .i64 k ∧ v = .int .i64 n ∧ 0 ≤ n ∧ n ≤ 1000000000000000 ∧ Hid (allB (digN 10) (s.data.toList.take k) = true) ∧ Hid (n = numL 10 (s.data.toList.take k))) (fun _ i => s.size - (intOf i).toNat)
  case atStart => exact ⟨0, 0, Nat.zero_le _, rfl, rfl, by decide, by decide, allB_nil _ _, rfl⟩
  case round =>
    obtain ⟨k, n, hk, rfl, rfl, hn0, hn1, ha, hn⟩ := hrel
    by_cases hlt : k < s.size
    · by_cases hg : 48 ≤ (s[k].toNat : Int) ∧ (s[k].toNat : Int) ≤ 57
      · have e1 := digV_d hg
        have e2 := allB_step hlt ha.out (digN_yes (b := 10) (digV_ten.2 hg).1 (digV_ten.2 hg).2)
        have e3 := numL_step hlt hn.out
        rw [e1] at e3
        have e4 := num_bound10 (by omega) (by omega) e2
        rw [← e3] at e4
        have H2 : Hid (allB (digN 10) (s.data.toList.take (k + 1)) = true) := e2
        have H3 : Hid (n * 10 + ((s[k].toNat : Int) - 48) = numL 10 (s.data.toList.take (k + 1))) := e3
        have H4 : Hid (0 ≤ n * 10 + ((s[k].toNat : Int) - 48) ∧ n * 10 + ((s[k].toNat : Int) - 48) ≤ 1000000000000000) := e4
        clear e1 e2 e3 e4
        obtain ⟨hg1, hg2⟩ := hg
        go_wp2
        go_round
        case rel => exact ⟨k + 1, _, by omega, by go_num, rfl, H4.out.1, H4.out.2, H2, H3⟩
        case measure => simp [intOf]; omega
      · have hf := numE_no (numOk_in (b := 10) h1 h2 (allB_not hlt (digN_no (fun x => hg (digV_ten.1 x)))))
        have HF : Hid (_ = Ending.returned (numE 10 15 s)) := hf
        clear hf
        rcases (show (s[k].toNat : Int) < 48 ∨ 57 < (s[k].toNat : Int) from by omega) with g | g
        all_goals
          go_wp2
          go_ret2
          exact ⟨HF.out, Grew.refl _⟩
    · have hf := numE_yes (numOk_in (b := 10) h1 h2 (allB_end hlt ha.out)) (hn.out.trans (by rw [take_all s k hlt]))
      have HF : Hid (_ = Ending.returned (numE 10 15 s)) := hf
      clear hf
      go_wp2
      go_ret2
      exact ⟨HF.out, Grew.refl _⟩

theorem specDig (s : ByteArray) (w : World) (hs : s.size ≤ maxLen) :
    Calls Tryz.prog 79 #[.string s] w fun e w' => e = .returned (numE 10 15 s) ∧ Grew w w' := by
  by_cases h : s.size < 1 ∨ 15 < s.size
  · exact specDig_out s w hs h
  · exact specDig_in s w (by omega) (by omega)

theorem implNum10_out (s : ByteArray) (w : World) (hs : s.size ≤ maxLen) (h : s.size < 1 ∨ 15 < s.size) :
    Calls Tryz.prog 133 #[.string s, .int .i64 10, .int .i64 15] w fun e w' => e = .returned (numE 10 15 s) ∧ Grew w w' := by
  unfold maxLen at hs
  have ht := numE_no (numOk_out (b := 10) h)
  have HT : Hid (_ = Ending.returned (numE 10 15 s)) := ht
  clear ht
  rcases h with h | h
  · go_enter Tryz.func133, Tryz.ntmps133
    go_wp2
    go_ret2
    exact ⟨HT.out, Grew.refl _⟩
  · have h' : ¬ s.size < 1 := by omega
    go_enter Tryz.func133, Tryz.ntmps133
    go_wp2
    go_ret2
    exact ⟨HT.out, Grew.refl _⟩

set_option maxHeartbeats 400000 in
theorem implNum10_in (s : ByteArray) (w : World) (h1 : 1 ≤ s.size) (h2 : s.size ≤ 15) :
    Calls Tryz.prog 133 #[.string s, .int .i64 10, .int .i64 15] w fun e w' => e = .returned (numE 10 15 s) ∧ Grew w w' := by
  have d1 : decide ((s.size : Int) < 1) = false := by simp; omega
  have d2 : decide (15 < (s.size : Int)) = false := by simp; omega
  go_enter Tryz.func133, Tryz.ntmps133
  go_wp2
  go_loopw [8] (fun v wr => ∃ (pos : Nat) (n : Int), pos ≤ s.size ∧ wr = w.iter s pos ∧ v = .int .i64 n ∧ 0 ≤ n ∧ n ≤ 1000000000000000 ∧ Hid (allB (digN 10) (s.data.toList.take pos) = true) ∧ Hid (n = numL 10 (s.data.toList.take pos))) (fun _ wr => s.size - wr.iterPos w.heap.size)
  case atStart => exact ⟨0, 0, Nat.zero_le _, rfl, rfl, by decide, by decide, allB_nil _ _, rfl⟩
  case round =>
    obtain ⟨pos, n, hpos, rfl, rfl, hn0, hn1, ha, hn⟩ := hrel
    by_cases hp : pos < s.size
    · by_cases hasc : (s[pos]).toNat < 128
      · have hnx : ∀ ty, (Instr.next (.pointer (some ⟨w.heap.size, 0, none⟩)) true ty).run Tryz.prog (w.iter s pos) = _ := fun ty => run_next_ascii w s pos ty hp hasc
        have hbd := digV_bd (s[pos].toNat : Int)
        by_cases hg : 0 ≤ digV (s[pos].toNat : Int) ∧ digV (s[pos].toNat : Int) < 10
        · have e2 := allB_step hp ha.out (digN_yes (b := 10) hg.1 hg.2)
          have e3 := numL_step hp hn.out
          have e4 := num_bound10 (by omega) (by omega) e2
          rw [← e3] at e4
          have H2 : Hid (allB (digN 10) (s.data.toList.take (pos + 1)) = true) := e2
          have H3 : Hid (n * 10 + digV (s[pos].toNat : Int) = numL 10 (s.data.toList.take (pos + 1))) := e3
          have H4 : Hid (0 ≤ n * 10 + digV (s[pos].toNat : Int) ∧ n * 10 + digV (s[pos].toNat : Int) ≤ 1000000000000000) := e4
          clear e2 e3 e4
          obtain ⟨hb1, hb2⟩ := hbd
          obtain ⟨hg1, hg2⟩ := hg
          go_wp2_with (go_at_call 156; refine (implDigV _ _).mono ?_; rintro e w' ⟨rfl, rfl⟩)
          go_roundw
          case rel => exact ⟨pos + 1, _, by omega, rfl, rfl, H4.out.1, H4.out.2, H2, H3⟩
          case measure => simp; omega
        · have hf := numE_no (numOk_in (b := 10) h1 h2 (allB_not hp (digN_no hg)))
          have HF : Hid (_ = Ending.returned (numE 10 15 s)) := hf
          clear hf
          rcases (show digV (s[pos].toNat : Int) < 0 ∨ (0 ≤ digV (s[pos].toNat : Int) ∧ 10 ≤ digV (s[pos].toNat : Int)) from by omega) with g | ⟨g, g'⟩
          all_goals
            clear hg
            go_wp2_with (go_at_call 156; refine (implDigV _ _).mono ?_; rintro e w' ⟨rfl, rfl⟩)
            go_ret2
            exact ⟨HF.out, grew_iter _ _ _⟩
      · have hnx : ∀ ty, (Instr.next (.pointer (some ⟨w.heap.size, 0, none⟩)) true ty).run Tryz.prog (w.iter s pos) = _ := fun ty => run_next_any w s pos ty hp
        have hd := (decode_high s pos hp (by omega)).1
        have hz : digV (s[pos].toNat : Int) = -1 := digV_high (by omega)
        have hf := numE_no (numOk_in (b := 10) h1 h2 (allB_not hp (digN_no (by omega))))
        have HF : Hid (_ = Ending.returned (numE 10 15 s)) := hf
        clear hf hz
        generalize (Utf8.decode s pos).1 = r at hnx hd
        generalize (Utf8.decode s pos).2 = p2 at hnx
        have ht : digV (r : Int) = -1 := digV_high (by omega)
        go_wp2_with (go_at_call 156; refine (implDigV _ _).mono ?_; rintro e w' ⟨rfl, rfl⟩)
        go_ret2
        exact ⟨HF.out, grew_iter _ _ _⟩
    · have hnx : ∀ ty, (Instr.next (.pointer (some ⟨w.heap.size, 0, none⟩)) true ty).run Tryz.prog (w.iter s pos) = _ := fun ty => run_next_end w s pos ty hp
      have hf := numE_yes (numOk_in (b := 10) h1 h2 (allB_end hp ha.out)) (hn.out.trans (by rw [take_all s pos hp]))
      have HF : Hid (_ = Ending.returned (numE 10 15 s)) := hf
      clear hf
      go_wp2
      go_ret2
      exact ⟨HF.out, grew_iter _ _ _⟩

theorem implNum10 (s : ByteArray) (w : World) (hs : s.size ≤ maxLen) :
    Calls Tryz.prog 133 #[.string s, .int .i64 10, .int .i64 15] w fun e w' => e = .returned (numE 10 15 s) ∧ Grew w w' := by
  by_cases h : s.size < 1 ∨ 15 < s.size
  · exact implNum10_out s w hs h
  · exact implNum10_in s w (by omega) (by omega)

theorem implDig (s : ByteArray) (w : World) (hs : s.size ≤ maxLen) :
    Calls Tryz.prog 101 #[.string s] w fun e w' => e = .returned (numE 10 15 s) ∧ Grew w w' := by
  unfold numE
  go_enter Tryz.func101, Tryz.ntmps101
  go_wp2_with (go_at_call 133; refine (implNum10 _ _ hs).mono ?_; unfold numE; rintro e w' ⟨rfl, hb⟩)
  go_ret2
  exact ⟨rfl, hb⟩
end Go.Proofs.YtemmgfnepdgpbaaGreatDoor.Dd
namespace Go.Proofs.YtemmgfnepdgpbaaGreatDoor.Dd
open Go.RowKit

theorem three {s : ByteArray} (h : s.size = 3) : ∃ a b c, s = ⟨#[a, b, c]⟩ := by
  obtain ⟨⟨l⟩⟩ := s
  match l, h with
  | [a, b, c], _ => exact ⟨a, b, c, rfl⟩
theorem showA_is (y m d h i s : Int) : ∃ a b c p q r, moN m = ⟨#[p, q, r]⟩ ∧ showA y m d h i s = ⟨#[a, b, c, 44, 32, dgt (d / 10), dgt d, 32, p, q, r, 32, dgt (y / 100 / 10), dgt (y / 100), dgt (y / 10), dgt y, 32, dgt (h / 10), dgt h, 58, dgt (i / 10), dgt i, 58, dgt (s / 10), dgt s, 32, 71, 77, 84]⟩ := by
  obtain ⟨a, b, c, h1⟩ := three (wkN_size ((dayN y m d + 4) % 7))
  obtain ⟨p, q, r, h2⟩ := three (moN_size m)
  refine ⟨a, b, c, p, q, r, h2, ?_⟩
  unfold showA
  rw [h1, h2]
  rfl
theorem showA_size (y m d h i s : Int) : (showA y m d h i s).size = 29 := by
  obtain ⟨a, b, c, p, q, r, _, e⟩ := showA_is y m d h i s
  rw [e]; rfl
end Go.Proofs.YtemmgfnepdgpbaaGreatDoor.Dd
namespace Go.Proofs.YtemmgfnepdgpbaaGreatDoor
open Go.RowKit Go.Sort
set_option linter.unusedVariables false

set_option maxHeartbeats 1000000 in
theorem l10DrawDate (b : Nat) (sa : Option Addr) (sl sc : Nat) (w : World) (hc : Cur w b sa sl sc) :
    Calls Tryz.prog 158 #[.pointer (some ⟨b, 0, Option.none⟩)] w fun e w' => (∃ t : ByteArray, e = .returned (.string t) ∧ t.size ≤ 29) ∧ Cur w' b sa sl sc ∧ Beside b w w' := by
  have hbz : b < w.heap.size := hc.2.2.1
  go_enter Tryz.func158, Tryz.ntmps158
  go_wp2_with fail
  refine (l1Below b sa sl sc 40 (by decide) (by decide) _ hc).mono ?_
  rintro e w1 ⟨x, rfl, hx0, hx1, hc1, hb1⟩
  have e1 : IntKind.i64.wrap (990 + x) = 990 + x := by rw [IntKind.wrap_i64]; omega
  have C1 : Hid (Cur w1 b sa sl sc) := hc1
  have B1 : Hid (Beside b w w1) := hb1
  clear hc hc1 hb1
  go_wp2_with fail
  refine (Dd.specAt_in (990 + x) _ (by omega) (by omega)).mono ?_
  rintro e w2 ⟨⟨y, m, d, h, i, s, rfl, hok, _⟩, hg2⟩
  have C2 : Hid (Cur w2 b sa sl sc) := C1.out.kept hg2.low C1.out.2.2.1
  have B2 : Hid (Beside b w w2) := B1.out.below hg2.low
  clear hg2 C1 B1
  have hsz := Dd.showA_size y m d h i s
  have hsh := fun W => Dd.specShow_in y m d h i s W (decide_eq_true hok)
  generalize Dd.showA y m d h i s = t at hsz hsh
  go_wp2_with fail
  refine (hsh _).mono ?_
  rintro e w3 ⟨rfl, hg3⟩
  have C3 : Hid (Cur w3 b sa sl sc) := C2.out.kept hg3.low C2.out.2.2.1
  have B3 : Hid (Beside b w w3) := B2.out.below hg3.low
  clear hg3 C2 B2 hsh hok
  go_wp2
  go_ret
  exact ⟨⟨t, rfl, by omega⟩, C3.out, B3.out⟩
theorem OwnsF.but10 {w : World} {B g k : Nat} {v : Value} {l : List Fl} (h : OwnsF w B v l) (hne : ∀ j, v.ownBlock = some j → j ≠ g) (x : Value) : OwnsF (w.setCell ⟨g, k, none⟩ x) B v l := by
  refine ⟨h.1, ?_⟩
  rcases h.2 with h0 | ⟨g2, cap, cur, hv, hbg, hg, rest⟩
  · exact .inl h0
  · exact .inr ⟨g2, cap, cur, hv, hbg, by rw [Below.heap_setCell _ _ _ _ (by show g2 ≠ g; exact hne g2 (by rw [hv]; rfl))]; exact hg, rest⟩
theorem Beside.set10 {b g k : Nat} {w x : World} (h : Beside b w x) (hg : w.heap.size ≤ g) (v : Value) : Beside b w (x.setCell ⟨g, k, none⟩ v) :=
  ⟨h.1, h.2.1, h.2.2.1, by rw [World.size_setCell]; exact h.2.2.2.1, fun j hj hne => (Below.heap_setCell _ _ _ _ (by show j ≠ g; omega)).trans (h.2.2.2.2 j hj hne)⟩
theorem below_set10 (x : World) (g k : Nat) (v : Value) : Below g x (x.setCell ⟨g, k, none⟩ v) := (Below.refl g x).setCell (show g ≤ (⟨g, k, none⟩ : Addr).block from Nat.le_refl _) v
set_option maxRecDepth 100000 in
set_option maxHeartbeats 16000000 in
theorem l10DrawFields (b : Nat) (sa : Option Addr) (sl sc : Nat) (w : World) (hc : Cur w b sa sl sc) :
    Calls Tryz.prog 135 #[.pointer (some ⟨b, 0, Option.none⟩)] w fun e w' => (∃ u l, e = .returned u ∧ OwnsF w' w.heap.size u l ∧ FewF 3 l) ∧ Cur w' b sa sl sc ∧ Beside b w w' := by
  have hbz : b < w.heap.size := hc.2.2.1
  have hb0 := (Below.refl w.heap.size w).alloc (Nat.le_refl _) (.cells #[] 83)
  go_enter Tryz.func135, Tryz.ntmps135
  go_wp2_with fail
  refine (l1Below b sa sl sc 4 (by decide) (by decide) (w.alloc (.cells #[] 83)) (hc.kept hb0 hbz)).mono ?_
  rintro e w1 ⟨z, rfl, hz0, hz1, hc1, hb1⟩
  obtain ⟨m, rfl⟩ : ∃ m : Nat, z = m := ⟨z.toNat, by omega⟩
  have ho1 := (OwnsF.born w).beside10 hb1 hbz
  have hbs1 := ((Beside.refl b w).below hb0).trans hb1
  go_wp2_with fail
  go_loopw [3, 4, 5] (fun u i _ wr => ∃ (k : Nat) (l : List Fl), i = .int .i64 k ∧ l.length + k ≤ 3 ∧ Hid (∀ f ∈ l, f.1.size ≤ 13 ∧ f.2.size ≤ 84) ∧ Hid (OwnsF wr w.heap.size u l) ∧ Hid (Cur wr b sa sl sc) ∧ Hid (Beside b w wr)) (fun _ i _ _ => (intOf i).toNat)
  case atStart => exact ⟨m, [], rfl, by simp; omega, (fun f hf => by cases hf), ho1, hc1, hbs1⟩
  case round =>
    clear ho1 hc1 hbs1 hb1
    obtain ⟨k, l, rfl, hlk, hsm, hown, hcur, hbes⟩ := hrel
    by_cases hk : 0 < k
    · have hbr : b < wr.heap.size := hcur.out.2.2.1
      have hwr : w.heap.size ≤ wr.heap.size := hbes.out.2.2.2.1
      obtain ⟨ua, uc, rfl, _⟩ := hown.out.form
      go_wp2_with fail
      refine (l1Below b sa sl sc 8 (by decide) (by decide) _ (hcur.out.more9 _)).mono ?_
      rintro e w2 ⟨y, rfl, hy0, hy1, hc2, hb2⟩
      obtain ⟨y, rfl⟩ := Int.eq_ofNat_of_zero_le hy0
      have hs2 : wr.heap.size + 1 ≤ w2.heap.size := by have := hb2.2.2.2.1; simpa using this
      have HN : Hid (∀ j, (Value.slice ua l.length uc).ownBlock = some j → j ≠ w2.heap.size) := fun j hj e => by have := hown.out.under j hj; omega
      have HC : Hid (∀ (j : Nat) (s : ByteArray), (wr.alloc (.cells #[.string ⟨#[99, 97, 99, 104, 101, 45, 99, 111, 110, 116, 114, 111, 108]⟩, .string ⟨#[101, 116, 97, 103]⟩, .string ⟨#[100, 97, 116, 101]⟩, .string ⟨#[101, 120, 112, 105, 114, 101, 115]⟩, .string ⟨#[97, 103, 101]⟩, .string ⟨#[118, 97, 114, 121]⟩, .string ⟨#[115, 117, 114, 114, 111, 103, 97, 116, 101, 45, 107, 101, 121]⟩, .string ⟨#[99, 97, 99, 104, 101, 45, 99, 111, 110, 116, 114, 111, 108]⟩] 9)).cell? ⟨wr.heap.size, j, Option.none⟩ = some (.string s) → w2.cell? ⟨wr.heap.size, j, Option.none⟩ = some (.string s)) := fun j s h => besideCell hb2 (by omega) h
      have O2 : Hid (OwnsF w2 w.heap.size (.slice ua l.length uc) l) := (hown.out.alloc _).beside10 hb2 hbz
      have B2 : Hid (Beside b w w2) := (hbes.out.more9 _).trans hb2
      have C2 : Hid (Cur w2 b sa sl sc) := hc2
      have hb2z : b < w2.heap.size := hc2.2.2.1
      clear hb2 hc2 hcur hbes hown
      rcases (show y = 0 ∨ y = 1 ∨ y = 2 ∨ y = 3 ∨ y = 4 ∨ y = 5 ∨ y = 6 ∨ y = 7 by omega) with rfl | rfl | rfl | rfl | rfl | rfl | rfl | rfl
      · have hcell := HC.out 0 ⟨#[99, 97, 99, 104, 101, 45, 99, 111, 110, 116, 114, 111, 108]⟩ (World.cell?_alloc_mark _ _ _ _ _)
        have O3 : Hid (OwnsF (w2.alloc (.cells #[.string ⟨#[99, 97, 99, 104, 101, 45, 99, 111, 110, 116, 114, 111, 108]⟩, .string ⟨#[]⟩] 83)) w.heap.size (.slice ua l.length uc) l) := O2.out.alloc _
        have B3 : Hid (Beside b w (w2.alloc (.cells #[.string ⟨#[99, 97, 99, 104, 101, 45, 99, 111, 110, 116, 114, 111, 108]⟩, .string ⟨#[]⟩] 83))) := B2.out.more9 _
        have C3 : Hid (Cur (w2.alloc (.cells #[.string ⟨#[99, 97, 99, 104, 101, 45, 99, 111, 110, 116, 114, 111, 108]⟩, .string ⟨#[]⟩] 83)) b sa sl sc) := C2.out.more9 _
        have f0 : Hid ((w2.alloc (.cells #[.string ⟨#[99, 97, 99, 104, 101, 45, 99, 111, 110, 116, 114, 111, 108]⟩, .string ⟨#[]⟩] 83)).cell? ⟨w2.heap.size, 0, Option.none⟩ = some (.string ⟨#[99, 97, 99, 104, 101, 45, 99, 111, 110, 116, 114, 111, 108]⟩)) := World.cell?_alloc_mark _ _ _ _ _
        have f1 : Hid ((w2.alloc (.cells #[.string ⟨#[99, 97, 99, 104, 101, 45, 99, 111, 110, 116, 114, 111, 108]⟩, .string ⟨#[]⟩] 83)).cell? ⟨w2.heap.size, 1, Option.none⟩ = some (.string ⟨#[]⟩)) := World.cell?_alloc_mark _ _ _ _ _
        have ff : Hid ((w2.alloc (.cells #[.string ⟨#[99, 97, 99, 104, 101, 45, 99, 111, 110, 116, 114, 111, 108]⟩, .string ⟨#[]⟩] 83)).frozen? ⟨w2.heap.size, 1, Option.none⟩ = false) := by show _ = _; rw [World.frozen?_alloc_mark]; simp
        have hs3 : Hid ((w2.alloc (.cells #[.string ⟨#[99, 97, 99, 104, 101, 45, 99, 111, 110, 116, 114, 111, 108]⟩, .string ⟨#[]⟩] 83)).heap.size = w2.heap.size + 1) := by show _ = _; simp
        clear O2 B2 C2
        go_wp2_with fail
        refine (l9DrawText b sa sl sc _ C3.out).mono ?_
        rintro e w4 ⟨⟨s, rfl, hs⟩, hc4, hb4⟩
        have O4 : Hid (OwnsF w4 w.heap.size (.slice ua l.length uc) l) := O3.out.beside10 hb4 hbz
        have B4 : Hid (Beside b w w4) := B3.out.trans hb4
        have C4 : Hid (Cur w4 b sa sl sc) := hc4
        have g0 := besideCell hb4 (by omega) f0.out
        have g1 := besideCell hb4 (by omega) f1.out
        have gf : w4.frozen? ⟨w2.heap.size, 1, Option.none⟩ = false := (World.frozen?_of_block (a := ⟨w2.heap.size, 1, Option.none⟩) (hb4.2.2.2.2 w2.heap.size (by rw [hs3.out]; omega) (by omega))).trans ff.out
        clear hb4 hc4 O3 B3 C3 f0 f1 ff hcell
        have ht := trimB_size s
        have hT := fun W => specTrim s W (by omega)
        generalize trimB s = t at ht hT
        go_wp2_with fail
        refine (hT _).mono ?_
        rintro e w5 ⟨rfl, rfl⟩
        clear hT
        have htz : t.size ≤ 84 := by omega
        have O6 : Hid (OwnsF (w4.setCell ⟨w2.heap.size, 1, Option.none⟩ (.string t)) w.heap.size (.slice ua l.length uc) l) := O4.out.but10 HN.out _
        have B6 : Hid (Beside b w (w4.setCell ⟨w2.heap.size, 1, Option.none⟩ (.string t))) := B4.out.set10 (by omega) _
        have C6 : Hid (Cur (w4.setCell ⟨w2.heap.size, 1, Option.none⟩ (.string t)) b sa sl sc) := C4.out.kept (below_set10 _ _ _ _) hb2z
        have h0 : (w4.setCell ⟨w2.heap.size, 1, Option.none⟩ (.string t)).cell? ⟨w2.heap.size, 0, Option.none⟩ = some (.string ⟨#[99, 97, 99, 104, 101, 45, 99, 111, 110, 116, 114, 111, 108]⟩) := by rw [World.cell?_setCell_other _ _ _ _ (by simp)]; exact g0
        have h1 : (w4.setCell ⟨w2.heap.size, 1, Option.none⟩ (.string t)).cell? ⟨w2.heap.size, 1, Option.none⟩ = some (.string t) := World.cell?_setCell_same _ _ _ g1
        clear O4 B4 C4
        go_upto_region 20 with fail
        generalize w4.setCell ⟨w2.heap.size, 1, Option.none⟩ (.string t) = w6 at O6 B6 C6 h0 h1 ⊢
        go_wp2_with (at_builtin; refine wpList_pushF _ rfl (.tmp 58) (.tmp 60) rfl w.heap.size _ _ (⟨#[99, 97, 99, 104, 101, 45, 99, 111, 110, 116, 114, 111, 108]⟩, t) rfl O6.out rfl (by omega) B6.out.2.2.2.1 ?_; intro v7 w7 ho7 hg7)
        have O7 : Hid (OwnsF w7 w.heap.size v7 (l ++ [(⟨#[99, 97, 99, 104, 101, 45, 99, 111, 110, 116, 114, 111, 108]⟩, t)])) := ho7
        have B7 : Hid (Beside b w w7) := B6.out.grown10 hg7 (OwnsF.from O6.out)
        have C7 : Hid (Cur w7 b sa sl sc) := C6.out.kept (grown_low10 hg7 (OwnsF.from O6.out) B6.out.2.2.2.1) hbz
        have S7 : Hid (∀ f ∈ l ++ [(⟨#[99, 97, 99, 104, 101, 45, 99, 111, 110, 116, 114, 111, 108]⟩, t)], f.1.size ≤ 13 ∧ f.2.size ≤ 84) := fun g hg => by
          rcases List.mem_append.1 hg with hg | hg
          · exact hsm.out g hg
          · rw [List.mem_singleton.1 hg]; exact ⟨by show (⟨#[99, 97, 99, 104, 101, 45, 99, 111, 110, 116, 114, 111, 108]⟩ : ByteArray).size ≤ 13; decide, htz⟩
        clear ho7 hg7 O6 B6 C6 hsm h0 h1
        go_roundw
        case rel => exact ⟨k - 1, l ++ [(⟨#[99, 97, 99, 104, 101, 45, 99, 111, 110, 116, 114, 111, 108]⟩, t)], by go_num, by simp; omega, S7, O7, C7, B7⟩
        case measure => simp [intOf]; omega
      · have hcell := HC.out 1 ⟨#[101, 116, 97, 103]⟩ (World.cell?_alloc_mark _ _ _ _ _)
        have O3 : Hid (OwnsF (w2.alloc (.cells #[.string ⟨#[101, 116, 97, 103]⟩, .string ⟨#[]⟩] 83)) w.heap.size (.slice ua l.length uc) l) := O2.out.alloc _
        have B3 : Hid (Beside b w (w2.alloc (.cells #[.string ⟨#[101, 116, 97, 103]⟩, .string ⟨#[]⟩] 83))) := B2.out.more9 _
        have C3 : Hid (Cur (w2.alloc (.cells #[.string ⟨#[101, 116, 97, 103]⟩, .string ⟨#[]⟩] 83)) b sa sl sc) := C2.out.more9 _
        have f0 : Hid ((w2.alloc (.cells #[.string ⟨#[101, 116, 97, 103]⟩, .string ⟨#[]⟩] 83)).cell? ⟨w2.heap.size, 0, Option.none⟩ = some (.string ⟨#[101, 116, 97, 103]⟩)) := World.cell?_alloc_mark _ _ _ _ _
        have f1 : Hid ((w2.alloc (.cells #[.string ⟨#[101, 116, 97, 103]⟩, .string ⟨#[]⟩] 83)).cell? ⟨w2.heap.size, 1, Option.none⟩ = some (.string ⟨#[]⟩)) := World.cell?_alloc_mark _ _ _ _ _
        have ff : Hid ((w2.alloc (.cells #[.string ⟨#[101, 116, 97, 103]⟩, .string ⟨#[]⟩] 83)).frozen? ⟨w2.heap.size, 1, Option.none⟩ = false) := by show _ = _; rw [World.frozen?_alloc_mark]; simp
        have hs3 : Hid ((w2.alloc (.cells #[.string ⟨#[101, 116, 97, 103]⟩, .string ⟨#[]⟩] 83)).heap.size = w2.heap.size + 1) := by show _ = _; simp
        have O2x := O2
        have B2x := B2
        have C2x := C2
        clear O2 B2 C2
        have O4 := O3
        have B4 := B3
        have C4 := C3
        have g0 := f0.out
        have g1 := f1.out
        have gf := ff.out
        clear O3 B3 C3 f0 f1 ff
        have htz : (⟨#[34, 97, 34]⟩ : ByteArray).size ≤ 84 := by decide
        have O6 : Hid (OwnsF (w2.alloc (.cells #[.string ⟨#[101, 116, 97, 103]⟩, .string ⟨#[34, 97, 34]⟩] 83)) w.heap.size (.slice ua l.length uc) l) := O2x.out.alloc _
        have B6 : Hid (Beside b w (w2.alloc (.cells #[.string ⟨#[101, 116, 97, 103]⟩, .string ⟨#[34, 97, 34]⟩] 83))) := B2x.out.more9 _
        have C6 : Hid (Cur (w2.alloc (.cells #[.string ⟨#[101, 116, 97, 103]⟩, .string ⟨#[34, 97, 34]⟩] 83)) b sa sl sc) := C2x.out.more9 _
        have h0 : (w2.alloc (.cells #[.string ⟨#[101, 116, 97, 103]⟩, .string ⟨#[34, 97, 34]⟩] 83)).cell? ⟨w2.heap.size, 0, Option.none⟩ = some (.string ⟨#[101, 116, 97, 103]⟩) := World.cell?_alloc_mark _ _ _ _ _
        have h1 : (w2.alloc (.cells #[.string ⟨#[101, 116, 97, 103]⟩, .string ⟨#[34, 97, 34]⟩] 83)).cell? ⟨w2.heap.size, 1, Option.none⟩ = some (.string ⟨#[34, 97, 34]⟩) := World.cell?_alloc_mark _ _ _ _ _
        clear O4 B4 C4
        go_upto_region 20 with fail
        generalize w2.alloc (.cells #[.string ⟨#[101, 116, 97, 103]⟩, .string ⟨#[34, 97, 34]⟩] 83) = w6 at O6 B6 C6 h0 h1 ⊢
        go_wp2_with (at_builtin; refine wpList_pushF _ rfl (.tmp 58) (.tmp 60) rfl w.heap.size _ _ (⟨#[101, 116, 97, 103]⟩, ⟨#[34, 97, 34]⟩) rfl O6.out rfl (by omega) B6.out.2.2.2.1 ?_; intro v7 w7 ho7 hg7)
        have O7 : Hid (OwnsF w7 w.heap.size v7 (l ++ [(⟨#[101, 116, 97, 103]⟩, ⟨#[34, 97, 34]⟩)])) := ho7
        have B7 : Hid (Beside b w w7) := B6.out.grown10 hg7 (OwnsF.from O6.out)
        have C7 : Hid (Cur w7 b sa sl sc) := C6.out.kept (grown_low10 hg7 (OwnsF.from O6.out) B6.out.2.2.2.1) hbz
        have S7 : Hid (∀ f ∈ l ++ [(⟨#[101, 116, 97, 103]⟩, ⟨#[34, 97, 34]⟩)], f.1.size ≤ 13 ∧ f.2.size ≤ 84) := fun g hg => by
          rcases List.mem_append.1 hg with hg | hg
          · exact hsm.out g hg
          · rw [List.mem_singleton.1 hg]; exact ⟨by show (⟨#[101, 116, 97, 103]⟩ : ByteArray).size ≤ 13; decide, htz⟩
        clear ho7 hg7 O6 B6 C6 hsm h0 h1
        go_roundw
        case rel => exact ⟨k - 1, l ++ [(⟨#[101, 116, 97, 103]⟩, ⟨#[34, 97, 34]⟩)], by go_num, by simp; omega, S7, O7, C7, B7⟩
        case measure => simp [intOf]; omega
      · have hcell := HC.out 2 ⟨#[100, 97, 116, 101]⟩ (World.cell?_alloc_mark _ _ _ _ _)
        have O3 : Hid (OwnsF (w2.alloc (.cells #[.string ⟨#[100, 97, 116, 101]⟩, .string ⟨#[]⟩] 83)) w.heap.size (.slice ua l.length uc) l) := O2.out.alloc _
        have B3 : Hid (Beside b w (w2.alloc (.cells #[.string ⟨#[100, 97, 116, 101]⟩, .string ⟨#[]⟩] 83))) := B2.out.more9 _
        have C3 : Hid (Cur (w2.alloc (.cells #[.string ⟨#[100, 97, 116, 101]⟩, .string ⟨#[]⟩] 83)) b sa sl sc) := C2.out.more9 _
        have f0 : Hid ((w2.alloc (.cells #[.string ⟨#[100, 97, 116, 101]⟩, .string ⟨#[]⟩] 83)).cell? ⟨w2.heap.size, 0, Option.none⟩ = some (.string ⟨#[100, 97, 116, 101]⟩)) := World.cell?_alloc_mark _ _ _ _ _
        have f1 : Hid ((w2.alloc (.cells #[.string ⟨#[100, 97, 116, 101]⟩, .string ⟨#[]⟩] 83)).cell? ⟨w2.heap.size, 1, Option.none⟩ = some (.string ⟨#[]⟩)) := World.cell?_alloc_mark _ _ _ _ _
        have ff : Hid ((w2.alloc (.cells #[.string ⟨#[100, 97, 116, 101]⟩, .string ⟨#[]⟩] 83)).frozen? ⟨w2.heap.size, 1, Option.none⟩ = false) := by show _ = _; rw [World.frozen?_alloc_mark]; simp
        have hs3 : Hid ((w2.alloc (.cells #[.string ⟨#[100, 97, 116, 101]⟩, .string ⟨#[]⟩] 83)).heap.size = w2.heap.size + 1) := by show _ = _; simp
        clear O2 B2 C2
        go_wp2_with fail
        refine (l10DrawDate b sa sl sc _ C3.out).mono ?_
        rintro e w4 ⟨⟨t, rfl, hs⟩, hc4, hb4⟩
        have O4 : Hid (OwnsF w4 w.heap.size (.slice ua l.length uc) l) := O3.out.beside10 hb4 hbz
        have B4 : Hid (Beside b w w4) := B3.out.trans hb4
        have C4 : Hid (Cur w4 b sa sl sc) := hc4
        have g0 := besideCell hb4 (by omega) f0.out
        have g1 := besideCell hb4 (by omega) f1.out
        have gf : w4.frozen? ⟨w2.heap.size, 1, Option.none⟩ = false := (World.frozen?_of_block (a := ⟨w2.heap.size, 1, Option.none⟩) (hb4.2.2.2.2 w2.heap.size (by rw [hs3.out]; omega) (by omega))).trans ff.out
        clear hb4 hc4 O3 B3 C3 f0 f1 ff hcell
        have htz : t.size ≤ 84 := by omega
        have O6 : Hid (OwnsF (w4.setCell ⟨w2.heap.size, 1, Option.none⟩ (.string t)) w.heap.size (.slice ua l.length uc) l) := O4.out.but10 HN.out _
        have B6 : Hid (Beside b w (w4.setCell ⟨w2.heap.size, 1, Option.none⟩ (.string t))) := B4.out.set10 (by omega) _
        have C6 : Hid (Cur (w4.setCell ⟨w2.heap.size, 1, Option.none⟩ (.string t)) b sa sl sc) := C4.out.kept (below_set10 _ _ _ _) hb2z
        have h0 : (w4.setCell ⟨w2.heap.size, 1, Option.none⟩ (.string t)).cell? ⟨w2.heap.size, 0, Option.none⟩ = some (.string ⟨#[100, 97, 116, 101]⟩) := by rw [World.cell?_setCell_other _ _ _ _ (by simp)]; exact g0
        have h1 : (w4.setCell ⟨w2.heap.size, 1, Option.none⟩ (.string t)).cell? ⟨w2.heap.size, 1, Option.none⟩ = some (.string t) := World.cell?_setCell_same _ _ _ g1
        clear O4 B4 C4
        go_upto_region 20 with fail
        generalize w4.setCell ⟨w2.heap.size, 1, Option.none⟩ (.string t) = w6 at O6 B6 C6 h0 h1 ⊢
        go_wp2_with (at_builtin; refine wpList_pushF _ rfl (.tmp 58) (.tmp 60) rfl w.heap.size _ _ (⟨#[100, 97, 116, 101]⟩, t) rfl O6.out rfl (by omega) B6.out.2.2.2.1 ?_; intro v7 w7 ho7 hg7)
        have O7 : Hid (OwnsF w7 w.heap.size v7 (l ++ [(⟨#[100, 97, 116, 101]⟩, t)])) := ho7
        have B7 : Hid (Beside b w w7) := B6.out.grown10 hg7 (OwnsF.from O6.out)
        have C7 : Hid (Cur w7 b sa sl sc) := C6.out.kept (grown_low10 hg7 (OwnsF.from O6.out) B6.out.2.2.2.1) hbz
        have S7 : Hid (∀ f ∈ l ++ [(⟨#[100, 97, 116, 101]⟩, t)], f.1.size ≤ 13 ∧ f.2.size ≤ 84) := fun g hg => by
          rcases List.mem_append.1 hg with hg | hg
          · exact hsm.out g hg
          · rw [List.mem_singleton.1 hg]; exact ⟨by show (⟨#[100, 97, 116, 101]⟩ : ByteArray).size ≤ 13; decide, htz⟩
        clear ho7 hg7 O6 B6 C6 hsm h0 h1
        go_roundw
        case rel => exact ⟨k - 1, l ++ [(⟨#[100, 97, 116, 101]⟩, t)], by go_num, by simp; omega, S7, O7, C7, B7⟩
        case measure => simp [intOf]; omega
      · have hcell := HC.out 3 ⟨#[101, 120, 112, 105, 114, 101, 115]⟩ (World.cell?_alloc_mark _ _ _ _ _)
        have O3 : Hid (OwnsF (w2.alloc (.cells #[.string ⟨#[101, 120, 112, 105, 114, 101, 115]⟩, .string ⟨#[]⟩] 83)) w.heap.size (.slice ua l.length uc) l) := O2.out.alloc _
        have B3 : Hid (Beside b w (w2.alloc (.cells #[.string ⟨#[101, 120, 112, 105, 114, 101, 115]⟩, .string ⟨#[]⟩] 83))) := B2.out.more9 _
        have C3 : Hid (Cur (w2.alloc (.cells #[.string ⟨#[101, 120, 112, 105, 114, 101, 115]⟩, .string ⟨#[]⟩] 83)) b sa sl sc) := C2.out.more9 _
        have f0 : Hid ((w2.alloc (.cells #[.string ⟨#[101, 120, 112, 105, 114, 101, 115]⟩, .string ⟨#[]⟩] 83)).cell? ⟨w2.heap.size, 0, Option.none⟩ = some (.string ⟨#[101, 120, 112, 105, 114, 101, 115]⟩)) := World.cell?_alloc_mark _ _ _ _ _
        have f1 : Hid ((w2.alloc (.cells #[.string ⟨#[101, 120, 112, 105, 114, 101, 115]⟩, .string ⟨#[]⟩] 83)).cell? ⟨w2.heap.size, 1, Option.none⟩ = some (.string ⟨#[]⟩)) := World.cell?_alloc_mark _ _ _ _ _
        have ff : Hid ((w2.alloc (.cells #[.string ⟨#[101, 120, 112, 105, 114, 101, 115]⟩, .string ⟨#[]⟩] 83)).frozen? ⟨w2.heap.size, 1, Option.none⟩ = false) := by show _ = _; rw [World.frozen?_alloc_mark]; simp
        have hs3 : Hid ((w2.alloc (.cells #[.string ⟨#[101, 120, 112, 105, 114, 101, 115]⟩, .string ⟨#[]⟩] 83)).heap.size = w2.heap.size + 1) := by show _ = _; simp
        clear O2 B2 C2
        go_wp2_with fail
        refine (l10DrawDate b sa sl sc _ C3.out).mono ?_
        rintro e w4 ⟨⟨t, rfl, hs⟩, hc4, hb4⟩
        have O4 : Hid (OwnsF w4 w.heap.size (.slice ua l.length uc) l) := O3.out.beside10 hb4 hbz
        have B4 : Hid (Beside b w w4) := B3.out.trans hb4
        have C4 : Hid (Cur w4 b sa sl sc) := hc4
        have g0 := besideCell hb4 (by omega) f0.out
        have g1 := besideCell hb4 (by omega) f1.out
        have gf : w4.frozen? ⟨w2.heap.size, 1, Option.none⟩ = false := (World.frozen?_of_block (a := ⟨w2.heap.size, 1, Option.none⟩) (hb4.2.2.2.2 w2.heap.size (by rw [hs3.out]; omega) (by omega))).trans ff.out
        clear hb4 hc4 O3 B3 C3 f0 f1 ff hcell
        have htz : t.size ≤ 84 := by omega
        have O6 : Hid (OwnsF (w4.setCell ⟨w2.heap.size, 1, Option.none⟩ (.string t)) w.heap.size (.slice ua l.length uc) l) := O4.out.but10 HN.out _
        have B6 : Hid (Beside b w (w4.setCell ⟨w2.heap.size, 1, Option.none⟩ (.string t))) := B4.out.set10 (by omega) _
        have C6 : Hid (Cur (w4.setCell ⟨w2.heap.size, 1, Option.none⟩ (.string t)) b sa sl sc) := C4.out.kept (below_set10 _ _ _ _) hb2z
        have h0 : (w4.setCell ⟨w2.heap.size, 1, Option.none⟩ (.string t)).cell? ⟨w2.heap.size, 0, Option.none⟩ = some (.string ⟨#[101, 120, 112, 105, 114, 101, 115]⟩) := by rw [World.cell?_setCell_other _ _ _ _ (by simp)]; exact g0
        have h1 : (w4.setCell ⟨w2.heap.size, 1, Option.none⟩ (.string t)).cell? ⟨w2.heap.size, 1, Option.none⟩ = some (.string t) := World.cell?_setCell_same _ _ _ g1
        clear O4 B4 C4
        go_upto_region 20 with fail
        generalize w4.setCell ⟨w2.heap.size, 1, Option.none⟩ (.string t) = w6 at O6 B6 C6 h0 h1 ⊢
        go_wp2_with (at_builtin; refine wpList_pushF _ rfl (.tmp 58) (.tmp 60) rfl w.heap.size _ _ (⟨#[101, 120, 112, 105, 114, 101, 115]⟩, t) rfl O6.out rfl (by omega) B6.out.2.2.2.1 ?_; intro v7 w7 ho7 hg7)
        have O7 : Hid (OwnsF w7 w.heap.size v7 (l ++ [(⟨#[101, 120, 112, 105, 114, 101, 115]⟩, t)])) := ho7
        have B7 : Hid (Beside b w w7) := B6.out.grown10 hg7 (OwnsF.from O6.out)
        have C7 : Hid (Cur w7 b sa sl sc) := C6.out.kept (grown_low10 hg7 (OwnsF.from O6.out) B6.out.2.2.2.1) hbz
        have S7 : Hid (∀ f ∈ l ++ [(⟨#[101, 120, 112, 105, 114, 101, 115]⟩, t)], f.1.size ≤ 13 ∧ f.2.size ≤ 84) := fun g hg => by
          rcases List.mem_append.1 hg with hg | hg
          · exact hsm.out g hg
          · rw [List.mem_singleton.1 hg]; exact ⟨by show (⟨#[101, 120, 112, 105, 114, 101, 115]⟩ : ByteArray).size ≤ 13; decide, htz⟩
        clear ho7 hg7 O6 B6 C6 hsm h0 h1
        go_roundw
        case rel => exact ⟨k - 1, l ++ [(⟨#[101, 120, 112, 105, 114, 101, 115]⟩, t)], by go_num, by simp; omega, S7, O7, C7, B7⟩
        case measure => simp [intOf]; omega
      · have hcell := HC.out 4 ⟨#[97, 103, 101]⟩ (World.cell?_alloc_mark _ _ _ _ _)
        have O3 : Hid (OwnsF (w2.alloc (.cells #[.string ⟨#[97, 103, 101]⟩, .string ⟨#[]⟩] 83)) w.heap.size (.slice ua l.length uc) l) := O2.out.alloc _
        have B3 : Hid (Beside b w (w2.alloc (.cells #[.string ⟨#[97, 103, 101]⟩, .string ⟨#[]⟩] 83))) := B2.out.more9 _
        have C3 : Hid (Cur (w2.alloc (.cells #[.string ⟨#[97, 103, 101]⟩, .string ⟨#[]⟩] 83)) b sa sl sc) := C2.out.more9 _
        have f0 : Hid ((w2.alloc (.cells #[.string ⟨#[97, 103, 101]⟩, .string ⟨#[]⟩] 83)).cell? ⟨w2.heap.size, 0, Option.none⟩ = some (.string ⟨#[97, 103, 101]⟩)) := World.cell?_alloc_mark _ _ _ _ _
        have f1 : Hid ((w2.alloc (.cells #[.string ⟨#[97, 103, 101]⟩, .string ⟨#[]⟩] 83)).cell? ⟨w2.heap.size, 1, Option.none⟩ = some (.string ⟨#[]⟩)) := World.cell?_alloc_mark _ _ _ _ _
        have ff : Hid ((w2.alloc (.cells #[.string ⟨#[97, 103, 101]⟩, .string ⟨#[]⟩] 83)).frozen? ⟨w2.heap.size, 1, Option.none⟩ = false) := by show _ = _; rw [World.frozen?_alloc_mark]; simp
        have hs3 : Hid ((w2.alloc (.cells #[.string ⟨#[97, 103, 101]⟩, .string ⟨#[]⟩] 83)).heap.size = w2.heap.size + 1) := by show _ = _; simp
        clear O2 B2 C2
        go_wp2_with fail
        refine (l1Below b sa sl sc 20 (by decide) (by decide) _ C3.out).mono ?_
        rintro e w4 ⟨x, rfl, hx0, hx1, hc4, hb4⟩
        have O4 : Hid (OwnsF w4 w.heap.size (.slice ua l.length uc) l) := O3.out.beside10 hb4 hbz
        have B4 : Hid (Beside b w w4) := B3.out.trans hb4
        have C4 : Hid (Cur w4 b sa sl sc) := hc4
        have g0 := besideCell hb4 (by omega) f0.out
        have g1 := besideCell hb4 (by omega) f1.out
        have gf : w4.frozen? ⟨w2.heap.size, 1, Option.none⟩ = false := (World.frozen?_of_block (a := ⟨w2.heap.size, 1, Option.none⟩) (hb4.2.2.2.2 w2.heap.size (by rw [hs3.out]; omega) (by omega))).trans ff.out
        clear hb4 hc4 O3 B3 C3 f0 f1 ff hcell
        obtain ⟨x, rfl⟩ := Int.eq_ofNat_of_zero_le hx0
        have ht := itoS_size (n := x) (by omega)
        have hT := fun W => specIntZ x W (by omega)
        generalize itoS x = t at ht hT
        go_wp2_with fail
        refine (hT _).mono ?_
        rintro e w5 ⟨rfl, hb5⟩
        have O5 : Hid (OwnsF w5 w.heap.size (.slice ua l.length uc) l) := O4.out.kept hb5
        have B5 : Hid (Beside b w w5) := B4.out.below hb5
        have C5 : Hid (Cur w5 b sa sl sc) := C4.out.kept hb5 C4.out.2.2.1
        have G0 := (hb5.cell (p := ⟨w2.heap.size, 0, Option.none⟩) (World.block_lt_of_cell? _ _ g0)).trans g0
        have G1 := (hb5.cell (p := ⟨w2.heap.size, 1, Option.none⟩) (World.block_lt_of_cell? _ _ g1)).trans g1
        have Gf : w5.frozen? ⟨w2.heap.size, 1, Option.none⟩ = false := (World.frozen?_of_block (a := ⟨w2.heap.size, 1, Option.none⟩) (hb5.block w2.heap.size (World.block_lt_of_cell? _ _ g0))).trans gf
        clear hb5 hT O4 B4 C4 g0 g1 gf
        have htz : t.size ≤ 84 := by omega
        obtain ⟨O4, B4, C4, g0, g1, gf⟩ := (⟨O5, B5, C5, G0, G1, Gf⟩ : Hid (OwnsF w5 w.heap.size (.slice ua l.length uc) l) ∧ Hid (Beside b w w5) ∧ Hid (Cur w5 b sa sl sc) ∧ _ ∧ _ ∧ _)
        clear O5 B5 C5 G0 G1 Gf
        have O6 : Hid (OwnsF (w5.setCell ⟨w2.heap.size, 1, Option.none⟩ (.string t)) w.heap.size (.slice ua l.length uc) l) := O4.out.but10 HN.out _
        have B6 : Hid (Beside b w (w5.setCell ⟨w2.heap.size, 1, Option.none⟩ (.string t))) := B4.out.set10 (by omega) _
        have C6 : Hid (Cur (w5.setCell ⟨w2.heap.size, 1, Option.none⟩ (.string t)) b sa sl sc) := C4.out.kept (below_set10 _ _ _ _) hb2z
        have h0 : (w5.setCell ⟨w2.heap.size, 1, Option.none⟩ (.string t)).cell? ⟨w2.heap.size, 0, Option.none⟩ = some (.string ⟨#[97, 103, 101]⟩) := by rw [World.cell?_setCell_other _ _ _ _ (by simp)]; exact g0
        have h1 : (w5.setCell ⟨w2.heap.size, 1, Option.none⟩ (.string t)).cell? ⟨w2.heap.size, 1, Option.none⟩ = some (.string t) := World.cell?_setCell_same _ _ _ g1
        clear O4 B4 C4
        go_upto_region 20 with fail
        generalize w5.setCell ⟨w2.heap.size, 1, Option.none⟩ (.string t) = w6 at O6 B6 C6 h0 h1 ⊢
        go_wp2_with (at_builtin; refine wpList_pushF _ rfl (.tmp 58) (.tmp 60) rfl w.heap.size _ _ (⟨#[97, 103, 101]⟩, t) rfl O6.out rfl (by omega) B6.out.2.2.2.1 ?_; intro v7 w7 ho7 hg7)
        have O7 : Hid (OwnsF w7 w.heap.size v7 (l ++ [(⟨#[97, 103, 101]⟩, t)])) := ho7
        have B7 : Hid (Beside b w w7) := B6.out.grown10 hg7 (OwnsF.from O6.out)
        have C7 : Hid (Cur w7 b sa sl sc) := C6.out.kept (grown_low10 hg7 (OwnsF.from O6.out) B6.out.2.2.2.1) hbz
        have S7 : Hid (∀ f ∈ l ++ [(⟨#[97, 103, 101]⟩, t)], f.1.size ≤ 13 ∧ f.2.size ≤ 84) := fun g hg => by
          rcases List.mem_append.1 hg with hg | hg
          · exact hsm.out g hg
          · rw [List.mem_singleton.1 hg]; exact ⟨by show (⟨#[97, 103, 101]⟩ : ByteArray).size ≤ 13; decide, htz⟩
        clear ho7 hg7 O6 B6 C6 hsm h0 h1
        go_roundw
        case rel => exact ⟨k - 1, l ++ [(⟨#[97, 103, 101]⟩, t)], by go_num, by simp; omega, S7, O7, C7, B7⟩
        case measure => simp [intOf]; omega
      · have hcell := HC.out 5 ⟨#[118, 97, 114, 121]⟩ (World.cell?_alloc_mark _ _ _ _ _)
        have O3 : Hid (OwnsF (w2.alloc (.cells #[.string ⟨#[118, 97, 114, 121]⟩, .string ⟨#[]⟩] 83)) w.heap.size (.slice ua l.length uc) l) := O2.out.alloc _
        have B3 : Hid (Beside b w (w2.alloc (.cells #[.string ⟨#[118, 97, 114, 121]⟩, .string ⟨#[]⟩] 83))) := B2.out.more9 _
        have C3 : Hid (Cur (w2.alloc (.cells #[.string ⟨#[118, 97, 114, 121]⟩, .string ⟨#[]⟩] 83)) b sa sl sc) := C2.out.more9 _
        have f0 : Hid ((w2.alloc (.cells #[.string ⟨#[118, 97, 114, 121]⟩, .string ⟨#[]⟩] 83)).cell? ⟨w2.heap.size, 0, Option.none⟩ = some (.string ⟨#[118, 97, 114, 121]⟩)) := World.cell?_alloc_mark _ _ _ _ _
        have f1 : Hid ((w2.alloc (.cells #[.string ⟨#[118, 97, 114, 121]⟩, .string ⟨#[]⟩] 83)).cell? ⟨w2.heap.size, 1, Option.none⟩ = some (.string ⟨#[]⟩)) := World.cell?_alloc_mark _ _ _ _ _
        have ff : Hid ((w2.alloc (.cells #[.string ⟨#[118, 97, 114, 121]⟩, .string ⟨#[]⟩] 83)).frozen? ⟨w2.heap.size, 1, Option.none⟩ = false) := by show _ = _; rw [World.frozen?_alloc_mark]; simp
        have hs3 : Hid ((w2.alloc (.cells #[.string ⟨#[118, 97, 114, 121]⟩, .string ⟨#[]⟩] 83)).heap.size = w2.heap.size + 1) := by show _ = _; simp
        clear O2 B2 C2
        go_wp2_with fail
        refine (l1Below b sa sl sc 3 (by decide) (by decide) _ (C3.out.more9 _)).mono ?_
        rintro e w4 ⟨x, rfl, hx0, hx1, hc4, hb4'⟩
        obtain ⟨x, rfl⟩ := Int.eq_ofNat_of_zero_le hx0
        obtain ⟨t, htc, htz'⟩ := tabT9 10 hb4' (by simp <;> omega) x (by simp; omega) (by decide)
        rw [hs3.out] at htc
        have O4 : Hid (OwnsF w4 w.heap.size (.slice ua l.length uc) l) := (O3.out.alloc _).beside10 hb4' hbz
        have B4 : Hid (Beside b w w4) := (B3.out.more9 _).trans hb4'
        have C4 : Hid (Cur w4 b sa sl sc) := hc4
        have g0 := besideCell hb4' (by omega) ((((Below.refl _ _).alloc (Nat.le_refl _) _).cell (p := ⟨w2.heap.size, 0, Option.none⟩) (by rw [hs3.out]; show w2.heap.size < _; omega)).trans f0.out)
        have g1 := besideCell hb4' (by omega) ((((Below.refl _ _).alloc (Nat.le_refl _) _).cell (p := ⟨w2.heap.size, 1, Option.none⟩) (by rw [hs3.out]; show w2.heap.size < _; omega)).trans f1.out)
        have gf : w4.frozen? ⟨w2.heap.size, 1, Option.none⟩ = false := (World.frozen?_of_block (a := ⟨w2.heap.size, 1, Option.none⟩) ((hb4'.2.2.2.2 w2.heap.size (by simp <;> omega) (by omega)).trans (((Below.refl _ _).alloc (Nat.le_refl _) _).block w2.heap.size (by rw [hs3.out]; omega)))).trans ff.out
        clear hb4' hc4 O3 B3 C3 f0 f1 ff hcell
        have htz : t.size ≤ 84 := by omega
        have O6 : Hid (OwnsF (w4.setCell ⟨w2.heap.size, 1, Option.none⟩ (.string t)) w.heap.size (.slice ua l.length uc) l) := O4.out.but10 HN.out _
        have B6 : Hid (Beside b w (w4.setCell ⟨w2.heap.size, 1, Option.none⟩ (.string t))) := B4.out.set10 (by omega) _
        have C6 : Hid (Cur (w4.setCell ⟨w2.heap.size, 1, Option.none⟩ (.string t)) b sa sl sc) := C4.out.kept (below_set10 _ _ _ _) hb2z
        have h0 : (w4.setCell ⟨w2.heap.size, 1, Option.none⟩ (.string t)).cell? ⟨w2.heap.size, 0, Option.none⟩ = some (.string ⟨#[118, 97, 114, 121]⟩) := by rw [World.cell?_setCell_other _ _ _ _ (by simp)]; exact g0
        have h1 : (w4.setCell ⟨w2.heap.size, 1, Option.none⟩ (.string t)).cell? ⟨w2.heap.size, 1, Option.none⟩ = some (.string t) := World.cell?_setCell_same _ _ _ g1
        clear O4 B4 C4
        go_upto_region 20 with fail
        generalize w4.setCell ⟨w2.heap.size, 1, Option.none⟩ (.string t) = w6 at O6 B6 C6 h0 h1 ⊢
        go_wp2_with (at_builtin; refine wpList_pushF _ rfl (.tmp 58) (.tmp 60) rfl w.heap.size _ _ (⟨#[118, 97, 114, 121]⟩, t) rfl O6.out rfl (by omega) B6.out.2.2.2.1 ?_; intro v7 w7 ho7 hg7)
        have O7 : Hid (OwnsF w7 w.heap.size v7 (l ++ [(⟨#[118, 97, 114, 121]⟩, t)])) := ho7
        have B7 : Hid (Beside b w w7) := B6.out.grown10 hg7 (OwnsF.from O6.out)
        have C7 : Hid (Cur w7 b sa sl sc) := C6.out.kept (grown_low10 hg7 (OwnsF.from O6.out) B6.out.2.2.2.1) hbz
        have S7 : Hid (∀ f ∈ l ++ [(⟨#[118, 97, 114, 121]⟩, t)], f.1.size ≤ 13 ∧ f.2.size ≤ 84) := fun g hg => by
          rcases List.mem_append.1 hg with hg | hg
          · exact hsm.out g hg
          · rw [List.mem_singleton.1 hg]; exact ⟨by show (⟨#[118, 97, 114, 121]⟩ : ByteArray).size ≤ 13; decide, htz⟩
        clear ho7 hg7 O6 B6 C6 hsm h0 h1
        go_roundw
        case rel => exact ⟨k - 1, l ++ [(⟨#[118, 97, 114, 121]⟩, t)], by go_num, by simp; omega, S7, O7, C7, B7⟩
        case measure => simp [intOf]; omega
      · have hcell := HC.out 6 ⟨#[115, 117, 114, 114, 111, 103, 97, 116, 101, 45, 107, 101, 121]⟩ (World.cell?_alloc_mark _ _ _ _ _)
        have O3 : Hid (OwnsF (w2.alloc (.cells #[.string ⟨#[115, 117, 114, 114, 111, 103, 97, 116, 101, 45, 107, 101, 121]⟩, .string ⟨#[]⟩] 83)) w.heap.size (.slice ua l.length uc) l) := O2.out.alloc _
        have B3 : Hid (Beside b w (w2.alloc (.cells #[.string ⟨#[115, 117, 114, 114, 111, 103, 97, 116, 101, 45, 107, 101, 121]⟩, .string ⟨#[]⟩] 83))) := B2.out.more9 _
        have C3 : Hid (Cur (w2.alloc (.cells #[.string ⟨#[115, 117, 114, 114, 111, 103, 97, 116, 101, 45, 107, 101, 121]⟩, .string ⟨#[]⟩] 83)) b sa sl sc) := C2.out.more9 _
        have f0 : Hid ((w2.alloc (.cells #[.string ⟨#[115, 117, 114, 114, 111, 103, 97, 116, 101, 45, 107, 101, 121]⟩, .string ⟨#[]⟩] 83)).cell? ⟨w2.heap.size, 0, Option.none⟩ = some (.string ⟨#[115, 117, 114, 114, 111, 103, 97, 116, 101, 45, 107, 101, 121]⟩)) := World.cell?_alloc_mark _ _ _ _ _
        have f1 : Hid ((w2.alloc (.cells #[.string ⟨#[115, 117, 114, 114, 111, 103, 97, 116, 101, 45, 107, 101, 121]⟩, .string ⟨#[]⟩] 83)).cell? ⟨w2.heap.size, 1, Option.none⟩ = some (.string ⟨#[]⟩)) := World.cell?_alloc_mark _ _ _ _ _
        have ff : Hid ((w2.alloc (.cells #[.string ⟨#[115, 117, 114, 114, 111, 103, 97, 116, 101, 45, 107, 101, 121]⟩, .string ⟨#[]⟩] 83)).frozen? ⟨w2.heap.size, 1, Option.none⟩ = false) := by show _ = _; rw [World.frozen?_alloc_mark]; simp
        have hs3 : Hid ((w2.alloc (.cells #[.string ⟨#[115, 117, 114, 114, 111, 103, 97, 116, 101, 45, 107, 101, 121]⟩, .string ⟨#[]⟩] 83)).heap.size = w2.heap.size + 1) := by show _ = _; simp
        clear O2 B2 C2
        go_wp2_with fail
        refine (l1Below b sa sl sc 3 (by decide) (by decide) _ (C3.out.more9 _)).mono ?_
        rintro e w4 ⟨x, rfl, hx0, hx1, hc4, hb4'⟩
        obtain ⟨x, rfl⟩ := Int.eq_ofNat_of_zero_le hx0
        obtain ⟨t, htc, htz'⟩ := tabT9 10 hb4' (by simp <;> omega) x (by simp; omega) (by decide)
        rw [hs3.out] at htc
        have O4 : Hid (OwnsF w4 w.heap.size (.slice ua l.length uc) l) := (O3.out.alloc _).beside10 hb4' hbz
        have B4 : Hid (Beside b w w4) := (B3.out.more9 _).trans hb4'
        have C4 : Hid (Cur w4 b sa sl sc) := hc4
        have g0 := besideCell hb4' (by omega) ((((Below.refl _ _).alloc (Nat.le_refl _) _).cell (p := ⟨w2.heap.size, 0, Option.none⟩) (by rw [hs3.out]; show w2.heap.size < _; omega)).trans f0.out)
        have g1 := besideCell hb4' (by omega) ((((Below.refl _ _).alloc (Nat.le_refl _) _).cell (p := ⟨w2.heap.size, 1, Option.none⟩) (by rw [hs3.out]; show w2.heap.size < _; omega)).trans f1.out)
        have gf : w4.frozen? ⟨w2.heap.size, 1, Option.none⟩ = false := (World.frozen?_of_block (a := ⟨w2.heap.size, 1, Option.none⟩) ((hb4'.2.2.2.2 w2.heap.size (by simp <;> omega) (by omega)).trans (((Below.refl _ _).alloc (Nat.le_refl _) _).block w2.heap.size (by rw [hs3.out]; omega)))).trans ff.out
        clear hb4' hc4 O3 B3 C3 f0 f1 ff hcell
        have htz : t.size ≤ 84 := by omega
        have O6 : Hid (OwnsF (w4.setCell ⟨w2.heap.size, 1, Option.none⟩ (.string t)) w.heap.size (.slice ua l.length uc) l) := O4.out.but10 HN.out _
        have B6 : Hid (Beside b w (w4.setCell ⟨w2.heap.size, 1, Option.none⟩ (.string t))) := B4.out.set10 (by omega) _
        have C6 : Hid (Cur (w4.setCell ⟨w2.heap.size, 1, Option.none⟩ (.string t)) b sa sl sc) := C4.out.kept (below_set10 _ _ _ _) hb2z
        have h0 : (w4.setCell ⟨w2.heap.size, 1, Option.none⟩ (.string t)).cell? ⟨w2.heap.size, 0, Option.none⟩ = some (.string ⟨#[115, 117, 114, 114, 111, 103, 97, 116, 101, 45, 107, 101, 121]⟩) := by rw [World.cell?_setCell_other _ _ _ _ (by simp)]; exact g0
        have h1 : (w4.setCell ⟨w2.heap.size, 1, Option.none⟩ (.string t)).cell? ⟨w2.heap.size, 1, Option.none⟩ = some (.string t) := World.cell?_setCell_same _ _ _ g1
        clear O4 B4 C4
        go_upto_region 20 with fail
        generalize w4.setCell ⟨w2.heap.size, 1, Option.none⟩ (.string t) = w6 at O6 B6 C6 h0 h1 ⊢
        go_wp2_with (at_builtin; refine wpList_pushF _ rfl (.tmp 58) (.tmp 60) rfl w.heap.size _ _ (⟨#[115, 117, 114, 114, 111, 103, 97, 116, 101, 45, 107, 101, 121]⟩, t) rfl O6.out rfl (by omega) B6.out.2.2.2.1 ?_; intro v7 w7 ho7 hg7)
        have O7 : Hid (OwnsF w7 w.heap.size v7 (l ++ [(⟨#[115, 117, 114, 114, 111, 103, 97, 116, 101, 45, 107, 101, 121]⟩, t)])) := ho7
        have B7 : Hid (Beside b w w7) := B6.out.grown10 hg7 (OwnsF.from O6.out)
        have C7 : Hid (Cur w7 b sa sl sc) := C6.out.kept (grown_low10 hg7 (OwnsF.from O6.out) B6.out.2.2.2.1) hbz
        have S7 : Hid (∀ f ∈ l ++ [(⟨#[115, 117, 114, 114, 111, 103, 97, 116, 101, 45, 107, 101, 121]⟩, t)], f.1.size ≤ 13 ∧ f.2.size ≤ 84) := fun g hg => by
          rcases List.mem_append.1 hg with hg | hg
          · exact hsm.out g hg
          · rw [List.mem_singleton.1 hg]; exact ⟨by show (⟨#[115, 117, 114, 114, 111, 103, 97, 116, 101, 45, 107, 101, 121]⟩ : ByteArray).size ≤ 13; decide, htz⟩
        clear ho7 hg7 O6 B6 C6 hsm h0 h1
        go_roundw
        case rel => exact ⟨k - 1, l ++ [(⟨#[115, 117, 114, 114, 111, 103, 97, 116, 101, 45, 107, 101, 121]⟩, t)], by go_num, by simp; omega, S7, O7, C7, B7⟩
        case measure => simp [intOf]; omega
      · have hcell := HC.out 7 ⟨#[99, 97, 99, 104, 101, 45, 99, 111, 110, 116, 114, 111, 108]⟩ (World.cell?_alloc_mark _ _ _ _ _)
        have O3 : Hid (OwnsF (w2.alloc (.cells #[.string ⟨#[99, 97, 99, 104, 101, 45, 99, 111, 110, 116, 114, 111, 108]⟩, .string ⟨#[]⟩] 83)) w.heap.size (.slice ua l.length uc) l) := O2.out.alloc _
        have B3 : Hid (Beside b w (w2.alloc (.cells #[.string ⟨#[99, 97, 99, 104, 101, 45, 99, 111, 110, 116, 114, 111, 108]⟩, .string ⟨#[]⟩] 83))) := B2.out.more9 _
        have C3 : Hid (Cur (w2.alloc (.cells #[.string ⟨#[99, 97, 99, 104, 101, 45, 99, 111, 110, 116, 114, 111, 108]⟩, .string ⟨#[]⟩] 83)) b sa sl sc) := C2.out.more9 _
        have f0 : Hid ((w2.alloc (.cells #[.string ⟨#[99, 97, 99, 104, 101, 45, 99, 111, 110, 116, 114, 111, 108]⟩, .string ⟨#[]⟩] 83)).cell? ⟨w2.heap.size, 0, Option.none⟩ = some (.string ⟨#[99, 97, 99, 104, 101, 45, 99, 111, 110, 116, 114, 111, 108]⟩)) := World.cell?_alloc_mark _ _ _ _ _
        have f1 : Hid ((w2.alloc (.cells #[.string ⟨#[99, 97, 99, 104, 101, 45, 99, 111, 110, 116, 114, 111, 108]⟩, .string ⟨#[]⟩] 83)).cell? ⟨w2.heap.size, 1, Option.none⟩ = some (.string ⟨#[]⟩)) := World.cell?_alloc_mark _ _ _ _ _
        have ff : Hid ((w2.alloc (.cells #[.string ⟨#[99, 97, 99, 104, 101, 45, 99, 111, 110, 116, 114, 111, 108]⟩, .string ⟨#[]⟩] 83)).frozen? ⟨w2.heap.size, 1, Option.none⟩ = false) := by show _ = _; rw [World.frozen?_alloc_mark]; simp
        have hs3 : Hid ((w2.alloc (.cells #[.string ⟨#[99, 97, 99, 104, 101, 45, 99, 111, 110, 116, 114, 111, 108]⟩, .string ⟨#[]⟩] 83)).heap.size = w2.heap.size + 1) := by show _ = _; simp
        clear O2 B2 C2
        go_wp2_with fail
        refine (l9DrawText b sa sl sc _ C3.out).mono ?_
        rintro e w4 ⟨⟨s, rfl, hs⟩, hc4, hb4⟩
        have O4 : Hid (OwnsF w4 w.heap.size (.slice ua l.length uc) l) := O3.out.beside10 hb4 hbz
        have B4 : Hid (Beside b w w4) := B3.out.trans hb4
        have C4 : Hid (Cur w4 b sa sl sc) := hc4
        have g0 := besideCell hb4 (by omega) f0.out
        have g1 := besideCell hb4 (by omega) f1.out
        have gf : w4.frozen? ⟨w2.heap.size, 1, Option.none⟩ = false := (World.frozen?_of_block (a := ⟨w2.heap.size, 1, Option.none⟩) (hb4.2.2.2.2 w2.heap.size (by rw [hs3.out]; omega) (by omega))).trans ff.out
        clear hb4 hc4 O3 B3 C3 f0 f1 ff hcell
        have ht := trimB_size s
        have hT := fun W => specTrim s W (by omega)
        generalize trimB s = t at ht hT
        go_wp2_with fail
        refine (hT _).mono ?_
        rintro e w5 ⟨rfl, rfl⟩
        clear hT
        have htz : t.size ≤ 84 := by omega
        have O6 : Hid (OwnsF (w4.setCell ⟨w2.heap.size, 1, Option.none⟩ (.string t)) w.heap.size (.slice ua l.length uc) l) := O4.out.but10 HN.out _
        have B6 : Hid (Beside b w (w4.setCell ⟨w2.heap.size, 1, Option.none⟩ (.string t))) := B4.out.set10 (by omega) _
        have C6 : Hid (Cur (w4.setCell ⟨w2.heap.size, 1, Option.none⟩ (.string t)) b sa sl sc) := C4.out.kept (below_set10 _ _ _ _) hb2z
        have h0 : (w4.setCell ⟨w2.heap.size, 1, Option.none⟩ (.string t)).cell? ⟨w2.heap.size, 0, Option.none⟩ = some (.string ⟨#[99, 97, 99, 104, 101, 45, 99, 111, 110, 116, 114, 111, 108]⟩) := by rw [World.cell?_setCell_other _ _ _ _ (by simp)]; exact g0
        have h1 : (w4.setCell ⟨w2.heap.size, 1, Option.none⟩ (.string t)).cell? ⟨w2.heap.size, 1, Option.none⟩ = some (.string t) := World.cell?_setCell_same _ _ _ g1
        clear O4 B4 C4
        go_upto_region 20 with fail
        generalize w4.setCell ⟨w2.heap.size, 1, Option.none⟩ (.string t) = w6 at O6 B6 C6 h0 h1 ⊢
        go_wp2_with (at_builtin; refine wpList_pushF _ rfl (.tmp 58) (.tmp 60) rfl w.heap.size _ _ (⟨#[99, 97, 99, 104, 101, 45, 99, 111, 110, 116, 114, 111, 108]⟩, t) rfl O6.out rfl (by omega) B6.out.2.2.2.1 ?_; intro v7 w7 ho7 hg7)
        have O7 : Hid (OwnsF w7 w.heap.size v7 (l ++ [(⟨#[99, 97, 99, 104, 101, 45, 99, 111, 110, 116, 114, 111, 108]⟩, t)])) := ho7
        have B7 : Hid (Beside b w w7) := B6.out.grown10 hg7 (OwnsF.from O6.out)
        have C7 : Hid (Cur w7 b sa sl sc) := C6.out.kept (grown_low10 hg7 (OwnsF.from O6.out) B6.out.2.2.2.1) hbz
        have S7 : Hid (∀ f ∈ l ++ [(⟨#[99, 97, 99, 104, 101, 45, 99, 111, 110, 116, 114, 111, 108]⟩, t)], f.1.size ≤ 13 ∧ f.2.size ≤ 84) := fun g hg => by
          rcases List.mem_append.1 hg with hg | hg
          · exact hsm.out g hg
          · rw [List.mem_singleton.1 hg]; exact ⟨by show (⟨#[99, 97, 99, 104, 101, 45, 99, 111, 110, 116, 114, 111, 108]⟩ : ByteArray).size ≤ 13; decide, htz⟩
        clear ho7 hg7 O6 B6 C6 hsm h0 h1
        go_roundw
        case rel => exact ⟨k - 1, l ++ [(⟨#[99, 97, 99, 104, 101, 45, 99, 111, 110, 116, 114, 111, 108]⟩, t)], by go_num, by simp; omega, S7, O7, C7, B7⟩
        case measure => simp [intOf]; omega
    · go_wp2
      go_ret
      exact ⟨⟨_, l, rfl, hown.out, by omega, hsm.out⟩, hcur.out, hbes.out⟩
end Go.Proofs.YtemmgfnepdgpbaaGreatDoor
namespace Go.Proofs.YtemmgfnepdgpbaaGreatDoor
open Go.RowKit Go.Sort
set_option linter.unusedVariables false
set_option linter.unusedSimpArgs false

/-- A small response of few fields. -/
def FewR (r : Rs) : Prop := FewF 3 r.l ∧ (200 ≤ r.s ∧ r.s ≤ 500) ∧ r.b.size ≤ 3
def gRs (B : Nat) (x : World) (v : Value) : Prop := ∃ r u, v = rsV r u ∧ OwnsF x B u r.l ∧ FewR r
theorem gRs.keep {b B : Nat} {x y : World} {v : Value} (h : gRs B x v) (hb : Beside b x y) (hB : b < B) : gRs B y v := by obtain ⟨r, u, h0, h1, h2⟩ := h; exact ⟨r, u, h0, h1.beside10 hb hB, h2⟩
theorem Beside.grow10 {b B : Nat} {w x y : World} (h : Beside b w x) (hb : Below B x y) (hB : w.heap.size ≤ B) : Beside b w y :=
  ⟨hb.os.trans h.1, hb.tape.trans h.2.1, hb.output.trans h.2.2.1, Nat.le_trans h.2.2.2.1 hb.size, fun k hk hne => (hb.block k (by omega)).trans (h.2.2.2.2 k hk hne)⟩
def frR (b n B : Nat) (t : Nat → Value) : Act := { tmps := #[.pointer (some ⟨b, 0, none⟩), undef, .pointer (some ⟨n, 0, none⟩), t 3, t 4, t 5, t 6, t 7, t 8, t 9, t 10, t 11, undef, undef, undef, undef, undef, undef, undef], defers := [] }
def dR (i : Nat) : Nat := if i = 0 then 4 else if i = 1 then 5 else if i = 2 then 6 else if i = 3 then 7 else if i = 4 then 8 else if i = 5 then 9 else if i = 6 then 10 else if i = 7 then 11 else if i = 8 then 3 else i + 5000
def GR (b n B : Nat) (i : Nat) (x : World) (v : Value) : Prop := match i with
  | 0 => gTabI b [200, 200, 404, 204, 500] x v
  | 1 => v = .pointer (some ⟨b, 0, none⟩)
  | 2 => gNum 5 v
  | 3 => gPtI b [200, 200, 404, 204, 500] x v
  | 4 => gInt (200) (500) v
  | 5 => v = .pointer (some ⟨b, 0, none⟩)
  | 6 => gFl B 3 x v
  | 7 => gRs B x v
  | 8 => gBox b B #[.int .i64 0, .slice none 0 0, .string ⟨#[]⟩] 26 x v
  | _ => True
theorem GR.keep (b n B : Nat) {x y : World} (hb : Beside b x y) (hB : b < B) (j : Nat) (v : Value) (hj : j < 9) (h : GR b n B j x v) : GR b n B j y v := by
  rcases (show j = 0 ∨ j = 1 ∨ j = 2 ∨ j = 3 ∨ j = 4 ∨ j = 5 ∨ j = 6 ∨ j = 7 ∨ j = 8 by omega) with rfl | rfl | rfl | rfl | rfl | rfl | rfl | rfl | rfl
  · exact gTabI.keep h hb
  · exact h
  · exact h
  · exact gPtI.keep h hb
  · exact h
  · exact h
  · exact gFl.keep h hb hB
  · exact gRs.keep h hb hB
  · exact gBox.keep h hb
theorem dR_ne {i j : Nat} (hi : i < 9) (hj : j < 9) (h : j ≠ i) : dR j ≠ dR i := by
  rcases (show i = 0 ∨ i = 1 ∨ i = 2 ∨ i = 3 ∨ i = 4 ∨ i = 5 ∨ i = 6 ∨ i = 7 ∨ i = 8 by omega) with rfl | rfl | rfl | rfl | rfl | rfl | rfl | rfl | rfl <;> rcases (show j = 0 ∨ j = 1 ∨ j = 2 ∨ j = 3 ∨ j = 4 ∨ j = 5 ∨ j = 6 ∨ j = 7 ∨ j = 8 by omega) with rfl | rfl | rfl | rfl | rfl | rfl | rfl | rfl | rfl <;> first | (exact absurd rfl h) | decide
set_option maxRecDepth 100000 in
set_option maxHeartbeats 8000000 in
theorem l10DrawR (b : Nat) (sa : Option Addr) (sl sc : Nat) (w : World) (hc : Cur w b sa sl sc) :
    Calls Tryz.prog 108 #[.pointer (some ⟨b, 0, none⟩)] w fun e w' => (∃ v, e = .returned v ∧ gRs w.heap.size w' v) ∧ Cur w' b sa sl sc ∧ Beside b w w' := by
  have hbz : b < w.heap.size := hc.2.2.1
  obtain ⟨B, hB⟩ : ∃ B, B = w.heap.size + 1 := ⟨_, rfl⟩
  have hBb : b < B := by omega
  have hBx : ∀ x, SCur b sa sl sc (w.alloc (.cells #[.int .i64 0, .slice none 0 0, .string ⟨#[]⟩] 26)) x → B ≤ x.heap.size := fun x h => by have := h.size; simp at this; omega
  have hS0 : SCur b sa sl sc (w.alloc (.cells #[.int .i64 0, .slice none 0 0, .string ⟨#[]⟩] 26)) (w.alloc (.cells #[.int .i64 0, .slice none 0 0, .string ⟨#[]⟩] 26)).drew := ⟨(hc.more9 _), ⟨rfl, rfl, rfl, Nat.le_refl _, fun _ _ _ => rfl⟩⟩
  go_enter Tryz.func108, Tryz.ntmps108
  go_wp2
  refine region_heads 9 mixed (by decide) (by kernel_rfl) (by kernel_rfl) (by kernel_rfl) (by kernel_rfl) (frR b w.heap.size B) dR (SCur b sa sl sc (w.alloc (.cells #[.int .i64 0, .slice none 0 0, .string ⟨#[]⟩] 26))) (GR b w.heap.size B) (fun i j hi hj h => dR_ne hi hj h) ?put (fun _ => undef) rfl ?hS ?step ?done
  case put =>
    intro i o hi ho t v
    rcases (show i = 0 ∨ i = 1 ∨ i = 2 ∨ i = 3 ∨ i = 4 ∨ i = 5 ∨ i = 6 ∨ i = 7 ∨ i = 8 by omega) with rfl | rfl | rfl | rfl | rfl | rfl | rfl | rfl | rfl
    all_goals
      obtain rfl := Option.some.inj ho
      rfl
  case step =>
    intro i o hi ho t x hS hdep K hK
    rcases (show i = 0 ∨ i = 1 ∨ i = 2 ∨ i = 3 ∨ i = 4 ∨ i = 5 ∨ i = 6 ∨ i = 7 ∨ i = 8 by omega) with rfl | rfl | rfl | rfl | rfl | rfl | rfl | rfl | rfl
    all_goals obtain rfl := Option.some.inj ho
    · have HK : Hid (K ((frR b w.heap.size B t).put (some 4) (.slice (some ⟨x.heap.size, 0, none⟩) 5 5)) (x.alloc (.cells (List.map (Value.int .i64) [200, 200, 404, 204, 500]).toArray 2))) := hK _ _ (hS.more _) (fun j u hj hne h => GR.keep b w.heap.size B (besAlloc b x _) hBb j u hj h) ⟨x.heap.size, rfl, newAt x _, (by have := hS.lt; omega)⟩
      unfold frR
      go_simp
      exact HK.out
    · have HK : Hid (K ((frR b w.heap.size B t).put (some 5) (.pointer (some ⟨b, 0, none⟩))) x) := hK _ _ hS (fun j u hj hne h => h) rfl
      unfold frR
      go_simp
      exact HK.out
    · have e : t 5 = .pointer (some ⟨b, 0, none⟩) := hdep { on := 1, ground := Ground.data } (by simp) rfl
      exact step_below rfl 5 (by decide) (by decide) (.tmp 5) _ rfl e hS (fun v y k1 k2 k3 => hK v y k1 (fun j u hj hne h => GR.keep b w.heap.size B k2 hBb j u hj h) k3)
    · have ga : gTabI b [200, 200, 404, 204, 500] x (t 4) := hdep { on := 0, ground := Ground.data } (by simp) rfl
      obtain ⟨g, ea, hT, hgb⟩ := ga
      have gc : gNum 5 (t 6) := hdep { on := 2, ground := Ground.data } (by simp) rfl
      obtain ⟨k, ec, hk⟩ := gc
      have hkI : (k : Int) < 5 := by omega
      have hk0 : ¬ (k : Int) < 0 := by omega
      have HK : Hid (K ((frR b w.heap.size B t).put (some 7) (.pointer (some ⟨g, k, none⟩))) x) := hK _ _ hS (fun j u hj hne h => h) ⟨g, k, rfl, hk, hT, hgb⟩
      have h2 := HK.out
      unfold frR at h2 ⊢
      go_simp
      simpa [Act.put, ea, ec, hkI] using h2
    · have ga : gPtI b [200, 200, 404, 204, 500] x (t 7) := hdep { on := 3, ground := Ground.data } (by simp) rfl
      obtain ⟨g, k, ea, hk, hT, hgb⟩ := ga
      obtain ⟨z, hz0, hz1, c0⟩ : ∃ z : Int, 200 ≤ z ∧ z ≤ 500 ∧ x.cell? ⟨g, k, none⟩ = some (.int .i64 z) := ⟨_, ((by decide : ∀ s ∈ ([200, 200, 404, 204, 500] : List Int), (200) ≤ s ∧ s ≤ 500) _ (List.getElem_mem hk)).1, ((by decide : ∀ s ∈ ([200, 200, 404, 204, 500] : List Int), (200) ≤ s ∧ s ≤ 500) _ (List.getElem_mem hk)).2, tabI_at hT hk⟩
      have HK : Hid (K ((frR b w.heap.size B t).put (some 8) (.int .i64 z)) x) := hK _ _ hS (fun j u hj hne h => h) ⟨z, rfl, hz0, hz1⟩
      have h2 := HK.out
      unfold frR at h2 ⊢
      go_simp
      simpa [Act.put, ea, c0] using h2
    · have HK : Hid (K ((frR b w.heap.size B t).put (some 9) (.pointer (some ⟨b, 0, none⟩))) x) := hK _ _ hS (fun j u hj hne h => h) rfl
      unfold frR
      go_simp
      exact HK.out
    · have e : t 9 = .pointer (some ⟨b, 0, none⟩) := hdep { on := 5, ground := Ground.data } (by simp) rfl
      exact step_draw1 rfl 135 (.tmp 9) _ rfl e hS (Go.Proofs.enters_of Tryz.func135 (by kernel_rfl) rfl) (fun x v => gFl B 3 x v) ((l10DrawFields b sa sl sc x hS.1).mono fun e y ⟨⟨u, l, h0, h1, h2⟩, h3, h4⟩ => ⟨⟨u, h0, l, h1.low (hBx x hS), h2⟩, h3, h4⟩) (fun v y k1 k2 k3 => hK v y k1 (fun j u hj hne h => GR.keep b w.heap.size B k2 hBb j u hj h) k3)
    · have ga : gInt 200 500 (t 8) := hdep { on := 4, ground := Ground.data } (by simp) rfl
      obtain ⟨z, ea, hz0, hz1⟩ := ga
      have gc : gFl B 3 x (t 10) := hdep { on := 6, ground := Ground.data } (by simp) rfl
      obtain ⟨l, ho, hl⟩ := gc
      obtain ⟨A5, cap5, ec, _⟩ := ho.form
      rw [ec] at ho
      have HK : Hid (K ((frR b w.heap.size B t).put (some 11) (.agg #[.int .i64 z, .slice A5 l.length cap5, .string ⟨#[]⟩])) x) := hK _ _ hS (fun j u hj hne h => h) ⟨⟨z, l, ⟨#[]⟩⟩, .slice A5 l.length cap5, rfl, ho, hl, ⟨hz0, hz1⟩, Nat.zero_le _⟩
      have h2 := HK.out
      unfold frR at h2 ⊢
      go_simp
      simpa [Act.put, ea, ec] using h2
    · have HK : Hid (K ((frR b w.heap.size B t).put (some 3) (.pointer (some ⟨x.heap.size, 0, none⟩))) (x.alloc (.cells #[.int .i64 0, .slice none 0 0, .string ⟨#[]⟩] 26))) := hK _ _ (hS.more _) (fun j u hj hne h => GR.keep b w.heap.size B (besAlloc b x _) hBb j u hj h) ⟨x.heap.size, rfl, newAt x _, (by have := hS.lt; omega), hBx x hS⟩
      unfold frR
      go_simp
      exact HK.out
  case hS => exact hS0
  case done =>
    intro t x hS hG
    obtain ⟨r, u, e11, ho, hr⟩ : gRs B x (t 11) := hG 7 (by decide)
    obtain ⟨g, e3, hT, hgb, hgB⟩ : gBox b B #[.int .i64 0, .slice none 0 0, .string ⟨#[]⟩] 26 x (t 3) := hG 8 (by decide)
    obtain ⟨A5, cap5, rfl, _⟩ := ho.form
    have G0 : Hid (RsB x g noS (.slice none 0 0)) := ⟨rowCell hT, rowCell hT, rowCell hT, fun k => by simp [World.frozen?, hT], (Array.getElem?_eq_some_iff.1 hT).1⟩
    have N0 : Hid (RsB x w.heap.size noS (.slice none 0 0)) := (RsB.new w noS (.slice none 0 0) 26).same (hS.2.2.2.2.2 w.heap.size (by simp) (by omega)) hS.size
    have hT1 := heap_setCell_same x g 0 _ _ (.int .i64 r.s) hT
    have o1 := ho.besides10 (k := 0) hT (by decide) (.int .i64 r.s)
    have hT2 := heap_setCell_same _ g 1 _ _ (.slice A5 r.l.length cap5) hT1
    have o2 := o1.besides10 (k := 1) hT1 (by decide) (.slice A5 r.l.length cap5)
    have hT3 := heap_setCell_same _ g 2 _ _ (.string r.b) hT2
    have o3 := o2.besides10 (k := 2) hT2 (by decide) (.string r.b)
    have hbs : Below B x (((x.setCell ⟨g, 0, none⟩ (.int .i64 r.s)).setCell ⟨g, 1, none⟩ (.slice A5 r.l.length cap5)).setCell ⟨g, 2, none⟩ (.string r.b)) := (((Below.refl B x).setCell (p := ⟨g, 0, none⟩) hgB _).setCell (p := ⟨g, 1, none⟩) hgB _).setCell (p := ⟨g, 2, none⟩) hgB _
    have G1 : Hid (RsB (((x.setCell ⟨g, 0, none⟩ (.int .i64 r.s)).setCell ⟨g, 1, none⟩ (.slice A5 r.l.length cap5)).setCell ⟨g, 2, none⟩ (.string r.b)) g r (.slice A5 r.l.length cap5)) := G0.out.puts10 r _
    have N1 : Hid (RsB (((x.setCell ⟨g, 0, none⟩ (.int .i64 r.s)).setCell ⟨g, 1, none⟩ (.slice A5 r.l.length cap5)).setCell ⟨g, 2, none⟩ (.string r.b)) w.heap.size noS (.slice none 0 0)) := N0.out.same (hbs.block _ (by omega)) hbs.size
    have O1 : Hid (OwnsF (((x.setCell ⟨g, 0, none⟩ (.int .i64 r.s)).setCell ⟨g, 1, none⟩ (.slice A5 r.l.length cap5)).setCell ⟨g, 2, none⟩ (.string r.b)) B (.slice A5 r.l.length cap5) r.l) := o3
    have C1 : Hid (Cur (((x.setCell ⟨g, 0, none⟩ (.int .i64 r.s)).setCell ⟨g, 1, none⟩ (.slice A5 r.l.length cap5)).setCell ⟨g, 2, none⟩ (.string r.b)) b sa sl sc) := hS.1.kept hbs hBb
    have T1 : Hid ((((x.setCell ⟨g, 0, none⟩ (.int .i64 r.s)).setCell ⟨g, 1, none⟩ (.slice A5 r.l.length cap5)).setCell ⟨g, 2, none⟩ (.string r.b)).heap[g]? = some (.cells #[.int .i64 r.s, .slice A5 r.l.length cap5, .string r.b] 26 (0, 0))) := hT3
    have S1 : Hid (Beside b w (((x.setCell ⟨g, 0, none⟩ (.int .i64 r.s)).setCell ⟨g, 1, none⟩ (.slice A5 r.l.length cap5)).setCell ⟨g, 2, none⟩ (.string r.b))) := (((Beside.refl b w).more9 _).trans hS.2).grow10 hbs (by omega)
    obtain ⟨g0, g1, g2, gf, gh⟩ := G0.out
    simp only [noS] at g0 g1 g2
    clear hT1 hT2 hT3 o1 o2 o3 hbs G0 N0 hT ho hS hG hc
    unfold rsV at e11
    unfold frR
    rw [e3, e11]
    clear e3 e11
    go_upto_region 2 with fail
    generalize (((x.setCell ⟨g, 0, none⟩ (.int .i64 r.s)).setCell ⟨g, 1, none⟩ (.slice A5 r.l.length cap5)).setCell ⟨g, 2, none⟩ (.string r.b)) = y at G1 N1 O1 C1 T1 S1 ⊢
    clear g0 g1 g2 gf gh
    obtain ⟨g0, g1, g2, gf, gh⟩ := G1.out
    by_cases h204 : r.s = 204
    · have d204 : (r.s == 204) = true := by simpa using h204
      clear h204
      have N2 := N1
      obtain ⟨n0, n1, n2, nf, nh⟩ := N2.out
      simp only [noS] at n0 n1 n2
      have P1 : Hid (RsB (((y.setCell ⟨w.heap.size, 0, none⟩ (.int .i64 r.s)).setCell ⟨w.heap.size, 1, none⟩ (.slice A5 r.l.length cap5)).setCell ⟨w.heap.size, 2, none⟩ (.string r.b)) w.heap.size ⟨r.s, r.l, r.b⟩ (.slice A5 r.l.length cap5)) := N2.out.puts10 ⟨r.s, r.l, r.b⟩ _
      have BP : Hid (Below w.heap.size y (((y.setCell ⟨w.heap.size, 0, none⟩ (.int .i64 r.s)).setCell ⟨w.heap.size, 1, none⟩ (.slice A5 r.l.length cap5)).setCell ⟨w.heap.size, 2, none⟩ (.string r.b))) := (((Below.refl _ y).setCell (p := ⟨w.heap.size, 0, none⟩) (Nat.le_refl _) _).setCell (p := ⟨w.heap.size, 1, none⟩) (Nat.le_refl _) _).setCell (p := ⟨w.heap.size, 2, none⟩) (Nat.le_refl _) _
      have Q1 : Hid (OwnsF (((y.setCell ⟨w.heap.size, 0, none⟩ (.int .i64 r.s)).setCell ⟨w.heap.size, 1, none⟩ (.slice A5 r.l.length cap5)).setCell ⟨w.heap.size, 2, none⟩ (.string r.b)) B (.slice A5 r.l.length cap5) r.l) := ((O1.out.putlow10 (by omega) 0 _).putlow10 (by omega) 1 _).putlow10 (by omega) 2 _
      go_wp2
      have p0 := P1.out.c0
      have p1 := P1.out.c1
      have p2 := P1.out.c2
      simp only at p0 p1 p2
      refine bodyPost_ret (v := rsV ⟨r.s, r.l, r.b⟩ (.slice A5 r.l.length cap5)) (by unfold rsV; simp [results, Tryz.results108, go_sem, p0, p1, p2]) rfl ⟨⟨_, rfl, ⟨r.s, r.l, r.b⟩, _, rfl, Q1.out.low (by omega), hr⟩, C1.out.kept BP.out hbz, S1.out.grow10 BP.out (Nat.le_refl _)⟩
    · have d204 : (r.s == 204) = false := by simpa using h204
      have hgz : g < y.heap.size := gh
      go_wp2_with fail
      refine (l1DrawText b sa sl sc ⟨#[97, 98]⟩ 3 (by decide) (by decide) (by decide) y C1.out).mono ?_
      rintro e z ⟨tt, rfl, ht, hc2, hb2⟩
      have C2 : Hid (Cur z b sa sl sc) := hc2
      have G2 : Hid (RsB z g r (.slice A5 r.l.length cap5)) := G1.out.same (hb2.2.2.2.2 g hgz hgb) hb2.2.2.2.1
      have M2 : Hid (RsB z w.heap.size noS (.slice none 0 0)) := N1.out.same (hb2.2.2.2.2 _ N1.out.hi (by omega)) hb2.2.2.2.1
      have O2 : Hid (OwnsF z B (.slice A5 r.l.length cap5) r.l) := O1.out.beside10 hb2 hBb
      have S2 : Hid (Beside b w z) := S1.out.trans hb2
      have T2 : Hid (z.heap[g]? = some (.cells #[.int .i64 r.s, .slice A5 r.l.length cap5, .string r.b] 26 (0, 0))) := besAt hb2 T1.out hgb
      clear hb2 hc2 G1 N1 O1 C1 T1 S1 g0 g1 g2 gf gh
      have hbs : Below B z (z.setCell ⟨g, 2, none⟩ (.string tt)) := (Below.refl B z).setCell (p := ⟨g, 2, none⟩) hgB _
      have G3 : Hid (RsB (z.setCell ⟨g, 2, none⟩ (.string tt)) g ⟨r.s, r.l, tt⟩ (.slice A5 r.l.length cap5)) := G2.out.put2 tt
      have N2 : Hid (RsB (z.setCell ⟨g, 2, none⟩ (.string tt)) w.heap.size noS (.slice none 0 0)) := M2.out.same (hbs.block _ (by omega)) hbs.size
      have O3 : Hid (OwnsF (z.setCell ⟨g, 2, none⟩ (.string tt)) B (.slice A5 r.l.length cap5) r.l) := O2.out.besides10 (k := 2) T2.out (by decide) _
      have C3 : Hid (Cur (z.setCell ⟨g, 2, none⟩ (.string tt)) b sa sl sc) := C2.out.kept hbs hBb
      have S3 : Hid (Beside b w (z.setCell ⟨g, 2, none⟩ (.string tt))) := S2.out.grow10 hbs (by omega)
      obtain ⟨g0, g1, g2, gf, gh⟩ := G2.out
      clear hbs M2 O2 C2 S2 T2 G2
      go_upto_region 4 with fail
      generalize z.setCell ⟨g, 2, none⟩ (.string tt) = y2 at G3 N2 O3 C3 S3 ⊢
      clear g0 g1 g2 gf gh
      obtain ⟨g0, g1, g2, gf, gh⟩ := G3.out
      simp only at g0 g1 g2
      obtain ⟨n0, n1, n2, nf, nh⟩ := N2.out
      simp only [noS] at n0 n1 n2
      have P1 : Hid (RsB (((y2.setCell ⟨w.heap.size, 0, none⟩ (.int .i64 r.s)).setCell ⟨w.heap.size, 1, none⟩ (.slice A5 r.l.length cap5)).setCell ⟨w.heap.size, 2, none⟩ (.string tt)) w.heap.size ⟨r.s, r.l, tt⟩ (.slice A5 r.l.length cap5)) := N2.out.puts10 ⟨r.s, r.l, tt⟩ _
      have BP : Hid (Below w.heap.size y2 (((y2.setCell ⟨w.heap.size, 0, none⟩ (.int .i64 r.s)).setCell ⟨w.heap.size, 1, none⟩ (.slice A5 r.l.length cap5)).setCell ⟨w.heap.size, 2, none⟩ (.string tt))) := (((Below.refl _ y2).setCell (p := ⟨w.heap.size, 0, none⟩) (Nat.le_refl _) _).setCell (p := ⟨w.heap.size, 1, none⟩) (Nat.le_refl _) _).setCell (p := ⟨w.heap.size, 2, none⟩) (Nat.le_refl _) _
      have Q1 : Hid (OwnsF (((y2.setCell ⟨w.heap.size, 0, none⟩ (.int .i64 r.s)).setCell ⟨w.heap.size, 1, none⟩ (.slice A5 r.l.length cap5)).setCell ⟨w.heap.size, 2, none⟩ (.string tt)) B (.slice A5 r.l.length cap5) r.l) := ((O3.out.putlow10 (by omega) 0 _).putlow10 (by omega) 1 _).putlow10 (by omega) 2 _
      go_wp2
      have p0 := P1.out.c0
      have p1 := P1.out.c1
      have p2 := P1.out.c2
      simp only at p0 p1 p2
      refine bodyPost_ret (v := rsV ⟨r.s, r.l, tt⟩ (.slice A5 r.l.length cap5)) (by unfold rsV; simp [results, Tryz.results108, go_sem, p0, p1, p2]) rfl ⟨⟨_, rfl, ⟨r.s, r.l, tt⟩, _, rfl, Q1.out.low (by omega), ⟨hr.1, hr.2.1, ht⟩⟩, C3.out.kept BP.out hbz, S3.out.grow10 BP.out (Nat.le_refl _)⟩
end Go.Proofs.YtemmgfnepdgpbaaGreatDoor
