/-
  A date shown: the specification's and the program's contracts.
  The contracts of Digits, the specification's and the program's.
  The parts of a date that is shown.
  Drawn dates and fields for policy.
-/
import Derived.Test.YtnachhmhjodbhaaGreatDoorG38
import Derived.Test.YtnachhmhjodbhaaGreatDoorProg
import Derived.Lib.SmallJoins
import Derived.BigQuiet
import Derived.Test.YtnachhmhjodbhaaGreatDoorG07
import Derived.Test.YtnachhmhjodbhaaGreatDoorG19
import Derived.Test.YtnachhmhjodbhaaGreatDoorG36
import Derived.WalkKit
import Derived.WalkSpells
import Derived.Deep.LoopGhost
import Derived.Test.YtnachhmhjodbhaaGreatDoorG35
import Derived.Deep.DeepCutAuto
namespace Go.Proofs.YtnachhmhjodbhaaGreatDoor.Dd
open Go.RowKit Go.Sort

theorem wkN_size (k : Int) : (wkN k).size = 3 := by
  unfold wkN
  repeat' split
  all_goals rfl
theorem moN_size (m : Int) : (moN m).size = 3 := by
  unfold moN
  repeat' split
  all_goals rfl
/-- A date as it is shown. -/
def showA (y m d h i s : Int) : ByteArray := wkN ((dayN y m d + 4) % 7) ++ ⟨#[44, 32]⟩ ++ two d ++ ⟨#[32]⟩ ++ moN m ++ ⟨#[32]⟩ ++ two (y / 100) ++ two y ++ ⟨#[32]⟩ ++ two h ++ ⟨#[58]⟩ ++ two i ++ ⟨#[58]⟩ ++ two s ++ ⟨#[32, 71, 77, 84]⟩
theorem specWkIs {y m d h i s k : Int} (ok : okB y m d h i s = true) (hk : (dayN y m d + 4) % 7 = k) (w : World) :
    Calls Tryz.prog 134 #[.agg #[.int .i64 y, .int .i64 m, .int .i64 d, .int .i64 h, .int .i64 i, .int .i64 s]] w fun e w' => e = .returned (.int .i64 k) ∧ Grew w w' := hk ▸ specWk_in y m d h i s w ok
set_option maxHeartbeats 4000000 in
theorem specShow_in (y m d h i s : Int) (w : World) (hok : okB y m d h i s = true) :
    Calls Tryz.prog 126 #[.agg #[.int .i64 y, .int .i64 m, .int .i64 d, .int .i64 h, .int .i64 i, .int .i64 s]] w fun e w' => e = .returned (.string (showA y m d h i s)) ∧ Grew w w' := by
  have ok : okD y m d h i s := of_decide_eq_true hok
  have hd31 := mdays_bd y m
  have OK : Hid (okD y m d h i s ∧ okB y m d h i s = true) := ⟨ok, hok⟩
  have hy : 1970 ≤ y ∧ y ≤ 9999 := ok.1
  have hm : 1 ≤ m ∧ m ≤ 12 := ok.2.1
  have hd : 1 ≤ d ∧ d ≤ 31 := by have := ok.2.2.1; omega
  have hhh : 0 ≤ h ∧ h ≤ 23 := ok.2.2.2.1
  have hi : 0 ≤ i ∧ i ≤ 59 := ok.2.2.2.2.1
  have hs : 0 ≤ s ∧ s ≤ 59 := ok.2.2.2.2.2
  obtain ⟨k, hk⟩ : ∃ k, k = (dayN y m d + 4) % 7 := ⟨_, rfl⟩
  have hkb : 0 ≤ k ∧ k ≤ 6 := by omega
  have HK : Hid ((dayN y m d + 4) % 7 = k) := hk.symm
  have mix := mixed
  have s1 := wkN_size k
  have s2 := moN_size m
  have s3 := two_size
  have hq : y.tdiv 100 = y / 100 := Int.tdiv_eq_ediv_of_nonneg (by omega)
  clear ok hk hd31
  go_enter Tryz.func126, Tryz.ntmps126
  go_wp2_with (go_at_call 132; refine (specOk _ _ _ _ _ _ _).mono ?_; rintro e x2 ⟨rfl, hb2⟩; rw [hok]; have hg2 : Grew w x2 := ((Grew.refl w).alloc _).trans hb2; have kk := fun n os => boxCells ((hb2.drewN n).more os); clear hb2)
  have k0 := fun n os => (kk n os).1
  have k1 := fun n os => (kk n os).2.1
  have k2 := fun n os => (kk n os).2.2.1
  have k3 := fun n os => (kk n os).2.2.2.1
  have k4 := fun n os => (kk n os).2.2.2.2.1
  have k5 := fun n os => (kk n os).2.2.2.2.2
  clear kk hok
  refine wp_region_quiet_grown mix (by kernel_rfl) ?_
  repeat (go_big_quiet_step (first | (go_at_call 134; exact callGrew (specWkIs OK.out.2 HK.out _)) | (go_at_call 133; exact callSame (specWkN _ _ hkb.1 hkb.2)) | (go_at_call 135; exact callGrew (specTwo _ _ (by omega) (by omega))) | (go_at_call 136; exact callSame (specMoN _ _ hm.1 hm.2))))
  refine wpQuiet_nil ?_
  intro _ hw'
  obtain ⟨⟨nq, osq⟩, hw''⟩ := hw'
  subst hw''
  go_wp2_with fail
  go_ret
  exact ⟨ret_str (by unfold showA; rw [HK.out]), (hg2.drewN _).more _⟩

end Go.Proofs.YtnachhmhjodbhaaGreatDoor.Dd
namespace Go.Proofs.YtnachhmhjodbhaaGreatDoor.Dd
open Go.RowKit

theorem grew_iter (w : World) (s : ByteArray) (pos : Nat) : Grew w (w.iter s pos) := (Grew.refl w).alloc _
theorem implDigV_d (r : Int) (w : World) (h : 48 ≤ r ∧ r ≤ 57) :
    Calls Tryz.prog 139 #[.int .i32 r] w fun e w' => e = .returned (.int .i64 (digV r)) ∧ w' = w := by
  have hd := (digV_d h).symm
  have HD : Hid (_ = digV r) := hd
  clear hd
  obtain ⟨h1, h2⟩ := h
  go_enter Tryz.func139, Tryz.ntmps139
  go_wp2
  go_ret
  exact ⟨ret_int HD.out, rfl⟩
theorem implDigV_a (r : Int) (w : World) (h : 97 ≤ r ∧ r ≤ 102) :
    Calls Tryz.prog 139 #[.int .i32 r] w fun e w' => e = .returned (.int .i64 (digV r)) ∧ w' = w := by
  have hd := (digV_a h).symm
  have HD : Hid (_ = digV r) := hd
  clear hd
  obtain ⟨h1, h2⟩ := h
  go_enter Tryz.func139, Tryz.ntmps139
  go_wp2
  go_ret
  exact ⟨ret_int HD.out, rfl⟩
theorem implDigV_A (r : Int) (w : World) (h : 65 ≤ r ∧ r ≤ 70) :
    Calls Tryz.prog 139 #[.int .i32 r] w fun e w' => e = .returned (.int .i64 (digV r)) ∧ w' = w := by
  have hd := (digV_A h).symm
  have HD : Hid (_ = digV r) := hd
  clear hd
  obtain ⟨h1, h2⟩ := h
  go_enter Tryz.func139, Tryz.ntmps139
  go_wp2
  go_ret
  exact ⟨ret_int HD.out, rfl⟩
theorem implDigV_no (r : Int) (w : World) (h : ¬ (48 ≤ r ∧ r ≤ 57)) (h' : ¬ (97 ≤ r ∧ r ≤ 102)) (h'' : ¬ (65 ≤ r ∧ r ≤ 70)) :
    Calls Tryz.prog 139 #[.int .i32 r] w fun e w' => e = .returned (.int .i64 (digV r)) ∧ w' = w := by
  have hd := digV_no h h' h''
  have HD : Hid (digV r = -1) := hd
  clear hd
  rcases (show r < 48 ∨ (57 < r ∧ r < 65) ∨ (70 < r ∧ r < 97) ∨ 102 < r from by omega) with g | ⟨g, g'⟩ | ⟨g, g'⟩ | g
  all_goals
    clear h h' h''
    go_enter Tryz.func139, Tryz.ntmps139
    go_wp2
    go_ret
    exact ⟨ret_int HD.out.symm, rfl⟩
theorem implDigV (r : Int) (w : World) :
    Calls Tryz.prog 139 #[.int .i32 r] w fun e w' => e = .returned (.int .i64 (digV r)) ∧ w' = w := by
  by_cases h : 48 ≤ r ∧ r ≤ 57
  · exact implDigV_d r w h
  by_cases h' : 97 ≤ r ∧ r ≤ 102
  · exact implDigV_a r w h'
  by_cases h'' : 65 ≤ r ∧ r ≤ 70
  · exact implDigV_A r w h''
  · exact implDigV_no r w h h' h''

theorem implNum10_out (s : ByteArray) (w : World) (hs : s.size ≤ maxLen) (h : s.size < 1 ∨ 15 < s.size) :
    Calls Tryz.prog 128 #[.string s, .int .i64 10, .int .i64 15] w fun e w' => e = .returned (numE 10 15 s) ∧ Grew w w' := by
  unfold maxLen at hs
  have ht := numE_no (numOk_out (b := 10) h)
  have HT : Hid (_ = Ending.returned (numE 10 15 s)) := ht
  clear ht
  rcases h with h | h
  · go_enter Tryz.func128, Tryz.ntmps128
    go_wp2
    go_ret2
    exact ⟨HT.out, Grew.refl _⟩
  · have h' : ¬ s.size < 1 := by omega
    go_enter Tryz.func128, Tryz.ntmps128
    go_wp2
    go_ret2
    exact ⟨HT.out, Grew.refl _⟩

set_option maxHeartbeats 400000 in
theorem implNum10_in (s : ByteArray) (w : World) (h1 : 1 ≤ s.size) (h2 : s.size ≤ 15) :
    Calls Tryz.prog 128 #[.string s, .int .i64 10, .int .i64 15] w fun e w' => e = .returned (numE 10 15 s) ∧ Grew w w' := by
  have d1 : decide ((s.size : Int) < 1) = false := by simp; omega
  have d2 : decide (15 < (s.size : Int)) = false := by simp; omega
  go_enter Tryz.func128, Tryz.ntmps128
  go_wp2
  go_loopw [8] (fun v wr => ∃ (pos : Nat) (n : Int), pos ≤ s.size ∧ wr = w.iter s pos ∧ v = .int .i64 n ∧ 0 ≤ n ∧ n ≤ 1000000000000000 ∧ Hid (allB (digN 10) (s.data.toList.take pos) = true) ∧ Hid (n = numL 10 (s.data.toList.take pos))) (fun _ wr => s.size - wr.iterPos w.heap.size)
  case atStart => exact ⟨0, 0, Nat.zero_le _, rfl, rfl, by decide, by decide, allB_nil _ _, rfl⟩
  case round =>
    obtain ⟨pos, n, hpos, rfl, rfl, hn0, hn1, ha, hn⟩ := hrel
    by_cases hp : pos < s.size
    · by_cases hasc : (s[pos]).toNat < 128
      · have hnx : ∀ ty, (Instr.next (.pointer (some ⟨w.heap.size, 0, none⟩)) true ty).run Tryz.prog (w.iter s pos) = _ := fun ty => run_next_ascii w s pos ty hp hasc
        have hbd := digV_bd (s[pos].toNat : Int)
        by_cases hg : 0 ≤ digV (s[pos].toNat : Int) ∧ digV (s[pos].toNat : Int) < 10
        · have e2 := allB_step hp ha.out (digN_yes (b := 10) hg.1 hg.2)
          have e3 := numL_step hp hn.out
          have e4 := num_bound10 (by omega) (by omega) e2
          rw [← e3] at e4
          have H2 : Hid (allB (digN 10) (s.data.toList.take (pos + 1)) = true) := e2
          have H3 : Hid (n * 10 + digV (s[pos].toNat : Int) = numL 10 (s.data.toList.take (pos + 1))) := e3
          have H4 : Hid (0 ≤ n * 10 + digV (s[pos].toNat : Int) ∧ n * 10 + digV (s[pos].toNat : Int) ≤ 1000000000000000) := e4
          clear e2 e3 e4
          obtain ⟨hb1, hb2⟩ := hbd
          obtain ⟨hg1, hg2⟩ := hg
          go_wp2_with (go_at_call 139; refine (implDigV _ _).mono ?_; rintro e w' ⟨rfl, rfl⟩)
          go_roundw
          case rel => exact ⟨pos + 1, _, by omega, rfl, rfl, H4.out.1, H4.out.2, H2, H3⟩
          case measure => simp; omega
        · have hf := numE_no (numOk_in (b := 10) h1 h2 (allB_not hp (digN_no hg)))
          have HF : Hid (_ = Ending.returned (numE 10 15 s)) := hf
          clear hf
          rcases (show digV (s[pos].toNat : Int) < 0 ∨ (0 ≤ digV (s[pos].toNat : Int) ∧ 10 ≤ digV (s[pos].toNat : Int)) from by omega) with g | ⟨g, g'⟩
          all_goals
            clear hg
            go_wp2_with (go_at_call 139; refine (implDigV _ _).mono ?_; rintro e w' ⟨rfl, rfl⟩)
            go_ret2
            exact ⟨HF.out, grew_iter _ _ _⟩
      · have hnx : ∀ ty, (Instr.next (.pointer (some ⟨w.heap.size, 0, none⟩)) true ty).run Tryz.prog (w.iter s pos) = _ := fun ty => run_next_any w s pos ty hp
        have hd := (decode_high s pos hp (by omega)).1
        have hz : digV (s[pos].toNat : Int) = -1 := digV_high (by omega)
        have hf := numE_no (numOk_in (b := 10) h1 h2 (allB_not hp (digN_no (by omega))))
        have HF : Hid (_ = Ending.returned (numE 10 15 s)) := hf
        clear hf hz
        generalize (Utf8.decode s pos).1 = r at hnx hd
        generalize (Utf8.decode s pos).2 = p2 at hnx
        have ht : digV (r : Int) = -1 := digV_high (by omega)
        go_wp2_with (go_at_call 139; refine (implDigV _ _).mono ?_; rintro e w' ⟨rfl, rfl⟩)
        go_ret2
        exact ⟨HF.out, grew_iter _ _ _⟩
    · have hnx : ∀ ty, (Instr.next (.pointer (some ⟨w.heap.size, 0, none⟩)) true ty).run Tryz.prog (w.iter s pos) = _ := fun ty => run_next_end w s pos ty hp
      have hf := numE_yes (numOk_in (b := 10) h1 h2 (allB_end hp ha.out)) (hn.out.trans (by rw [take_all s pos hp]))
      have HF : Hid (_ = Ending.returned (numE 10 15 s)) := hf
      clear hf
      go_wp2
      go_ret2
      exact ⟨HF.out, grew_iter _ _ _⟩

theorem implNum10 (s : ByteArray) (w : World) (hs : s.size ≤ maxLen) :
    Calls Tryz.prog 128 #[.string s, .int .i64 10, .int .i64 15] w fun e w' => e = .returned (numE 10 15 s) ∧ Grew w w' := by
  by_cases h : s.size < 1 ∨ 15 < s.size
  · exact implNum10_out s w hs h
  · exact implNum10_in s w (by omega) (by omega)

theorem implDig (s : ByteArray) (w : World) (hs : s.size ≤ maxLen) :
    Calls Tryz.prog 120 #[.string s] w fun e w' => e = .returned (numE 10 15 s) ∧ Grew w w' := by
  unfold numE
  go_enter Tryz.func120, Tryz.ntmps120
  go_wp2_with (go_at_call 128; refine (implNum10 _ _ hs).mono ?_; unfold numE; rintro e w' ⟨rfl, hb⟩)
  go_ret2
  exact ⟨rfl, hb⟩
end Go.Proofs.YtnachhmhjodbhaaGreatDoor.Dd
namespace Go.Proofs.YtnachhmhjodbhaaGreatDoor.Dd
open Go.RowKit

theorem three {s : ByteArray} (h : s.size = 3) : ∃ a b c, s = ⟨#[a, b, c]⟩ := by
  obtain ⟨⟨l⟩⟩ := s
  match l, h with
  | [a, b, c], _ => exact ⟨a, b, c, rfl⟩
theorem showA_is (y m d h i s : Int) : ∃ a b c p q r, moN m = ⟨#[p, q, r]⟩ ∧ showA y m d h i s = ⟨#[a, b, c, 44, 32, dgt (d / 10), dgt d, 32, p, q, r, 32, dgt (y / 100 / 10), dgt (y / 100), dgt (y / 10), dgt y, 32, dgt (h / 10), dgt h, 58, dgt (i / 10), dgt i, 58, dgt (s / 10), dgt s, 32, 71, 77, 84]⟩ := by
  obtain ⟨a, b, c, h1⟩ := three (wkN_size ((dayN y m d + 4) % 7))
  obtain ⟨p, q, r, h2⟩ := three (moN_size m)
  refine ⟨a, b, c, p, q, r, h2, ?_⟩
  unfold showA
  rw [h1, h2]
  rfl
theorem showA_size (y m d h i s : Int) : (showA y m d h i s).size = 29 := by
  obtain ⟨a, b, c, p, q, r, _, e⟩ := showA_is y m d h i s
  rw [e]; rfl
end Go.Proofs.YtnachhmhjodbhaaGreatDoor.Dd
namespace Go.Proofs.YtnachhmhjodbhaaGreatDoor
open Go.RowKit Go.Sort
set_option linter.unusedVariables false

set_option maxHeartbeats 1000000 in
theorem l10DrawDate (b : Nat) (sa : Option Addr) (sl sc : Nat) (w : World) (hc : Cur w b sa sl sc) :
    Calls Tryz.prog 118 #[.pointer (some ⟨b, 0, Option.none⟩)] w fun e w' => (∃ t : ByteArray, e = .returned (.string t) ∧ t.size ≤ 29) ∧ Cur w' b sa sl sc ∧ Beside b w w' := by
  have hbz : b < w.heap.size := hc.2.2.1
  go_enter Tryz.func118, Tryz.ntmps118
  go_wp2_with fail
  refine (l1Below b sa sl sc 40 (by decide) (by decide) _ hc).mono ?_
  rintro e w1 ⟨x, rfl, hx0, hx1, hc1, hb1⟩
  have e1 : IntKind.i64.wrap (990 + x) = 990 + x := by rw [IntKind.wrap_i64]; omega
  have C1 : Hid (Cur w1 b sa sl sc) := hc1
  have B1 : Hid (Beside b w w1) := hb1
  clear hc hc1 hb1
  go_wp2_with fail
  refine (Dd.specAt_in (990 + x) _ (by omega) (by omega)).mono ?_
  rintro e w2 ⟨⟨y, m, d, h, i, s, rfl, hok, _⟩, hg2⟩
  have C2 : Hid (Cur w2 b sa sl sc) := C1.out.kept hg2.low C1.out.2.2.1
  have B2 : Hid (Beside b w w2) := B1.out.below hg2.low
  clear hg2 C1 B1
  have hsz := Dd.showA_size y m d h i s
  have hsh := fun W => Dd.specShow_in y m d h i s W (decide_eq_true hok)
  generalize Dd.showA y m d h i s = t at hsz hsh
  go_wp2_with fail
  refine (hsh _).mono ?_
  rintro e w3 ⟨rfl, hg3⟩
  have C3 : Hid (Cur w3 b sa sl sc) := C2.out.kept hg3.low C2.out.2.2.1
  have B3 : Hid (Beside b w w3) := B2.out.below hg3.low
  clear hg3 C2 B2 hsh hok
  go_wp2
  go_ret
  exact ⟨⟨t, rfl, by omega⟩, C3.out, B3.out⟩
theorem OwnsF.but10 {w : World} {B g k : Nat} {v : Value} {l : List Fl} (h : OwnsF w B v l) (hne : ∀ j, v.ownBlock = some j → j ≠ g) (x : Value) : OwnsF (w.setCell ⟨g, k, none⟩ x) B v l := by
  refine ⟨h.1, ?_⟩
  rcases h.2 with h0 | ⟨g2, cap, cur, hv, hbg, hg, rest⟩
  · exact .inl h0
  · exact .inr ⟨g2, cap, cur, hv, hbg, by rw [Below.heap_setCell _ _ _ _ (by show g2 ≠ g; exact hne g2 (by rw [hv]; rfl))]; exact hg, rest⟩
theorem Beside.set10 {b g k : Nat} {w x : World} (h : Beside b w x) (hg : w.heap.size ≤ g) (v : Value) : Beside b w (x.setCell ⟨g, k, none⟩ v) :=
  ⟨h.1, h.2.1, h.2.2.1, by rw [World.size_setCell]; exact h.2.2.2.1, fun j hj hne => (Below.heap_setCell _ _ _ _ (by show j ≠ g; omega)).trans (h.2.2.2.2 j hj hne)⟩
theorem below_set10 (x : World) (g k : Nat) (v : Value) : Below g x (x.setCell ⟨g, k, none⟩ v) := (Below.refl g x).setCell (show g ≤ (⟨g, k, none⟩ : Addr).block from Nat.le_refl _) v
set_option maxRecDepth 100000 in
set_option maxHeartbeats 16000000 in
theorem l10DrawFields (b : Nat) (sa : Option Addr) (sl sc : Nat) (w : World) (hc : Cur w b sa sl sc) :
    Calls Tryz.prog 100 #[.pointer (some ⟨b, 0, Option.none⟩)] w fun e w' => (∃ u l, e = .returned u ∧ OwnsF w' w.heap.size u l ∧ FewF 3 l) ∧ Cur w' b sa sl sc ∧ Beside b w w' := by
  have hbz : b < w.heap.size := hc.2.2.1
  have hb0 := (Below.refl w.heap.size w).alloc (Nat.le_refl _) (.cells #[] 41)
  go_enter Tryz.func100, Tryz.ntmps100
  go_wp2_with fail
  refine (l1Below b sa sl sc 4 (by decide) (by decide) (w.alloc (.cells #[] 41)) (hc.kept hb0 hbz)).mono ?_
  rintro e w1 ⟨z, rfl, hz0, hz1, hc1, hb1⟩
  obtain ⟨m, rfl⟩ : ∃ m : Nat, z = m := ⟨z.toNat, by omega⟩
  have ho1 := (OwnsF.born w).beside10 hb1 hbz
  have hbs1 := ((Beside.refl b w).below hb0).trans hb1
  go_wp2_with fail
  go_loopw [3, 4, 5] (fun u i _ wr => ∃ (k : Nat) (l : List Fl), i = .int .i64 k ∧ l.length + k ≤ 3 ∧ Hid (∀ f ∈ l, f.1.size ≤ 13 ∧ f.2.size ≤ 84) ∧ Hid (OwnsF wr w.heap.size u l) ∧ Hid (Cur wr b sa sl sc) ∧ Hid (Beside b w wr)) (fun _ i _ _ => (intOf i).toNat)
  case atStart => exact ⟨m, [], rfl, by simp; omega, (fun f hf => by cases hf), ho1, hc1, hbs1⟩
  case round =>
    clear ho1 hc1 hbs1 hb1
    obtain ⟨k, l, rfl, hlk, hsm, hown, hcur, hbes⟩ := hrel
    by_cases hk : 0 < k
    · have hbr : b < wr.heap.size := hcur.out.2.2.1
      have hwr : w.heap.size ≤ wr.heap.size := hbes.out.2.2.2.1
      obtain ⟨ua, uc, rfl, _⟩ := hown.out.form
      go_wp2_with fail
      refine (l1Below b sa sl sc 8 (by decide) (by decide) _ (hcur.out.more9 _)).mono ?_
      rintro e w2 ⟨y, rfl, hy0, hy1, hc2, hb2⟩
      obtain ⟨y, rfl⟩ := Int.eq_ofNat_of_zero_le hy0
      have hs2 : wr.heap.size + 1 ≤ w2.heap.size := by have := hb2.2.2.2.1; simpa using this
      have HN : Hid (∀ j, (Value.slice ua l.length uc).ownBlock = some j → j ≠ w2.heap.size) := fun j hj e => by have := hown.out.under j hj; omega
      have HC : Hid (∀ (j : Nat) (s : ByteArray), (wr.alloc (.cells #[.string ⟨#[99, 97, 99, 104, 101, 45, 99, 111, 110, 116, 114, 111, 108]⟩, .string ⟨#[101, 116, 97, 103]⟩, .string ⟨#[100, 97, 116, 101]⟩, .string ⟨#[101, 120, 112, 105, 114, 101, 115]⟩, .string ⟨#[97, 103, 101]⟩, .string ⟨#[118, 97, 114, 121]⟩, .string ⟨#[115, 117, 114, 114, 111, 103, 97, 116, 101, 45, 107, 101, 121]⟩, .string ⟨#[99, 97, 99, 104, 101, 45, 99, 111, 110, 116, 114, 111, 108]⟩] 9)).cell? ⟨wr.heap.size, j, Option.none⟩ = some (.string s) → w2.cell? ⟨wr.heap.size, j, Option.none⟩ = some (.string s)) := fun j s h => besideCell hb2 (by omega) h
      have O2 : Hid (OwnsF w2 w.heap.size (.slice ua l.length uc) l) := (hown.out.alloc _).beside10 hb2 hbz
      have B2 : Hid (Beside b w w2) := (hbes.out.more9 _).trans hb2
      have C2 : Hid (Cur w2 b sa sl sc) := hc2
      have hb2z : b < w2.heap.size := hc2.2.2.1
      clear hb2 hc2 hcur hbes hown
      rcases (show y = 0 ∨ y = 1 ∨ y = 2 ∨ y = 3 ∨ y = 4 ∨ y = 5 ∨ y = 6 ∨ y = 7 by omega) with rfl | rfl | rfl | rfl | rfl | rfl | rfl | rfl
      · have hcell := HC.out 0 ⟨#[99, 97, 99, 104, 101, 45, 99, 111, 110, 116, 114, 111, 108]⟩ (World.cell?_alloc_mark _ _ _ _ _)
        have O3 : Hid (OwnsF (w2.alloc (.cells #[.string ⟨#[99, 97, 99, 104, 101, 45, 99, 111, 110, 116, 114, 111, 108]⟩, .string ⟨#[]⟩] 41)) w.heap.size (.slice ua l.length uc) l) := O2.out.alloc _
        have B3 : Hid (Beside b w (w2.alloc (.cells #[.string ⟨#[99, 97, 99, 104, 101, 45, 99, 111, 110, 116, 114, 111, 108]⟩, .string ⟨#[]⟩] 41))) := B2.out.more9 _
        have C3 : Hid (Cur (w2.alloc (.cells #[.string ⟨#[99, 97, 99, 104, 101, 45, 99, 111, 110, 116, 114, 111, 108]⟩, .string ⟨#[]⟩] 41)) b sa sl sc) := C2.out.more9 _
        have f0 : Hid ((w2.alloc (.cells #[.string ⟨#[99, 97, 99, 104, 101, 45, 99, 111, 110, 116, 114, 111, 108]⟩, .string ⟨#[]⟩] 41)).cell? ⟨w2.heap.size, 0, Option.none⟩ = some (.string ⟨#[99, 97, 99, 104, 101, 45, 99, 111, 110, 116, 114, 111, 108]⟩)) := World.cell?_alloc_mark _ _ _ _ _
        have f1 : Hid ((w2.alloc (.cells #[.string ⟨#[99, 97, 99, 104, 101, 45, 99, 111, 110, 116, 114, 111, 108]⟩, .string ⟨#[]⟩] 41)).cell? ⟨w2.heap.size, 1, Option.none⟩ = some (.string ⟨#[]⟩)) := World.cell?_alloc_mark _ _ _ _ _
        have ff : Hid ((w2.alloc (.cells #[.string ⟨#[99, 97, 99, 104, 101, 45, 99, 111, 110, 116, 114, 111, 108]⟩, .string ⟨#[]⟩] 41)).frozen? ⟨w2.heap.size, 1, Option.none⟩ = false) := by show _ = _; rw [World.frozen?_alloc_mark]; simp
        have hs3 : Hid ((w2.alloc (.cells #[.string ⟨#[99, 97, 99, 104, 101, 45, 99, 111, 110, 116, 114, 111, 108]⟩, .string ⟨#[]⟩] 41)).heap.size = w2.heap.size + 1) := by show _ = _; simp
        clear O2 B2 C2
        go_wp2_with fail
        refine (l9DrawText b sa sl sc _ C3.out).mono ?_
        rintro e w4 ⟨⟨s, rfl, hs⟩, hc4, hb4⟩
        have O4 : Hid (OwnsF w4 w.heap.size (.slice ua l.length uc) l) := O3.out.beside10 hb4 hbz
        have B4 : Hid (Beside b w w4) := B3.out.trans hb4
        have C4 : Hid (Cur w4 b sa sl sc) := hc4
        have g0 := besideCell hb4 (by omega) f0.out
        have g1 := besideCell hb4 (by omega) f1.out
        have gf : w4.frozen? ⟨w2.heap.size, 1, Option.none⟩ = false := (World.frozen?_of_block (a := ⟨w2.heap.size, 1, Option.none⟩) (hb4.2.2.2.2 w2.heap.size (by rw [hs3.out]; omega) (by omega))).trans ff.out
        clear hb4 hc4 O3 B3 C3 f0 f1 ff hcell
        have ht := trimB_size s
        have hT := fun W => specTrim s W (by omega)
        generalize trimB s = t at ht hT
        go_wp2_with fail
        refine (hT _).mono ?_
        rintro e w5 ⟨rfl, rfl⟩
        clear hT
        have htz : t.size ≤ 84 := by omega
        have O6 : Hid (OwnsF (w4.setCell ⟨w2.heap.size, 1, Option.none⟩ (.string t)) w.heap.size (.slice ua l.length uc) l) := O4.out.but10 HN.out _
        have B6 : Hid (Beside b w (w4.setCell ⟨w2.heap.size, 1, Option.none⟩ (.string t))) := B4.out.set10 (by omega) _
        have C6 : Hid (Cur (w4.setCell ⟨w2.heap.size, 1, Option.none⟩ (.string t)) b sa sl sc) := C4.out.kept (below_set10 _ _ _ _) hb2z
        have h0 : (w4.setCell ⟨w2.heap.size, 1, Option.none⟩ (.string t)).cell? ⟨w2.heap.size, 0, Option.none⟩ = some (.string ⟨#[99, 97, 99, 104, 101, 45, 99, 111, 110, 116, 114, 111, 108]⟩) := by rw [World.cell?_setCell_other _ _ _ _ (by simp)]; exact g0
        have h1 : (w4.setCell ⟨w2.heap.size, 1, Option.none⟩ (.string t)).cell? ⟨w2.heap.size, 1, Option.none⟩ = some (.string t) := World.cell?_setCell_same _ _ _ g1
        clear O4 B4 C4
        go_upto_region 20 with fail
        generalize w4.setCell ⟨w2.heap.size, 1, Option.none⟩ (.string t) = w6 at O6 B6 C6 h0 h1 ⊢
        go_wp2_with (at_builtin; refine wpList_pushF _ rfl (.tmp 58) (.tmp 60) rfl w.heap.size _ _ (⟨#[99, 97, 99, 104, 101, 45, 99, 111, 110, 116, 114, 111, 108]⟩, t) rfl O6.out rfl (by omega) B6.out.2.2.2.1 ?_; intro v7 w7 ho7 hg7)
        have O7 : Hid (OwnsF w7 w.heap.size v7 (l ++ [(⟨#[99, 97, 99, 104, 101, 45, 99, 111, 110, 116, 114, 111, 108]⟩, t)])) := ho7
        have B7 : Hid (Beside b w w7) := B6.out.grown10 hg7 (OwnsF.from O6.out)
        have C7 : Hid (Cur w7 b sa sl sc) := C6.out.kept (grown_low10 hg7 (OwnsF.from O6.out) B6.out.2.2.2.1) hbz
        have S7 : Hid (∀ f ∈ l ++ [(⟨#[99, 97, 99, 104, 101, 45, 99, 111, 110, 116, 114, 111, 108]⟩, t)], f.1.size ≤ 13 ∧ f.2.size ≤ 84) := fun g hg => by
          rcases List.mem_append.1 hg with hg | hg
          · exact hsm.out g hg
          · rw [List.mem_singleton.1 hg]; exact ⟨by show (⟨#[99, 97, 99, 104, 101, 45, 99, 111, 110, 116, 114, 111, 108]⟩ : ByteArray).size ≤ 13; decide, htz⟩
        clear ho7 hg7 O6 B6 C6 hsm h0 h1
        go_roundw
        case rel => exact ⟨k - 1, l ++ [(⟨#[99, 97, 99, 104, 101, 45, 99, 111, 110, 116, 114, 111, 108]⟩, t)], by go_num, by simp; omega, S7, O7, C7, B7⟩
        case measure => simp [intOf]; omega
      · have hcell := HC.out 1 ⟨#[101, 116, 97, 103]⟩ (World.cell?_alloc_mark _ _ _ _ _)
        have O3 : Hid (OwnsF (w2.alloc (.cells #[.string ⟨#[101, 116, 97, 103]⟩, .string ⟨#[]⟩] 41)) w.heap.size (.slice ua l.length uc) l) := O2.out.alloc _
        have B3 : Hid (Beside b w (w2.alloc (.cells #[.string ⟨#[101, 116, 97, 103]⟩, .string ⟨#[]⟩] 41))) := B2.out.more9 _
        have C3 : Hid (Cur (w2.alloc (.cells #[.string ⟨#[101, 116, 97, 103]⟩, .string ⟨#[]⟩] 41)) b sa sl sc) := C2.out.more9 _
        have f0 : Hid ((w2.alloc (.cells #[.string ⟨#[101, 116, 97, 103]⟩, .string ⟨#[]⟩] 41)).cell? ⟨w2.heap.size, 0, Option.none⟩ = some (.string ⟨#[101, 116, 97, 103]⟩)) := World.cell?_alloc_mark _ _ _ _ _
        have f1 : Hid ((w2.alloc (.cells #[.string ⟨#[101, 116, 97, 103]⟩, .string ⟨#[]⟩] 41)).cell? ⟨w2.heap.size, 1, Option.none⟩ = some (.string ⟨#[]⟩)) := World.cell?_alloc_mark _ _ _ _ _
        have ff : Hid ((w2.alloc (.cells #[.string ⟨#[101, 116, 97, 103]⟩, .string ⟨#[]⟩] 41)).frozen? ⟨w2.heap.size, 1, Option.none⟩ = false) := by show _ = _; rw [World.frozen?_alloc_mark]; simp
        have hs3 : Hid ((w2.alloc (.cells #[.string ⟨#[101, 116, 97, 103]⟩, .string ⟨#[]⟩] 41)).heap.size = w2.heap.size + 1) := by show _ = _; simp
        have O2x := O2
        have B2x := B2
        have C2x := C2
        clear O2 B2 C2
        have O4 := O3
        have B4 := B3
        have C4 := C3
        have g0 := f0.out
        have g1 := f1.out
        have gf := ff.out
        clear O3 B3 C3 f0 f1 ff
        have htz : (⟨#[34, 97, 34]⟩ : ByteArray).size ≤ 84 := by decide
        have O6 : Hid (OwnsF (w2.alloc (.cells #[.string ⟨#[101, 116, 97, 103]⟩, .string ⟨#[34, 97, 34]⟩] 41)) w.heap.size (.slice ua l.length uc) l) := O2x.out.alloc _
        have B6 : Hid (Beside b w (w2.alloc (.cells #[.string ⟨#[101, 116, 97, 103]⟩, .string ⟨#[34, 97, 34]⟩] 41))) := B2x.out.more9 _
        have C6 : Hid (Cur (w2.alloc (.cells #[.string ⟨#[101, 116, 97, 103]⟩, .string ⟨#[34, 97, 34]⟩] 41)) b sa sl sc) := C2x.out.more9 _
        have h0 : (w2.alloc (.cells #[.string ⟨#[101, 116, 97, 103]⟩, .string ⟨#[34, 97, 34]⟩] 41)).cell? ⟨w2.heap.size, 0, Option.none⟩ = some (.string ⟨#[101, 116, 97, 103]⟩) := World.cell?_alloc_mark _ _ _ _ _
        have h1 : (w2.alloc (.cells #[.string ⟨#[101, 116, 97, 103]⟩, .string ⟨#[34, 97, 34]⟩] 41)).cell? ⟨w2.heap.size, 1, Option.none⟩ = some (.string ⟨#[34, 97, 34]⟩) := World.cell?_alloc_mark _ _ _ _ _
        clear O4 B4 C4
        go_upto_region 20 with fail
        generalize w2.alloc (.cells #[.string ⟨#[101, 116, 97, 103]⟩, .string ⟨#[34, 97, 34]⟩] 41) = w6 at O6 B6 C6 h0 h1 ⊢
        go_wp2_with (at_builtin; refine wpList_pushF _ rfl (.tmp 58) (.tmp 60) rfl w.heap.size _ _ (⟨#[101, 116, 97, 103]⟩, ⟨#[34, 97, 34]⟩) rfl O6.out rfl (by omega) B6.out.2.2.2.1 ?_; intro v7 w7 ho7 hg7)
        have O7 : Hid (OwnsF w7 w.heap.size v7 (l ++ [(⟨#[101, 116, 97, 103]⟩, ⟨#[34, 97, 34]⟩)])) := ho7
        have B7 : Hid (Beside b w w7) := B6.out.grown10 hg7 (OwnsF.from O6.out)
        have C7 : Hid (Cur w7 b sa sl sc) := C6.out.kept (grown_low10 hg7 (OwnsF.from O6.out) B6.out.2.2.2.1) hbz
        have S7 : Hid (∀ f ∈ l ++ [(⟨#[101, 116, 97, 103]⟩, ⟨#[34, 97, 34]⟩)], f.1.size ≤ 13 ∧ f.2.size ≤ 84) := fun g hg => by
          rcases List.mem_append.1 hg with hg | hg
          · exact hsm.out g hg
          · rw [List.mem_singleton.1 hg]; exact ⟨by show (⟨#[101, 116, 97, 103]⟩ : ByteArray).size ≤ 13; decide, htz⟩
        clear ho7 hg7 O6 B6 C6 hsm h0 h1
        go_roundw
        case rel => exact ⟨k - 1, l ++ [(⟨#[101, 116, 97, 103]⟩, ⟨#[34, 97, 34]⟩)], by go_num, by simp; omega, S7, O7, C7, B7⟩
        case measure => simp [intOf]; omega
      · have hcell := HC.out 2 ⟨#[100, 97, 116, 101]⟩ (World.cell?_alloc_mark _ _ _ _ _)
        have O3 : Hid (OwnsF (w2.alloc (.cells #[.string ⟨#[100, 97, 116, 101]⟩, .string ⟨#[]⟩] 41)) w.heap.size (.slice ua l.length uc) l) := O2.out.alloc _
        have B3 : Hid (Beside b w (w2.alloc (.cells #[.string ⟨#[100, 97, 116, 101]⟩, .string ⟨#[]⟩] 41))) := B2.out.more9 _
        have C3 : Hid (Cur (w2.alloc (.cells #[.string ⟨#[100, 97, 116, 101]⟩, .string ⟨#[]⟩] 41)) b sa sl sc) := C2.out.more9 _
        have f0 : Hid ((w2.alloc (.cells #[.string ⟨#[100, 97, 116, 101]⟩, .string ⟨#[]⟩] 41)).cell? ⟨w2.heap.size, 0, Option.none⟩ = some (.string ⟨#[100, 97, 116, 101]⟩)) := World.cell?_alloc_mark _ _ _ _ _
        have f1 : Hid ((w2.alloc (.cells #[.string ⟨#[100, 97, 116, 101]⟩, .string ⟨#[]⟩] 41)).cell? ⟨w2.heap.size, 1, Option.none⟩ = some (.string ⟨#[]⟩)) := World.cell?_alloc_mark _ _ _ _ _
        have ff : Hid ((w2.alloc (.cells #[.string ⟨#[100, 97, 116, 101]⟩, .string ⟨#[]⟩] 41)).frozen? ⟨w2.heap.size, 1, Option.none⟩ = false) := by show _ = _; rw [World.frozen?_alloc_mark]; simp
        have hs3 : Hid ((w2.alloc (.cells #[.string ⟨#[100, 97, 116, 101]⟩, .string ⟨#[]⟩] 41)).heap.size = w2.heap.size + 1) := by show _ = _; simp
        clear O2 B2 C2
        go_wp2_with fail
        refine (l10DrawDate b sa sl sc _ C3.out).mono ?_
        rintro e w4 ⟨⟨t, rfl, hs⟩, hc4, hb4⟩
        have O4 : Hid (OwnsF w4 w.heap.size (.slice ua l.length uc) l) := O3.out.beside10 hb4 hbz
        have B4 : Hid (Beside b w w4) := B3.out.trans hb4
        have C4 : Hid (Cur w4 b sa sl sc) := hc4
        have g0 := besideCell hb4 (by omega) f0.out
        have g1 := besideCell hb4 (by omega) f1.out
        have gf : w4.frozen? ⟨w2.heap.size, 1, Option.none⟩ = false := (World.frozen?_of_block (a := ⟨w2.heap.size, 1, Option.none⟩) (hb4.2.2.2.2 w2.heap.size (by rw [hs3.out]; omega) (by omega))).trans ff.out
        clear hb4 hc4 O3 B3 C3 f0 f1 ff hcell
        have htz : t.size ≤ 84 := by omega
        have O6 : Hid (OwnsF (w4.setCell ⟨w2.heap.size, 1, Option.none⟩ (.string t)) w.heap.size (.slice ua l.length uc) l) := O4.out.but10 HN.out _
        have B6 : Hid (Beside b w (w4.setCell ⟨w2.heap.size, 1, Option.none⟩ (.string t))) := B4.out.set10 (by omega) _
        have C6 : Hid (Cur (w4.setCell ⟨w2.heap.size, 1, Option.none⟩ (.string t)) b sa sl sc) := C4.out.kept (below_set10 _ _ _ _) hb2z
        have h0 : (w4.setCell ⟨w2.heap.size, 1, Option.none⟩ (.string t)).cell? ⟨w2.heap.size, 0, Option.none⟩ = some (.string ⟨#[100, 97, 116, 101]⟩) := by rw [World.cell?_setCell_other _ _ _ _ (by simp)]; exact g0
        have h1 : (w4.setCell ⟨w2.heap.size, 1, Option.none⟩ (.string t)).cell? ⟨w2.heap.size, 1, Option.none⟩ = some (.string t) := World.cell?_setCell_same _ _ _ g1
        clear O4 B4 C4
        go_upto_region 20 with fail
        generalize w4.setCell ⟨w2.heap.size, 1, Option.none⟩ (.string t) = w6 at O6 B6 C6 h0 h1 ⊢
        go_wp2_with (at_builtin; refine wpList_pushF _ rfl (.tmp 58) (.tmp 60) rfl w.heap.size _ _ (⟨#[100, 97, 116, 101]⟩, t) rfl O6.out rfl (by omega) B6.out.2.2.2.1 ?_; intro v7 w7 ho7 hg7)
        have O7 : Hid (OwnsF w7 w.heap.size v7 (l ++ [(⟨#[100, 97, 116, 101]⟩, t)])) := ho7
        have B7 : Hid (Beside b w w7) := B6.out.grown10 hg7 (OwnsF.from O6.out)
        have C7 : Hid (Cur w7 b sa sl sc) := C6.out.kept (grown_low10 hg7 (OwnsF.from O6.out) B6.out.2.2.2.1) hbz
        have S7 : Hid (∀ f ∈ l ++ [(⟨#[100, 97, 116, 101]⟩, t)], f.1.size ≤ 13 ∧ f.2.size ≤ 84) := fun g hg => by
          rcases List.mem_append.1 hg with hg | hg
          · exact hsm.out g hg
          · rw [List.mem_singleton.1 hg]; exact ⟨by show (⟨#[100, 97, 116, 101]⟩ : ByteArray).size ≤ 13; decide, htz⟩
        clear ho7 hg7 O6 B6 C6 hsm h0 h1
        go_roundw
        case rel => exact ⟨k - 1, l ++ [(⟨#[100, 97, 116, 101]⟩, t)], by go_num, by simp; omega, S7, O7, C7, B7⟩
        case measure => simp [intOf]; omega
      · have hcell := HC.out 3 ⟨#[101, 120, 112, 105, 114, 101, 115]⟩ (World.cell?_alloc_mark _ _ _ _ _)
        have O3 : Hid (OwnsF (w2.alloc (.cells #[.string ⟨#[101, 120, 112, 105, 114, 101, 115]⟩, .string ⟨#[]⟩] 41)) w.heap.size (.slice ua l.length uc) l) := O2.out.alloc _
        have B3 : Hid (Beside b w (w2.alloc (.cells #[.string ⟨#[101, 120, 112, 105, 114, 101, 115]⟩, .string ⟨#[]⟩] 41))) := B2.out.more9 _
        have C3 : Hid (Cur (w2.alloc (.cells #[.string ⟨#[101, 120, 112, 105, 114, 101, 115]⟩, .string ⟨#[]⟩] 41)) b sa sl sc) := C2.out.more9 _
        have f0 : Hid ((w2.alloc (.cells #[.string ⟨#[101, 120, 112, 105, 114, 101, 115]⟩, .string ⟨#[]⟩] 41)).cell? ⟨w2.heap.size, 0, Option.none⟩ = some (.string ⟨#[101, 120, 112, 105, 114, 101, 115]⟩)) := World.cell?_alloc_mark _ _ _ _ _
        have f1 : Hid ((w2.alloc (.cells #[.string ⟨#[101, 120, 112, 105, 114, 101, 115]⟩, .string ⟨#[]⟩] 41)).cell? ⟨w2.heap.size, 1, Option.none⟩ = some (.string ⟨#[]⟩)) := World.cell?_alloc_mark _ _ _ _ _
        have ff : Hid ((w2.alloc (.cells #[.string ⟨#[101, 120, 112, 105, 114, 101, 115]⟩, .string ⟨#[]⟩] 41)).frozen? ⟨w2.heap.size, 1, Option.none⟩ = false) := by show _ = _; rw [World.frozen?_alloc_mark]; simp
        have hs3 : Hid ((w2.alloc (.cells #[.string ⟨#[101, 120, 112, 105, 114, 101, 115]⟩, .string ⟨#[]⟩] 41)).heap.size = w2.heap.size + 1) := by show _ = _; simp
        clear O2 B2 C2
        go_wp2_with fail
        refine (l10DrawDate b sa sl sc _ C3.out).mono ?_
        rintro e w4 ⟨⟨t, rfl, hs⟩, hc4, hb4⟩
        have O4 : Hid (OwnsF w4 w.heap.size (.slice ua l.length uc) l) := O3.out.beside10 hb4 hbz
        have B4 : Hid (Beside b w w4) := B3.out.trans hb4
        have C4 : Hid (Cur w4 b sa sl sc) := hc4
        have g0 := besideCell hb4 (by omega) f0.out
        have g1 := besideCell hb4 (by omega) f1.out
        have gf : w4.frozen? ⟨w2.heap.size, 1, Option.none⟩ = false := (World.frozen?_of_block (a := ⟨w2.heap.size, 1, Option.none⟩) (hb4.2.2.2.2 w2.heap.size (by rw [hs3.out]; omega) (by omega))).trans ff.out
        clear hb4 hc4 O3 B3 C3 f0 f1 ff hcell
        have htz : t.size ≤ 84 := by omega
        have O6 : Hid (OwnsF (w4.setCell ⟨w2.heap.size, 1, Option.none⟩ (.string t)) w.heap.size (.slice ua l.length uc) l) := O4.out.but10 HN.out _
        have B6 : Hid (Beside b w (w4.setCell ⟨w2.heap.size, 1, Option.none⟩ (.string t))) := B4.out.set10 (by omega) _
        have C6 : Hid (Cur (w4.setCell ⟨w2.heap.size, 1, Option.none⟩ (.string t)) b sa sl sc) := C4.out.kept (below_set10 _ _ _ _) hb2z
        have h0 : (w4.setCell ⟨w2.heap.size, 1, Option.none⟩ (.string t)).cell? ⟨w2.heap.size, 0, Option.none⟩ = some (.string ⟨#[101, 120, 112, 105, 114, 101, 115]⟩) := by rw [World.cell?_setCell_other _ _ _ _ (by simp)]; exact g0
        have h1 : (w4.setCell ⟨w2.heap.size, 1, Option.none⟩ (.string t)).cell? ⟨w2.heap.size, 1, Option.none⟩ = some (.string t) := World.cell?_setCell_same _ _ _ g1
        clear O4 B4 C4
        go_upto_region 20 with fail
        generalize w4.setCell ⟨w2.heap.size, 1, Option.none⟩ (.string t) = w6 at O6 B6 C6 h0 h1 ⊢
        go_wp2_with (at_builtin; refine wpList_pushF _ rfl (.tmp 58) (.tmp 60) rfl w.heap.size _ _ (⟨#[101, 120, 112, 105, 114, 101, 115]⟩, t) rfl O6.out rfl (by omega) B6.out.2.2.2.1 ?_; intro v7 w7 ho7 hg7)
        have O7 : Hid (OwnsF w7 w.heap.size v7 (l ++ [(⟨#[101, 120, 112, 105, 114, 101, 115]⟩, t)])) := ho7
        have B7 : Hid (Beside b w w7) := B6.out.grown10 hg7 (OwnsF.from O6.out)
        have C7 : Hid (Cur w7 b sa sl sc) := C6.out.kept (grown_low10 hg7 (OwnsF.from O6.out) B6.out.2.2.2.1) hbz
        have S7 : Hid (∀ f ∈ l ++ [(⟨#[101, 120, 112, 105, 114, 101, 115]⟩, t)], f.1.size ≤ 13 ∧ f.2.size ≤ 84) := fun g hg => by
          rcases List.mem_append.1 hg with hg | hg
          · exact hsm.out g hg
          · rw [List.mem_singleton.1 hg]; exact ⟨by show (⟨#[101, 120, 112, 105, 114, 101, 115]⟩ : ByteArray).size ≤ 13; decide, htz⟩
        clear ho7 hg7 O6 B6 C6 hsm h0 h1
        go_roundw
        case rel => exact ⟨k - 1, l ++ [(⟨#[101, 120, 112, 105, 114, 101, 115]⟩, t)], by go_num, by simp; omega, S7, O7, C7, B7⟩
        case measure => simp [intOf]; omega
      · have hcell := HC.out 4 ⟨#[97, 103, 101]⟩ (World.cell?_alloc_mark _ _ _ _ _)
        have O3 : Hid (OwnsF (w2.alloc (.cells #[.string ⟨#[97, 103, 101]⟩, .string ⟨#[]⟩] 41)) w.heap.size (.slice ua l.length uc) l) := O2.out.alloc _
        have B3 : Hid (Beside b w (w2.alloc (.cells #[.string ⟨#[97, 103, 101]⟩, .string ⟨#[]⟩] 41))) := B2.out.more9 _
        have C3 : Hid (Cur (w2.alloc (.cells #[.string ⟨#[97, 103, 101]⟩, .string ⟨#[]⟩] 41)) b sa sl sc) := C2.out.more9 _
        have f0 : Hid ((w2.alloc (.cells #[.string ⟨#[97, 103, 101]⟩, .string ⟨#[]⟩] 41)).cell? ⟨w2.heap.size, 0, Option.none⟩ = some (.string ⟨#[97, 103, 101]⟩)) := World.cell?_alloc_mark _ _ _ _ _
        have f1 : Hid ((w2.alloc (.cells #[.string ⟨#[97, 103, 101]⟩, .string ⟨#[]⟩] 41)).cell? ⟨w2.heap.size, 1, Option.none⟩ = some (.string ⟨#[]⟩)) := World.cell?_alloc_mark _ _ _ _ _
        have ff : Hid ((w2.alloc (.cells #[.string ⟨#[97, 103, 101]⟩, .string ⟨#[]⟩] 41)).frozen? ⟨w2.heap.size, 1, Option.none⟩ = false) := by show _ = _; rw [World.frozen?_alloc_mark]; simp
        have hs3 : Hid ((w2.alloc (.cells #[.string ⟨#[97, 103, 101]⟩, .string ⟨#[]⟩] 41)).heap.size = w2.heap.size + 1) := by show _ = _; simp
        clear O2 B2 C2
        go_wp2_with fail
        refine (l1Below b sa sl sc 20 (by decide) (by decide) _ C3.out).mono ?_
        rintro e w4 ⟨x, rfl, hx0, hx1, hc4, hb4⟩
        have O4 : Hid (OwnsF w4 w.heap.size (.slice ua l.length uc) l) := O3.out.beside10 hb4 hbz
        have B4 : Hid (Beside b w w4) := B3.out.trans hb4
        have C4 : Hid (Cur w4 b sa sl sc) := hc4
        have g0 := besideCell hb4 (by omega) f0.out
        have g1 := besideCell hb4 (by omega) f1.out
        have gf : w4.frozen? ⟨w2.heap.size, 1, Option.none⟩ = false := (World.frozen?_of_block (a := ⟨w2.heap.size, 1, Option.none⟩) (hb4.2.2.2.2 w2.heap.size (by rw [hs3.out]; omega) (by omega))).trans ff.out
        clear hb4 hc4 O3 B3 C3 f0 f1 ff hcell
        obtain ⟨x, rfl⟩ := Int.eq_ofNat_of_zero_le hx0
        have ht := itoS_size (n := x) (by omega)
        have hT := fun W => specIntZ x W (by omega)
        generalize itoS x = t at ht hT
        go_wp2_with fail
        refine (hT _).mono ?_
        rintro e w5 ⟨rfl, hb5⟩
        have O5 : Hid (OwnsF w5 w.heap.size (.slice ua l.length uc) l) := O4.out.kept hb5
        have B5 : Hid (Beside b w w5) := B4.out.below hb5
        have C5 : Hid (Cur w5 b sa sl sc) := C4.out.kept hb5 C4.out.2.2.1
        have G0 := (hb5.cell (p := ⟨w2.heap.size, 0, Option.none⟩) (World.block_lt_of_cell? _ _ g0)).trans g0
        have G1 := (hb5.cell (p := ⟨w2.heap.size, 1, Option.none⟩) (World.block_lt_of_cell? _ _ g1)).trans g1
        have Gf : w5.frozen? ⟨w2.heap.size, 1, Option.none⟩ = false := (World.frozen?_of_block (a := ⟨w2.heap.size, 1, Option.none⟩) (hb5.block w2.heap.size (World.block_lt_of_cell? _ _ g0))).trans gf
        clear hb5 hT O4 B4 C4 g0 g1 gf
        have htz : t.size ≤ 84 := by omega
        obtain ⟨O4, B4, C4, g0, g1, gf⟩ := (⟨O5, B5, C5, G0, G1, Gf⟩ : Hid (OwnsF w5 w.heap.size (.slice ua l.length uc) l) ∧ Hid (Beside b w w5) ∧ Hid (Cur w5 b sa sl sc) ∧ _ ∧ _ ∧ _)
        clear O5 B5 C5 G0 G1 Gf
        have O6 : Hid (OwnsF (w5.setCell ⟨w2.heap.size, 1, Option.none⟩ (.string t)) w.heap.size (.slice ua l.length uc) l) := O4.out.but10 HN.out _
        have B6 : Hid (Beside b w (w5.setCell ⟨w2.heap.size, 1, Option.none⟩ (.string t))) := B4.out.set10 (by omega) _
        have C6 : Hid (Cur (w5.setCell ⟨w2.heap.size, 1, Option.none⟩ (.string t)) b sa sl sc) := C4.out.kept (below_set10 _ _ _ _) hb2z
        have h0 : (w5.setCell ⟨w2.heap.size, 1, Option.none⟩ (.string t)).cell? ⟨w2.heap.size, 0, Option.none⟩ = some (.string ⟨#[97, 103, 101]⟩) := by rw [World.cell?_setCell_other _ _ _ _ (by simp)]; exact g0
        have h1 : (w5.setCell ⟨w2.heap.size, 1, Option.none⟩ (.string t)).cell? ⟨w2.heap.size, 1, Option.none⟩ = some (.string t) := World.cell?_setCell_same _ _ _ g1
        clear O4 B4 C4
        go_upto_region 20 with fail
        generalize w5.setCell ⟨w2.heap.size, 1, Option.none⟩ (.string t) = w6 at O6 B6 C6 h0 h1 ⊢
        go_wp2_with (at_builtin; refine wpList_pushF _ rfl (.tmp 58) (.tmp 60) rfl w.heap.size _ _ (⟨#[97, 103, 101]⟩, t) rfl O6.out rfl (by omega) B6.out.2.2.2.1 ?_; intro v7 w7 ho7 hg7)
        have O7 : Hid (OwnsF w7 w.heap.size v7 (l ++ [(⟨#[97, 103, 101]⟩, t)])) := ho7
        have B7 : Hid (Beside b w w7) := B6.out.grown10 hg7 (OwnsF.from O6.out)
        have C7 : Hid (Cur w7 b sa sl sc) := C6.out.kept (grown_low10 hg7 (OwnsF.from O6.out) B6.out.2.2.2.1) hbz
        have S7 : Hid (∀ f ∈ l ++ [(⟨#[97, 103, 101]⟩, t)], f.1.size ≤ 13 ∧ f.2.size ≤ 84) := fun g hg => by
          rcases List.mem_append.1 hg with hg | hg
          · exact hsm.out g hg
          · rw [List.mem_singleton.1 hg]; exact ⟨by show (⟨#[97, 103, 101]⟩ : ByteArray).size ≤ 13; decide, htz⟩
        clear ho7 hg7 O6 B6 C6 hsm h0 h1
        go_roundw
        case rel => exact ⟨k - 1, l ++ [(⟨#[97, 103, 101]⟩, t)], by go_num, by simp; omega, S7, O7, C7, B7⟩
        case measure => simp [intOf]; omega
      · have hcell := HC.out 5 ⟨#[118, 97, 114, 121]⟩ (World.cell?_alloc_mark _ _ _ _ _)
        have O3 : Hid (OwnsF (w2.alloc (.cells #[.string ⟨#[118, 97, 114, 121]⟩, .string ⟨#[]⟩] 41)) w.heap.size (.slice ua l.length uc) l) := O2.out.alloc _
        have B3 : Hid (Beside b w (w2.alloc (.cells #[.string ⟨#[118, 97, 114, 121]⟩, .string ⟨#[]⟩] 41))) := B2.out.more9 _
        have C3 : Hid (Cur (w2.alloc (.cells #[.string ⟨#[118, 97, 114, 121]⟩, .string ⟨#[]⟩] 41)) b sa sl sc) := C2.out.more9 _
        have f0 : Hid ((w2.alloc (.cells #[.string ⟨#[118, 97, 114, 121]⟩, .string ⟨#[]⟩] 41)).cell? ⟨w2.heap.size, 0, Option.none⟩ = some (.string ⟨#[118, 97, 114, 121]⟩)) := World.cell?_alloc_mark _ _ _ _ _
        have f1 : Hid ((w2.alloc (.cells #[.string ⟨#[118, 97, 114, 121]⟩, .string ⟨#[]⟩] 41)).cell? ⟨w2.heap.size, 1, Option.none⟩ = some (.string ⟨#[]⟩)) := World.cell?_alloc_mark _ _ _ _ _
        have ff : Hid ((w2.alloc (.cells #[.string ⟨#[118, 97, 114, 121]⟩, .string ⟨#[]⟩] 41)).frozen? ⟨w2.heap.size, 1, Option.none⟩ = false) := by show _ = _; rw [World.frozen?_alloc_mark]; simp
        have hs3 : Hid ((w2.alloc (.cells #[.string ⟨#[118, 97, 114, 121]⟩, .string ⟨#[]⟩] 41)).heap.size = w2.heap.size + 1) := by show _ = _; simp
        clear O2 B2 C2
        go_wp2_with fail
        refine (l1Below b sa sl sc 3 (by decide) (by decide) _ (C3.out.more9 _)).mono ?_
        rintro e w4 ⟨x, rfl, hx0, hx1, hc4, hb4'⟩
        obtain ⟨x, rfl⟩ := Int.eq_ofNat_of_zero_le hx0
        obtain ⟨t, htc, htz'⟩ := tabT9 10 hb4' (by simp <;> omega) x (by simp; omega) (by decide)
        rw [hs3.out] at htc
        have O4 : Hid (OwnsF w4 w.heap.size (.slice ua l.length uc) l) := (O3.out.alloc _).beside10 hb4' hbz
        have B4 : Hid (Beside b w w4) := (B3.out.more9 _).trans hb4'
        have C4 : Hid (Cur w4 b sa sl sc) := hc4
        have g0 := besideCell hb4' (by omega) ((((Below.refl _ _).alloc (Nat.le_refl _) _).cell (p := ⟨w2.heap.size, 0, Option.none⟩) (by rw [hs3.out]; show w2.heap.size < _; omega)).trans f0.out)
        have g1 := besideCell hb4' (by omega) ((((Below.refl _ _).alloc (Nat.le_refl _) _).cell (p := ⟨w2.heap.size, 1, Option.none⟩) (by rw [hs3.out]; show w2.heap.size < _; omega)).trans f1.out)
        have gf : w4.frozen? ⟨w2.heap.size, 1, Option.none⟩ = false := (World.frozen?_of_block (a := ⟨w2.heap.size, 1, Option.none⟩) ((hb4'.2.2.2.2 w2.heap.size (by simp <;> omega) (by omega)).trans (((Below.refl _ _).alloc (Nat.le_refl _) _).block w2.heap.size (by rw [hs3.out]; omega)))).trans ff.out
        clear hb4' hc4 O3 B3 C3 f0 f1 ff hcell
        have htz : t.size ≤ 84 := by omega
        have O6 : Hid (OwnsF (w4.setCell ⟨w2.heap.size, 1, Option.none⟩ (.string t)) w.heap.size (.slice ua l.length uc) l) := O4.out.but10 HN.out _
        have B6 : Hid (Beside b w (w4.setCell ⟨w2.heap.size, 1, Option.none⟩ (.string t))) := B4.out.set10 (by omega) _
        have C6 : Hid (Cur (w4.setCell ⟨w2.heap.size, 1, Option.none⟩ (.string t)) b sa sl sc) := C4.out.kept (below_set10 _ _ _ _) hb2z
        have h0 : (w4.setCell ⟨w2.heap.size, 1, Option.none⟩ (.string t)).cell? ⟨w2.heap.size, 0, Option.none⟩ = some (.string ⟨#[118, 97, 114, 121]⟩) := by rw [World.cell?_setCell_other _ _ _ _ (by simp)]; exact g0
        have h1 : (w4.setCell ⟨w2.heap.size, 1, Option.none⟩ (.string t)).cell? ⟨w2.heap.size, 1, Option.none⟩ = some (.string t) := World.cell?_setCell_same _ _ _ g1
        clear O4 B4 C4
        go_upto_region 20 with fail
        generalize w4.setCell ⟨w2.heap.size, 1, Option.none⟩ (.string t) = w6 at O6 B6 C6 h0 h1 ⊢
        go_wp2_with (at_builtin; refine wpList_pushF _ rfl (.tmp 58) (.tmp 60) rfl w.heap.size _ _ (⟨#[118, 97, 114, 121]⟩, t) rfl O6.out rfl (by omega) B6.out.2.2.2.1 ?_; intro v7 w7 ho7 hg7)
        have O7 : Hid (OwnsF w7 w.heap.size v7 (l ++ [(⟨#[118, 97, 114, 121]⟩, t)])) := ho7
        have B7 : Hid (Beside b w w7) := B6.out.grown10 hg7 (OwnsF.from O6.out)
        have C7 : Hid (Cur w7 b sa sl sc) := C6.out.kept (grown_low10 hg7 (OwnsF.from O6.out) B6.out.2.2.2.1) hbz
        have S7 : Hid (∀ f ∈ l ++ [(⟨#[118, 97, 114, 121]⟩, t)], f.1.size ≤ 13 ∧ f.2.size ≤ 84) := fun g hg => by
          rcases List.mem_append.1 hg with hg | hg
          · exact hsm.out g hg
          · rw [List.mem_singleton.1 hg]; exact ⟨by show (⟨#[118, 97, 114, 121]⟩ : ByteArray).size ≤ 13; decide, htz⟩
        clear ho7 hg7 O6 B6 C6 hsm h0 h1
        go_roundw
        case rel => exact ⟨k - 1, l ++ [(⟨#[118, 97, 114, 121]⟩, t)], by go_num, by simp; omega, S7, O7, C7, B7⟩
        case measure => simp [intOf]; omega
      · have hcell := HC.out 6 ⟨#[115, 117, 114, 114, 111, 103, 97, 116, 101, 45, 107, 101, 121]⟩ (World.cell?_alloc_mark _ _ _ _ _)
        have O3 : Hid (OwnsF (w2.alloc (.cells #[.string ⟨#[115, 117, 114, 114, 111, 103, 97, 116, 101, 45, 107, 101, 121]⟩, .string ⟨#[]⟩] 41)) w.heap.size (.slice ua l.length uc) l) := O2.out.alloc _
        have B3 : Hid (Beside b w (w2.alloc (.cells #[.string ⟨#[115, 117, 114, 114, 111, 103, 97, 116, 101, 45, 107, 101, 121]⟩, .string ⟨#[]⟩] 41))) := B2.out.more9 _
        have C3 : Hid (Cur (w2.alloc (.cells #[.string ⟨#[115, 117, 114, 114, 111, 103, 97, 116, 101, 45, 107, 101, 121]⟩, .string ⟨#[]⟩] 41)) b sa sl sc) := C2.out.more9 _
        have f0 : Hid ((w2.alloc (.cells #[.string ⟨#[115, 117, 114, 114, 111, 103, 97, 116, 101, 45, 107, 101, 121]⟩, .string ⟨#[]⟩] 41)).cell? ⟨w2.heap.size, 0, Option.none⟩ = some (.string ⟨#[115, 117, 114, 114, 111, 103, 97, 116, 101, 45, 107, 101, 121]⟩)) := World.cell?_alloc_mark _ _ _ _ _
        have f1 : Hid ((w2.alloc (.cells #[.string ⟨#[115, 117, 114, 114, 111, 103, 97, 116, 101, 45, 107, 101, 121]⟩, .string ⟨#[]⟩] 41)).cell? ⟨w2.heap.size, 1, Option.none⟩ = some (.string ⟨#[]⟩)) := World.cell?_alloc_mark _ _ _ _ _
        have ff : Hid ((w2.alloc (.cells #[.string ⟨#[115, 117, 114, 114, 111, 103, 97, 116, 101, 45, 107, 101, 121]⟩, .string ⟨#[]⟩] 41)).frozen? ⟨w2.heap.size, 1, Option.none⟩ = false) := by show _ = _; rw [World.frozen?_alloc_mark]; simp
        have hs3 : Hid ((w2.alloc (.cells #[.string ⟨#[115, 117, 114, 114, 111, 103, 97, 116, 101, 45, 107, 101, 121]⟩, .string ⟨#[]⟩] 41)).heap.size = w2.heap.size + 1) := by show _ = _; simp
        clear O2 B2 C2
        go_wp2_with fail
        refine (l1Below b sa sl sc 3 (by decide) (by decide) _ (C3.out.more9 _)).mono ?_
        rintro e w4 ⟨x, rfl, hx0, hx1, hc4, hb4'⟩
        obtain ⟨x, rfl⟩ := Int.eq_ofNat_of_zero_le hx0
        obtain ⟨t, htc, htz'⟩ := tabT9 10 hb4' (by simp <;> omega) x (by simp; omega) (by decide)
        rw [hs3.out] at htc
        have O4 : Hid (OwnsF w4 w.heap.size (.slice ua l.length uc) l) := (O3.out.alloc _).beside10 hb4' hbz
        have B4 : Hid (Beside b w w4) := (B3.out.more9 _).trans hb4'
        have C4 : Hid (Cur w4 b sa sl sc) := hc4
        have g0 := besideCell hb4' (by omega) ((((Below.refl _ _).alloc (Nat.le_refl _) _).cell (p := ⟨w2.heap.size, 0, Option.none⟩) (by rw [hs3.out]; show w2.heap.size < _; omega)).trans f0.out)
        have g1 := besideCell hb4' (by omega) ((((Below.refl _ _).alloc (Nat.le_refl _) _).cell (p := ⟨w2.heap.size, 1, Option.none⟩) (by rw [hs3.out]; show w2.heap.size < _; omega)).trans f1.out)
        have gf : w4.frozen? ⟨w2.heap.size, 1, Option.none⟩ = false := (World.frozen?_of_block (a := ⟨w2.heap.size, 1, Option.none⟩) ((hb4'.2.2.2.2 w2.heap.size (by simp <;> omega) (by omega)).trans (((Below.refl _ _).alloc (Nat.le_refl _) _).block w2.heap.size (by rw [hs3.out]; omega)))).trans ff.out
        clear hb4' hc4 O3 B3 C3 f0 f1 ff hcell
        have htz : t.size ≤ 84 := by omega
        have O6 : Hid (OwnsF (w4.setCell ⟨w2.heap.size, 1, Option.none⟩ (.string t)) w.heap.size (.slice ua l.length uc) l) := O4.out.but10 HN.out _
        have B6 : Hid (Beside b w (w4.setCell ⟨w2.heap.size, 1, Option.none⟩ (.string t))) := B4.out.set10 (by omega) _
        have C6 : Hid (Cur (w4.setCell ⟨w2.heap.size, 1, Option.none⟩ (.string t)) b sa sl sc) := C4.out.kept (below_set10 _ _ _ _) hb2z
        have h0 : (w4.setCell ⟨w2.heap.size, 1, Option.none⟩ (.string t)).cell? ⟨w2.heap.size, 0, Option.none⟩ = some (.string ⟨#[115, 117, 114, 114, 111, 103, 97, 116, 101, 45, 107, 101, 121]⟩) := by rw [World.cell?_setCell_other _ _ _ _ (by simp)]; exact g0
        have h1 : (w4.setCell ⟨w2.heap.size, 1, Option.none⟩ (.string t)).cell? ⟨w2.heap.size, 1, Option.none⟩ = some (.string t) := World.cell?_setCell_same _ _ _ g1
        clear O4 B4 C4
        go_upto_region 20 with fail
        generalize w4.setCell ⟨w2.heap.size, 1, Option.none⟩ (.string t) = w6 at O6 B6 C6 h0 h1 ⊢
        go_wp2_with (at_builtin; refine wpList_pushF _ rfl (.tmp 58) (.tmp 60) rfl w.heap.size _ _ (⟨#[115, 117, 114, 114, 111, 103, 97, 116, 101, 45, 107, 101, 121]⟩, t) rfl O6.out rfl (by omega) B6.out.2.2.2.1 ?_; intro v7 w7 ho7 hg7)
        have O7 : Hid (OwnsF w7 w.heap.size v7 (l ++ [(⟨#[115, 117, 114, 114, 111, 103, 97, 116, 101, 45, 107, 101, 121]⟩, t)])) := ho7
        have B7 : Hid (Beside b w w7) := B6.out.grown10 hg7 (OwnsF.from O6.out)
        have C7 : Hid (Cur w7 b sa sl sc) := C6.out.kept (grown_low10 hg7 (OwnsF.from O6.out) B6.out.2.2.2.1) hbz
        have S7 : Hid (∀ f ∈ l ++ [(⟨#[115, 117, 114, 114, 111, 103, 97, 116, 101, 45, 107, 101, 121]⟩, t)], f.1.size ≤ 13 ∧ f.2.size ≤ 84) := fun g hg => by
          rcases List.mem_append.1 hg with hg | hg
          · exact hsm.out g hg
          · rw [List.mem_singleton.1 hg]; exact ⟨by show (⟨#[115, 117, 114, 114, 111, 103, 97, 116, 101, 45, 107, 101, 121]⟩ : ByteArray).size ≤ 13; decide, htz⟩
        clear ho7 hg7 O6 B6 C6 hsm h0 h1
        go_roundw
        case rel => exact ⟨k - 1, l ++ [(⟨#[115, 117, 114, 114, 111, 103, 97, 116, 101, 45, 107, 101, 121]⟩, t)], by go_num, by simp; omega, S7, O7, C7, B7⟩
        case measure => simp [intOf]; omega
      · have hcell := HC.out 7 ⟨#[99, 97, 99, 104, 101, 45, 99, 111, 110, 116, 114, 111, 108]⟩ (World.cell?_alloc_mark _ _ _ _ _)
        have O3 : Hid (OwnsF (w2.alloc (.cells #[.string ⟨#[99, 97, 99, 104, 101, 45, 99, 111, 110, 116, 114, 111, 108]⟩, .string ⟨#[]⟩] 41)) w.heap.size (.slice ua l.length uc) l) := O2.out.alloc _
        have B3 : Hid (Beside b w (w2.alloc (.cells #[.string ⟨#[99, 97, 99, 104, 101, 45, 99, 111, 110, 116, 114, 111, 108]⟩, .string ⟨#[]⟩] 41))) := B2.out.more9 _
        have C3 : Hid (Cur (w2.alloc (.cells #[.string ⟨#[99, 97, 99, 104, 101, 45, 99, 111, 110, 116, 114, 111, 108]⟩, .string ⟨#[]⟩] 41)) b sa sl sc) := C2.out.more9 _
        have f0 : Hid ((w2.alloc (.cells #[.string ⟨#[99, 97, 99, 104, 101, 45, 99, 111, 110, 116, 114, 111, 108]⟩, .string ⟨#[]⟩] 41)).cell? ⟨w2.heap.size, 0, Option.none⟩ = some (.string ⟨#[99, 97, 99, 104, 101, 45, 99, 111, 110, 116, 114, 111, 108]⟩)) := World.cell?_alloc_mark _ _ _ _ _
        have f1 : Hid ((w2.alloc (.cells #[.string ⟨#[99, 97, 99, 104, 101, 45, 99, 111, 110, 116, 114, 111, 108]⟩, .string ⟨#[]⟩] 41)).cell? ⟨w2.heap.size, 1, Option.none⟩ = some (.string ⟨#[]⟩)) := World.cell?_alloc_mark _ _ _ _ _
        have ff : Hid ((w2.alloc (.cells #[.string ⟨#[99, 97, 99, 104, 101, 45, 99, 111, 110, 116, 114, 111, 108]⟩, .string ⟨#[]⟩] 41)).frozen? ⟨w2.heap.size, 1, Option.none⟩ = false) := by show _ = _; rw [World.frozen?_alloc_mark]; simp
        have hs3 : Hid ((w2.alloc (.cells #[.string ⟨#[99, 97, 99, 104, 101, 45, 99, 111, 110, 116, 114, 111, 108]⟩, .string ⟨#[]⟩] 41)).heap.size = w2.heap.size + 1) := by show _ = _; simp
        clear O2 B2 C2
        go_wp2_with fail
        refine (l9DrawText b sa sl sc _ C3.out).mono ?_
        rintro e w4 ⟨⟨s, rfl, hs⟩, hc4, hb4⟩
        have O4 : Hid (OwnsF w4 w.heap.size (.slice ua l.length uc) l) := O3.out.beside10 hb4 hbz
        have B4 : Hid (Beside b w w4) := B3.out.trans hb4
        have C4 : Hid (Cur w4 b sa sl sc) := hc4
        have g0 := besideCell hb4 (by omega) f0.out
        have g1 := besideCell hb4 (by omega) f1.out
        have gf : w4.frozen? ⟨w2.heap.size, 1, Option.none⟩ = false := (World.frozen?_of_block (a := ⟨w2.heap.size, 1, Option.none⟩) (hb4.2.2.2.2 w2.heap.size (by rw [hs3.out]; omega) (by omega))).trans ff.out
        clear hb4 hc4 O3 B3 C3 f0 f1 ff hcell
        have ht := trimB_size s
        have hT := fun W => specTrim s W (by omega)
        generalize trimB s = t at ht hT
        go_wp2_with fail
        refine (hT _).mono ?_
        rintro e w5 ⟨rfl, rfl⟩
        clear hT
        have htz : t.size ≤ 84 := by omega
        have O6 : Hid (OwnsF (w4.setCell ⟨w2.heap.size, 1, Option.none⟩ (.string t)) w.heap.size (.slice ua l.length uc) l) := O4.out.but10 HN.out _
        have B6 : Hid (Beside b w (w4.setCell ⟨w2.heap.size, 1, Option.none⟩ (.string t))) := B4.out.set10 (by omega) _
        have C6 : Hid (Cur (w4.setCell ⟨w2.heap.size, 1, Option.none⟩ (.string t)) b sa sl sc) := C4.out.kept (below_set10 _ _ _ _) hb2z
        have h0 : (w4.setCell ⟨w2.heap.size, 1, Option.none⟩ (.string t)).cell? ⟨w2.heap.size, 0, Option.none⟩ = some (.string ⟨#[99, 97, 99, 104, 101, 45, 99, 111, 110, 116, 114, 111, 108]⟩) := by rw [World.cell?_setCell_other _ _ _ _ (by simp)]; exact g0
        have h1 : (w4.setCell ⟨w2.heap.size, 1, Option.none⟩ (.string t)).cell? ⟨w2.heap.size, 1, Option.none⟩ = some (.string t) := World.cell?_setCell_same _ _ _ g1
        clear O4 B4 C4
        go_upto_region 20 with fail
        generalize w4.setCell ⟨w2.heap.size, 1, Option.none⟩ (.string t) = w6 at O6 B6 C6 h0 h1 ⊢
        go_wp2_with (at_builtin; refine wpList_pushF _ rfl (.tmp 58) (.tmp 60) rfl w.heap.size _ _ (⟨#[99, 97, 99, 104, 101, 45, 99, 111, 110, 116, 114, 111, 108]⟩, t) rfl O6.out rfl (by omega) B6.out.2.2.2.1 ?_; intro v7 w7 ho7 hg7)
        have O7 : Hid (OwnsF w7 w.heap.size v7 (l ++ [(⟨#[99, 97, 99, 104, 101, 45, 99, 111, 110, 116, 114, 111, 108]⟩, t)])) := ho7
        have B7 : Hid (Beside b w w7) := B6.out.grown10 hg7 (OwnsF.from O6.out)
        have C7 : Hid (Cur w7 b sa sl sc) := C6.out.kept (grown_low10 hg7 (OwnsF.from O6.out) B6.out.2.2.2.1) hbz
        have S7 : Hid (∀ f ∈ l ++ [(⟨#[99, 97, 99, 104, 101, 45, 99, 111, 110, 116, 114, 111, 108]⟩, t)], f.1.size ≤ 13 ∧ f.2.size ≤ 84) := fun g hg => by
          rcases List.mem_append.1 hg with hg | hg
          · exact hsm.out g hg
          · rw [List.mem_singleton.1 hg]; exact ⟨by show (⟨#[99, 97, 99, 104, 101, 45, 99, 111, 110, 116, 114, 111, 108]⟩ : ByteArray).size ≤ 13; decide, htz⟩
        clear ho7 hg7 O6 B6 C6 hsm h0 h1
        go_roundw
        case rel => exact ⟨k - 1, l ++ [(⟨#[99, 97, 99, 104, 101, 45, 99, 111, 110, 116, 114, 111, 108]⟩, t)], by go_num, by simp; omega, S7, O7, C7, B7⟩
        case measure => simp [intOf]; omega
    · go_wp2
      go_ret
      exact ⟨⟨_, l, rfl, hown.out, by omega, hsm.out⟩, hcur.out, hbes.out⟩
end Go.Proofs.YtnachhmhjodbhaaGreatDoor
