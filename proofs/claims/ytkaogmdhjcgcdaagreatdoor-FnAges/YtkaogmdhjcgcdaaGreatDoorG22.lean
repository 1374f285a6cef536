/-
  The contracts of Get, the specification's and the program's.
  The specification's Get of any fields.
  Plain facts on messages: a message is read from what it is shown as, whatever stands behind it, and of no part of it; what is read is right.
  The contracts of Digits and HexDigits, the specification's and the program's, and of what they call: both read the same number.
  The specification's RequestOk, ResponseOk and Framing by their contracts.
  A request and a response by value; the specification's RequestOk, ResponseOk and Framing by their contracts.
  Rows of like elements in memory, each in so many cells: rows that are read, rows that a call owns, rows that it has for itself. Whatever the elements.
-/
import Derived.Test.YtkaogmdhjcgcdaaGreatDoorG21
import Derived.Test.YtkaogmdhjcgcdaaGreatDoorG08
import Derived.Test.YtkaogmdhjcgcdaaGreatDoorRows
import Derived.Test.YtkaogmdhjcgcdaaGreatDoorG06
import Derived.WalkKit
import Derived.WalkSpells
import Derived.Test.YtkaogmdhjcgcdaaGreatDoorG04
import Derived.Deep.QuietTactic
import Derived.BigQuiet
namespace Go.Proofs.YtkaogmdhjcgcdaaGreatDoor
open Go.RowKit Go.Sort

/-- What Get answers. -/
def getE (p : ByteArray × Bool) : Value := .tuple #[.string p.1, .bool p.2]
theorem ret_get {p : ByteArray × Bool} {x : ByteArray} {b : Bool} (h : (x, b) = p) : Ending.returned (.tuple #[.string x, .bool b]) = .returned (getE p) := by subst h; rfl
theorem same_no {a b : ByteArray} (h : ¬ a = b) : (a.toList == b.toList) = false := by rw [str_eq]; simp [h]
theorem same_yes {a b : ByteArray} (h : a = b) : (a.toList == b.toList) = true := by rw [str_eq]; simp [h]

end Go.Proofs.YtkaogmdhjcgcdaaGreatDoor
namespace Go.Proofs.YtkaogmdhjcgcdaaGreatDoor
open Go.RowKit

set_option maxHeartbeats 1000000 in
theorem specGetN (v : Value) (l : List Fl) (n : ByteArray) (w : World) (h : Fls w v l) (hz : szL l ≤ 1048576) (hl : l.length ≤ 1048576) (hn : n.size ≤ 1048576) :
    Calls Tryz.prog 49 #[v, .string n] w fun e w' => e = .returned (getE (getF l n)) ∧ Below w.heap.size w w' := by
  obtain ⟨a, cap, rfl, h1, h2, h3⟩ := h
  unfold maxLen at h2
  have hnm : n.size ≤ maxLen := by unfold maxLen; omega
  go_enter Tryz.func49, Tryz.ntmps49
  go_wp2
  go_loopw [6, 7, 8] (fun s b i wr => ∃ (k : Nat) (x : ByteArray) (fd : Bool), k ≤ l.length ∧ i = .int .i64 k ∧ s = .string x ∧ b = .bool fd ∧ x.size ≤ szL (l.take k) + 2 * k ∧ Hid (getF (l.take k) n = (x, fd)) ∧ Below w.heap.size w wr) (fun _ _ i _ => l.length - (intOf i).toNat)
  case atStart => exact ⟨0, ⟨#[]⟩, false, Nat.zero_le _, rfl, rfl, rfl, Nat.zero_le _, rfl, Below.refl _ _⟩
  case round =>
    obtain ⟨k, x, fd, hk, rfl, rfl, rfl, hxs, hget, hb⟩ := hrel
    by_cases hlt : k < l.length
    · obtain ⟨g, o, rfl, hg, hc⟩ := h3 (by omega)
      have c1 := (hb.cell (p := ⟨g, o + k * 2, none⟩) hg).trans (hc k hlt).1
      have c2 := (hb.cell (p := ⟨g, o + k * 2 + 1, none⟩) hg).trans (hc k hlt).2
      have hsz := szL_at hlt
      have hst := szL_take l k
      have hsn := szL_next hlt
      have hnx := getF_next n hlt
      rw [hget.out] at hnx
      generalize l[k] = f at c1 c2 hsz hnx hsn
      have HSN : Hid _ := hsn
      have HST : Hid _ := hst
      have zx : x.size ≤ 3145728 := by omega
      have zf : f.1.size ≤ 1048576 ∧ f.2.size ≤ 1048576 := by omega
      obtain ⟨zf1, zf2⟩ := zf
      clear hsn hst
      have hgr : g < wr.heap.size := Nat.lt_of_lt_of_le hg hb.size
      have z1 : f.1.size ≤ maxLen := by unfold maxLen; omega
      clear hc h3
      by_cases he : lowS f.1 = lowS n
      · have hq := same_yes he
        cases fd with
        | false =>
          rw [gStep_first he] at hnx
          have HN : Hid (getF (l.take (k + 1)) n = (x ++ f.2, true)) := hnx
          clear hnx he
          go_wp2_with fail
          refine (specLow _ _ z1).mono ?_
          rintro e w1 ⟨rfl, hb1⟩
          have d2 := (hb1.cell (p := ⟨g, o + k * 2 + 1, none⟩) hgr).trans c2
          go_wp2_with fail
          refine (specLow _ _ hnm).mono ?_
          rintro e w2 ⟨rfl, hb2⟩
          have e2 := (hb2.cell (p := ⟨g, o + k * 2 + 1, none⟩) (Nat.lt_of_lt_of_le hgr hb1.size)).trans d2
          have hb02 : Below w.heap.size w w2 := (hb.trans (hb1.mono hb.size)).trans (hb2.mono (Nat.le_trans hb.size hb1.size))
          clear c1 c2 d2 hb hb1 hb2
          go_wp2
          go_roundw
          case rel => exact ⟨k + 1, _, true, by omega, by go_num, rfl, rfl, by have hsn := HSN.out; rw [ByteArray.size_append]; omega, HN, hb02⟩
          case measure => simp [intOf]; omega
        | true =>
          rw [gStep_more he] at hnx
          have HN : Hid (getF (l.take (k + 1)) n = (x ++ ⟨#[44, 32]⟩ ++ f.2, true)) := hnx
          clear hnx he
          have zz : (x ++ (⟨#[44, 32]⟩ : ByteArray)).size = x.size + 2 := by rw [ByteArray.size_append]; rfl
          go_wp2_with fail
          refine (specLow _ _ z1).mono ?_
          rintro e w1 ⟨rfl, hb1⟩
          have d2 := (hb1.cell (p := ⟨g, o + k * 2 + 1, none⟩) hgr).trans c2
          go_wp2_with fail
          refine (specLow _ _ hnm).mono ?_
          rintro e w2 ⟨rfl, hb2⟩
          have e2 := (hb2.cell (p := ⟨g, o + k * 2 + 1, none⟩) (Nat.lt_of_lt_of_le hgr hb1.size)).trans d2
          have hb02 : Below w.heap.size w w2 := (hb.trans (hb1.mono hb.size)).trans (hb2.mono (Nat.le_trans hb.size hb1.size))
          clear c1 c2 d2 hb hb1 hb2
          go_wp2
          go_roundw
          case rel => exact ⟨k + 1, _, true, by omega, by go_num, rfl, rfl, by have hsn := HSN.out; rw [ByteArray.size_append, zz]; omega, HN, hb02⟩
          case measure => simp [intOf]; omega
      · have hq := same_no he
        rw [gStep_no he] at hnx
        have HN : Hid (getF (l.take (k + 1)) n = (x, fd)) := hnx
        clear hnx he
        go_wp2_with fail
        refine (specLow _ _ z1).mono ?_
        rintro e w1 ⟨rfl, hb1⟩
        go_wp2_with fail
        refine (specLow _ _ hnm).mono ?_
        rintro e w2 ⟨rfl, hb2⟩
        have hb02 : Below w.heap.size w w2 := (hb.trans (hb1.mono hb.size)).trans (hb2.mono (Nat.le_trans hb.size hb1.size))
        clear c1 c2 hb hb1 hb2
        go_wp2
        go_roundw
        case rel => exact ⟨k + 1, _, fd, by omega, by go_num, rfl, rfl, by have hsn := HSN.out; omega, HN, hb02⟩
        case measure => simp [intOf]; omega
    · have HN : Hid ((x, fd) = getF l n) := by rw [← getF_end n hlt]; exact hget.out.symm
      go_wp2
      go_ret2
      exact ⟨ret_get HN.out, hb⟩

end Go.Proofs.YtkaogmdhjcgcdaaGreatDoor
namespace Go.Proofs.YtkaogmdhjcgcdaaGreatDoor
open Go.RowKit

/-! ### Words -/
/-! ### Lines -/
/-! ### Fields of a message -/
theorem void_list {b : ByteArray} (h : b.size = 0) : b.data.toList = [] := by
  apply List.eq_nil_of_length_eq_zero
  have : b.data.toList.length = b.size := by simp
  omega
/-! ### First lines -/
theorem rsOk_parts {r : Rs} (h : rsOk r = true) : (200 ≤ r.s ∧ r.s ≤ 599) ∧ ownB r.l = true ∧ r.b.size ≤ 4000 ∧ (bareB r.s = true → r.b.size = 0) := by
  unfold rsOk at h
  rw [Bool.and_eq_true, Bool.and_eq_true, Bool.and_eq_true] at h
  refine ⟨of_decide_eq_true h.1, h.2.1, of_decide_eq_true h.2.2.1, fun hb => ?_⟩
  have := h.2.2.2
  rw [hb] at this
  simpa using this
end Go.Proofs.YtkaogmdhjcgcdaaGreatDoor
namespace Go.Proofs.YtkaogmdhjcgcdaaGreatDoor
open Go.RowKit

theorem ret_int {k : IntKind} {a b : Int} (h : a = b) : Ending.returned (.int k a) = .returned (.int k b) := by rw [h]

theorem implDigV_d (r : Int) (w : World) (h : 48 ≤ r ∧ r ≤ 57) :
    Calls Tryz.prog 191 #[.int .i32 r] w fun e w' => e = .returned (.int .i64 (digV r)) ∧ w' = w := by
  have hd := (digV_d h).symm
  have HD : Hid (_ = digV r) := hd
  clear hd
  obtain ⟨h1, h2⟩ := h
  go_enter Tryz.func191, Tryz.ntmps191
  go_wp2
  go_ret
  exact ⟨ret_int HD.out, rfl⟩
theorem implDigV_a (r : Int) (w : World) (h : 97 ≤ r ∧ r ≤ 102) :
    Calls Tryz.prog 191 #[.int .i32 r] w fun e w' => e = .returned (.int .i64 (digV r)) ∧ w' = w := by
  have hd := (digV_a h).symm
  have HD : Hid (_ = digV r) := hd
  clear hd
  obtain ⟨h1, h2⟩ := h
  go_enter Tryz.func191, Tryz.ntmps191
  go_wp2
  go_ret
  exact ⟨ret_int HD.out, rfl⟩
theorem implDigV_A (r : Int) (w : World) (h : 65 ≤ r ∧ r ≤ 70) :
    Calls Tryz.prog 191 #[.int .i32 r] w fun e w' => e = .returned (.int .i64 (digV r)) ∧ w' = w := by
  have hd := (digV_A h).symm
  have HD : Hid (_ = digV r) := hd
  clear hd
  obtain ⟨h1, h2⟩ := h
  go_enter Tryz.func191, Tryz.ntmps191
  go_wp2
  go_ret
  exact ⟨ret_int HD.out, rfl⟩
theorem implDigV_no (r : Int) (w : World) (h : ¬ (48 ≤ r ∧ r ≤ 57)) (h' : ¬ (97 ≤ r ∧ r ≤ 102)) (h'' : ¬ (65 ≤ r ∧ r ≤ 70)) :
    Calls Tryz.prog 191 #[.int .i32 r] w fun e w' => e = .returned (.int .i64 (digV r)) ∧ w' = w := by
  have hd := digV_no h h' h''
  have HD : Hid (digV r = -1) := hd
  clear hd
  rcases (show r < 48 ∨ (57 < r ∧ r < 65) ∨ (70 < r ∧ r < 97) ∨ 102 < r from by omega) with g | ⟨g, g'⟩ | ⟨g, g'⟩ | g
  all_goals
    clear h h' h''
    go_enter Tryz.func191, Tryz.ntmps191
    go_wp2
    go_ret
    exact ⟨ret_int HD.out.symm, rfl⟩
theorem implDigV (r : Int) (w : World) :
    Calls Tryz.prog 191 #[.int .i32 r] w fun e w' => e = .returned (.int .i64 (digV r)) ∧ w' = w := by
  by_cases h : 48 ≤ r ∧ r ≤ 57
  · exact implDigV_d r w h
  by_cases h' : 97 ≤ r ∧ r ≤ 102
  · exact implDigV_a r w h'
  by_cases h'' : 65 ≤ r ∧ r ≤ 70
  · exact implDigV_A r w h''
  · exact implDigV_no r w h h' h''

theorem specDig_out (s : ByteArray) (w : World) (hs : s.size ≤ maxLen) (h : s.size < 1 ∨ 15 < s.size) :
    Calls Tryz.prog 50 #[.string s] w fun e w' => e = .returned (numE 10 15 s) ∧ Below w.heap.size w w' := by
  unfold maxLen at hs
  have ht := numE_no (numOk_out (b := 10) h)
  have HT : Hid (_ = Ending.returned (numE 10 15 s)) := ht
  clear ht
  rcases h with h | h
  · go_enter Tryz.func50, Tryz.ntmps50
    go_wp2
    go_ret2
    exact ⟨HT.out, Below.refl _ _⟩
  · have h' : ¬ s.size < 1 := by omega
    go_enter Tryz.func50, Tryz.ntmps50
    go_wp2
    go_ret2
    exact ⟨HT.out, Below.refl _ _⟩

set_option maxHeartbeats 400000 in
theorem specDig_in (s : ByteArray) (w : World) (h1 : 1 ≤ s.size) (h2 : s.size ≤ 15) :
    Calls Tryz.prog 50 #[.string s] w fun e w' => e = .returned (numE 10 15 s) ∧ Below w.heap.size w w' := by
  have d1 : decide ((s.size : Int) < 1) = false := by simp; omega
  have d2 : decide (15 < (s.size : Int)) = false := by simp; omega
  go_enter Tryz.func50, Tryz.ntmps50
  go_wp2
  go_loop [4, 5] (fun v i => ∃ (k : Nat) (n : Int), k ≤ s.size ∧ i = .int .i64 k ∧ v = .int .i64 n ∧ 0 ≤ n ∧ n ≤ 1000000000000000 ∧ Hid (allB (digN 10) (s.data.toList.take k) = true) ∧ Hid (n = numL 10 (s.data.toList.take k))) (fun _ i => s.size - (intOf i).toNat)
  case atStart => exact ⟨0, 0, Nat.zero_le _, rfl, rfl, by decide, by decide, allB_nil _ _, rfl⟩
  case round =>
    obtain ⟨k, n, hk, rfl, rfl, hn0, hn1, ha, hn⟩ := hrel
    by_cases hlt : k < s.size
    · by_cases hg : 48 ≤ (s[k].toNat : Int) ∧ (s[k].toNat : Int) ≤ 57
      · have e1 := digV_d hg
        have e2 := allB_step hlt ha.out (digN_yes (b := 10) (digV_ten.2 hg).1 (digV_ten.2 hg).2)
        have e3 := numL_step hlt hn.out
        rw [e1] at e3
        have e4 := num_bound10 (by omega) (by omega) e2
        rw [← e3] at e4
        have H2 : Hid (allB (digN 10) (s.data.toList.take (k + 1)) = true) := e2
        have H3 : Hid (n * 10 + ((s[k].toNat : Int) - 48) = numL 10 (s.data.toList.take (k + 1))) := e3
        have H4 : Hid (0 ≤ n * 10 + ((s[k].toNat : Int) - 48) ∧ n * 10 + ((s[k].toNat : Int) - 48) ≤ 1000000000000000) := e4
        clear e1 e2 e3 e4
        obtain ⟨hg1, hg2⟩ := hg
        go_wp2
        go_round
        case rel => exact ⟨k + 1, _, by omega, by go_num, rfl, H4.out.1, H4.out.2, H2, H3⟩
        case measure => simp [intOf]; omega
      · have hf := numE_no (numOk_in (b := 10) h1 h2 (allB_not hlt (digN_no (fun x => hg (digV_ten.1 x)))))
        have HF : Hid (_ = Ending.returned (numE 10 15 s)) := hf
        clear hf
        rcases (show (s[k].toNat : Int) < 48 ∨ 57 < (s[k].toNat : Int) from by omega) with g | g
        all_goals
          go_wp2
          go_ret2
          exact ⟨HF.out, Below.refl _ _⟩
    · have hf := numE_yes (numOk_in (b := 10) h1 h2 (allB_end hlt ha.out)) (hn.out.trans (by rw [take_all s k hlt]))
      have HF : Hid (_ = Ending.returned (numE 10 15 s)) := hf
      clear hf
      go_wp2
      go_ret2
      exact ⟨HF.out, Below.refl _ _⟩

theorem specDig (s : ByteArray) (w : World) (hs : s.size ≤ maxLen) :
    Calls Tryz.prog 50 #[.string s] w fun e w' => e = .returned (numE 10 15 s) ∧ Below w.heap.size w w' := by
  by_cases h : s.size < 1 ∨ 15 < s.size
  · exact specDig_out s w hs h
  · exact specDig_in s w (by omega) (by omega)

theorem implNum10_out (s : ByteArray) (w : World) (hs : s.size ≤ maxLen) (h : s.size < 1 ∨ 15 < s.size) :
    Calls Tryz.prog 176 #[.string s, .int .i64 10, .int .i64 15] w fun e w' => e = .returned (numE 10 15 s) ∧ Below w.heap.size w w' := by
  unfold maxLen at hs
  have ht := numE_no (numOk_out (b := 10) h)
  have HT : Hid (_ = Ending.returned (numE 10 15 s)) := ht
  clear ht
  rcases h with h | h
  · go_enter Tryz.func176, Tryz.ntmps176
    go_wp2
    go_ret2
    exact ⟨HT.out, Below.refl _ _⟩
  · have h' : ¬ s.size < 1 := by omega
    go_enter Tryz.func176, Tryz.ntmps176
    go_wp2
    go_ret2
    exact ⟨HT.out, Below.refl _ _⟩

set_option maxHeartbeats 400000 in
theorem implNum10_in (s : ByteArray) (w : World) (h1 : 1 ≤ s.size) (h2 : s.size ≤ 15) :
    Calls Tryz.prog 176 #[.string s, .int .i64 10, .int .i64 15] w fun e w' => e = .returned (numE 10 15 s) ∧ Below w.heap.size w w' := by
  have d1 : decide ((s.size : Int) < 1) = false := by simp; omega
  have d2 : decide (15 < (s.size : Int)) = false := by simp; omega
  go_enter Tryz.func176, Tryz.ntmps176
  go_wp2
  go_loopw [8] (fun v wr => ∃ (pos : Nat) (n : Int), pos ≤ s.size ∧ wr = w.iter s pos ∧ v = .int .i64 n ∧ 0 ≤ n ∧ n ≤ 1000000000000000 ∧ Hid (allB (digN 10) (s.data.toList.take pos) = true) ∧ Hid (n = numL 10 (s.data.toList.take pos))) (fun _ wr => s.size - wr.iterPos w.heap.size)
  case atStart => exact ⟨0, 0, Nat.zero_le _, rfl, rfl, by decide, by decide, allB_nil _ _, rfl⟩
  case round =>
    obtain ⟨pos, n, hpos, rfl, rfl, hn0, hn1, ha, hn⟩ := hrel
    by_cases hp : pos < s.size
    · by_cases hasc : (s[pos]).toNat < 128
      · have hnx : ∀ ty, (Instr.next (.pointer (some ⟨w.heap.size, 0, none⟩)) true ty).run Tryz.prog (w.iter s pos) = _ := fun ty => run_next_ascii w s pos ty hp hasc
        have hbd := digV_bd (s[pos].toNat : Int)
        by_cases hg : 0 ≤ digV (s[pos].toNat : Int) ∧ digV (s[pos].toNat : Int) < 10
        · have e2 := allB_step hp ha.out (digN_yes (b := 10) hg.1 hg.2)
          have e3 := numL_step hp hn.out
          have e4 := num_bound10 (by omega) (by omega) e2
          rw [← e3] at e4
          have H2 : Hid (allB (digN 10) (s.data.toList.take (pos + 1)) = true) := e2
          have H3 : Hid (n * 10 + digV (s[pos].toNat : Int) = numL 10 (s.data.toList.take (pos + 1))) := e3
          have H4 : Hid (0 ≤ n * 10 + digV (s[pos].toNat : Int) ∧ n * 10 + digV (s[pos].toNat : Int) ≤ 1000000000000000) := e4
          clear e2 e3 e4
          obtain ⟨hb1, hb2⟩ := hbd
          obtain ⟨hg1, hg2⟩ := hg
          go_wp2_with (go_at_call 191; refine (implDigV _ _).mono ?_; rintro e w' ⟨rfl, rfl⟩)
          go_roundw
          case rel => exact ⟨pos + 1, _, by omega, rfl, rfl, H4.out.1, H4.out.2, H2, H3⟩
          case measure => simp; omega
        · have hf := numE_no (numOk_in (b := 10) h1 h2 (allB_not hp (digN_no hg)))
          have HF : Hid (_ = Ending.returned (numE 10 15 s)) := hf
          clear hf
          rcases (show digV (s[pos].toNat : Int) < 0 ∨ (0 ≤ digV (s[pos].toNat : Int) ∧ 10 ≤ digV (s[pos].toNat : Int)) from by omega) with g | ⟨g, g'⟩
          all_goals
            clear hg
            go_wp2_with (go_at_call 191; refine (implDigV _ _).mono ?_; rintro e w' ⟨rfl, rfl⟩)
            go_ret2
            exact ⟨HF.out, below_iter _ _ _⟩
      · have hnx : ∀ ty, (Instr.next (.pointer (some ⟨w.heap.size, 0, none⟩)) true ty).run Tryz.prog (w.iter s pos) = _ := fun ty => run_next_any w s pos ty hp
        have hd := (decode_high s pos hp (by omega)).1
        have hz : digV (s[pos].toNat : Int) = -1 := digV_high (by omega)
        have hf := numE_no (numOk_in (b := 10) h1 h2 (allB_not hp (digN_no (by omega))))
        have HF : Hid (_ = Ending.returned (numE 10 15 s)) := hf
        clear hf hz
        generalize (Utf8.decode s pos).1 = r at hnx hd
        generalize (Utf8.decode s pos).2 = p2 at hnx
        have ht : digV (r : Int) = -1 := digV_high (by omega)
        go_wp2_with (go_at_call 191; refine (implDigV _ _).mono ?_; rintro e w' ⟨rfl, rfl⟩)
        go_ret2
        exact ⟨HF.out, below_iter _ _ _⟩
    · have hnx : ∀ ty, (Instr.next (.pointer (some ⟨w.heap.size, 0, none⟩)) true ty).run Tryz.prog (w.iter s pos) = _ := fun ty => run_next_end w s pos ty hp
      have hf := numE_yes (numOk_in (b := 10) h1 h2 (allB_end hp ha.out)) (hn.out.trans (by rw [take_all s pos hp]))
      have HF : Hid (_ = Ending.returned (numE 10 15 s)) := hf
      clear hf
      go_wp2
      go_ret2
      exact ⟨HF.out, below_iter _ _ _⟩

theorem implNum10 (s : ByteArray) (w : World) (hs : s.size ≤ maxLen) :
    Calls Tryz.prog 176 #[.string s, .int .i64 10, .int .i64 15] w fun e w' => e = .returned (numE 10 15 s) ∧ Below w.heap.size w w' := by
  by_cases h : s.size < 1 ∨ 15 < s.size
  · exact implNum10_out s w hs h
  · exact implNum10_in s w (by omega) (by omega)

theorem implDig (s : ByteArray) (w : World) (hs : s.size ≤ maxLen) :
    Calls Tryz.prog 149 #[.string s] w fun e w' => e = .returned (numE 10 15 s) ∧ Below w.heap.size w w' := by
  unfold numE
  go_enter Tryz.func149, Tryz.ntmps149
  go_wp2_with (go_at_call 176; refine (implNum10 _ _ hs).mono ?_; unfold numE; rintro e w' ⟨rfl, hb⟩)
  go_ret2
  exact ⟨rfl, hb⟩
end Go.Proofs.YtkaogmdhjcgcdaaGreatDoor
namespace Go.Proofs.YtkaogmdhjcgcdaaGreatDoor
open Go.RowKit
set_option linter.unusedVariables false

/-- What a walk is told of fields that came in. -/
def Solid (v : Value) : Prop := ∀ n c, v = .slice none n c → c = 0
def Fits (w : World) (v : Value) (l : List Fl) : Prop := Fls w v l ∧ szL l ≤ 1048576 ∧ l.length ≤ 1048576 ∧ Solid v
theorem Fits.kept {w w' : World} {v : Value} {l : List Fl} (h : Fits w v l) (hb : Below w.heap.size w w') : Fits w' v l := ⟨h.1.kept hb, h.2⟩
theorem past6 {w w1 w2 : World} (h : Below w.heap.size w w1) (hb : Below w1.heap.size w1 w2) : Below w.heap.size w w2 := h.trans (hb.mono h.size)

theorem specOwn (v : Value) (l : List Fl) (w : World) (h : Fits w v l) :
    Calls Tryz.prog 97 #[v] w fun e w' => e = .returned (.bool (ownB l)) ∧ Below w.heap.size w w' := by
  have hg1 := specGetN v l clS w h.1 h.2.1 h.2.2.1 (by decide)
  have hz := h.2.1
  have hl := h.2.2.1
  unfold getE at hg1
  obtain ⟨a, cap, rfl, hcap⟩ := h.1
  have HF : Hid (Fits w (.slice a l.length cap) l) := h
  clear h hcap
  have ho : Hid (ownB l = (fldsOk l && (!(getF l clS).2 && !(getF l teS).2))) := rfl
  obtain ⟨x, p, hx⟩ : ∃ x p, getF l clS = (x, p) := ⟨_, _, rfl⟩
  obtain ⟨y, q, hy⟩ : ∃ y q, getF l teS = (y, q) := ⟨_, _, rfl⟩
  have hg2 : ∀ w, Fits w (.slice a l.length cap) l → Calls Tryz.prog 49 #[.slice a l.length cap, .string teS] w fun e w' => e = .returned (.tuple #[.string y, .bool q]) ∧ Below w.heap.size w w' := fun w h => by
    have := specGetN _ l teS w h.1 h.2.1 h.2.2.1 (by decide)
    unfold getE at this
    rw [hy] at this
    exact this
  rw [hx] at hg1
  have HO : Hid (ownB l = (fldsOk l && (!p && !q))) := by have := ho.out; rw [hx, hy] at this; exact this
  clear hx hy ho
  have hg3 : Hid (∀ w, Fits w (.slice a l.length cap) l → Calls Tryz.prog 49 #[.slice a l.length cap, .string teS] w fun e w' => e = .returned (.tuple #[.string y, .bool q]) ∧ Below w.heap.size w w') := hg2
  clear hg2
  unfold clS at hg1
  unfold teS at hg3
  go_enter Tryz.func97, Tryz.ntmps97
  go_wp2_with fail
  refine hg1.mono ?_
  rintro e w1 ⟨rfl, hb1⟩
  have HF1 : Hid (Fits w1 (.slice a l.length cap) l) := HF.out.kept hb1
  clear hg1
  go_wp2_with fail
  refine (hg3.out _ HF1.out).mono ?_
  rintro e w2 ⟨rfl, hb2'⟩
  have hb2 := past6 hb1 hb2'
  have HF2 : Hid (Fits w2 (.slice a l.length cap) l) := HF1.out.kept hb2'
  clear hb1 hb2' hg3
  go_wp2_with fail
  refine (specOk _ l _ HF2.out.1 hz).mono ?_
  rintro e w3 ⟨rfl, hb3'⟩
  have hb3 := past6 hb2 hb3'
  clear hb3' hb2
  cases ok : fldsOk l with
  | false =>
    rw [ok] at HO
    have H0 : Hid (false = ownB l) := by rw [HO.out]; rfl
    clear HO
    go_wp2
    go_ret
    exact ⟨ret_bool H0.out, hb3⟩
  | true =>
    rw [ok] at HO
    cases p with
    | true =>
      have H0 : Hid (false = ownB l) := by rw [HO.out]; rfl
      clear HO
      go_wp2
      go_ret
      exact ⟨ret_bool H0.out, hb3⟩
    | false =>
      cases q with
      | true =>
        have H0 : Hid (false = ownB l) := by rw [HO.out]; rfl
        clear HO
        go_wp2
        go_ret
        exact ⟨ret_bool H0.out, hb3⟩
      | false =>
        have H0 : Hid (true = ownB l) := by rw [HO.out]; rfl
        clear HO
        go_wp2
        go_ret
        exact ⟨ret_bool H0.out, hb3⟩
theorem specBare (s : Int) (w : World) :
    Calls Tryz.prog 98 #[.int .i64 s] w fun e w' => e = .returned (.bool (bareB s)) ∧ w = w' := by
  by_cases h1 : s = 204
  · subst h1
    have H0 : Hid (true = bareB 204) := rfl
    go_enter Tryz.func98, Tryz.ntmps98
    go_wp2
    go_ret
    exact ⟨ret_bool H0.out, rfl⟩
  · have d1 : (s == 204) = false := by simp [h1]
    by_cases h2 : s = 304
    · subst h2
      have H0 : Hid (true = bareB 304) := rfl
      go_enter Tryz.func98, Tryz.ntmps98
      go_wp2
      go_ret
      exact ⟨ret_bool H0.out, rfl⟩
    · have d2 : (s == 304) = false := by simp [h2]
      have H0 : Hid (false = bareB s) := by show false = bareB s; unfold bareB; simp [h1, h2]
      go_enter Tryz.func98, Tryz.ntmps98
      go_wp2
      go_ret
      exact ⟨ret_bool H0.out, rfl⟩
end Go.Proofs.YtkaogmdhjcgcdaaGreatDoor
namespace Go.Proofs.YtkaogmdhjcgcdaaGreatDoor
open Go.RowKit
set_option linter.unusedVariables false

def rsV (r : Rs) (v : Value) : Value := .agg #[.int .i64 r.s, v, .string r.b]
/-- The cells of a request in block b. -/
structure RqB (w : World) (b : Nat) (r : Rq) (v : Value) : Prop where
  c0 : w.cell? ⟨b, 0, none⟩ = some (.string r.m)
  c1 : w.cell? ⟨b, 1, none⟩ = some (.string r.t)
  c2 : w.cell? ⟨b, 2, none⟩ = some v
  c3 : w.cell? ⟨b, 3, none⟩ = some (.string r.b)
  fz : ∀ k, w.frozen? ⟨b, k, none⟩ = false
  hi : b < w.heap.size
structure RsB (w : World) (b : Nat) (r : Rs) (v : Value) : Prop where
  c0 : w.cell? ⟨b, 0, none⟩ = some (.int .i64 r.s)
  c1 : w.cell? ⟨b, 1, none⟩ = some v
  c2 : w.cell? ⟨b, 2, none⟩ = some (.string r.b)
  fz : ∀ k, w.frozen? ⟨b, k, none⟩ = false
  hi : b < w.heap.size
theorem RqB.new (w : World) (r : Rq) (v : Value) (t : TypeId) : RqB (w.alloc (.cells #[.string r.m, .string r.t, v, .string r.b] t)) w.heap.size r v where
  c0 := World.cell?_alloc_mark _ _ _ _ _
  c1 := World.cell?_alloc_mark _ _ _ _ _
  c2 := World.cell?_alloc_mark _ _ _ _ _
  c3 := World.cell?_alloc_mark _ _ _ _ _
  fz := fun k => by rw [World.frozen?_alloc_mark]; simp
  hi := by simp
theorem RsB.new (w : World) (r : Rs) (v : Value) (t : TypeId) : RsB (w.alloc (.cells #[.int .i64 r.s, v, .string r.b] t)) w.heap.size r v where
  c0 := World.cell?_alloc_mark _ _ _ _ _
  c1 := World.cell?_alloc_mark _ _ _ _ _
  c2 := World.cell?_alloc_mark _ _ _ _ _
  fz := fun k => by rw [World.frozen?_alloc_mark]; simp
  hi := by simp
theorem RqB.next {w w' : World} {b : Nat} {r : Rq} {v : Value} (h : RqB w b r v) (hb : Below w.heap.size w w') : RqB w' b r v := by
  have e : w'.heap[b]? = w.heap[b]? := hb.block b h.hi
  have k : ∀ k, w'.cell? ⟨b, k, none⟩ = w.cell? ⟨b, k, none⟩ := fun k => World.cell?_of_block (a := ⟨b, k, none⟩) e
  exact ⟨(k 0).trans h.c0, (k 1).trans h.c1, (k 2).trans h.c2, (k 3).trans h.c3, fun j => (World.frozen?_of_block (a := ⟨b, j, none⟩) e).trans (h.fz j), Nat.lt_of_lt_of_le h.hi hb.size⟩
theorem RsB.next {w w' : World} {b : Nat} {r : Rs} {v : Value} (h : RsB w b r v) (hb : Below w.heap.size w w') : RsB w' b r v := by
  have e : w'.heap[b]? = w.heap[b]? := hb.block b h.hi
  have k : ∀ k, w'.cell? ⟨b, k, none⟩ = w.cell? ⟨b, k, none⟩ := fun k => World.cell?_of_block (a := ⟨b, k, none⟩) e
  exact ⟨(k 0).trans h.c0, (k 1).trans h.c1, (k 2).trans h.c2, fun j => (World.frozen?_of_block (a := ⟨b, j, none⟩) e).trans (h.fz j), Nat.lt_of_lt_of_le h.hi hb.size⟩
theorem RqB.alloc {w : World} {b : Nat} {r : Rq} {v : Value} (h : RqB w b r v) (o : Obj) : RqB (w.alloc o) b r v := h.next ((Below.refl _ w).alloc (Nat.le_refl _) _)
theorem RsB.alloc {w : World} {b : Nat} {r : Rs} {v : Value} (h : RsB w b r v) (o : Obj) : RsB (w.alloc o) b r v := h.next ((Below.refl _ w).alloc (Nat.le_refl _) _)
theorem Fits.alloc {w : World} {v : Value} {l : List Fl} (h : Fits w v l) (o : Obj) : Fits (w.alloc o) v l := h.kept ((Below.refl _ w).alloc (Nat.le_refl _) _)
/-- What a walk is told of a request, of a response that came in. -/
def RqIn (w : World) (v : Value) (r : Rq) : Prop := Fits w v r.l ∧ r.m.size ≤ 1048576 ∧ r.t.size ≤ 1048576 ∧ r.b.size ≤ 1048576
def RsIn (w : World) (v : Value) (r : Rs) : Prop := Fits w v r.l ∧ r.b.size ≤ 1048576
theorem RqIn.kept {w w' : World} {v : Value} {r : Rq} (h : RqIn w v r) (hb : Below w.heap.size w w') : RqIn w' v r := ⟨h.1.kept hb, h.2⟩
theorem RsIn.kept {w w' : World} {v : Value} {r : Rs} (h : RsIn w v r) (hb : Below w.heap.size w w') : RsIn w' v r := ⟨h.1.kept hb, h.2⟩
theorem le_max {n : Nat} (h : n ≤ 1048576) : n ≤ maxLen := by unfold maxLen; omega

theorem specIn6 (x lo hi : Int) (w : World) :
    Calls Tryz.prog 63 #[.int .i64 x, .int .i64 lo, .int .i64 hi] w fun e w' => e = .returned (.bool (decide (lo ≤ x ∧ x ≤ hi))) ∧ w = w' := by
  obtain ⟨b, hb⟩ : ∃ b, decide (lo ≤ x ∧ x ≤ hi) = b := ⟨_, rfl⟩
  rw [hb]
  by_cases h1 : lo ≤ x
  · have H0 : Hid (decide (x ≤ hi) = b) := by show decide (x ≤ hi) = b; rw [← hb]; simp [h1]
    have d1 : decide (lo ≤ x) = true := by simpa using h1
    clear hb
    go_enter Tryz.func63, Tryz.ntmps63
    go_wp2
    go_ret
    exact ⟨ret_bool H0.out, rfl⟩
  · have H0 : Hid (false = b) := by show false = b; rw [← hb]; simp [h1]
    have d1 : decide (lo ≤ x) = false := by simpa using h1
    clear hb
    go_enter Tryz.func63, Tryz.ntmps63
    go_wp2
    go_ret
    exact ⟨ret_bool H0.out, rfl⟩
theorem rsOk_no1 {r : Rs} (h : decide (200 ≤ r.s ∧ r.s ≤ 599) = false) : false = rsOk r := by unfold rsOk; rw [h]; rfl
theorem rsOk_no2 {r : Rs} (h : decide (200 ≤ r.s ∧ r.s ≤ 599) = true) (h2 : ownB r.l = false) : false = rsOk r := by unfold rsOk; rw [h, h2]; rfl
theorem rsOk_no3 {r : Rs} (h : decide (200 ≤ r.s ∧ r.s ≤ 599) = true) (h2 : ownB r.l = true) (h3 : ¬ r.b.size ≤ 4000) : false = rsOk r := by unfold rsOk; rw [h, h2, decide_eq_false h3]; rfl
theorem rsOk_yes {r : Rs} (h : decide (200 ≤ r.s ∧ r.s ≤ 599) = true) (h2 : ownB r.l = true) (h3 : r.b.size ≤ 4000) (h4 : bareB r.s = false) : true = rsOk r := by unfold rsOk; rw [h, h2, decide_eq_true h3, h4]; rfl
theorem rsOk_is {r : Rs} (h : decide (200 ≤ r.s ∧ r.s ≤ 599) = true) (h2 : ownB r.l = true) (h3 : r.b.size ≤ 4000) (h4 : bareB r.s = true) : decide (r.b.size = 0) = rsOk r := by unfold rsOk; rw [h, h2, decide_eq_true h3, h4]; rfl
theorem void_emp (b : ByteArray) : b.toList.isEmpty = decide (b.size = 0) := by
  rw [ByteArray.toList_eq]
  by_cases h : b.size = 0
  · rw [decide_eq_true h, void_list h]; rfl
  · rw [decide_eq_false h, List.isEmpty_eq_false_iff]
    intro e
    apply h
    have : b.data.toList.length = b.size := by simp
    rw [e] at this
    simpa using this.symm
theorem ch_list : chS.toList = [99, 104, 117, 110, 107, 101, 100] := by rw [ByteArray.toList_eq]; rfl
theorem same_ch {y : ByteArray} {b : Bool} (h : (y.toList == chS.toList) = b) : (y.toList == [99, 104, 117, 110, 107, 101, 100]) = b := by rw [ch_list] at h; exact h
set_option maxHeartbeats 1000000 in
theorem specRsOk (r : Rs) (v : Value) (w : World) (h : RsIn w v r) :
    Calls Tryz.prog 58 #[rsV r v] w fun e w' => e = .returned (.bool (rsOk r)) ∧ Below w.heap.size w w' := by
  obtain ⟨hf, z3⟩ := h
  have hfs := hf.1
  obtain ⟨a, cap, rfl, hcap⟩ := hfs
  clear hcap
  unfold rsV
  have F0 : Hid (Fits (w.alloc (.cells #[.int .i64 r.s, .slice a r.l.length cap, .string r.b] 26)) (.slice a r.l.length cap) r.l) := hf.alloc _
  have Q0 : Hid (RsB (w.alloc (.cells #[.int .i64 r.s, .slice a r.l.length cap, .string r.b] 26)) w.heap.size r (.slice a r.l.length cap)) := RsB.new w r _ _
  have B0 : Hid (Below w.heap.size w (w.alloc (.cells #[.int .i64 r.s, .slice a r.l.length cap, .string r.b] 26))) := (Below.refl _ w).alloc (Nat.le_refl _) _
  clear hf
  have hq1 : r.b.size ≤ 9223372036854775807 := by omega
  go_enter Tryz.func58, Tryz.ntmps58
  go_wp2_with fail
  refine (specIn6 _ _ _ _).mono ?_
  rintro e w1 ⟨rfl, rfl⟩
  cases h1 : decide (200 ≤ r.s ∧ r.s ≤ 599) with
  | false =>
    have H0 : Hid (false = rsOk r) := rsOk_no1 h1
    go_wp2
    go_ret
    exact ⟨ret_bool H0.out, B0.out⟩
  | true =>
    go_wp2_with fail
    refine (specOwn _ r.l _ F0.out).mono ?_
    rintro e w2 ⟨rfl, hb2⟩
    have Q2 : Hid (RsB w2 w.heap.size r (.slice a r.l.length cap)) := Q0.out.next hb2
    have B2 : Hid (Below w.heap.size w w2) := past6 B0.out hb2
    clear Q0 B0 F0 hb2
    have a0 := Q2.out.c0
    have a2 := Q2.out.c2
    cases h2 : ownB r.l with
    | false =>
      have H0 : Hid (false = rsOk r) := rsOk_no2 h1 h2
      go_wp2
      go_ret
      exact ⟨ret_bool H0.out, B2.out⟩
    | true =>
      by_cases h3 : r.b.size ≤ 4000
      · have d3 : decide ((r.b.size : Int) ≤ 4000) = true := by simp; omega
        go_wp2_with fail
        refine (specBare _ _).mono ?_
        rintro e w3 ⟨rfl, rfl⟩
        cases h4 : bareB r.s with
        | false =>
          have H0 : Hid (true = rsOk r) := rsOk_yes h1 h2 h3 h4
          go_wp2
          go_ret
          exact ⟨ret_bool H0.out, B2.out⟩
        | true =>
          have H0 : Hid (r.b.toList.isEmpty = rsOk r) := (void_emp r.b).trans (rsOk_is h1 h2 h3 h4)
          go_wp2
          go_ret
          exact ⟨ret_bool H0.out, B2.out⟩
      · have d3 : decide ((r.b.size : Int) ≤ 4000) = false := by simp; omega
        have H0 : Hid (false = rsOk r) := rsOk_no3 h1 h2 h3
        go_wp2
        go_ret
        exact ⟨ret_bool H0.out, B2.out⟩

def frmE (p : Int × Int) : Value := .tuple #[.int .i64 p.1, .int .i64 p.2]
theorem ret_frm {p : Int × Int} {x y : Int} (h : (x, y) = p) : Ending.returned (.tuple #[.int .i64 x, .int .i64 y]) = .returned (frmE p) := by subst h; rfl
theorem frm_bad {l : List Fl} (h : fldsOk l = false) : (3, 0) = frm l := by unfold frm; rw [if_neg (by rw [h]; decide)]
theorem frm_neither {l : List Fl} (h : fldsOk l = true) (h1 : (getF l clS).2 = false) (h2 : (getF l teS).2 = false) : (0, 0) = frm l := by unfold frm; rw [if_pos h, h1, h2]; rfl
theorem frm_both {l : List Fl} (h : fldsOk l = true) (h1 : (getF l clS).2 = true) (h2 : (getF l teS).2 = true) : (3, 0) = frm l := by unfold frm; rw [if_pos h, h1, h2]; rfl
theorem frm_len {l : List Fl} (h : fldsOk l = true) (h1 : (getF l clS).2 = true) (h2 : (getF l teS).2 = false) (h3 : numOk 10 15 (getF l clS).1 = true ∧ numV 10 15 (getF l clS).1 ≤ 4000) : (1, numV 10 15 (getF l clS).1) = frm l := by unfold frm; rw [if_pos h, if_pos h1, if_neg (by rw [h2]; decide), if_pos h3]
theorem frm_nolen {l : List Fl} (h : fldsOk l = true) (h1 : (getF l clS).2 = true) (h2 : (getF l teS).2 = false) (h3 : ¬ (numOk 10 15 (getF l clS).1 = true ∧ numV 10 15 (getF l clS).1 ≤ 4000)) : (3, 0) = frm l := by unfold frm; rw [if_pos h, if_pos h1, if_neg (by rw [h2]; decide), if_neg h3]
theorem frm_ch {l : List Fl} (h : fldsOk l = true) (h1 : (getF l clS).2 = false) (h2 : (getF l teS).2 = true) (h3 : lowS (getF l teS).1 = chS) : (2, 0) = frm l := by unfold frm; rw [if_pos h, if_neg (by rw [h1]; decide), if_pos h2, if_pos h3]
theorem frm_noch {l : List Fl} (h : fldsOk l = true) (h1 : (getF l clS).2 = false) (h2 : (getF l teS).2 = true) (h3 : ¬ lowS (getF l teS).1 = chS) : (3, 0) = frm l := by unfold frm; rw [if_pos h, if_neg (by rw [h1]; decide), if_pos h2, if_neg h3]
theorem getF_fits {l : List Fl} (n : ByteArray) (h : fldsOk l = true) : (getF l n).1.size ≤ 12060 := by
  have := getA_size l n
  rw [← getA_yes n h] at this
  exact this
end Go.Proofs.YtkaogmdhjcgcdaaGreatDoor
namespace Go.Proofs.YtkaogmdhjcgcdaaGreatDoor
open Go.RowKit
set_option linter.unusedVariables false

/-- How an element lies in memory. -/
structure Enc (α : Type) where
  k : Nat
  pos : 0 < k
  c : α → List Value
  len : ∀ x, (c x).length = k
  one : ∀ x, ∀ u ∈ c x, u.oneCell' = true
def cellsE {α : Type} (E : Enc α) (l : List α) : List Value := l.flatMap E.c
theorem cellsE_cons {α : Type} (E : Enc α) (x : α) (l : List α) : cellsE E (x :: l) = E.c x ++ cellsE E l := rfl
theorem cellsE_at {α : Type} (E : Enc α) (l : List α) : ∀ j (hj : j < l.length) i, i < E.k → (cellsE E l)[j * E.k + i]? = (E.c l[j])[i]? := by
  induction l with
  | nil => intro j hj; simp at hj
  | cons x l ih =>
    intro j hj i hi
    rw [cellsE_cons]
    cases j with
    | zero => rw [Nat.zero_mul, Nat.zero_add, List.getElem?_append_left (by rw [E.len]; exact hi)]; rfl
    | succ j =>
      rw [List.getElem?_append_right (by rw [E.len, Nat.succ_mul]; omega), E.len, show (j + 1) * E.k + i - E.k = j * E.k + i by rw [Nat.succ_mul]; omega]
      exact ih j (by simpa using hj) i hi
theorem cellsE_set {α : Type} (E : Enc α) (l : List α) : ∀ j (hj : j < l.length) i (_ : i < E.k) (u : Value) (y : α), E.c y = (E.c l[j]).set i u → (cellsE E l).set (j * E.k + i) u = cellsE E (l.set j y) := by
  induction l with
  | nil => intro j hj; simp at hj
  | cons x l ih =>
    intro j hj i hi u y hy
    rw [cellsE_cons]
    cases j with
    | zero => rw [Nat.zero_mul, Nat.zero_add, List.set_append_left _ _ (by rw [E.len]; exact hi), List.set_cons_zero, cellsE_cons, hy]; rfl
    | succ j =>
      rw [List.set_append_right _ _ (by rw [E.len, Nat.succ_mul]; omega), E.len, show (j + 1) * E.k + i - E.k = j * E.k + i by rw [Nat.succ_mul]; omega, List.set_cons_succ, cellsE_cons, ih j (by simpa using hj) i hi u y hy]
/-- The slice v reads as the elements l. -/
def Sls {α : Type} (E : Enc α) (w : World) (v : Value) (l : List α) : Prop :=
  ∃ a cap, v = .slice a l.length cap ∧ l.length ≤ cap ∧ cap ≤ maxLen ∧ (0 < l.length → ∃ g o, a = some ⟨g, o, none⟩ ∧ g < w.heap.size ∧
    ∀ j u, (cellsE E l)[j]? = some u → w.cell? ⟨g, o + j, none⟩ = some u)
theorem Sls.kept {α : Type} {E : Enc α} {w w' : World} {v : Value} {l : List α} (h : Sls E w v l) (hb : Below w.heap.size w w') : Sls E w' v l := by
  obtain ⟨a, cap, hv, h1, h2, h3⟩ := h
  refine ⟨a, cap, hv, h1, h2, fun h0 => ?_⟩
  obtain ⟨g, o, ha, hg, hc⟩ := h3 h0
  exact ⟨g, o, ha, Nat.lt_of_lt_of_le hg hb.size, fun j u hu => (hb.cell (p := ⟨g, o + j, none⟩) hg).trans (hc j u hu)⟩
theorem Sls.drewN {α : Type} {E : Enc α} {w : World} {v : Value} {l : List α} (h : Sls E w v l) (n : Nat) : Sls E (w.drewN n) v l := h
theorem Sls.grown {α : Type} {E : Enc α} {w w' : World} {v : Value} {l : List α} {r : Option Nat} (h : Sls E w v l) (hg : w.grownBy w' r) (hne : ∀ k, v.ownBlock = some k → r ≠ some k) : Sls E w' v l := by
  obtain ⟨a, cap, rfl, h1, h2, h3⟩ := h
  refine ⟨a, cap, rfl, h1, h2, fun h0 => ?_⟩
  obtain ⟨g, o, rfl, hgl, hc⟩ := h3 h0
  refine ⟨g, o, rfl, Nat.lt_of_lt_of_le hgl hg.size, fun j u hu => ?_⟩
  rw [← hc j u hu]
  simp only [World.cell?]
  rw [hg.block g hgl (fun e => hne g rfl e.symm)]
theorem Sls.nil {α : Type} {E : Enc α} {w : World} {a : Option Addr} {cap : Nat} (h : cap ≤ maxLen) : Sls E w (.slice a 0 cap) ([] : List α) :=
  ⟨a, cap, rfl, Nat.zero_le _, h, fun h0 => absurd h0 (Nat.lt_irrefl 0)⟩

/-- The value v owns the elements l, in a block from B on. -/
def OwnsE {α : Type} (E : Enc α) (ty : TypeId) (w : World) (B : Nat) (v : Value) (l : List α) : Prop := w.ownsRow B ty E.k v l.length (cellsE E l)
theorem OwnsE.none {α : Type} {E : Enc α} {ty : TypeId} (w : World) (B : Nat) : OwnsE E ty w B (.slice Option.none 0 0) ([] : List α) := ⟨by simp [cellsE], .inl ⟨rfl, rfl⟩⟩
theorem OwnsE.born {α : Type} {E : Enc α} {ty : TypeId} (w : World) : OwnsE E ty (w.alloc (.cells #[] ty)) w.heap.size (.slice (some ⟨w.heap.size, 0, Option.none⟩) 0 0) ([] : List α) :=
  World.ownsRow_lit w #[] 0 (Nat.le_refl _) (by unfold maxLen; decide) (by simp)
theorem OwnsE.alloc {α : Type} {E : Enc α} {ty : TypeId} {w : World} {B : Nat} {v : Value} {l : List α} (h : OwnsE E ty w B v l) (o : Obj) : OwnsE E ty (w.alloc o) B v l := World.ownsRow.alloc h o
theorem OwnsE.drew {α : Type} {E : Enc α} {ty : TypeId} {w : World} {B : Nat} {v : Value} {l : List α} (h : OwnsE E ty w B v l) : OwnsE E ty w.drew B v l := h
theorem OwnsE.drewN {α : Type} {E : Enc α} {ty : TypeId} {w : World} {B : Nat} {v : Value} {l : List α} (h : OwnsE E ty w B v l) (n : Nat) : OwnsE E ty (w.drewN n) B v l := h
theorem OwnsE.kept {α : Type} {E : Enc α} {ty : TypeId} {w w' : World} {B : Nat} {v : Value} {l : List α} (h : OwnsE E ty w B v l) (hb : Below w.heap.size w w') : OwnsE E ty w' B v l := by
  refine ⟨h.1, ?_⟩
  rcases h.2 with h0 | ⟨g, cap, cur, hv, hbg, hg, rest⟩
  · exact .inl h0
  · exact .inr ⟨g, cap, cur, hv, hbg, by rw [hb.block g (Array.getElem?_eq_some_iff.1 hg).1]; exact hg, rest⟩
theorem OwnsE.grown {α : Type} {E : Enc α} {ty : TypeId} {w w' : World} {B : Nat} {v : Value} {l : List α} {r : Option Nat} (h : OwnsE E ty w B v l) (hg : w.grownBy w' r) (hne : ∀ k, v.ownBlock = some k → r ≠ some k) : OwnsE E ty w' B v l := by
  refine ⟨h.1, ?_⟩
  rcases h.2 with h0 | ⟨g, cap, cur, hv, hbg, hh, rest⟩
  · exact .inl h0
  · exact .inr ⟨g, cap, cur, hv, hbg, by rw [hg.block g (Array.getElem?_eq_some_iff.1 hh).1 (fun e => hne g (by rw [hv]; rfl) e.symm)]; exact hh, rest⟩
theorem OwnsE.from {α : Type} {E : Enc α} {ty : TypeId} {w : World} {B : Nat} {v : Value} {l : List α} (h : OwnsE E ty w B v l) : ∀ k, v.ownBlock = some k → B ≤ k := fun k hk => (World.ownsRow.lt h k hk).1
theorem OwnsE.under {α : Type} {E : Enc α} {ty : TypeId} {w : World} {B : Nat} {v : Value} {l : List α} (h : OwnsE E ty w B v l) : ∀ k, v.ownBlock = some k → k < w.heap.size := fun k hk => (World.ownsRow.lt h k hk).2
theorem OwnsE.low {α : Type} {E : Enc α} {ty : TypeId} {w : World} {B B' : Nat} {v : Value} {l : List α} (h : OwnsE E ty w B v l) (hB : B' ≤ B) : OwnsE E ty w B' v l := by
  refine ⟨h.1, ?_⟩
  rcases h.2 with h0 | ⟨g, cap, cur, hv, hb, hg, rest⟩
  · exact .inl h0
  · exact .inr ⟨g, cap, cur, hv, by omega, hg, rest⟩
theorem OwnsE.form {α : Type} {E : Enc α} {ty : TypeId} {w : World} {B : Nat} {v : Value} {l : List α} (h : OwnsE E ty w B v l) : ∃ a cap, v = .slice a l.length cap ∧ l.length ≤ cap ∧ cap ≤ maxLen ∧ ((a = Option.none ∧ cap = 0) ∨ ∃ g, a = some ⟨g, 0, Option.none⟩) := by
  rcases h.2 with ⟨rfl, h0⟩ | ⟨g, cap, cur, rfl, hb, hg, hc, hm, rest⟩
  · exact ⟨Option.none, 0, by rw [h0], by omega, Nat.zero_le _, .inl ⟨rfl, rfl⟩⟩
  · exact ⟨_, cap, rfl, hc, hm, .inr ⟨g, rfl⟩⟩
theorem OwnsE.at {α : Type} {E : Enc α} {ty : TypeId} {w : World} {B g n cap : Nat} {l : List α} (h : OwnsE E ty w B (.slice (some ⟨g, 0, Option.none⟩) n cap) l) {j i : Nat} (hj : j < l.length) {u : Value} (hu : (E.c l[j])[i]? = some u) : w.cell? ⟨g, j * E.k + i, Option.none⟩ = some u := by
  have hi : i < E.k := by rw [← E.len l[j]]; exact (List.getElem?_eq_some_iff.1 hu).1
  have k1 := World.ownsRow.cells h (g := g) rfl (j * E.k + i) u (by rw [cellsE_at E l j hj i hi]; exact hu)
  rw [addr_add, Nat.zero_add] at k1
  exact k1
theorem OwnsE.free {α : Type} {E : Enc α} {ty : TypeId} {w : World} {B g n cap : Nat} {l : List α} (hn : n = l.length) (h : OwnsE E ty w B (.slice (some ⟨g, 0, Option.none⟩) n cap) l) (j : Nat) : w.frozen? ⟨g, j, Option.none⟩ = false := by
  subst hn
  exact World.ownsRow.frozenAt h j
/-- One cell stored. -/
theorem OwnsE.put {α : Type} {E : Enc α} {ty : TypeId} {w : World} {B g n cap : Nat} {l : List α} (hn : n = l.length) (h : OwnsE E ty w B (.slice (some ⟨g, 0, Option.none⟩) n cap) l) {j i : Nat} (hj : j < l.length) (hi : i < E.k) (u : Value) (y : α) (hy : E.c y = (E.c l[j]).set i u) :
    OwnsE E ty (w.setCell ⟨g, j * E.k + i, Option.none⟩ u) B (.slice (some ⟨g, 0, Option.none⟩) n cap) (l.set j y) := by
  subst hn
  have h2 := (World.ownsRow.stored h (j * E.k + i) u).1
  unfold OwnsE
  rw [List.length_set, ← cellsE_set E l j hj i hi u y hy]
  exact h2
/-- A cell of another block stored. -/
theorem OwnsE.other {α : Type} {E : Enc α} {ty : TypeId} {w : World} {B : Nat} {v : Value} {l : List α} (h : OwnsE E ty w B v l) (a : Addr) (u : Value) (hne : ∀ k, v.ownBlock = some k → k ≠ a.block) : OwnsE E ty (w.setCell a u) B v l := by
  refine ⟨h.1, ?_⟩
  rcases h.2 with h0 | ⟨g, cap, cur, hv, hbg, hg, rest⟩
  · exact .inl h0
  · exact .inr ⟨g, cap, cur, hv, hbg, by rw [Below.heap_setCell _ _ _ _ (hne g (by rw [hv]; rfl))]; exact hg, rest⟩
/-- The value v has the elements l, in a block from B on, whatever room lies behind them. -/
def HasE {α : Type} (E : Enc α) (ty : TypeId) (w : World) (B : Nat) (v : Value) (l : List α) : Prop :=
  (v = .slice Option.none 0 0 ∧ l = []) ∨ ∃ g cap cur, v = .slice (some ⟨g, 0, Option.none⟩) l.length cap ∧ B ≤ g ∧ w.heap[g]? = some (.cells cur ty (0, 0)) ∧ l.length ≤ cap ∧ cap ≤ maxLen ∧ cap * E.k ≤ cur.size ∧ cur.toList.take (l.length * E.k) = cellsE E l
theorem OwnsE.has {α : Type} {E : Enc α} {ty : TypeId} {w : World} {B : Nat} {v : Value} {l : List α} (h : OwnsE E ty w B v l) : HasE E ty w B v l := by
  rcases h.2 with ⟨h0, h1⟩ | ⟨g, cap, cur, hv, hb, hg, hc, hm, hz, ht⟩
  · exact .inl ⟨h0, List.eq_nil_of_length_eq_zero h1⟩
  · exact .inr ⟨g, cap, cur, hv, hb, hg, hc, hm, by omega, ht⟩
theorem HasE.cut {α : Type} {E : Enc α} {ty : TypeId} {w : World} {B g cap n : Nat} {l : List α} (h : HasE E ty w B (.slice (some ⟨g, 0, Option.none⟩) n cap) l) (hn : n = l.length) : HasE E ty w B (.slice (some ⟨g, 0, Option.none⟩) n n) l := by
  subst hn
  rcases h with ⟨h0, _⟩ | ⟨g', cap', cur, hv, hb, hg, hc, hm, hz, ht⟩
  · cases h0
  · simp only [Value.slice.injEq, Option.some.injEq, Addr.mk.injEq, and_true, true_and] at hv
    obtain ⟨rfl, rfl⟩ := hv
    exact .inr ⟨g, l.length, cur, rfl, hb, hg, Nat.le_refl _, Nat.le_trans hc hm, Nat.le_trans (Nat.mul_le_mul_right _ hc) hz, ht⟩
theorem HasE.kept {α : Type} {E : Enc α} {ty : TypeId} {w w' : World} {B : Nat} {v : Value} {l : List α} (h : HasE E ty w B v l) (hb : Below w.heap.size w w') : HasE E ty w' B v l := by
  rcases h with h0 | ⟨g, cap, cur, hv, hbg, hg, rest⟩
  · exact .inl h0
  · exact .inr ⟨g, cap, cur, hv, hbg, by rw [hb.block g (Array.getElem?_eq_some_iff.1 hg).1]; exact hg, rest⟩
theorem HasE.grown {α : Type} {E : Enc α} {ty : TypeId} {w w' : World} {B : Nat} {v : Value} {l : List α} {r : Option Nat} (h : HasE E ty w B v l) (hg : w.grownBy w' r) (hne : ∀ k, v.ownBlock = some k → r ≠ some k) : HasE E ty w' B v l := by
  rcases h with h0 | ⟨g, cap, cur, hv, hbg, hh, rest⟩
  · exact .inl h0
  · exact .inr ⟨g, cap, cur, hv, hbg, by rw [hg.block g (Array.getElem?_eq_some_iff.1 hh).1 (fun e => hne g (by rw [hv]; rfl) e.symm)]; exact hh, rest⟩
theorem HasE.low {α : Type} {E : Enc α} {ty : TypeId} {w : World} {B B' : Nat} {v : Value} {l : List α} (h : HasE E ty w B v l) (hB : B' ≤ B) : HasE E ty w B' v l := by
  rcases h with h0 | ⟨g, cap, cur, hv, hb, rest⟩
  · exact .inl h0
  · exact .inr ⟨g, cap, cur, hv, by omega, rest⟩
theorem HasE.from {α : Type} {E : Enc α} {ty : TypeId} {w : World} {B : Nat} {v : Value} {l : List α} (h : HasE E ty w B v l) : ∀ k, v.ownBlock = some k → B ≤ k := by
  intro k hk
  rcases h with ⟨rfl, _⟩ | ⟨g, cap, cur, rfl, hb, _⟩
  · simp [Value.ownBlock] at hk
  · simp [Value.ownBlock] at hk; omega
theorem HasE.under {α : Type} {E : Enc α} {ty : TypeId} {w : World} {B : Nat} {v : Value} {l : List α} (h : HasE E ty w B v l) : ∀ k, v.ownBlock = some k → k < w.heap.size := by
  intro k hk
  rcases h with ⟨rfl, _⟩ | ⟨g, cap, cur, rfl, hb, hg, _⟩
  · simp [Value.ownBlock] at hk
  · simp [Value.ownBlock] at hk; subst hk; exact (Array.getElem?_eq_some_iff.1 hg).1
theorem HasE.form {α : Type} {E : Enc α} {ty : TypeId} {w : World} {B : Nat} {v : Value} {l : List α} (h : HasE E ty w B v l) : ∃ a cap, v = .slice a l.length cap ∧ l.length ≤ cap ∧ cap ≤ maxLen ∧ (0 < l.length → ∃ g, a = some ⟨g, 0, Option.none⟩) := by
  rcases h with ⟨rfl, rfl⟩ | ⟨g, cap, cur, rfl, hb, hg, hc, hm, _⟩
  · exact ⟨Option.none, 0, rfl, Nat.le_refl _, Nat.zero_le _, fun h => absurd h (by simp)⟩
  · exact ⟨_, cap, rfl, hc, hm, fun _ => ⟨g, rfl⟩⟩
theorem HasE.at {α : Type} {E : Enc α} {ty : TypeId} {w : World} {B g n cap : Nat} {l : List α} (h : HasE E ty w B (.slice (some ⟨g, 0, Option.none⟩) n cap) l) {j i : Nat} (hj : j < l.length) {u : Value} (hu : (E.c l[j])[i]? = some u) : w.cell? ⟨g, j * E.k + i, Option.none⟩ = some u := by
  rcases h with ⟨h0, _⟩ | ⟨g', cap', cur, hv, hb, hg, hc, hm, hz, ht⟩
  · cases h0
  · simp only [Value.slice.injEq, Option.some.injEq, Addr.mk.injEq, and_true] at hv
    obtain ⟨rfl, _⟩ := hv
    have hi : i < E.k := by rw [← E.len l[j]]; exact (List.getElem?_eq_some_iff.1 hu).1
    have hlt : j * E.k + i < l.length * E.k := by
      have : (j + 1) * E.k ≤ l.length * E.k := Nat.mul_le_mul_right _ hj
      rw [Nat.succ_mul] at this
      omega
    have c1 : (cellsE E l)[j * E.k + i]? = some u := by rw [cellsE_at E l j hj i hi]; exact hu
    rw [← ht, List.getElem?_take_of_lt hlt] at c1
    rw [cell_of_row w g _ cur _ _ hg]
    simpa using c1
theorem HasE.free {α : Type} {E : Enc α} {ty : TypeId} {w : World} {B g n cap : Nat} {l : List α} (h : HasE E ty w B (.slice (some ⟨g, 0, Option.none⟩) n cap) l) (j : Nat) : w.frozen? ⟨g, j, Option.none⟩ = false := by
  rcases h with ⟨h0, _⟩ | ⟨g', cap', cur, hv, hb, hg, _⟩
  · cases h0
  · simp only [Value.slice.injEq, Option.some.injEq, Addr.mk.injEq, and_true] at hv
    obtain ⟨rfl, _⟩ := hv
    exact frozen_of_row w g j cur _ hg
theorem HasE.put {α : Type} {E : Enc α} {ty : TypeId} {w : World} {B g n cap : Nat} {l : List α} (h : HasE E ty w B (.slice (some ⟨g, 0, Option.none⟩) n cap) l) {j i : Nat} (hj : j < l.length) (hi : i < E.k) (u : Value) (y : α) (hy : E.c y = (E.c l[j]).set i u) :
    HasE E ty (w.setCell ⟨g, j * E.k + i, Option.none⟩ u) B (.slice (some ⟨g, 0, Option.none⟩) n cap) (l.set j y) := by
  rcases h with ⟨h0, _⟩ | ⟨g', cap', cur, hv, hb, hg, hc, hm, hz, ht⟩
  · cases h0
  · simp only [Value.slice.injEq, Option.some.injEq, Addr.mk.injEq, and_true] at hv
    obtain ⟨rfl, rfl, rfl⟩ := hv
    refine .inr ⟨g, cap, cur.setIfInBounds (j * E.k + i) u, by rw [List.length_set], hb, heap_setCell_same w g _ cur _ _ hg, by rw [List.length_set]; exact hc, hm, by simpa using hz, ?_⟩
    rw [List.length_set, ← cellsE_set E l j hj i hi u y hy, Array.toList_setIfInBounds, ← ht, List.take_set]
/-- What a row that grows leaves as it was. -/
theorem grownE_put {a w : World} {g : Nat} (h : a.grownBy w (some g)) (j : Nat) (v : Value) : a.grownBy (w.setCell ⟨g, j, Option.none⟩ v) (some g) :=
  ⟨h.os, h.tape, h.output, by simpa [World.setCell] using h.size, fun k hk hne => (Below.heap_setCell _ _ _ _ (fun e => hne (by rw [e]))).trans (h.block k hk hne)⟩
theorem grownE_below {a w w' : World} {r : Option Nat} (h : a.grownBy w r) (hb : Below w.heap.size w w') : a.grownBy w' r :=
  ⟨hb.os.trans h.os, hb.tape.trans h.tape, hb.output.trans h.output, Nat.le_trans h.size hb.size, fun k hk hne => (hb.block k (Nat.lt_of_lt_of_le hk h.size)).trans (h.block k hk hne)⟩
theorem grownE_self (w : World) (r : Option Nat) : w.grownBy w r := ⟨rfl, rfl, rfl, Nat.le_refl _, fun _ _ _ => rfl⟩
/-- A row that lies from B on grows: below B all stays. -/
theorem belowE {B : Nat} {w w1 w2 : World} {r : Option Nat} (hb : Below B w w1) (hg : w1.grownBy w2 r) (hB : B ≤ w1.heap.size) (hr : ∀ k, r = some k → B ≤ k) : Below B w w2 :=
  ⟨hg.os.trans hb.os, hg.tape.trans hb.tape, hg.output.trans hb.output, Nat.le_trans hb.size hg.size, fun k hk => (hg.block k (by omega) (fun e => by have := hr k e.symm; omega)).trans (hb.block k hk)⟩
end Go.Proofs.YtkaogmdhjcgcdaaGreatDoor
