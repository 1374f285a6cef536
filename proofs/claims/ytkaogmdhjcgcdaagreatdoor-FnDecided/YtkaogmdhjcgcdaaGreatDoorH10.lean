/-
  Plain facts on messages: which are right, where one ends, what it is shown as, what is read.
  Plain facts on messages: a message is read from what it is shown as, whatever stands behind it, and of no part of it; what is read is right.
  The contracts of Digits and HexDigits, the specification's and the program's, and of what they call: both read the same number.
  The specification's RequestOk, ResponseOk and Framing by their contracts.
  A request and a response by value; the specification's RequestOk, ResponseOk and Framing by their contracts.
  The contracts of the law's own helpers: slices of texts compared, marked, and asked for their marks.
  Slices of fields that a call has for itself, whatever room lies behind them; how the law marks them, and asks for the marks.
-/
import Derived.Test.YtkaogmdhjcgcdaaGreatDoorH07
import Derived.Test.YtkaogmdhjcgcdaaGreatDoorH09
import Derived.Test.YtkaogmdhjcgcdaaGreatDoorRows
import Derived.Test.YtkaogmdhjcgcdaaGreatDoorH08
import Derived.WalkKit
import Derived.WalkSpells
import Derived.Test.YtkaogmdhjcgcdaaGreatDoorH05
import Derived.Deep.QuietTactic
import Derived.BigQuiet
import Derived.Deep.RegionWith
import Derived.Laws.IdiomStrings
import Derived.Test.YtkaogmdhjcgcdaaGreatDoorH06
namespace Go.Proofs.YtkaogmdhjcgcdaaGreatDoor
open Go.RowKit

/-! ### Decimal digits -/
/-! ### What is right -/
/-- content-length, transfer-encoding, chunked. -/
def clS : ByteArray := ⟨#[99, 111, 110, 116, 101, 110, 116, 45, 108, 101, 110, 103, 116, 104]⟩
def teS : ByteArray := ⟨#[116, 114, 97, 110, 115, 102, 101, 114, 45, 101, 110, 99, 111, 100, 105, 110, 103]⟩
def chS : ByteArray := ⟨#[99, 104, 117, 110, 107, 101, 100]⟩
def ownB (l : List Fl) : Bool := fldsOk l && (!(getF l clS).2 && !(getF l teS).2)
/-- A request. -/
structure Rq where
  m : ByteArray
  t : ByteArray
  l : List Fl
  b : ByteArray
/-- A response. -/
structure Rs where
  s : Int
  l : List Fl
  b : ByteArray
def bareB (s : Int) : Bool := decide (s = 204 ∨ s = 304)
def rsOk (r : Rs) : Bool := decide (200 ≤ r.s ∧ r.s ≤ 599) && (ownB r.l && (decide (r.b.size ≤ 4000) && (!bareB r.s || decide (r.b.size = 0))))

/-! ### Where it ends -/
def frm (l : List Fl) : Int × Int :=
  if fldsOk l = true then
    if (getF l clS).2 = true then
      if (getF l teS).2 = true then (3, 0)
      else if numOk 10 15 (getF l clS).1 = true ∧ numV 10 15 (getF l clS).1 ≤ 4000 then (1, numV 10 15 (getF l clS).1) else (3, 0)
    else if (getF l teS).2 = true then if lowS (getF l teS).1 = chS then (2, 0) else (3, 0)
    else (0, 0)
  else (3, 0)

/-! ### What it is shown as -/
/-! ### What is read -/
def noS : Rs := ⟨0, [], ⟨#[]⟩⟩
end Go.Proofs.YtkaogmdhjcgcdaaGreatDoor
namespace Go.Proofs.YtkaogmdhjcgcdaaGreatDoor
open Go.RowKit

/-! ### Words -/
/-! ### Lines -/
/-! ### Fields of a message -/
theorem void_list {b : ByteArray} (h : b.size = 0) : b.data.toList = [] := by
  apply List.eq_nil_of_length_eq_zero
  have : b.data.toList.length = b.size := by simp
  omega
/-! ### First lines -/
theorem rsOk_parts {r : Rs} (h : rsOk r = true) : (200 ≤ r.s ∧ r.s ≤ 599) ∧ ownB r.l = true ∧ r.b.size ≤ 4000 ∧ (bareB r.s = true → r.b.size = 0) := by
  unfold rsOk at h
  rw [Bool.and_eq_true, Bool.and_eq_true, Bool.and_eq_true] at h
  refine ⟨of_decide_eq_true h.1, h.2.1, of_decide_eq_true h.2.2.1, fun hb => ?_⟩
  have := h.2.2.2
  rw [hb] at this
  simpa using this
end Go.Proofs.YtkaogmdhjcgcdaaGreatDoor
namespace Go.Proofs.YtkaogmdhjcgcdaaGreatDoor
open Go.RowKit

theorem ret_int {k : IntKind} {a b : Int} (h : a = b) : Ending.returned (.int k a) = .returned (.int k b) := by rw [h]

theorem implDigV_d (r : Int) (w : World) (h : 48 ≤ r ∧ r ≤ 57) :
    Calls Tryz.prog 191 #[.int .i32 r] w fun e w' => e = .returned (.int .i64 (digV r)) ∧ w' = w := by
  have hd := (digV_d h).symm
  have HD : Hid (_ = digV r) := hd
  clear hd
  obtain ⟨h1, h2⟩ := h
  go_enter Tryz.func191, Tryz.ntmps191
  go_wp2
  go_ret
  exact ⟨ret_int HD.out, rfl⟩
theorem implDigV_a (r : Int) (w : World) (h : 97 ≤ r ∧ r ≤ 102) :
    Calls Tryz.prog 191 #[.int .i32 r] w fun e w' => e = .returned (.int .i64 (digV r)) ∧ w' = w := by
  have hd := (digV_a h).symm
  have HD : Hid (_ = digV r) := hd
  clear hd
  obtain ⟨h1, h2⟩ := h
  go_enter Tryz.func191, Tryz.ntmps191
  go_wp2
  go_ret
  exact ⟨ret_int HD.out, rfl⟩
theorem implDigV_A (r : Int) (w : World) (h : 65 ≤ r ∧ r ≤ 70) :
    Calls Tryz.prog 191 #[.int .i32 r] w fun e w' => e = .returned (.int .i64 (digV r)) ∧ w' = w := by
  have hd := (digV_A h).symm
  have HD : Hid (_ = digV r) := hd
  clear hd
  obtain ⟨h1, h2⟩ := h
  go_enter Tryz.func191, Tryz.ntmps191
  go_wp2
  go_ret
  exact ⟨ret_int HD.out, rfl⟩
theorem implDigV_no (r : Int) (w : World) (h : ¬ (48 ≤ r ∧ r ≤ 57)) (h' : ¬ (97 ≤ r ∧ r ≤ 102)) (h'' : ¬ (65 ≤ r ∧ r ≤ 70)) :
    Calls Tryz.prog 191 #[.int .i32 r] w fun e w' => e = .returned (.int .i64 (digV r)) ∧ w' = w := by
  have hd := digV_no h h' h''
  have HD : Hid (digV r = -1) := hd
  clear hd
  rcases (show r < 48 ∨ (57 < r ∧ r < 65) ∨ (70 < r ∧ r < 97) ∨ 102 < r from by omega) with g | ⟨g, g'⟩ | ⟨g, g'⟩ | g
  all_goals
    clear h h' h''
    go_enter Tryz.func191, Tryz.ntmps191
    go_wp2
    go_ret
    exact ⟨ret_int HD.out.symm, rfl⟩
theorem implDigV (r : Int) (w : World) :
    Calls Tryz.prog 191 #[.int .i32 r] w fun e w' => e = .returned (.int .i64 (digV r)) ∧ w' = w := by
  by_cases h : 48 ≤ r ∧ r ≤ 57
  · exact implDigV_d r w h
  by_cases h' : 97 ≤ r ∧ r ≤ 102
  · exact implDigV_a r w h'
  by_cases h'' : 65 ≤ r ∧ r ≤ 70
  · exact implDigV_A r w h''
  · exact implDigV_no r w h h' h''

theorem specDig_out (s : ByteArray) (w : World) (hs : s.size ≤ maxLen) (h : s.size < 1 ∨ 15 < s.size) :
    Calls Tryz.prog 50 #[.string s] w fun e w' => e = .returned (numE 10 15 s) ∧ Below w.heap.size w w' := by
  unfold maxLen at hs
  have ht := numE_no (numOk_out (b := 10) h)
  have HT : Hid (_ = Ending.returned (numE 10 15 s)) := ht
  clear ht
  rcases h with h | h
  · go_enter Tryz.func50, Tryz.ntmps50
    go_wp2
    go_ret2
    exact ⟨HT.out, Below.refl _ _⟩
  · have h' : ¬ s.size < 1 := by omega
    go_enter Tryz.func50, Tryz.ntmps50
    go_wp2
    go_ret2
    exact ⟨HT.out, Below.refl _ _⟩

set_option maxHeartbeats 400000 in
theorem specDig_in (s : ByteArray) (w : World) (h1 : 1 ≤ s.size) (h2 : s.size ≤ 15) :
    Calls Tryz.prog 50 #[.string s] w fun e w' => e = .returned (numE 10 15 s) ∧ Below w.heap.size w w' := by
  have d1 : decide ((s.size : Int) < 1) = false := by simp; omega
  have d2 : decide (15 < (s.size : Int)) = false := by simp; omega
  go_enter Tryz.func50, Tryz.ntmps50
  go_wp2
  go_loop [4, 5] (fun v i => ∃ (k : Nat) (n : Int), k ≤ s.size ∧ i = .int .i64 k ∧ v = .int .i64 n ∧ 0 ≤ n ∧ n ≤ 1000000000000000 ∧ Hid (allB (digN 10) (s.data.toList.take k) = true) ∧ Hid (n = numL 10 (s.data.toList.take k))) (fun _ i => s.size - (intOf i).toNat)
  case atStart => exact ⟨0, 0, Nat.zero_le _, rfl, rfl, by decide, by decide, allB_nil _ _, rfl⟩
  case round =>
    obtain ⟨k, n, hk, rfl, rfl, hn0, hn1, ha, hn⟩ := hrel
    by_cases hlt : k < s.size
    · by_cases hg : 48 ≤ (s[k].toNat : Int) ∧ (s[k].toNat : Int) ≤ 57
      · have e1 := digV_d hg
        have e2 := allB_step hlt ha.out (digN_yes (b := 10) (digV_ten.2 hg).1 (digV_ten.2 hg).2)
        have e3 := numL_step hlt hn.out
        rw [e1] at e3
        have e4 := num_bound10 (by omega) (by omega) e2
        rw [← e3] at e4
        have H2 : Hid (allB (digN 10) (s.data.toList.take (k + 1)) = true) := e2
        have H3 : Hid (n * 10 + ((s[k].toNat : Int) - 48) = numL 10 (s.data.toList.take (k + 1))) := e3
        have H4 : Hid (0 ≤ n * 10 + ((s[k].toNat : Int) - 48) ∧ n * 10 + ((s[k].toNat : Int) - 48) ≤ 1000000000000000) := e4
        clear e1 e2 e3 e4
        obtain ⟨hg1, hg2⟩ := hg
        go_wp2
        go_round
        case rel => exact ⟨k + 1, _, by omega, by go_num, rfl, H4.out.1, H4.out.2, H2, H3⟩
        case measure => simp [intOf]; omega
      · have hf := numE_no (numOk_in (b := 10) h1 h2 (allB_not hlt (digN_no (fun x => hg (digV_ten.1 x)))))
        have HF : Hid (_ = Ending.returned (numE 10 15 s)) := hf
        clear hf
        rcases (show (s[k].toNat : Int) < 48 ∨ 57 < (s[k].toNat : Int) from by omega) with g | g
        all_goals
          go_wp2
          go_ret2
          exact ⟨HF.out, Below.refl _ _⟩
    · have hf := numE_yes (numOk_in (b := 10) h1 h2 (allB_end hlt ha.out)) (hn.out.trans (by rw [take_all s k hlt]))
      have HF : Hid (_ = Ending.returned (numE 10 15 s)) := hf
      clear hf
      go_wp2
      go_ret2
      exact ⟨HF.out, Below.refl _ _⟩

theorem specDig (s : ByteArray) (w : World) (hs : s.size ≤ maxLen) :
    Calls Tryz.prog 50 #[.string s] w fun e w' => e = .returned (numE 10 15 s) ∧ Below w.heap.size w w' := by
  by_cases h : s.size < 1 ∨ 15 < s.size
  · exact specDig_out s w hs h
  · exact specDig_in s w (by omega) (by omega)

theorem implNum10_out (s : ByteArray) (w : World) (hs : s.size ≤ maxLen) (h : s.size < 1 ∨ 15 < s.size) :
    Calls Tryz.prog 176 #[.string s, .int .i64 10, .int .i64 15] w fun e w' => e = .returned (numE 10 15 s) ∧ Below w.heap.size w w' := by
  unfold maxLen at hs
  have ht := numE_no (numOk_out (b := 10) h)
  have HT : Hid (_ = Ending.returned (numE 10 15 s)) := ht
  clear ht
  rcases h with h | h
  · go_enter Tryz.func176, Tryz.ntmps176
    go_wp2
    go_ret2
    exact ⟨HT.out, Below.refl _ _⟩
  · have h' : ¬ s.size < 1 := by omega
    go_enter Tryz.func176, Tryz.ntmps176
    go_wp2
    go_ret2
    exact ⟨HT.out, Below.refl _ _⟩

set_option maxHeartbeats 400000 in
theorem implNum10_in (s : ByteArray) (w : World) (h1 : 1 ≤ s.size) (h2 : s.size ≤ 15) :
    Calls Tryz.prog 176 #[.string s, .int .i64 10, .int .i64 15] w fun e w' => e = .returned (numE 10 15 s) ∧ Below w.heap.size w w' := by
  have d1 : decide ((s.size : Int) < 1) = false := by simp; omega
  have d2 : decide (15 < (s.size : Int)) = false := by simp; omega
  go_enter Tryz.func176, Tryz.ntmps176
  go_wp2
  go_loopw [8] (fun v wr => ∃ (pos : Nat) (n : Int), pos ≤ s.size ∧ wr = w.iter s pos ∧ v = .int .i64 n ∧ 0 ≤ n ∧ n ≤ 1000000000000000 ∧ Hid (allB (digN 10) (s.data.toList.take pos) = true) ∧ Hid (n = numL 10 (s.data.toList.take pos))) (fun _ wr => s.size - wr.iterPos w.heap.size)
  case atStart => exact ⟨0, 0, Nat.zero_le _, rfl, rfl, by decide, by decide, allB_nil _ _, rfl⟩
  case round =>
    obtain ⟨pos, n, hpos, rfl, rfl, hn0, hn1, ha, hn⟩ := hrel
    by_cases hp : pos < s.size
    · by_cases hasc : (s[pos]).toNat < 128
      · have hnx : ∀ ty, (Instr.next (.pointer (some ⟨w.heap.size, 0, none⟩)) true ty).run Tryz.prog (w.iter s pos) = _ := fun ty => run_next_ascii w s pos ty hp hasc
        have hbd := digV_bd (s[pos].toNat : Int)
        by_cases hg : 0 ≤ digV (s[pos].toNat : Int) ∧ digV (s[pos].toNat : Int) < 10
        · have e2 := allB_step hp ha.out (digN_yes (b := 10) hg.1 hg.2)
          have e3 := numL_step hp hn.out
          have e4 := num_bound10 (by omega) (by omega) e2
          rw [← e3] at e4
          have H2 : Hid (allB (digN 10) (s.data.toList.take (pos + 1)) = true) := e2
          have H3 : Hid (n * 10 + digV (s[pos].toNat : Int) = numL 10 (s.data.toList.take (pos + 1))) := e3
          have H4 : Hid (0 ≤ n * 10 + digV (s[pos].toNat : Int) ∧ n * 10 + digV (s[pos].toNat : Int) ≤ 1000000000000000) := e4
          clear e2 e3 e4
          obtain ⟨hb1, hb2⟩ := hbd
          obtain ⟨hg1, hg2⟩ := hg
          go_wp2_with (go_at_call 191; refine (implDigV _ _).mono ?_; rintro e w' ⟨rfl, rfl⟩)
          go_roundw
          case rel => exact ⟨pos + 1, _, by omega, rfl, rfl, H4.out.1, H4.out.2, H2, H3⟩
          case measure => simp; omega
        · have hf := numE_no (numOk_in (b := 10) h1 h2 (allB_not hp (digN_no hg)))
          have HF : Hid (_ = Ending.returned (numE 10 15 s)) := hf
          clear hf
          rcases (show digV (s[pos].toNat : Int) < 0 ∨ (0 ≤ digV (s[pos].toNat : Int) ∧ 10 ≤ digV (s[pos].toNat : Int)) from by omega) with g | ⟨g, g'⟩
          all_goals
            clear hg
            go_wp2_with (go_at_call 191; refine (implDigV _ _).mono ?_; rintro e w' ⟨rfl, rfl⟩)
            go_ret2
            exact ⟨HF.out, below_iter _ _ _⟩
      · have hnx : ∀ ty, (Instr.next (.pointer (some ⟨w.heap.size, 0, none⟩)) true ty).run Tryz.prog (w.iter s pos) = _ := fun ty => run_next_any w s pos ty hp
        have hd := (decode_high s pos hp (by omega)).1
        have hz : digV (s[pos].toNat : Int) = -1 := digV_high (by omega)
        have hf := numE_no (numOk_in (b := 10) h1 h2 (allB_not hp (digN_no (by omega))))
        have HF : Hid (_ = Ending.returned (numE 10 15 s)) := hf
        clear hf hz
        generalize (Utf8.decode s pos).1 = r at hnx hd
        generalize (Utf8.decode s pos).2 = p2 at hnx
        have ht : digV (r : Int) = -1 := digV_high (by omega)
        go_wp2_with (go_at_call 191; refine (implDigV _ _).mono ?_; rintro e w' ⟨rfl, rfl⟩)
        go_ret2
        exact ⟨HF.out, below_iter _ _ _⟩
    · have hnx : ∀ ty, (Instr.next (.pointer (some ⟨w.heap.size, 0, none⟩)) true ty).run Tryz.prog (w.iter s pos) = _ := fun ty => run_next_end w s pos ty hp
      have hf := numE_yes (numOk_in (b := 10) h1 h2 (allB_end hp ha.out)) (hn.out.trans (by rw [take_all s pos hp]))
      have HF : Hid (_ = Ending.returned (numE 10 15 s)) := hf
      clear hf
      go_wp2
      go_ret2
      exact ⟨HF.out, below_iter _ _ _⟩

theorem implNum10 (s : ByteArray) (w : World) (hs : s.size ≤ maxLen) :
    Calls Tryz.prog 176 #[.string s, .int .i64 10, .int .i64 15] w fun e w' => e = .returned (numE 10 15 s) ∧ Below w.heap.size w w' := by
  by_cases h : s.size < 1 ∨ 15 < s.size
  · exact implNum10_out s w hs h
  · exact implNum10_in s w (by omega) (by omega)

theorem implDig (s : ByteArray) (w : World) (hs : s.size ≤ maxLen) :
    Calls Tryz.prog 149 #[.string s] w fun e w' => e = .returned (numE 10 15 s) ∧ Below w.heap.size w w' := by
  unfold numE
  go_enter Tryz.func149, Tryz.ntmps149
  go_wp2_with (go_at_call 176; refine (implNum10 _ _ hs).mono ?_; unfold numE; rintro e w' ⟨rfl, hb⟩)
  go_ret2
  exact ⟨rfl, hb⟩
end Go.Proofs.YtkaogmdhjcgcdaaGreatDoor
namespace Go.Proofs.YtkaogmdhjcgcdaaGreatDoor
open Go.RowKit
set_option linter.unusedVariables false

/-- What a walk is told of fields that came in. -/
def Solid (v : Value) : Prop := ∀ n c, v = .slice none n c → c = 0
def Fits (w : World) (v : Value) (l : List Fl) : Prop := Fls w v l ∧ szL l ≤ 1048576 ∧ l.length ≤ 1048576 ∧ Solid v
theorem Fits.kept {w w' : World} {v : Value} {l : List Fl} (h : Fits w v l) (hb : Below w.heap.size w w') : Fits w' v l := ⟨h.1.kept hb, h.2⟩
theorem past6 {w w1 w2 : World} (h : Below w.heap.size w w1) (hb : Below w1.heap.size w1 w2) : Below w.heap.size w w2 := h.trans (hb.mono h.size)

theorem specOwn (v : Value) (l : List Fl) (w : World) (h : Fits w v l) :
    Calls Tryz.prog 97 #[v] w fun e w' => e = .returned (.bool (ownB l)) ∧ Below w.heap.size w w' := by
  have hg1 := specGetN v l clS w h.1 h.2.1 h.2.2.1 (by decide)
  have hz := h.2.1
  have hl := h.2.2.1
  unfold getE at hg1
  obtain ⟨a, cap, rfl, hcap⟩ := h.1
  have HF : Hid (Fits w (.slice a l.length cap) l) := h
  clear h hcap
  have ho : Hid (ownB l = (fldsOk l && (!(getF l clS).2 && !(getF l teS).2))) := rfl
  obtain ⟨x, p, hx⟩ : ∃ x p, getF l clS = (x, p) := ⟨_, _, rfl⟩
  obtain ⟨y, q, hy⟩ : ∃ y q, getF l teS = (y, q) := ⟨_, _, rfl⟩
  have hg2 : ∀ w, Fits w (.slice a l.length cap) l → Calls Tryz.prog 49 #[.slice a l.length cap, .string teS] w fun e w' => e = .returned (.tuple #[.string y, .bool q]) ∧ Below w.heap.size w w' := fun w h => by
    have := specGetN _ l teS w h.1 h.2.1 h.2.2.1 (by decide)
    unfold getE at this
    rw [hy] at this
    exact this
  rw [hx] at hg1
  have HO : Hid (ownB l = (fldsOk l && (!p && !q))) := by have := ho.out; rw [hx, hy] at this; exact this
  clear hx hy ho
  have hg3 : Hid (∀ w, Fits w (.slice a l.length cap) l → Calls Tryz.prog 49 #[.slice a l.length cap, .string teS] w fun e w' => e = .returned (.tuple #[.string y, .bool q]) ∧ Below w.heap.size w w') := hg2
  clear hg2
  unfold clS at hg1
  unfold teS at hg3
  go_enter Tryz.func97, Tryz.ntmps97
  go_wp2_with fail
  refine hg1.mono ?_
  rintro e w1 ⟨rfl, hb1⟩
  have HF1 : Hid (Fits w1 (.slice a l.length cap) l) := HF.out.kept hb1
  clear hg1
  go_wp2_with fail
  refine (hg3.out _ HF1.out).mono ?_
  rintro e w2 ⟨rfl, hb2'⟩
  have hb2 := past6 hb1 hb2'
  have HF2 : Hid (Fits w2 (.slice a l.length cap) l) := HF1.out.kept hb2'
  clear hb1 hb2' hg3
  go_wp2_with fail
  refine (specOk _ l _ HF2.out.1 hz).mono ?_
  rintro e w3 ⟨rfl, hb3'⟩
  have hb3 := past6 hb2 hb3'
  clear hb3' hb2
  cases ok : fldsOk l with
  | false =>
    rw [ok] at HO
    have H0 : Hid (false = ownB l) := by rw [HO.out]; rfl
    clear HO
    go_wp2
    go_ret
    exact ⟨ret_bool H0.out, hb3⟩
  | true =>
    rw [ok] at HO
    cases p with
    | true =>
      have H0 : Hid (false = ownB l) := by rw [HO.out]; rfl
      clear HO
      go_wp2
      go_ret
      exact ⟨ret_bool H0.out, hb3⟩
    | false =>
      cases q with
      | true =>
        have H0 : Hid (false = ownB l) := by rw [HO.out]; rfl
        clear HO
        go_wp2
        go_ret
        exact ⟨ret_bool H0.out, hb3⟩
      | false =>
        have H0 : Hid (true = ownB l) := by rw [HO.out]; rfl
        clear HO
        go_wp2
        go_ret
        exact ⟨ret_bool H0.out, hb3⟩
theorem specBare (s : Int) (w : World) :
    Calls Tryz.prog 98 #[.int .i64 s] w fun e w' => e = .returned (.bool (bareB s)) ∧ w = w' := by
  by_cases h1 : s = 204
  · subst h1
    have H0 : Hid (true = bareB 204) := rfl
    go_enter Tryz.func98, Tryz.ntmps98
    go_wp2
    go_ret
    exact ⟨ret_bool H0.out, rfl⟩
  · have d1 : (s == 204) = false := by simp [h1]
    by_cases h2 : s = 304
    · subst h2
      have H0 : Hid (true = bareB 304) := rfl
      go_enter Tryz.func98, Tryz.ntmps98
      go_wp2
      go_ret
      exact ⟨ret_bool H0.out, rfl⟩
    · have d2 : (s == 304) = false := by simp [h2]
      have H0 : Hid (false = bareB s) := by show false = bareB s; unfold bareB; simp [h1, h2]
      go_enter Tryz.func98, Tryz.ntmps98
      go_wp2
      go_ret
      exact ⟨ret_bool H0.out, rfl⟩
end Go.Proofs.YtkaogmdhjcgcdaaGreatDoor
namespace Go.Proofs.YtkaogmdhjcgcdaaGreatDoor
open Go.RowKit
set_option linter.unusedVariables false

def rsV (r : Rs) (v : Value) : Value := .agg #[.int .i64 r.s, v, .string r.b]
/-- The cells of a request in block b. -/
structure RqB (w : World) (b : Nat) (r : Rq) (v : Value) : Prop where
  c0 : w.cell? ⟨b, 0, none⟩ = some (.string r.m)
  c1 : w.cell? ⟨b, 1, none⟩ = some (.string r.t)
  c2 : w.cell? ⟨b, 2, none⟩ = some v
  c3 : w.cell? ⟨b, 3, none⟩ = some (.string r.b)
  fz : ∀ k, w.frozen? ⟨b, k, none⟩ = false
  hi : b < w.heap.size
structure RsB (w : World) (b : Nat) (r : Rs) (v : Value) : Prop where
  c0 : w.cell? ⟨b, 0, none⟩ = some (.int .i64 r.s)
  c1 : w.cell? ⟨b, 1, none⟩ = some v
  c2 : w.cell? ⟨b, 2, none⟩ = some (.string r.b)
  fz : ∀ k, w.frozen? ⟨b, k, none⟩ = false
  hi : b < w.heap.size
theorem RqB.new (w : World) (r : Rq) (v : Value) (t : TypeId) : RqB (w.alloc (.cells #[.string r.m, .string r.t, v, .string r.b] t)) w.heap.size r v where
  c0 := World.cell?_alloc_mark _ _ _ _ _
  c1 := World.cell?_alloc_mark _ _ _ _ _
  c2 := World.cell?_alloc_mark _ _ _ _ _
  c3 := World.cell?_alloc_mark _ _ _ _ _
  fz := fun k => by rw [World.frozen?_alloc_mark]; simp
  hi := by simp
theorem RsB.new (w : World) (r : Rs) (v : Value) (t : TypeId) : RsB (w.alloc (.cells #[.int .i64 r.s, v, .string r.b] t)) w.heap.size r v where
  c0 := World.cell?_alloc_mark _ _ _ _ _
  c1 := World.cell?_alloc_mark _ _ _ _ _
  c2 := World.cell?_alloc_mark _ _ _ _ _
  fz := fun k => by rw [World.frozen?_alloc_mark]; simp
  hi := by simp
theorem RqB.next {w w' : World} {b : Nat} {r : Rq} {v : Value} (h : RqB w b r v) (hb : Below w.heap.size w w') : RqB w' b r v := by
  have e : w'.heap[b]? = w.heap[b]? := hb.block b h.hi
  have k : ∀ k, w'.cell? ⟨b, k, none⟩ = w.cell? ⟨b, k, none⟩ := fun k => World.cell?_of_block (a := ⟨b, k, none⟩) e
  exact ⟨(k 0).trans h.c0, (k 1).trans h.c1, (k 2).trans h.c2, (k 3).trans h.c3, fun j => (World.frozen?_of_block (a := ⟨b, j, none⟩) e).trans (h.fz j), Nat.lt_of_lt_of_le h.hi hb.size⟩
theorem RsB.next {w w' : World} {b : Nat} {r : Rs} {v : Value} (h : RsB w b r v) (hb : Below w.heap.size w w') : RsB w' b r v := by
  have e : w'.heap[b]? = w.heap[b]? := hb.block b h.hi
  have k : ∀ k, w'.cell? ⟨b, k, none⟩ = w.cell? ⟨b, k, none⟩ := fun k => World.cell?_of_block (a := ⟨b, k, none⟩) e
  exact ⟨(k 0).trans h.c0, (k 1).trans h.c1, (k 2).trans h.c2, fun j => (World.frozen?_of_block (a := ⟨b, j, none⟩) e).trans (h.fz j), Nat.lt_of_lt_of_le h.hi hb.size⟩
theorem RqB.alloc {w : World} {b : Nat} {r : Rq} {v : Value} (h : RqB w b r v) (o : Obj) : RqB (w.alloc o) b r v := h.next ((Below.refl _ w).alloc (Nat.le_refl _) _)
theorem RsB.alloc {w : World} {b : Nat} {r : Rs} {v : Value} (h : RsB w b r v) (o : Obj) : RsB (w.alloc o) b r v := h.next ((Below.refl _ w).alloc (Nat.le_refl _) _)
theorem Fits.alloc {w : World} {v : Value} {l : List Fl} (h : Fits w v l) (o : Obj) : Fits (w.alloc o) v l := h.kept ((Below.refl _ w).alloc (Nat.le_refl _) _)
/-- What a walk is told of a request, of a response that came in. -/
def RqIn (w : World) (v : Value) (r : Rq) : Prop := Fits w v r.l ∧ r.m.size ≤ 1048576 ∧ r.t.size ≤ 1048576 ∧ r.b.size ≤ 1048576
def RsIn (w : World) (v : Value) (r : Rs) : Prop := Fits w v r.l ∧ r.b.size ≤ 1048576
theorem RqIn.kept {w w' : World} {v : Value} {r : Rq} (h : RqIn w v r) (hb : Below w.heap.size w w') : RqIn w' v r := ⟨h.1.kept hb, h.2⟩
theorem RsIn.kept {w w' : World} {v : Value} {r : Rs} (h : RsIn w v r) (hb : Below w.heap.size w w') : RsIn w' v r := ⟨h.1.kept hb, h.2⟩
theorem le_max {n : Nat} (h : n ≤ 1048576) : n ≤ maxLen := by unfold maxLen; omega

theorem specIn6 (x lo hi : Int) (w : World) :
    Calls Tryz.prog 63 #[.int .i64 x, .int .i64 lo, .int .i64 hi] w fun e w' => e = .returned (.bool (decide (lo ≤ x ∧ x ≤ hi))) ∧ w = w' := by
  obtain ⟨b, hb⟩ : ∃ b, decide (lo ≤ x ∧ x ≤ hi) = b := ⟨_, rfl⟩
  rw [hb]
  by_cases h1 : lo ≤ x
  · have H0 : Hid (decide (x ≤ hi) = b) := by show decide (x ≤ hi) = b; rw [← hb]; simp [h1]
    have d1 : decide (lo ≤ x) = true := by simpa using h1
    clear hb
    go_enter Tryz.func63, Tryz.ntmps63
    go_wp2
    go_ret
    exact ⟨ret_bool H0.out, rfl⟩
  · have H0 : Hid (false = b) := by show false = b; rw [← hb]; simp [h1]
    have d1 : decide (lo ≤ x) = false := by simpa using h1
    clear hb
    go_enter Tryz.func63, Tryz.ntmps63
    go_wp2
    go_ret
    exact ⟨ret_bool H0.out, rfl⟩
theorem rsOk_no1 {r : Rs} (h : decide (200 ≤ r.s ∧ r.s ≤ 599) = false) : false = rsOk r := by unfold rsOk; rw [h]; rfl
theorem rsOk_no2 {r : Rs} (h : decide (200 ≤ r.s ∧ r.s ≤ 599) = true) (h2 : ownB r.l = false) : false = rsOk r := by unfold rsOk; rw [h, h2]; rfl
theorem rsOk_no3 {r : Rs} (h : decide (200 ≤ r.s ∧ r.s ≤ 599) = true) (h2 : ownB r.l = true) (h3 : ¬ r.b.size ≤ 4000) : false = rsOk r := by unfold rsOk; rw [h, h2, decide_eq_false h3]; rfl
theorem rsOk_yes {r : Rs} (h : decide (200 ≤ r.s ∧ r.s ≤ 599) = true) (h2 : ownB r.l = true) (h3 : r.b.size ≤ 4000) (h4 : bareB r.s = false) : true = rsOk r := by unfold rsOk; rw [h, h2, decide_eq_true h3, h4]; rfl
theorem rsOk_is {r : Rs} (h : decide (200 ≤ r.s ∧ r.s ≤ 599) = true) (h2 : ownB r.l = true) (h3 : r.b.size ≤ 4000) (h4 : bareB r.s = true) : decide (r.b.size = 0) = rsOk r := by unfold rsOk; rw [h, h2, decide_eq_true h3, h4]; rfl
theorem void_emp (b : ByteArray) : b.toList.isEmpty = decide (b.size = 0) := by
  rw [ByteArray.toList_eq]
  by_cases h : b.size = 0
  · rw [decide_eq_true h, void_list h]; rfl
  · rw [decide_eq_false h, List.isEmpty_eq_false_iff]
    intro e
    apply h
    have : b.data.toList.length = b.size := by simp
    rw [e] at this
    simpa using this.symm
theorem ch_list : chS.toList = [99, 104, 117, 110, 107, 101, 100] := by rw [ByteArray.toList_eq]; rfl
theorem same_ch {y : ByteArray} {b : Bool} (h : (y.toList == chS.toList) = b) : (y.toList == [99, 104, 117, 110, 107, 101, 100]) = b := by rw [ch_list] at h; exact h
set_option maxHeartbeats 1000000 in
theorem specRsOk (r : Rs) (v : Value) (w : World) (h : RsIn w v r) :
    Calls Tryz.prog 58 #[rsV r v] w fun e w' => e = .returned (.bool (rsOk r)) ∧ Below w.heap.size w w' := by
  obtain ⟨hf, z3⟩ := h
  have hfs := hf.1
  obtain ⟨a, cap, rfl, hcap⟩ := hfs
  clear hcap
  unfold rsV
  have F0 : Hid (Fits (w.alloc (.cells #[.int .i64 r.s, .slice a r.l.length cap, .string r.b] 26)) (.slice a r.l.length cap) r.l) := hf.alloc _
  have Q0 : Hid (RsB (w.alloc (.cells #[.int .i64 r.s, .slice a r.l.length cap, .string r.b] 26)) w.heap.size r (.slice a r.l.length cap)) := RsB.new w r _ _
  have B0 : Hid (Below w.heap.size w (w.alloc (.cells #[.int .i64 r.s, .slice a r.l.length cap, .string r.b] 26))) := (Below.refl _ w).alloc (Nat.le_refl _) _
  clear hf
  have hq1 : r.b.size ≤ 9223372036854775807 := by omega
  go_enter Tryz.func58, Tryz.ntmps58
  go_wp2_with fail
  refine (specIn6 _ _ _ _).mono ?_
  rintro e w1 ⟨rfl, rfl⟩
  cases h1 : decide (200 ≤ r.s ∧ r.s ≤ 599) with
  | false =>
    have H0 : Hid (false = rsOk r) := rsOk_no1 h1
    go_wp2
    go_ret
    exact ⟨ret_bool H0.out, B0.out⟩
  | true =>
    go_wp2_with fail
    refine (specOwn _ r.l _ F0.out).mono ?_
    rintro e w2 ⟨rfl, hb2⟩
    have Q2 : Hid (RsB w2 w.heap.size r (.slice a r.l.length cap)) := Q0.out.next hb2
    have B2 : Hid (Below w.heap.size w w2) := past6 B0.out hb2
    clear Q0 B0 F0 hb2
    have a0 := Q2.out.c0
    have a2 := Q2.out.c2
    cases h2 : ownB r.l with
    | false =>
      have H0 : Hid (false = rsOk r) := rsOk_no2 h1 h2
      go_wp2
      go_ret
      exact ⟨ret_bool H0.out, B2.out⟩
    | true =>
      by_cases h3 : r.b.size ≤ 4000
      · have d3 : decide ((r.b.size : Int) ≤ 4000) = true := by simp; omega
        go_wp2_with fail
        refine (specBare _ _).mono ?_
        rintro e w3 ⟨rfl, rfl⟩
        cases h4 : bareB r.s with
        | false =>
          have H0 : Hid (true = rsOk r) := rsOk_yes h1 h2 h3 h4
          go_wp2
          go_ret
          exact ⟨ret_bool H0.out, B2.out⟩
        | true =>
          have H0 : Hid (r.b.toList.isEmpty = rsOk r) := (void_emp r.b).trans (rsOk_is h1 h2 h3 h4)
          go_wp2
          go_ret
          exact ⟨ret_bool H0.out, B2.out⟩
      · have d3 : decide ((r.b.size : Int) ≤ 4000) = false := by simp; omega
        have H0 : Hid (false = rsOk r) := rsOk_no3 h1 h2 h3
        go_wp2
        go_ret
        exact ⟨ret_bool H0.out, B2.out⟩

def frmE (p : Int × Int) : Value := .tuple #[.int .i64 p.1, .int .i64 p.2]
theorem ret_frm {p : Int × Int} {x y : Int} (h : (x, y) = p) : Ending.returned (.tuple #[.int .i64 x, .int .i64 y]) = .returned (frmE p) := by subst h; rfl
theorem frm_bad {l : List Fl} (h : fldsOk l = false) : (3, 0) = frm l := by unfold frm; rw [if_neg (by rw [h]; decide)]
theorem frm_neither {l : List Fl} (h : fldsOk l = true) (h1 : (getF l clS).2 = false) (h2 : (getF l teS).2 = false) : (0, 0) = frm l := by unfold frm; rw [if_pos h, h1, h2]; rfl
theorem frm_both {l : List Fl} (h : fldsOk l = true) (h1 : (getF l clS).2 = true) (h2 : (getF l teS).2 = true) : (3, 0) = frm l := by unfold frm; rw [if_pos h, h1, h2]; rfl
theorem frm_len {l : List Fl} (h : fldsOk l = true) (h1 : (getF l clS).2 = true) (h2 : (getF l teS).2 = false) (h3 : numOk 10 15 (getF l clS).1 = true ∧ numV 10 15 (getF l clS).1 ≤ 4000) : (1, numV 10 15 (getF l clS).1) = frm l := by unfold frm; rw [if_pos h, if_pos h1, if_neg (by rw [h2]; decide), if_pos h3]
theorem frm_nolen {l : List Fl} (h : fldsOk l = true) (h1 : (getF l clS).2 = true) (h2 : (getF l teS).2 = false) (h3 : ¬ (numOk 10 15 (getF l clS).1 = true ∧ numV 10 15 (getF l clS).1 ≤ 4000)) : (3, 0) = frm l := by unfold frm; rw [if_pos h, if_pos h1, if_neg (by rw [h2]; decide), if_neg h3]
theorem frm_ch {l : List Fl} (h : fldsOk l = true) (h1 : (getF l clS).2 = false) (h2 : (getF l teS).2 = true) (h3 : lowS (getF l teS).1 = chS) : (2, 0) = frm l := by unfold frm; rw [if_pos h, if_neg (by rw [h1]; decide), if_pos h2, if_pos h3]
theorem frm_noch {l : List Fl} (h : fldsOk l = true) (h1 : (getF l clS).2 = false) (h2 : (getF l teS).2 = true) (h3 : ¬ lowS (getF l teS).1 = chS) : (3, 0) = frm l := by unfold frm; rw [if_pos h, if_neg (by rw [h1]; decide), if_pos h2, if_neg h3]
theorem getF_fits {l : List Fl} (n : ByteArray) (h : fldsOk l = true) : (getF l n).1.size ≤ 12060 := by
  have := getA_size l n
  rw [← getA_yes n h] at this
  exact this
end Go.Proofs.YtkaogmdhjcgcdaaGreatDoor
namespace Go.Proofs.YtkaogmdhjcgcdaaGreatDoor
open Go.RowKit

/-- What a walk reads of an owned slice of texts. -/
theorem OwnsS.at {w : World} {B g n cap : Nat} {l : List ByteArray} (h : OwnsS w B (.slice (some ⟨g, 0, none⟩) n cap) l) (hn : n = l.length) : ∀ j (hj : j < l.length), w.cell? ⟨g, j, none⟩ = some (.string l[j]) := by
  intro j hj
  subst hn
  have := World.ownsRow.cellAt h.2 j (by omega)
  rw [this]
  simp [hj]

/-- A text stored into an owned slice. -/
theorem OwnsS.put {w : World} {B g cap : Nat} {l : List ByteArray} {n : Nat} (hn : n = l.length) (h : OwnsS w B (.slice (some ⟨g, 0, none⟩) n cap) l) (k : Nat) (c : ByteArray) : OwnsS (w.setCell ⟨g, k, none⟩ (.string c)) B (.slice (some ⟨g, 0, none⟩) n cap) (l.set k c) := by
  subst hn
  obtain ⟨⟨g', cap', hv, hb, hg⟩, ho⟩ := h
  have h2 := (ho.stored k (.string c)).1
  simp only [Value.slice.injEq, Option.some.injEq, Addr.mk.injEq, and_true, true_and] at hv
  obtain ⟨rfl, rfl⟩ := hv
  refine ⟨⟨g, cap, by rw [List.length_set], hb, by simpa [World.setCell] using hg⟩, ?_⟩
  rw [List.length_set, List.map_set]
  exact h2
/-- What holds of every block but g. -/
def But (g : Nat) (w w' : World) : Prop := w'.os = w.os ∧ w'.tape = w.tape ∧ w'.output = w.output ∧ w.heap.size ≤ w'.heap.size ∧ ∀ k, k < w.heap.size → k ≠ g → w'.heap[k]? = w.heap[k]?
theorem But.refl (g : Nat) (w : World) : But g w w := ⟨rfl, rfl, rfl, Nat.le_refl _, fun _ _ _ => rfl⟩
theorem But.below {g : Nat} {a w w' : World} (h : But g a w) (hb : Below w.heap.size w w') : But g a w' :=
  ⟨hb.os.trans h.1, hb.tape.trans h.2.1, hb.output.trans h.2.2.1, Nat.le_trans h.2.2.2.1 hb.size, fun k hk hg => (hb.block k (by have := h.2.2.2.1; omega)).trans (h.2.2.2.2 k hk hg)⟩
theorem But.put {g : Nat} {a w : World} (h : But g a w) (k : Nat) (v : Value) : But g a (w.setCell ⟨g, k, none⟩ v) :=
  ⟨h.1, h.2.1, h.2.2.1, by simpa [World.setCell] using h.2.2.2.1, fun j hj hg => (Below.heap_setCell _ _ _ _ hg).trans (h.2.2.2.2 j hj hg)⟩

end Go.Proofs.YtkaogmdhjcgcdaaGreatDoor
namespace Go.Proofs.YtkaogmdhjcgcdaaGreatDoor
open Go.RowKit Go.Sort

/-- The value v has the fields l, in a block from B on. -/
def HasF (w : World) (B : Nat) (v : Value) (l : List Fl) : Prop :=
  (v = .slice none 0 0 ∧ l = []) ∨ ∃ g cap cur, v = .slice (some ⟨g, 0, none⟩) l.length cap ∧ B ≤ g ∧ w.heap[g]? = some (.cells cur 105 (0, 0)) ∧ l.length ≤ cap ∧ cap ≤ maxLen ∧ cap * 2 ≤ cur.size ∧ cur.toList.take (l.length * 2) = cellsF l
theorem OwnsF.has {w : World} {B : Nat} {v : Value} {l : List Fl} (h : OwnsF w B v l) : HasF w B v l := by
  rcases h.2 with ⟨h0, h1⟩ | ⟨g, cap, cur, hv, hb, hg, hc, hm, hz, ht⟩
  · exact .inl ⟨h0, List.eq_nil_of_length_eq_zero h1⟩
  · exact .inr ⟨g, cap, cur, hv, hb, hg, hc, hm, by omega, ht⟩
/-- .. also where the room behind it is cut off. -/
theorem HasF.cut {w : World} {B g cap : Nat} {n : Nat} {l : List Fl} (h : HasF w B (.slice (some ⟨g, 0, none⟩) n cap) l) (hn : n = l.length) : HasF w B (.slice (some ⟨g, 0, none⟩) n n) l := by
  subst hn
  rcases h with ⟨h0, _⟩ | ⟨g', cap', cur, hv, hb, hg, hc, hm, hz, ht⟩
  · cases h0
  · simp only [Value.slice.injEq, Option.some.injEq, Addr.mk.injEq, and_true, true_and] at hv
    obtain ⟨rfl, rfl⟩ := hv
    exact .inr ⟨g, l.length, cur, rfl, hb, hg, Nat.le_refl _, Nat.le_trans hc hm, by omega, ht⟩
theorem HasF.kept {w w' : World} {B : Nat} {v : Value} {l : List Fl} (h : HasF w B v l) (hb : Below w.heap.size w w') : HasF w' B v l := by
  rcases h with h0 | ⟨g, cap, cur, hv, hbg, hg, rest⟩
  · exact .inl h0
  · exact .inr ⟨g, cap, cur, hv, hbg, by rw [hb.block g (Array.getElem?_eq_some_iff.1 hg).1]; exact hg, rest⟩
theorem HasF.grown {w w' : World} {B : Nat} {v : Value} {l : List Fl} {r : Option Nat} (h : HasF w B v l) (hg : w.grownBy w' r) (hne : ∀ k, v.ownBlock = some k → some k ≠ r) : HasF w' B v l := by
  rcases h with h0 | ⟨g, cap, cur, hv, hbg, hh, rest⟩
  · exact .inl h0
  · exact .inr ⟨g, cap, cur, hv, hbg, by rw [hg.block g (Array.getElem?_eq_some_iff.1 hh).1 (hne g (by rw [hv]; rfl))]; exact hh, rest⟩
theorem HasF.low {w : World} {B B' : Nat} {v : Value} {l : List Fl} (h : HasF w B v l) (hB : B' ≤ B) : HasF w B' v l := by
  rcases h with h0 | ⟨g, cap, cur, hv, hb, rest⟩
  · exact .inl h0
  · exact .inr ⟨g, cap, cur, hv, by omega, rest⟩
theorem HasF.from {w : World} {B : Nat} {v : Value} {l : List Fl} (h : HasF w B v l) : ∀ k, v.ownBlock = some k → B ≤ k := by
  intro k hk
  rcases h with ⟨rfl, _⟩ | ⟨g, cap, cur, rfl, hb, _⟩
  · simp [Value.ownBlock] at hk
  · simp [Value.ownBlock] at hk; omega
theorem HasF.under {w : World} {B : Nat} {v : Value} {l : List Fl} (h : HasF w B v l) : ∀ k, v.ownBlock = some k → k < w.heap.size := by
  intro k hk
  rcases h with ⟨rfl, _⟩ | ⟨g, cap, cur, rfl, hb, hg, _⟩
  · simp [Value.ownBlock] at hk
  · simp [Value.ownBlock] at hk; subst hk; exact (Array.getElem?_eq_some_iff.1 hg).1
theorem HasF.form {w : World} {B : Nat} {v : Value} {l : List Fl} (h : HasF w B v l) : ∃ a cap, v = .slice a l.length cap ∧ l.length ≤ cap ∧ cap ≤ maxLen ∧ (0 < l.length → ∃ g, a = some ⟨g, 0, none⟩) := by
  rcases h with ⟨rfl, rfl⟩ | ⟨g, cap, cur, rfl, hb, hg, hc, hm, _⟩
  · exact ⟨none, 0, rfl, Nat.le_refl _, Nat.zero_le _, fun h => absurd h (by simp)⟩
  · exact ⟨_, cap, rfl, hc, hm, fun _ => ⟨g, rfl⟩⟩
theorem HasF.at {w : World} {B g n cap : Nat} {l : List Fl} (h : HasF w B (.slice (some ⟨g, 0, none⟩) n cap) l) (j : Nat) (hj : j < l.length) : w.cell? ⟨g, j * 2, none⟩ = some (.string l[j].1) ∧ w.cell? ⟨g, j * 2 + 1, none⟩ = some (.string l[j].2) := by
  rcases h with ⟨h0, _⟩ | ⟨g', cap', cur, hv, hb, hg, hc, hm, hz, ht⟩
  · cases h0
  · simp only [Value.slice.injEq, Option.some.injEq, Addr.mk.injEq, and_true] at hv
    obtain ⟨rfl, _⟩ := hv
    obtain ⟨c1, c2⟩ := cellsF_at l j hj
    rw [← ht, List.getElem?_take_of_lt (by omega)] at c1 c2
    rw [cell_of_row w g _ cur _ _ hg, cell_of_row w g _ cur _ _ hg]
    exact ⟨by simpa using c1, by simpa using c2⟩
theorem HasF.fls {w : World} {B : Nat} {v : Value} {l : List Fl} (h : HasF w B v l) : Fls w v l := by
  obtain ⟨a, cap, rfl, h1, h2, h3⟩ := h.form
  refine ⟨a, cap, rfl, h1, h2, fun h0 => ?_⟩
  obtain ⟨g, rfl⟩ := h3 h0
  exact ⟨g, 0, rfl, h.under g rfl, fun j hj => by rw [Nat.zero_add]; exact h.at j hj⟩
theorem HasF.put1 {w : World} {B g cap n : Nat} {l : List Fl} (h : HasF w B (.slice (some ⟨g, 0, none⟩) n cap) l) {k : Nat} (hk : k < l.length) (c : ByteArray) : HasF (w.setCell ⟨g, k * 2, none⟩ (.string c)) B (.slice (some ⟨g, 0, none⟩) n cap) (l.set k (c, l[k].2)) := by
  rcases h with ⟨h0, _⟩ | ⟨g', cap', cur, hv, hb, hg, hc, hm, hz, ht⟩
  · cases h0
  · simp only [Value.slice.injEq, Option.some.injEq, Addr.mk.injEq, and_true] at hv
    obtain ⟨rfl, rfl, rfl⟩ := hv
    refine .inr ⟨g, cap, cur.setIfInBounds (k * 2) (.string c), by rw [List.length_set], hb, heap_setCell_same w g _ cur _ _ hg, by rw [List.length_set]; exact hc, hm, by simpa using hz, ?_⟩
    rw [List.length_set, ← cellsF_set1 l c k hk, Array.toList_setIfInBounds, ← ht, List.take_set]
theorem HasF.put2 {w : World} {B g cap n : Nat} {l : List Fl} (h : HasF w B (.slice (some ⟨g, 0, none⟩) n cap) l) {k : Nat} (hk : k < l.length) (c : ByteArray) : HasF (w.setCell ⟨g, k * 2 + 1, none⟩ (.string c)) B (.slice (some ⟨g, 0, none⟩) n cap) (l.set k (l[k].1, c)) := by
  rcases h with ⟨h0, _⟩ | ⟨g', cap', cur, hv, hb, hg, hc, hm, hz, ht⟩
  · cases h0
  · simp only [Value.slice.injEq, Option.some.injEq, Addr.mk.injEq, and_true] at hv
    obtain ⟨rfl, rfl, rfl⟩ := hv
    refine .inr ⟨g, cap, cur.setIfInBounds (k * 2 + 1) (.string c), by rw [List.length_set], hb, heap_setCell_same w g _ cur _ _ hg, by rw [List.length_set]; exact hc, hm, by simpa using hz, ?_⟩
    rw [List.length_set, ← cellsF_set2 l c k hk, Array.toList_setIfInBounds, ← ht, List.take_set]

/-! ### Marks -/
end Go.Proofs.YtkaogmdhjcgcdaaGreatDoor
