/-
  The contracts of Trimmed, the specification's and the program's: both answer the text without the blanks at its ends.
  The contracts of VisibleOk, the specification's and the program's: both answer whether the text is visible.
  Plain facts on items: the parts of a text between commas at which none is open, each trimmed, none empty; and slices of texts that a call owns.
-/
import Derived.Test.YtemmgfnepdgpbaaGreatDoorRows
import Derived.Test.YtemmgfnepdgpbaaGreatDoorShelfE
import Derived.WalkKit
import Derived.WalkSpells
import Derived.Laws.Strings
import Derived.Test.YtemmgfnepdgpbaaGreatDoorG02
namespace Go.Proofs.YtemmgfnepdgpbaaGreatDoor
open Go.RowKit

/-- A blank or a tab. -/
def blank (c : UInt8) : Bool := [32, 9].contains c
def ltr (l : List UInt8) : List UInt8 := l.dropWhile blank
def rtr (l : List UInt8) : List UInt8 := (l.reverse.dropWhile blank).reverse
theorem ltr_yes {c : UInt8} (l : List UInt8) (h : blank c = true) : ltr (c :: l) = ltr l := by simp [ltr, h]
theorem ltr_no {c : UInt8} (l : List UInt8) (h : blank c = false) : ltr (c :: l) = c :: l := by simp [ltr, h]
theorem rtr_yes {c : UInt8} (l : List UInt8) (h : blank c = true) : rtr (l ++ [c]) = rtr l := by simp [rtr, h]
theorem rtr_no {c : UInt8} (l : List UInt8) (h : blank c = false) : rtr (l ++ [c]) = l ++ [c] := by simp [rtr, h]
theorem rtr_cons (c : UInt8) (l : List UInt8) : rtr (c :: l) = if rtr l = [] then (if blank c = true then [] else [c]) else c :: rtr l := by
  unfold rtr
  rw [List.reverse_cons, List.dropWhile_append]
  by_cases h : (l.reverse.dropWhile blank) = []
  · rw [h]
    cases hb : blank c <;> simp [hb]
  · have h2 : (l.reverse.dropWhile blank).isEmpty = false := by simpa using h
    rw [h2]
    simp [h]
theorem trim_swap (l : List UInt8) : rtr (ltr l) = ltr (rtr l) := by
  induction l with
  | nil => rfl
  | cons c l ih =>
    cases hb : blank c with
    | true =>
      rw [ltr_yes l hb, ih, rtr_cons]
      split
      · rename_i h0; rw [h0]
      · rw [ltr_yes _ hb]
    | false =>
      rw [ltr_no l hb, rtr_cons]
      split
      · rw [if_neg (by simp [hb]), ltr_no _ hb]
      · rw [ltr_no _ hb]
/-- The text without blanks at its ends. -/
def trimB (s : ByteArray) : ByteArray := ⟨(rtr (ltr s.data.toList)).toArray⟩
theorem trimB_lib (s : ByteArray) : (⟨(Lib.trimS s.data.toList [32, 9]).toArray⟩ : ByteArray) = trimB s := by
  unfold trimB
  rw [trim_swap]
  rfl
theorem ltr_length (l : List UInt8) : (ltr l).length ≤ l.length := List.dropWhile_sublist _ |>.length_le
theorem rtr_length (l : List UInt8) : (rtr l).length ≤ l.length := by
  unfold rtr
  rw [List.length_reverse]
  have := (List.dropWhile_sublist blank (l := l.reverse)).length_le
  rw [List.length_reverse] at this
  exact this
theorem trimB_size (s : ByteArray) : (trimB s).size ≤ s.size := by
  have h1 := rtr_length (ltr s.data.toList)
  have h2 := ltr_length s.data.toList
  have h3 : s.data.toList.length = s.size := by simp
  have h4 : (trimB s).size = (rtr (ltr s.data.toList)).length := by show (rtr (ltr s.data.toList)).toArray.size = _; simp
  omega

theorem isBlank (b : UInt8) (w : World) : Calls Tryz.prog 128 #[.int .u8 (b.toNat : Int)] w fun e w' => e = .returned (.bool (blank b)) ∧ w = w' := by
  by_cases h1 : (b.toNat : Int) = 32
  · have e : blank b = true := by
      have : b = 32 := UInt8.toNat_inj.1 (by show b.toNat = 32; omega)
      subst this; rfl
    rw [e]
    have hq : ((b.toNat : Int) == 32) = true := by simp [h1]
    clear h1 e
    go_enter Tryz.func128, Tryz.ntmps128
    go_wp2
    go_ret
    exact ⟨rfl, rfl⟩
  · have hq : ((b.toNat : Int) == 32) = false := by simp [h1]
    by_cases h2 : (b.toNat : Int) = 9
    · have e : blank b = true := by
        have : b = 9 := UInt8.toNat_inj.1 (by show b.toNat = 9; omega)
        subst this; rfl
      rw [e]
      have hq2 : ((b.toNat : Int) == 9) = true := by simp [h2]
      clear h1 h2 e
      go_enter Tryz.func128, Tryz.ntmps128
      go_wp2
      go_ret
      exact ⟨rfl, rfl⟩
    · have e : blank b = false := by
        cases hk : blank b with
        | false => rfl
        | true =>
          unfold blank at hk
          simp at hk
          rcases hk with rfl | rfl
          · exact absurd rfl h1
          · exact absurd rfl h2
      rw [e]
      have hq2 : ((b.toNat : Int) == 9) = false := by simp [h2]
      clear h1 h2 e
      go_enter Tryz.func128, Tryz.ntmps128
      go_wp2
      go_ret
      exact ⟨rfl, rfl⟩

theorem ret_strT {a b : ByteArray} (h : a = b) : Ending.returned (.string a) = .returned (.string b) := by rw [h]
def strLen : Value → Nat | .string s => s.size | _ => 0

theorem full {x : ByteArray} (h : 0 < x.size) : ¬ x.toList = [] := by
  rw [ByteArray.toList_eq]
  intro e
  have h3 : x.data.toList.length = x.size := by simp
  rw [e] at h3
  simp at h3
  omega
theorem void {x : ByteArray} (h : ¬ 0 < x.size) : x.toList = [] := by
  rw [ByteArray.toList_eq]
  have h3 : x.data.toList.length = x.size := by simp
  exact List.eq_nil_of_length_eq_zero (by omega)
theorem list_of (x : ByteArray) (h : 0 < x.size) : x.data.toList = x[0] :: (x.extract 1 x.size).data.toList := by
  have h3 : x.data.toList.length = x.size := by simp
  have e : (x.extract 1 x.size).data.toList = x.data.toList.drop 1 := by
    rw [ByteArray.data_extract, Array.toList_extract]
    show (x.data.toList.drop 1).take (x.size - 1) = _
    exact List.take_of_length_le (by rw [List.length_drop]; omega)
  rw [e]
  exact List.drop_eq_getElem_cons (l := x.data.toList) (i := 0) (by omega)
theorem list_to (x : ByteArray) (h : 0 < x.size) : x.data.toList = (x.extract 0 (x.size - 1)).data.toList ++ [x[x.size - 1]] := by
  have h3 : x.data.toList.length = x.size := by simp
  have e : (x.extract 0 (x.size - 1)).data.toList = x.data.toList.take (x.size - 1) := by
    rw [ByteArray.data_extract, Array.toList_extract]
    rfl
  rw [e]
  have e2 := List.take_succ_eq_append_getElem (l := x.data.toList) (i := x.size - 1) (by omega)
  rw [show x.size - 1 + 1 = x.size from by omega, List.take_of_length_le (by omega)] at e2
  exact e2
theorem size_of (x : ByteArray) : (x.extract 1 x.size).size = x.size - 1 := by simp
theorem size_to (x : ByteArray) : (x.extract 0 (x.size - 1)).size = x.size - 1 := by simp

theorem trimB_is {y s : ByteArray} (h : y.data.toList = rtr (ltr s.data.toList)) : y = trimB s := by
  unfold trimB
  have : y.data = (rtr (ltr s.data.toList)).toArray := Array.ext' (by rw [h])
  cases y
  exact congrArg _ this

set_option maxHeartbeats 400000 in
theorem specTrim (s : ByteArray) (w : World) (hs : s.size ≤ 1048576) :
    Calls Tryz.prog 95 #[.string s] w fun e w' => e = .returned (.string (trimB s)) ∧ w = w' := by
  go_enter Tryz.func95, Tryz.ntmps95
  go_wp2
  go_loop [0] (fun v => ∃ x : ByteArray, v = .string x ∧ x.size ≤ s.size ∧ Hid (ltr x.data.toList = ltr s.data.toList)) (fun v => strLen v)
  case atStart => exact ⟨s, rfl, Nat.le_refl _, rfl⟩
  case round =>
    obtain ⟨x, rfl, hx, hl⟩ := hrel
    by_cases h0 : 0 < x.size
    · have hfull := full h0
      have hfe : x.toList.isEmpty = false := by simpa using hfull
      cases hb : blank x[0] with
      | true =>
        have HL : Hid (ltr (x.extract 1 x.size).data.toList = ltr s.data.toList) := by
          show ltr (x.extract 1 x.size).data.toList = ltr s.data.toList
          rw [← hl.out, list_of x h0, ltr_yes _ hb]
        have hsz := size_of x
        have HZ : Hid ((x.extract 1 x.size).size = x.size - 1) := hsz
        clear hsz
        go_wp2_with (go_at_call 128; refine (isBlank _ _).mono ?_; rintro e w' ⟨rfl, rfl⟩)
        go_round
        case rel => exact ⟨_, rfl, by rw [HZ.out]; omega, HL⟩
        case measure => show (x.extract 1 x.size).size < x.size; rw [HZ.out]; omega
      | false =>
        have HL : Hid (x.data.toList = ltr s.data.toList) := by
          show x.data.toList = ltr s.data.toList
          rw [← hl.out, list_of x h0, ltr_no _ hb]
        go_wp2_with (go_at_call 128; refine (isBlank _ _).mono ?_; rintro e w' ⟨rfl, rfl⟩)
        clear hfull hfe hb
        go_loop [0] (fun v => ∃ y : ByteArray, v = .string y ∧ y.size ≤ s.size ∧ Hid (rtr y.data.toList = rtr (ltr s.data.toList))) (fun v => strLen v)
        case atStart => exact ⟨x, rfl, hx, by rw [HL.out]; exact rfl⟩
        case round =>
          clear HL hl hx
          obtain ⟨y, rfl, hy, hr⟩ := hrel
          by_cases k0 : 0 < y.size
          · have kfull := full k0
            have kfe : y.toList.isEmpty = false := by simpa using kfull
            cases kb : blank y[y.size - 1] with
            | true =>
              have HR : Hid (rtr (y.extract 0 (y.size - 1)).data.toList = rtr (ltr s.data.toList)) := by
                show rtr (y.extract 0 (y.size - 1)).data.toList = rtr (ltr s.data.toList)
                rw [← hr.out, list_to y k0, rtr_yes _ kb]
              have HZ : Hid ((y.extract 0 (y.size - 1)).size = y.size - 1) := size_to y
              go_wp2_with (go_at_call 128; refine (isBlank _ _).mono ?_; rintro e w' ⟨rfl, rfl⟩)
              go_round
              case rel => exact ⟨_, rfl, by rw [HZ.out]; omega, HR⟩
              case measure => show (y.extract 0 (y.size - 1)).size < y.size; rw [HZ.out]; omega
            | false =>
              have HR : Hid (y = trimB s) := by
                show y = trimB s
                refine trimB_is ?_
                rw [← hr.out, list_to y k0, rtr_no _ kb]
              go_wp2_with (go_at_call 128; refine (isBlank _ _).mono ?_; rintro e w' ⟨rfl, rfl⟩)
              go_ret
              exact ⟨ret_strT HR.out, rfl⟩
          · have knil := void k0
            have HR : Hid (y = trimB s) := by
              show y = trimB s
              refine trimB_is ?_
              rw [← hr.out, ← ByteArray.toList_eq, knil]; rfl
            go_wp2
            go_ret
            exact ⟨ret_strT HR.out, rfl⟩
    · have hnil := void h0
      have HL : Hid (x.data.toList = ltr s.data.toList) := by
        show x.data.toList = ltr s.data.toList
        rw [← hl.out, ← ByteArray.toList_eq, hnil]; rfl
      go_wp2
      clear hnil h0
      go_loop [0] (fun v => ∃ y : ByteArray, v = .string y ∧ y.size ≤ s.size ∧ Hid (rtr y.data.toList = rtr (ltr s.data.toList))) (fun v => strLen v)
      case atStart => exact ⟨x, rfl, hx, by rw [HL.out]; exact rfl⟩
      case round =>
        clear HL hl hx
        obtain ⟨y, rfl, hy, hr⟩ := hrel
        by_cases k0 : 0 < y.size
        · have kfull := full k0
          have kfe : y.toList.isEmpty = false := by simpa using kfull
          cases kb : blank y[y.size - 1] with
          | true =>
            have HR : Hid (rtr (y.extract 0 (y.size - 1)).data.toList = rtr (ltr s.data.toList)) := by
              show rtr (y.extract 0 (y.size - 1)).data.toList = rtr (ltr s.data.toList)
              rw [← hr.out, list_to y k0, rtr_yes _ kb]
            have HZ : Hid ((y.extract 0 (y.size - 1)).size = y.size - 1) := size_to y
            go_wp2_with (go_at_call 128; refine (isBlank _ _).mono ?_; rintro e w' ⟨rfl, rfl⟩)
            go_round
            case rel => exact ⟨_, rfl, by rw [HZ.out]; omega, HR⟩
            case measure => show (y.extract 0 (y.size - 1)).size < y.size; rw [HZ.out]; omega
          | false =>
            have HR : Hid (y = trimB s) := by
              show y = trimB s
              refine trimB_is ?_
              rw [← hr.out, list_to y k0, rtr_no _ kb]
            go_wp2_with (go_at_call 128; refine (isBlank _ _).mono ?_; rintro e w' ⟨rfl, rfl⟩)
            go_ret
            exact ⟨ret_strT HR.out, rfl⟩
        · have knil := void k0
          have HR : Hid (y = trimB s) := by
            show y = trimB s
            refine trimB_is ?_
            rw [← hr.out, ← ByteArray.toList_eq, knil]; rfl
          go_wp2
          go_ret
          exact ⟨ret_strT HR.out, rfl⟩

theorem implTrim (s : ByteArray) (w : World) (hs : s.size ≤ 1048576) :
    Calls Tryz.prog 119 #[.string s] w fun e w' => e = .returned (.string (trimB s)) ∧ Below w.heap.size w w' := by
  have hz := trimB_size s
  have ht := Tryz.strings_Trim s w (by omega)
  rw [trimB_lib] at ht
  generalize trimB s = t at ht hz
  go_enter Tryz.func119, Tryz.ntmps119
  go_wp2_with (first | (go_at_call 142; refine ht.mono ?_; rintro e w1 ⟨rfl, hb1⟩) | (go_at_call 131; refine (Tryz.stringslite_Clone _ _ (by omega)).mono ?_; rintro e w2 ⟨rfl, hb2⟩) | go_in)
  go_ret
  exact ⟨rfl, hb1.trans (hb2.mono hb1.size)⟩
end Go.Proofs.YtemmgfnepdgpbaaGreatDoor
namespace Go.Proofs.YtemmgfnepdgpbaaGreatDoor
open Go.RowKit

/-- The number of a visible byte. -/
def visN (r : Int) : Bool := decide ((32 ≤ r ∧ r ≤ 126) ∨ r = 9)
theorem visN_yes {r : Int} (h : (32 ≤ r ∧ r ≤ 126) ∨ r = 9) : visN r = true := decide_eq_true h
theorem visN_no {r : Int} (h : ¬ ((32 ≤ r ∧ r ≤ 126) ∨ r = 9)) : visN r = false := decide_eq_false h
/-- A visible text. -/
def visB (s : ByteArray) : Bool := decide (s.size ≤ 400) && allB visN s.data.toList
theorem visB_out {s : ByteArray} (h : 400 < s.size) : false = visB s := by
  have e : decide (s.size ≤ 400) = false := decide_eq_false (by omega)
  unfold visB; rw [e]; rfl
theorem visB_in {s : ByteArray} {b : Bool} (h2 : s.size ≤ 400) (h : b = allB visN s.data.toList) : b = visB s := by
  have e : decide (s.size ≤ 400) = true := decide_eq_true h2
  unfold visB; rw [e, h]; rfl
theorem bne_yes {a b : Int} (h : a ≠ b) : (a != b) = true := by simp [h]
theorem bne_no {a b : Int} (h : a = b) : (a != b) = false := by simp [h]

theorem specVis_out (s : ByteArray) (w : World) (hs : s.size ≤ maxLen) (h : 400 < s.size) :
    Calls Tryz.prog 94 #[.string s] w fun e w' => e = .returned (.bool (visB s)) ∧ w' = w := by
  unfold maxLen at hs
  have ht := visB_out h
  have HT : Hid (false = visB s) := ht
  clear ht
  go_enter Tryz.func94, Tryz.ntmps94
  go_wp2
  go_ret
  exact ⟨ret_bool HT.out, rfl⟩

set_option maxHeartbeats 400000 in
theorem specVis_in (s : ByteArray) (w : World) (h2 : s.size ≤ 400) :
    Calls Tryz.prog 94 #[.string s] w fun e w' => e = .returned (.bool (visB s)) ∧ w' = w := by
  have d2 : decide (400 < (s.size : Int)) = false := by simp; omega
  go_enter Tryz.func94, Tryz.ntmps94
  go_wp2
  go_loop [3] (fun i => ∃ k : Nat, k ≤ s.size ∧ i = .int .i64 k ∧ Hid (allB visN (s.data.toList.take k) = true)) (fun i => s.size - (intOf i).toNat)
  case atStart => exact ⟨0, Nat.zero_le _, rfl, allB_nil _ _⟩
  case round =>
    obtain ⟨k, hk, rfl, ha⟩ := hrel
    by_cases hlt : k < s.size
    · by_cases h9 : (s[k].toNat : Int) = 9
      · have hv := allB_step hlt ha.out (visN_yes (Or.inr h9))
        have HV : Hid (allB visN (s.data.toList.take (k + 1)) = true) := hv
        have hq := bne_no h9
        have hl : (s[k].toNat : Int) < 32 := by omega
        clear hv h9
        go_wp2
        go_round
        case rel => exact ⟨k + 1, by omega, by go_num, HV⟩
        case measure => simp [intOf]; omega
      · have hq := bne_yes h9
        by_cases hl : (s[k].toNat : Int) < 32
        · have hf := allB_not (p := visN) hlt (visN_no (by omega))
          have HF : Hid (false = allB visN s.data.toList) := hf
          clear hf h9
          go_wp2
          go_ret
          exact ⟨ret_bool (visB_in h2 HF.out), rfl⟩
        · by_cases hg : 126 < (s[k].toNat : Int)
          · have hf := allB_not (p := visN) hlt (visN_no (by omega))
            have HF : Hid (false = allB visN s.data.toList) := hf
            clear hf h9
            go_wp2
            go_ret
            exact ⟨ret_bool (visB_in h2 HF.out), rfl⟩
          · have hv := allB_step hlt ha.out (visN_yes (by omega))
            have HV : Hid (allB visN (s.data.toList.take (k + 1)) = true) := hv
            clear hv h9
            go_wp2
            go_round
            case rel => exact ⟨k + 1, by omega, by go_num, HV⟩
            case measure => simp [intOf]; omega
    · go_wp2
      go_ret
      exact ⟨ret_bool (visB_in h2 (allB_end hlt ha.out)), rfl⟩

theorem specVis (s : ByteArray) (w : World) (hs : s.size ≤ maxLen) :
    Calls Tryz.prog 94 #[.string s] w fun e w' => e = .returned (.bool (visB s)) ∧ w' = w := by
  by_cases h : 400 < s.size
  · exact specVis_out s w hs h
  · exact specVis_in s w (by omega)

theorem implVis_out (s : ByteArray) (w : World) (hs : s.size ≤ maxLen) (h : 400 < s.size) :
    Calls Tryz.prog 118 #[.string s] w fun e w' => e = .returned (.bool (visB s)) ∧ Below w.heap.size w w' := by
  unfold maxLen at hs
  have ht := visB_out h
  have HT : Hid (false = visB s) := ht
  clear ht
  go_enter Tryz.func118, Tryz.ntmps118
  go_wp2
  go_ret
  exact ⟨ret_bool HT.out, Below.refl _ _⟩

set_option maxHeartbeats 400000 in
theorem implVis_in (s : ByteArray) (w : World) (h2 : s.size ≤ 400) :
    Calls Tryz.prog 118 #[.string s] w fun e w' => e = .returned (.bool (visB s)) ∧ Below w.heap.size w w' := by
  have d2 : decide (400 < (s.size : Int)) = false := by simp; omega
  go_enter Tryz.func118, Tryz.ntmps118
  go_wp2
  go_loopw [4] (fun _ wr => ∃ pos : Nat, pos ≤ s.size ∧ wr = w.iter s pos ∧ Hid (allB visN (s.data.toList.take pos) = true)) (fun _ wr => s.size - wr.iterPos w.heap.size)
  case atStart => exact ⟨0, Nat.zero_le _, rfl, allB_nil _ _⟩
  case round =>
    obtain ⟨pos, hpos, rfl, ha⟩ := hrel
    by_cases hp : pos < s.size
    · by_cases hasc : (s[pos]).toNat < 128
      · have hnx : ∀ ty, (Instr.next (.pointer (some ⟨w.heap.size, 0, none⟩)) true ty).run Tryz.prog (w.iter s pos) = _ := fun ty => run_next_ascii w s pos ty hp hasc
        by_cases h9 : (s[pos].toNat : Int) = 9
        · have hv := allB_step hp ha.out (visN_yes (Or.inr h9))
          have HV : Hid (allB visN (s.data.toList.take (pos + 1)) = true) := hv
          have hq := bne_no h9
          clear hv h9
          go_wp2
          go_roundw
          case rel => exact ⟨pos + 1, by omega, rfl, HV⟩
          case measure => simp; omega
        · have hq := bne_yes h9
          by_cases hl : (s[pos].toNat : Int) < 32
          · have hf := allB_not (p := visN) hp (visN_no (by omega))
            have HF : Hid (false = allB visN s.data.toList) := hf
            clear hf h9
            go_wp2
            go_ret
            exact ⟨ret_bool (visB_in h2 HF.out), below_iter _ _ _⟩
          · by_cases hg : 126 < (s[pos].toNat : Int)
            · have hf := allB_not (p := visN) hp (visN_no (by omega))
              have HF : Hid (false = allB visN s.data.toList) := hf
              clear hf h9
              go_wp2
              go_ret
              exact ⟨ret_bool (visB_in h2 HF.out), below_iter _ _ _⟩
            · have hv := allB_step hp ha.out (visN_yes (by omega))
              have HV : Hid (allB visN (s.data.toList.take (pos + 1)) = true) := hv
              clear hv h9
              go_wp2
              go_roundw
              case rel => exact ⟨pos + 1, by omega, rfl, HV⟩
              case measure => simp; omega
      · have hnx : ∀ ty, (Instr.next (.pointer (some ⟨w.heap.size, 0, none⟩)) true ty).run Tryz.prog (w.iter s pos) = _ := fun ty => run_next_any w s pos ty hp
        have hd := (decode_high s pos hp (by omega)).1
        have hf := allB_not (p := visN) hp (visN_no (by omega))
        have HF : Hid (false = allB visN s.data.toList) := hf
        clear hf
        generalize (Utf8.decode s pos).1 = r at hnx hd
        generalize (Utf8.decode s pos).2 = p2 at hnx
        have hq : ((r : Int) != 9) = true := bne_yes (by omega)
        have hl : ¬ (r : Int) < 32 := by omega
        have hg : 126 < (r : Int) := by omega
        go_wp2
        go_ret
        exact ⟨ret_bool (visB_in h2 HF.out), below_iter _ _ _⟩
    · have hnx : ∀ ty, (Instr.next (.pointer (some ⟨w.heap.size, 0, none⟩)) true ty).run Tryz.prog (w.iter s pos) = _ := fun ty => run_next_end w s pos ty hp
      go_wp2
      go_ret
      exact ⟨ret_bool (visB_in h2 (allB_end hp ha.out)), below_iter _ _ _⟩

theorem implVis (s : ByteArray) (w : World) (hs : s.size ≤ maxLen) :
    Calls Tryz.prog 118 #[.string s] w fun e w' => e = .returned (.bool (visB s)) ∧ Below w.heap.size w w' := by
  by_cases h : 400 < s.size
  · exact implVis_out s w hs h
  · exact implVis_in s w (by omega)
end Go.Proofs.YtemmgfnepdgpbaaGreatDoor
namespace Go.Proofs.YtemmgfnepdgpbaaGreatDoor
open Go.RowKit

/-- The parts: what was read of the one at hand, whether one is open, what is still to be read. -/
def partsF (cur : List UInt8) (op : Bool) : List UInt8 → List (List UInt8)
  | [] => [cur]
  | [c] => if op = false ∧ c.toNat = 44 then [cur, []] else [cur ++ [c]]
  | c :: d :: r =>
    if op = false ∧ c.toNat = 44 then cur :: partsF [] false (d :: r)
    else if c.toNat = 34 then partsF (cur ++ [c]) (!op) (d :: r)
    else if op = true ∧ c.toNat = 92 then partsF (cur ++ [c] ++ [d]) true r
    else partsF (cur ++ [c]) op (d :: r)

theorem partsF_nil (cur : List UInt8) (op : Bool) : partsF cur op [] = [cur] := by rw [partsF]
theorem partsF_take {c : UInt8} (cur r : List UInt8) (h : c.toNat = 92) : partsF cur true (c :: r) = match r with | [] => [cur ++ [c]] | d :: r' => partsF (cur ++ [c] ++ [d]) true r' := by
  cases r with
  | nil => simp [partsF]
  | cons d r => simp [partsF, h]
/-- The trimmed part, where it is not empty. -/
def one (x : ByteArray) : List ByteArray := if 0 < (trimB x).size then [trimB x] else []
def itemsOf (ps : List (List UInt8)) : List ByteArray := ps.flatMap fun p => one ⟨p.toArray⟩
theorem itemsOf_one (p : List UInt8) : itemsOf [p] = one ⟨p.toArray⟩ := by simp [itemsOf]

/-- The bytes from place a to place i. -/
def cutL (l : List UInt8) (a i : Nat) : List UInt8 := (l.take i).drop a
theorem cutL_self (l : List UInt8) (a : Nat) : cutL l a a = [] := by
  unfold cutL; exact List.drop_of_length_le (List.length_take_le _ _)
theorem cutL_next {s : ByteArray} {a i : Nat} (h : i < s.size) (ha : a ≤ i) : cutL s.data.toList a i ++ [s[i]] = cutL s.data.toList a (i + 1) := by
  unfold cutL
  rw [take_snoc s i h, List.drop_append_of_le_length]
  rw [List.length_take]
  have : s.data.toList.length = s.size := by simp
  omega
theorem cutL_past {s : ByteArray} {a i : Nat} (h : s.size ≤ i) : cutL s.data.toList a (i + 1) = cutL s.data.toList a i := by
  unfold cutL
  have e : s.data.toList.length = s.size := by simp
  rw [List.take_of_length_le (by omega), List.take_of_length_le (by omega)]
theorem drop_at' (s : ByteArray) (i : Nat) (h : i < s.size) : s.data.toList.drop i = s[i] :: s.data.toList.drop (i + 1) := by
  rw [List.drop_eq_getElem_cons (by simpa using h)]; rfl
theorem drop_past' (s : ByteArray) (i : Nat) (h : ¬ i < s.size) : s.data.toList.drop i = [] :=
  List.drop_of_length_le (by have e : s.data.toList.length = s.size := by simp
                             omega)
theorem ext_bytes {a b : ByteArray} (h : a.data.toList = b.data.toList) : a = b := by
  have : a.data = b.data := Array.ext' h
  cases a; cases b; exact congrArg _ this
theorem cut_text (s : ByteArray) (a i : Nat) (_hi : i ≤ s.size) : s.extract a i = ⟨(cutL s.data.toList a i).toArray⟩ := by
  apply ext_bytes
  rw [ByteArray.data_extract, Array.toList_extract]
  show (s.data.toList.drop a).take (i - a) = (s.data.toList.take i).drop a
  rw [List.drop_take]

/-- The items of a text. -/
def itemsT (s : ByteArray) : List ByteArray := itemsOf (partsF [] false s.data.toList)
/-- What stands at a state: the items so far, and those of what is still to be read. -/
def At (s : ByteArray) (out : List ByteArray) (a i : Nat) (op : Bool) : Prop := itemsT s = out ++ itemsOf (partsF (cutL s.data.toList a i) op (s.data.toList.drop i))
theorem At.start (s : ByteArray) : At s [] 0 0 false := rfl
/-- A byte 92 takes the byte behind it along, if there is one. -/
theorem At.take {s : ByteArray} {out : List ByteArray} {a i : Nat} (h : At s out a i true) (hi : i < s.size) (ha : a ≤ i) (hc : (s[i].toNat : Int) = 92) : At s out a (i + 2) true := by
  unfold At at *
  rw [h, drop_at' s i hi, partsF_take _ _ (by omega)]
  by_cases hn : i + 1 < s.size
  · rw [drop_at' s (i + 1) hn]
    show out ++ itemsOf (partsF (cutL s.data.toList a i ++ [s[i]] ++ [s[i + 1]]) true (s.data.toList.drop (i + 1 + 1))) = _
    rw [cutL_next hi ha, cutL_next hn (by omega)]
  · rw [drop_past' s (i + 1) hn, drop_past' s (i + 2) (by omega), partsF_nil]
    show out ++ itemsOf [cutL s.data.toList a i ++ [s[i]]] = _
    rw [cutL_next hi ha, cutL_past (i := i + 1) (by omega)]
/-- At the end of it (or one past it) the last part is taken. -/
theorem At.done {s : ByteArray} {out : List ByteArray} {a i : Nat} {op : Bool} (h : At s out a i op) (hi : ¬ i < s.size) : out ++ one (s.extract a s.size) = itemsT s := by
  unfold At at h
  have e : s.data.toList.length = s.size := by simp
  have e2 : cutL s.data.toList a i = cutL s.data.toList a s.size := by
    unfold cutL; rw [List.take_of_length_le (by omega), List.take_of_length_le (by omega)]
  rw [h, drop_past' s i hi, partsF_nil, itemsOf_one, cut_text s a s.size (Nat.le_refl _), e2]
/-- A last byte 92 that takes nothing along, as the specification reads it. -/
theorem At.last {s : ByteArray} {out : List ByteArray} {a i : Nat} (h : At s out a i true) (hi : i < s.size) (ha : a ≤ i) (hc : (s[i].toNat : Int) = 92) (hn : ¬ i + 1 < s.size) : At s out a (i + 1) true := by
  have h2 := h.take hi ha hc
  unfold At at *
  rw [h2, drop_past' s (i + 1) hn, drop_past' s (i + 2) (by omega), cutL_past (i := i + 1) (by omega)]

/-! ### Slices of texts that a call owns -/
theorem Tryz.info9 : (Tryz.prog.info? 9).map (fun i => (i.zero, i.size, i.bytes)) = some (some (.string ⟨#[]⟩), 1, 16) := by kernel_rfl

/-- The value v is a slice that is not nil and owns the texts l, in a block from B on. -/
def OwnsS (w : World) (B : Nat) (v : Value) (l : List ByteArray) : Prop := (∃ g cap, v = .slice (some ⟨g, 0, none⟩) l.length cap ∧ B ≤ g ∧ g < w.heap.size) ∧ w.ownsRow B 9 1 v l.length (l.map Value.string)

theorem OwnsS.born (w : World) : OwnsS (w.alloc (.cells #[] 9)) w.heap.size (.slice (some ⟨w.heap.size, 0, none⟩) 0 0) [] :=
  ⟨⟨w.heap.size, 0, rfl, Nat.le_refl _, by simp⟩, World.ownsRow_lit w #[] 0 (Nat.le_refl _) (by unfold maxLen; decide) rfl⟩
theorem OwnsS.alloc {w : World} {B : Nat} {v : Value} {l : List ByteArray} (h : OwnsS w B v l) (o : Obj) : OwnsS (w.alloc o) B v l := by
  obtain ⟨⟨g, cap, hv, hb, hg⟩, ho⟩ := h
  exact ⟨⟨g, cap, hv, hb, by simp; omega⟩, ho.alloc o⟩
theorem OwnsS.drew {w : World} {B : Nat} {v : Value} {l : List ByteArray} (h : OwnsS w B v l) : OwnsS w.drew B v l := h
theorem OwnsS.kept {w w' : World} {B : Nat} {v : Value} {l : List ByteArray} (h : OwnsS w B v l) (hb : Below w.heap.size w w') : OwnsS w' B v l := by
  obtain ⟨⟨g, cap, hv, hbg, hg⟩, h1, h2⟩ := h
  refine ⟨⟨g, cap, hv, hbg, by have := hb.size; omega⟩, h1, ?_⟩
  rcases h2 with h0 | ⟨g', cap', cur, hv', hb', hg', rest⟩
  · exact .inl h0
  · exact .inr ⟨g', cap', cur, hv', hb', by rw [hb.block g' (Array.getElem?_eq_some_iff.1 hg').1]; exact hg', rest⟩
theorem OwnsS.from {w : World} {B : Nat} {v : Value} {l : List ByteArray} (h : OwnsS w B v l) : ∀ k, v.ownBlock = some k → B ≤ k := fun k hk => (World.ownsRow.lt h.2 k hk).1

/-- One text appended. -/
theorem wpList_pushS {ops : Array Oper} {rest : List Oper} {o : Oper} {a : Act} {Q : Exit → Act → World → Prop} (w : World) (hgd : o.guard = none) (s x : Operand)
    (ho : o.op = .call { callee := .builtin .append, args := #[s, x], argTypes := #[39, 39] }) (B : Nat) (v : Value) (l : List ByteArray) (c : ByteArray) (hs : a.eval s = v) (hown : OwnsS w B v l)
    (hx : a.eval x = .slice (some ⟨w.heap.size, 0, none⟩) 1 1) (hlen : l.length ≤ 7000000000000) (hB : B ≤ w.heap.size)
    (h : ∀ v' w', OwnsS w' B v' (l ++ [c]) → w.grownBy w' v.ownBlock → wpList Tryz.prog ops Q rest (a.put o.dst v') w') :
    wpList Tryz.prog ops Q (o :: rest) a (w.alloc (.cells #[.string c] 9)) := by
  obtain ⟨i0, hi, hz0, hz1, hz2⟩ := info_parts Tryz.info9
  refine wpList_append_own _ hgd s x 39 ho B 9 i0 (.string ⟨#[]⟩) 1 16 Tryz.underlying39 hi hz0 hz1 hz2 rfl (by decide) v l.length (l.map Value.string) hs (hown.2.alloc _) ⟨w.heap.size, 0, none⟩ 1 1 [.string c] hx rfl (cell_one_new _ _ _)
    (by intro u hu; simp at hu; subst hu; rfl) (by unfold maxLen; omega) (by omega) (by simp; omega) ?_
  intro v' w' h1 h2 h3
  refine h v' w' ?_ ⟨h2.os, h2.tape, h2.output, ?_, ?_⟩
  · have h1' : w'.ownsRow B 9 1 v' (l ++ [c]).length ((l ++ [c]).map Value.string) := by
      rw [List.map_append, List.length_append]
      exact h1
    refine ⟨?_, h1'⟩
    rcases h1'.2 with ⟨h0, _⟩ | ⟨g, cap, cur, hv, hb, hg, rest⟩
    · have := (h3.1 h0).2
      omega
    · exact ⟨g, cap, hv, hb, (Array.getElem?_eq_some_iff.1 hg).1⟩
  · have := h2.size
    simp at this
    omega
  · intro k hk hne
    rw [h2.block k (by simp; omega) hne]
    exact Below.heap_alloc _ _ _ hk
end Go.Proofs.YtemmgfnepdgpbaaGreatDoor
