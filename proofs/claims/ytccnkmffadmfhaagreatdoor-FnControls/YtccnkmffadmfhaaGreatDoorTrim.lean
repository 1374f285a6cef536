/-
  The contracts of Trimmed, the specification's and the program's: both answer the text without the blanks at its ends.
-/
import Derived.Test.YtccnkmffadmfhaaGreatDoorRows
import Derived.Test.YtccnkmffadmfhaaGreatDoorShelfE
import Derived.WalkKit
import Derived.WalkSpells
import Derived.Laws.Strings
namespace Go.Proofs.YtccnkmffadmfhaaGreatDoor
open Go.RowKit

/-- A blank or a tab. -/
def blank (c : UInt8) : Bool := [32, 9].contains c
def ltr (l : List UInt8) : List UInt8 := l.dropWhile blank
def rtr (l : List UInt8) : List UInt8 := (l.reverse.dropWhile blank).reverse
theorem ltr_yes {c : UInt8} (l : List UInt8) (h : blank c = true) : ltr (c :: l) = ltr l := by simp [ltr, h]
theorem ltr_no {c : UInt8} (l : List UInt8) (h : blank c = false) : ltr (c :: l) = c :: l := by simp [ltr, h]
theorem rtr_yes {c : UInt8} (l : List UInt8) (h : blank c = true) : rtr (l ++ [c]) = rtr l := by simp [rtr, h]
theorem rtr_no {c : UInt8} (l : List UInt8) (h : blank c = false) : rtr (l ++ [c]) = l ++ [c] := by simp [rtr, h]
theorem rtr_cons (c : UInt8) (l : List UInt8) : rtr (c :: l) = if rtr l = [] then (if blank c = true then [] else [c]) else c :: rtr l := by
  unfold rtr
  rw [List.reverse_cons, List.dropWhile_append]
  by_cases h : (l.reverse.dropWhile blank) = []
  · rw [h]
    cases hb : blank c <;> simp [hb]
  · have h2 : (l.reverse.dropWhile blank).isEmpty = false := by simpa using h
    rw [h2]
    simp [h]
theorem trim_swap (l : List UInt8) : rtr (ltr l) = ltr (rtr l) := by
  induction l with
  | nil => rfl
  | cons c l ih =>
    cases hb : blank c with
    | true =>
      rw [ltr_yes l hb, ih, rtr_cons]
      split
      · rename_i h0; rw [h0]
      · rw [ltr_yes _ hb]
    | false =>
      rw [ltr_no l hb, rtr_cons]
      split
      · rw [if_neg (by simp [hb]), ltr_no _ hb]
      · rw [ltr_no _ hb]
/-- The text without blanks at its ends. -/
def trimB (s : ByteArray) : ByteArray := ⟨(rtr (ltr s.data.toList)).toArray⟩
theorem trimB_lib (s : ByteArray) : (⟨(Lib.trimS s.data.toList [32, 9]).toArray⟩ : ByteArray) = trimB s := by
  unfold trimB
  rw [trim_swap]
  rfl
theorem ltr_length (l : List UInt8) : (ltr l).length ≤ l.length := List.dropWhile_sublist _ |>.length_le
theorem rtr_length (l : List UInt8) : (rtr l).length ≤ l.length := by
  unfold rtr
  rw [List.length_reverse]
  have := (List.dropWhile_sublist blank (l := l.reverse)).length_le
  rw [List.length_reverse] at this
  exact this
theorem trimB_size (s : ByteArray) : (trimB s).size ≤ s.size := by
  have h1 := rtr_length (ltr s.data.toList)
  have h2 := ltr_length s.data.toList
  have h3 : s.data.toList.length = s.size := by simp
  have h4 : (trimB s).size = (rtr (ltr s.data.toList)).length := by show (rtr (ltr s.data.toList)).toArray.size = _; simp
  omega

theorem isBlank (b : UInt8) (w : World) : Calls Tryz.prog 67 #[.int .u8 (b.toNat : Int)] w fun e w' => e = .returned (.bool (blank b)) ∧ w = w' := by
  by_cases h1 : (b.toNat : Int) = 32
  · have e : blank b = true := by
      have : b = 32 := UInt8.toNat_inj.1 (by show b.toNat = 32; omega)
      subst this; rfl
    rw [e]
    have hq : ((b.toNat : Int) == 32) = true := by simp [h1]
    clear h1 e
    go_enter Tryz.func67, Tryz.ntmps67
    go_wp2
    go_ret
    exact ⟨rfl, rfl⟩
  · have hq : ((b.toNat : Int) == 32) = false := by simp [h1]
    by_cases h2 : (b.toNat : Int) = 9
    · have e : blank b = true := by
        have : b = 9 := UInt8.toNat_inj.1 (by show b.toNat = 9; omega)
        subst this; rfl
      rw [e]
      have hq2 : ((b.toNat : Int) == 9) = true := by simp [h2]
      clear h1 h2 e
      go_enter Tryz.func67, Tryz.ntmps67
      go_wp2
      go_ret
      exact ⟨rfl, rfl⟩
    · have e : blank b = false := by
        cases hk : blank b with
        | false => rfl
        | true =>
          unfold blank at hk
          simp at hk
          rcases hk with rfl | rfl
          · exact absurd rfl h1
          · exact absurd rfl h2
      rw [e]
      have hq2 : ((b.toNat : Int) == 9) = false := by simp [h2]
      clear h1 h2 e
      go_enter Tryz.func67, Tryz.ntmps67
      go_wp2
      go_ret
      exact ⟨rfl, rfl⟩

theorem ret_strT {a b : ByteArray} (h : a = b) : Ending.returned (.string a) = .returned (.string b) := by rw [h]
def strLen : Value → Nat | .string s => s.size | _ => 0

theorem full {x : ByteArray} (h : 0 < x.size) : ¬ x.toList = [] := by
  rw [ByteArray.toList_eq]
  intro e
  have h3 : x.data.toList.length = x.size := by simp
  rw [e] at h3
  simp at h3
  omega
theorem void {x : ByteArray} (h : ¬ 0 < x.size) : x.toList = [] := by
  rw [ByteArray.toList_eq]
  have h3 : x.data.toList.length = x.size := by simp
  exact List.eq_nil_of_length_eq_zero (by omega)
theorem list_of (x : ByteArray) (h : 0 < x.size) : x.data.toList = x[0] :: (x.extract 1 x.size).data.toList := by
  have h3 : x.data.toList.length = x.size := by simp
  have e : (x.extract 1 x.size).data.toList = x.data.toList.drop 1 := by
    rw [ByteArray.data_extract, Array.toList_extract]
    show (x.data.toList.drop 1).take (x.size - 1) = _
    exact List.take_of_length_le (by rw [List.length_drop]; omega)
  rw [e]
  exact List.drop_eq_getElem_cons (l := x.data.toList) (i := 0) (by omega)
theorem list_to (x : ByteArray) (h : 0 < x.size) : x.data.toList = (x.extract 0 (x.size - 1)).data.toList ++ [x[x.size - 1]] := by
  have h3 : x.data.toList.length = x.size := by simp
  have e : (x.extract 0 (x.size - 1)).data.toList = x.data.toList.take (x.size - 1) := by
    rw [ByteArray.data_extract, Array.toList_extract]
    rfl
  rw [e]
  have e2 := List.take_succ_eq_append_getElem (l := x.data.toList) (i := x.size - 1) (by omega)
  rw [show x.size - 1 + 1 = x.size from by omega, List.take_of_length_le (by omega)] at e2
  exact e2
theorem size_of (x : ByteArray) : (x.extract 1 x.size).size = x.size - 1 := by simp
theorem size_to (x : ByteArray) : (x.extract 0 (x.size - 1)).size = x.size - 1 := by simp

theorem trimB_is {y s : ByteArray} (h : y.data.toList = rtr (ltr s.data.toList)) : y = trimB s := by
  unfold trimB
  have : y.data = (rtr (ltr s.data.toList)).toArray := Array.ext' (by rw [h])
  cases y
  exact congrArg _ this

set_option maxHeartbeats 400000 in
theorem specTrim (s : ByteArray) (w : World) (hs : s.size ≤ 1048576) :
    Calls Tryz.prog 56 #[.string s] w fun e w' => e = .returned (.string (trimB s)) ∧ w = w' := by
  go_enter Tryz.func56, Tryz.ntmps56
  go_wp2
  go_loop [0] (fun v => ∃ x : ByteArray, v = .string x ∧ x.size ≤ s.size ∧ Hid (ltr x.data.toList = ltr s.data.toList)) (fun v => strLen v)
  case atStart => exact ⟨s, rfl, Nat.le_refl _, rfl⟩
  case round =>
    obtain ⟨x, rfl, hx, hl⟩ := hrel
    by_cases h0 : 0 < x.size
    · have hfull := full h0
      have hfe : x.toList.isEmpty = false := by simpa using hfull
      cases hb : blank x[0] with
      | true =>
        have HL : Hid (ltr (x.extract 1 x.size).data.toList = ltr s.data.toList) := by
          show ltr (x.extract 1 x.size).data.toList = ltr s.data.toList
          rw [← hl.out, list_of x h0, ltr_yes _ hb]
        have hsz := size_of x
        have HZ : Hid ((x.extract 1 x.size).size = x.size - 1) := hsz
        clear hsz
        go_wp2_with (go_at_call 67; refine (isBlank _ _).mono ?_; rintro e w' ⟨rfl, rfl⟩)
        go_round
        case rel => exact ⟨_, rfl, by rw [HZ.out]; omega, HL⟩
        case measure => show (x.extract 1 x.size).size < x.size; rw [HZ.out]; omega
      | false =>
        have HL : Hid (x.data.toList = ltr s.data.toList) := by
          show x.data.toList = ltr s.data.toList
          rw [← hl.out, list_of x h0, ltr_no _ hb]
        go_wp2_with (go_at_call 67; refine (isBlank _ _).mono ?_; rintro e w' ⟨rfl, rfl⟩)
        clear hfull hfe hb
        go_loop [0] (fun v => ∃ y : ByteArray, v = .string y ∧ y.size ≤ s.size ∧ Hid (rtr y.data.toList = rtr (ltr s.data.toList))) (fun v => strLen v)
        case atStart => exact ⟨x, rfl, hx, by rw [HL.out]; exact rfl⟩
        case round =>
          clear HL hl hx
          obtain ⟨y, rfl, hy, hr⟩ := hrel
          by_cases k0 : 0 < y.size
          · have kfull := full k0
            have kfe : y.toList.isEmpty = false := by simpa using kfull
            cases kb : blank y[y.size - 1] with
            | true =>
              have HR : Hid (rtr (y.extract 0 (y.size - 1)).data.toList = rtr (ltr s.data.toList)) := by
                show rtr (y.extract 0 (y.size - 1)).data.toList = rtr (ltr s.data.toList)
                rw [← hr.out, list_to y k0, rtr_yes _ kb]
              have HZ : Hid ((y.extract 0 (y.size - 1)).size = y.size - 1) := size_to y
              go_wp2_with (go_at_call 67; refine (isBlank _ _).mono ?_; rintro e w' ⟨rfl, rfl⟩)
              go_round
              case rel => exact ⟨_, rfl, by rw [HZ.out]; omega, HR⟩
              case measure => show (y.extract 0 (y.size - 1)).size < y.size; rw [HZ.out]; omega
            | false =>
              have HR : Hid (y = trimB s) := by
                show y = trimB s
                refine trimB_is ?_
                rw [← hr.out, list_to y k0, rtr_no _ kb]
              go_wp2_with (go_at_call 67; refine (isBlank _ _).mono ?_; rintro e w' ⟨rfl, rfl⟩)
              go_ret
              exact ⟨ret_strT HR.out, rfl⟩
          · have knil := void k0
            have HR : Hid (y = trimB s) := by
              show y = trimB s
              refine trimB_is ?_
              rw [← hr.out, ← ByteArray.toList_eq, knil]; rfl
            go_wp2
            go_ret
            exact ⟨ret_strT HR.out, rfl⟩
    · have hnil := void h0
      have HL : Hid (x.data.toList = ltr s.data.toList) := by
        show x.data.toList = ltr s.data.toList
        rw [← hl.out, ← ByteArray.toList_eq, hnil]; rfl
      go_wp2
      clear hnil h0
      go_loop [0] (fun v => ∃ y : ByteArray, v = .string y ∧ y.size ≤ s.size ∧ Hid (rtr y.data.toList = rtr (ltr s.data.toList))) (fun v => strLen v)
      case atStart => exact ⟨x, rfl, hx, by rw [HL.out]; exact rfl⟩
      case round =>
        clear HL hl hx
        obtain ⟨y, rfl, hy, hr⟩ := hrel
        by_cases k0 : 0 < y.size
        · have kfull := full k0
          have kfe : y.toList.isEmpty = false := by simpa using kfull
          cases kb : blank y[y.size - 1] with
          | true =>
            have HR : Hid (rtr (y.extract 0 (y.size - 1)).data.toList = rtr (ltr s.data.toList)) := by
              show rtr (y.extract 0 (y.size - 1)).data.toList = rtr (ltr s.data.toList)
              rw [← hr.out, list_to y k0, rtr_yes _ kb]
            have HZ : Hid ((y.extract 0 (y.size - 1)).size = y.size - 1) := size_to y
            go_wp2_with (go_at_call 67; refine (isBlank _ _).mono ?_; rintro e w' ⟨rfl, rfl⟩)
            go_round
            case rel => exact ⟨_, rfl, by rw [HZ.out]; omega, HR⟩
            case measure => show (y.extract 0 (y.size - 1)).size < y.size; rw [HZ.out]; omega
          | false =>
            have HR : Hid (y = trimB s) := by
              show y = trimB s
              refine trimB_is ?_
              rw [← hr.out, list_to y k0, rtr_no _ kb]
            go_wp2_with (go_at_call 67; refine (isBlank _ _).mono ?_; rintro e w' ⟨rfl, rfl⟩)
            go_ret
            exact ⟨ret_strT HR.out, rfl⟩
        · have knil := void k0
          have HR : Hid (y = trimB s) := by
            show y = trimB s
            refine trimB_is ?_
            rw [← hr.out, ← ByteArray.toList_eq, knil]; rfl
          go_wp2
          go_ret
          exact ⟨ret_strT HR.out, rfl⟩

theorem implTrim (s : ByteArray) (w : World) (hs : s.size ≤ 1048576) :
    Calls Tryz.prog 65 #[.string s] w fun e w' => e = .returned (.string (trimB s)) ∧ Below w.heap.size w w' := by
  have hz := trimB_size s
  have ht := Tryz.strings_Trim s w (by omega)
  rw [trimB_lib] at ht
  generalize trimB s = t at ht hz
  go_enter Tryz.func65, Tryz.ntmps65
  go_wp2_with (first | (go_at_call 76; refine ht.mono ?_; rintro e w1 ⟨rfl, hb1⟩) | (go_at_call 84; refine (Tryz.stringslite_Clone _ _ (by omega)).mono ?_; rintro e w2 ⟨rfl, hb2⟩) | go_in)
  go_ret
  exact ⟨rfl, hb1.trans (hb2.mono hb1.size)⟩
end Go.Proofs.YtccnkmffadmfhaaGreatDoor
