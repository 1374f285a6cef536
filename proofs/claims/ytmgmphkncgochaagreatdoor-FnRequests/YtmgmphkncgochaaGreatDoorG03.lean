/-
  DERIVED: THE SHELF's CONTRACTS AT THIS DUMP, IN PLAIN WORDS (tools/lay-plain.mjs out of 'YtmgmphkncgochaaGreatDoorShelfE.lean', which tools/lay-shelf.mjs wrote): THE SAME DECLARATIONS UNDER THE SAME NAMES: 'import', 'namespace', 'open', 'def', 'theorem' AND NOTHING ELSE: no command of the shelf's: FOR A HAND-IN. Each laying: the table of numbers ('.._ren') and one theorem, a field a fact of the dump's own or the kernel's comparison; each contract: ONE APPLICATION.
  The contracts of Trimmed, the specification's and the program's: both answer the text without the blanks at its ends.
  The contracts of VisibleOk, the specification's and the program's: both answer whether the text is visible.
-/
import Derived.Shelf.Strings.SlTrimAscii
import Derived.Shelf.LaysM
import Derived.Shelf.Strconv.Clone
import Derived.Test.YtmgmphkncgochaaGreatDoorProg
import Derived.Test.YtmgmphkncgochaaGreatDoorRows
import Derived.WalkKit
import Derived.WalkSpells
import Derived.Laws.Strings
import Derived.Test.YtmgmphkncgochaaGreatDoorG01
namespace Go.Proofs
open Go.Shelf
def Tryz.lays160_ren : Go.Shelf.Ren := ⟨fun | 160 => 150 | 232 => 169 | 231 => 168 | 227 => 141 | 234 => 171 | 233 => 170 | 236 => 173 | 235 => 172 | 228 => 142 | 271 => 191 | 151 => 190 | 197 => 178 | 120 => 199 | 152 => 139 | 260 => 193 | 137 => 156 | 119 => 157 | 224 => 158 | 225 => 159 | 217 => 176 | 266 => 192 | n => n, fun | 9 => 9 | 4 => 4 | 3 => 3 | 5 => 5 | 117 => 151 | 116 => 150 | 0 => 0 | 124 => 166 | 21 => 21 | 105 => 176 | 46 => 133 | 119 => 188 | 139 => 191 | 138 => 190 | n => n, fun | 3 => 4 | 4 => 5 | n => n⟩
theorem Tryz.lays160 : Go.Proofs.Lays.n160 Tryz.prog Tryz.lays160_ren := {
  mixed := by kernel_rfl
  f119 := Tryz.func157.trans (congrArg some (by kernel_rfl))
  f120 := Tryz.func199.trans (congrArg some (by kernel_rfl))
  f137 := Tryz.func156.trans (congrArg some (by kernel_rfl))
  f151 := Tryz.func190.trans (congrArg some (by kernel_rfl))
  f152 := Tryz.func139.trans (congrArg some (by kernel_rfl))
  f160 := Tryz.func150.trans (congrArg some (by kernel_rfl))
  f197 := Tryz.func178.trans (congrArg some (by kernel_rfl))
  f217 := Tryz.func176.trans (congrArg some (by kernel_rfl))
  f224 := Tryz.func158.trans (congrArg some (by kernel_rfl))
  f225 := Tryz.func159.trans (congrArg some (by kernel_rfl))
  f227 := Tryz.func141.trans (congrArg some (by kernel_rfl))
  f228 := Tryz.func142.trans (congrArg some (by kernel_rfl))
  f231 := Tryz.func168.trans (congrArg some (by kernel_rfl))
  f232 := Tryz.func169.trans (congrArg some (by kernel_rfl))
  f233 := Tryz.func170.trans (congrArg some (by kernel_rfl))
  f234 := Tryz.func171.trans (congrArg some (by kernel_rfl))
  f235 := Tryz.func172.trans (congrArg some (by kernel_rfl))
  f236 := Tryz.func173.trans (congrArg some (by kernel_rfl))
  f260 := Tryz.func193.trans (congrArg some (by kernel_rfl))
  f266 := Tryz.func192.trans (congrArg some (by kernel_rfl))
  f271 := Tryz.func191.trans (congrArg some (by kernel_rfl))
  t0 := Tryz.underlying0
  a0 := Tryz.isAgg0
  z0 := Tryz.sizeOf0
  v0 := Tryz.zeroValue0
  t3 := Tryz.underlying3
  a3 := Tryz.isAgg3
  z3 := Tryz.sizeOf3
  v3 := Tryz.zeroValue3
  t4 := Tryz.underlying4
  a4 := Tryz.isAgg4
  z4 := Tryz.sizeOf4
  v4 := Tryz.zeroValue4
  t5 := Tryz.underlying5
  a5 := Tryz.isAgg5
  z5 := Tryz.sizeOf5
  v5 := Tryz.zeroValue5
  t9 := Tryz.underlying9
  a9 := Tryz.isAgg9
  z9 := Tryz.sizeOf9
  v9 := Tryz.zeroValue9
  t21 := Tryz.underlying21
  a21 := Tryz.isAgg21
  z21 := Tryz.sizeOf21
  v21 := Tryz.zeroValue21
  t46 := Tryz.underlying133
  a46 := Tryz.isAgg133
  z46 := Tryz.sizeOf133
  v46 := Tryz.zeroValue133
  t105 := Tryz.underlying176
  a105 := Tryz.isAgg176
  z105 := Tryz.sizeOf176
  v105 := Tryz.zeroValue176
  t116 := Tryz.underlying150
  a116 := Tryz.isAgg150
  z116 := Tryz.sizeOf150
  t117 := Tryz.underlying151
  a117 := Tryz.isAgg151
  z117 := Tryz.sizeOf151
  v117 := Tryz.zeroValue151
  t119 := Tryz.underlying188
  a119 := Tryz.isAgg188
  z119 := Tryz.sizeOf188
  t124 := Tryz.underlying166
  a124 := Tryz.isAgg166
  z124 := Tryz.sizeOf166
  v124 := Tryz.zeroValue166
  t138 := Tryz.underlying190
  a138 := Tryz.isAgg190
  z138 := Tryz.sizeOf190
  v138 := Tryz.zeroValue190
  t139 := Tryz.underlying191
  a139 := Tryz.isAgg191
  z139 := Tryz.sizeOf191
  v139 := Tryz.zeroValue191
  g3 := by kernel_rfl
  g4 := by kernel_rfl }
def Tryz.laysM316_ren : Go.Shelf.Ren := ⟨fun | 316 => 120 | n => n, fun | 9 => 9 | 3 => 3 | 4 => 4 | 37 => 22 | 0 => 0 | 127 => 154 | 5 => 5 | n => n, fun | n => n⟩
theorem Tryz.laysM316 : Go.Proofs.LaysM.n316 Tryz.prog Tryz.laysM316_ren := {
  mixed := by kernel_rfl
  f316 := Tryz.func120.trans (congrArg some (by kernel_rfl))
  t0 := Tryz.underlying0
  a0 := Tryz.isAgg0
  z0 := Tryz.sizeOf0
  v0 := Tryz.zeroValue0
  t3 := Tryz.underlying3
  a3 := Tryz.isAgg3
  z3 := Tryz.sizeOf3
  v3 := Tryz.zeroValue3
  t4 := Tryz.underlying4
  a4 := Tryz.isAgg4
  z4 := Tryz.sizeOf4
  v4 := Tryz.zeroValue4
  t9 := Tryz.underlying9
  a9 := Tryz.isAgg9
  z9 := Tryz.sizeOf9
  v9 := Tryz.zeroValue9
  t37 := Tryz.underlying22
  a37 := Tryz.isAgg22
  z37 := Tryz.sizeOf22
  v37 := Tryz.zeroValue22
  t127 := Tryz.underlying154
  a127 := Tryz.isAgg154
  z127 := Tryz.sizeOf154
  v127 := Tryz.zeroValue154
  t5 := Tryz.underlying5
  a5 := Tryz.isAgg5
  z5 := Tryz.sizeOf5
  v5 := Tryz.zeroValue5
  i0 := by kernel_rfl
  i3 := by kernel_rfl
  i4 := by kernel_rfl
  i5 := by kernel_rfl
  i9 := by kernel_rfl
  i37 := by kernel_rfl
  i127 := by kernel_rfl }
open Go.RowKit in
theorem Tryz.stringslite_Clone (s : ByteArray) (w : World) (hlim : s.size ≤ 281474976710656) :
    Calls Tryz.prog 120 #[.string s] w fun e w' => e = .returned (.string s) ∧ Below w.heap.size w w' := Any.stringslite_Clone Tryz.laysM316 s w hlim
open Go.RowKit in
theorem Tryz.strings_Trim (s : ByteArray) (w : World) (hs : s.size ≤ 9223372036854775807) :
    Calls Tryz.prog 150 #[.string s, .string ⟨#[32, 9]⟩] w fun e w' => e = .returned (.string ⟨(Lib.trimS s.data.toList [32, 9]).toArray⟩) ∧ Below w.heap.size w w' := Any.strings_Trim_laid Tryz.lays160 (by kernel_rfl) s ⟨#[32, 9]⟩ w hs (by decide) (ascii_of_all (by decide))
end Go.Proofs
namespace Go.Proofs.YtmgmphkncgochaaGreatDoor
open Go.RowKit

/-- A blank or a tab. -/
def blank (c : UInt8) : Bool := [32, 9].contains c
def ltr (l : List UInt8) : List UInt8 := l.dropWhile blank
def rtr (l : List UInt8) : List UInt8 := (l.reverse.dropWhile blank).reverse
theorem ltr_yes {c : UInt8} (l : List UInt8) (h : blank c = true) : ltr (c :: l) = ltr l := by simp [ltr, h]
theorem ltr_no {c : UInt8} (l : List UInt8) (h : blank c = false) : ltr (c :: l) = c :: l := by simp [ltr, h]
theorem rtr_yes {c : UInt8} (l : List UInt8) (h : blank c = true) : rtr (l ++ [c]) = rtr l := by simp [rtr, h]
theorem rtr_no {c : UInt8} (l : List UInt8) (h : blank c = false) : rtr (l ++ [c]) = l ++ [c] := by simp [rtr, h]
theorem rtr_cons (c : UInt8) (l : List UInt8) : rtr (c :: l) = if rtr l = [] then (if blank c = true then [] else [c]) else c :: rtr l := by
  unfold rtr
  rw [List.reverse_cons, List.dropWhile_append]
  by_cases h : (l.reverse.dropWhile blank) = []
  · rw [h]
    cases hb : blank c <;> simp [hb]
  · have h2 : (l.reverse.dropWhile blank).isEmpty = false := by simpa using h
    rw [h2]
    simp [h]
theorem trim_swap (l : List UInt8) : rtr (ltr l) = ltr (rtr l) := by
  induction l with
  | nil => rfl
  | cons c l ih =>
    cases hb : blank c with
    | true =>
      rw [ltr_yes l hb, ih, rtr_cons]
      split
      · rename_i h0; rw [h0]
      · rw [ltr_yes _ hb]
    | false =>
      rw [ltr_no l hb, rtr_cons]
      split
      · rw [if_neg (by simp [hb]), ltr_no _ hb]
      · rw [ltr_no _ hb]
/-- The text without blanks at its ends. -/
def trimB (s : ByteArray) : ByteArray := ⟨(rtr (ltr s.data.toList)).toArray⟩
theorem trimB_lib (s : ByteArray) : (⟨(Lib.trimS s.data.toList [32, 9]).toArray⟩ : ByteArray) = trimB s := by
  unfold trimB
  rw [trim_swap]
  rfl
theorem ltr_length (l : List UInt8) : (ltr l).length ≤ l.length := List.dropWhile_sublist _ |>.length_le
theorem rtr_length (l : List UInt8) : (rtr l).length ≤ l.length := by
  unfold rtr
  rw [List.length_reverse]
  have := (List.dropWhile_sublist blank (l := l.reverse)).length_le
  rw [List.length_reverse] at this
  exact this
theorem trimB_size (s : ByteArray) : (trimB s).size ≤ s.size := by
  have h1 := rtr_length (ltr s.data.toList)
  have h2 := ltr_length s.data.toList
  have h3 : s.data.toList.length = s.size := by simp
  have h4 : (trimB s).size = (rtr (ltr s.data.toList)).length := by show (rtr (ltr s.data.toList)).toArray.size = _; simp
  omega

theorem isBlank (b : UInt8) (w : World) : Calls Tryz.prog 147 #[.int .u8 (b.toNat : Int)] w fun e w' => e = .returned (.bool (blank b)) ∧ w = w' := by
  by_cases h1 : (b.toNat : Int) = 32
  · have e : blank b = true := by
      have : b = 32 := UInt8.toNat_inj.1 (by show b.toNat = 32; omega)
      subst this; rfl
    rw [e]
    have hq : ((b.toNat : Int) == 32) = true := by simp [h1]
    clear h1 e
    go_enter Tryz.func147, Tryz.ntmps147
    go_wp2
    go_ret
    exact ⟨rfl, rfl⟩
  · have hq : ((b.toNat : Int) == 32) = false := by simp [h1]
    by_cases h2 : (b.toNat : Int) = 9
    · have e : blank b = true := by
        have : b = 9 := UInt8.toNat_inj.1 (by show b.toNat = 9; omega)
        subst this; rfl
      rw [e]
      have hq2 : ((b.toNat : Int) == 9) = true := by simp [h2]
      clear h1 h2 e
      go_enter Tryz.func147, Tryz.ntmps147
      go_wp2
      go_ret
      exact ⟨rfl, rfl⟩
    · have e : blank b = false := by
        cases hk : blank b with
        | false => rfl
        | true =>
          unfold blank at hk
          simp at hk
          rcases hk with rfl | rfl
          · exact absurd rfl h1
          · exact absurd rfl h2
      rw [e]
      have hq2 : ((b.toNat : Int) == 9) = false := by simp [h2]
      clear h1 h2 e
      go_enter Tryz.func147, Tryz.ntmps147
      go_wp2
      go_ret
      exact ⟨rfl, rfl⟩

theorem ret_strT {a b : ByteArray} (h : a = b) : Ending.returned (.string a) = .returned (.string b) := by rw [h]
def strLen : Value → Nat | .string s => s.size | _ => 0

theorem full {x : ByteArray} (h : 0 < x.size) : ¬ x.toList = [] := by
  rw [ByteArray.toList_eq]
  intro e
  have h3 : x.data.toList.length = x.size := by simp
  rw [e] at h3
  simp at h3
  omega
theorem void {x : ByteArray} (h : ¬ 0 < x.size) : x.toList = [] := by
  rw [ByteArray.toList_eq]
  have h3 : x.data.toList.length = x.size := by simp
  exact List.eq_nil_of_length_eq_zero (by omega)
theorem list_of (x : ByteArray) (h : 0 < x.size) : x.data.toList = x[0] :: (x.extract 1 x.size).data.toList := by
  have h3 : x.data.toList.length = x.size := by simp
  have e : (x.extract 1 x.size).data.toList = x.data.toList.drop 1 := by
    rw [ByteArray.data_extract, Array.toList_extract]
    show (x.data.toList.drop 1).take (x.size - 1) = _
    exact List.take_of_length_le (by rw [List.length_drop]; omega)
  rw [e]
  exact List.drop_eq_getElem_cons (l := x.data.toList) (i := 0) (by omega)
theorem list_to (x : ByteArray) (h : 0 < x.size) : x.data.toList = (x.extract 0 (x.size - 1)).data.toList ++ [x[x.size - 1]] := by
  have h3 : x.data.toList.length = x.size := by simp
  have e : (x.extract 0 (x.size - 1)).data.toList = x.data.toList.take (x.size - 1) := by
    rw [ByteArray.data_extract, Array.toList_extract]
    rfl
  rw [e]
  have e2 := List.take_succ_eq_append_getElem (l := x.data.toList) (i := x.size - 1) (by omega)
  rw [show x.size - 1 + 1 = x.size from by omega, List.take_of_length_le (by omega)] at e2
  exact e2
theorem size_of (x : ByteArray) : (x.extract 1 x.size).size = x.size - 1 := by simp
theorem size_to (x : ByteArray) : (x.extract 0 (x.size - 1)).size = x.size - 1 := by simp

theorem trimB_is {y s : ByteArray} (h : y.data.toList = rtr (ltr s.data.toList)) : y = trimB s := by
  unfold trimB
  have : y.data = (rtr (ltr s.data.toList)).toArray := Array.ext' (by rw [h])
  cases y
  exact congrArg _ this

set_option maxHeartbeats 400000 in
theorem specTrim (s : ByteArray) (w : World) (hs : s.size ≤ 1048576) :
    Calls Tryz.prog 130 #[.string s] w fun e w' => e = .returned (.string (trimB s)) ∧ w = w' := by
  go_enter Tryz.func130, Tryz.ntmps130
  go_wp2
  go_loop [0] (fun v => ∃ x : ByteArray, v = .string x ∧ x.size ≤ s.size ∧ Hid (ltr x.data.toList = ltr s.data.toList)) (fun v => strLen v)
  case atStart => exact ⟨s, rfl, Nat.le_refl _, rfl⟩
  case round =>
    obtain ⟨x, rfl, hx, hl⟩ := hrel
    by_cases h0 : 0 < x.size
    · have hfull := full h0
      have hfe : x.toList.isEmpty = false := by simpa using hfull
      cases hb : blank x[0] with
      | true =>
        have HL : Hid (ltr (x.extract 1 x.size).data.toList = ltr s.data.toList) := by
          show ltr (x.extract 1 x.size).data.toList = ltr s.data.toList
          rw [← hl.out, list_of x h0, ltr_yes _ hb]
        have hsz := size_of x
        have HZ : Hid ((x.extract 1 x.size).size = x.size - 1) := hsz
        clear hsz
        go_wp2_with (go_at_call 147; refine (isBlank _ _).mono ?_; rintro e w' ⟨rfl, rfl⟩)
        go_round
        case rel => exact ⟨_, rfl, by rw [HZ.out]; omega, HL⟩
        case measure => show (x.extract 1 x.size).size < x.size; rw [HZ.out]; omega
      | false =>
        have HL : Hid (x.data.toList = ltr s.data.toList) := by
          show x.data.toList = ltr s.data.toList
          rw [← hl.out, list_of x h0, ltr_no _ hb]
        go_wp2_with (go_at_call 147; refine (isBlank _ _).mono ?_; rintro e w' ⟨rfl, rfl⟩)
        clear hfull hfe hb
        go_loop [0] (fun v => ∃ y : ByteArray, v = .string y ∧ y.size ≤ s.size ∧ Hid (rtr y.data.toList = rtr (ltr s.data.toList))) (fun v => strLen v)
        case atStart => exact ⟨x, rfl, hx, by rw [HL.out]; exact rfl⟩
        case round =>
          clear HL hl hx
          obtain ⟨y, rfl, hy, hr⟩ := hrel
          by_cases k0 : 0 < y.size
          · have kfull := full k0
            have kfe : y.toList.isEmpty = false := by simpa using kfull
            cases kb : blank y[y.size - 1] with
            | true =>
              have HR : Hid (rtr (y.extract 0 (y.size - 1)).data.toList = rtr (ltr s.data.toList)) := by
                show rtr (y.extract 0 (y.size - 1)).data.toList = rtr (ltr s.data.toList)
                rw [← hr.out, list_to y k0, rtr_yes _ kb]
              have HZ : Hid ((y.extract 0 (y.size - 1)).size = y.size - 1) := size_to y
              go_wp2_with (go_at_call 147; refine (isBlank _ _).mono ?_; rintro e w' ⟨rfl, rfl⟩)
              go_round
              case rel => exact ⟨_, rfl, by rw [HZ.out]; omega, HR⟩
              case measure => show (y.extract 0 (y.size - 1)).size < y.size; rw [HZ.out]; omega
            | false =>
              have HR : Hid (y = trimB s) := by
                show y = trimB s
                refine trimB_is ?_
                rw [← hr.out, list_to y k0, rtr_no _ kb]
              go_wp2_with (go_at_call 147; refine (isBlank _ _).mono ?_; rintro e w' ⟨rfl, rfl⟩)
              go_ret
              exact ⟨ret_strT HR.out, rfl⟩
          · have knil := void k0
            have HR : Hid (y = trimB s) := by
              show y = trimB s
              refine trimB_is ?_
              rw [← hr.out, ← ByteArray.toList_eq, knil]; rfl
            go_wp2
            go_ret
            exact ⟨ret_strT HR.out, rfl⟩
    · have hnil := void h0
      have HL : Hid (x.data.toList = ltr s.data.toList) := by
        show x.data.toList = ltr s.data.toList
        rw [← hl.out, ← ByteArray.toList_eq, hnil]; rfl
      go_wp2
      clear hnil h0
      go_loop [0] (fun v => ∃ y : ByteArray, v = .string y ∧ y.size ≤ s.size ∧ Hid (rtr y.data.toList = rtr (ltr s.data.toList))) (fun v => strLen v)
      case atStart => exact ⟨x, rfl, hx, by rw [HL.out]; exact rfl⟩
      case round =>
        clear HL hl hx
        obtain ⟨y, rfl, hy, hr⟩ := hrel
        by_cases k0 : 0 < y.size
        · have kfull := full k0
          have kfe : y.toList.isEmpty = false := by simpa using kfull
          cases kb : blank y[y.size - 1] with
          | true =>
            have HR : Hid (rtr (y.extract 0 (y.size - 1)).data.toList = rtr (ltr s.data.toList)) := by
              show rtr (y.extract 0 (y.size - 1)).data.toList = rtr (ltr s.data.toList)
              rw [← hr.out, list_to y k0, rtr_yes _ kb]
            have HZ : Hid ((y.extract 0 (y.size - 1)).size = y.size - 1) := size_to y
            go_wp2_with (go_at_call 147; refine (isBlank _ _).mono ?_; rintro e w' ⟨rfl, rfl⟩)
            go_round
            case rel => exact ⟨_, rfl, by rw [HZ.out]; omega, HR⟩
            case measure => show (y.extract 0 (y.size - 1)).size < y.size; rw [HZ.out]; omega
          | false =>
            have HR : Hid (y = trimB s) := by
              show y = trimB s
              refine trimB_is ?_
              rw [← hr.out, list_to y k0, rtr_no _ kb]
            go_wp2_with (go_at_call 147; refine (isBlank _ _).mono ?_; rintro e w' ⟨rfl, rfl⟩)
            go_ret
            exact ⟨ret_strT HR.out, rfl⟩
        · have knil := void k0
          have HR : Hid (y = trimB s) := by
            show y = trimB s
            refine trimB_is ?_
            rw [← hr.out, ← ByteArray.toList_eq, knil]; rfl
          go_wp2
          go_ret
          exact ⟨ret_strT HR.out, rfl⟩

theorem implTrim (s : ByteArray) (w : World) (hs : s.size ≤ 1048576) :
    Calls Tryz.prog 132 #[.string s] w fun e w' => e = .returned (.string (trimB s)) ∧ Below w.heap.size w w' := by
  have hz := trimB_size s
  have ht := Tryz.strings_Trim s w (by omega)
  rw [trimB_lib] at ht
  generalize trimB s = t at ht hz
  go_enter Tryz.func132, Tryz.ntmps132
  go_wp2_with (first | (go_at_call 150; refine ht.mono ?_; rintro e w1 ⟨rfl, hb1⟩) | (go_at_call 120; refine (Tryz.stringslite_Clone _ _ (by omega)).mono ?_; rintro e w2 ⟨rfl, hb2⟩) | go_in)
  go_ret
  exact ⟨rfl, hb1.trans (hb2.mono hb1.size)⟩
end Go.Proofs.YtmgmphkncgochaaGreatDoor
namespace Go.Proofs.YtmgmphkncgochaaGreatDoor
open Go.RowKit

/-- The number of a visible byte. -/
def visN (r : Int) : Bool := decide ((32 ≤ r ∧ r ≤ 126) ∨ r = 9)
theorem visN_yes {r : Int} (h : (32 ≤ r ∧ r ≤ 126) ∨ r = 9) : visN r = true := decide_eq_true h
theorem visN_no {r : Int} (h : ¬ ((32 ≤ r ∧ r ≤ 126) ∨ r = 9)) : visN r = false := decide_eq_false h
/-- A visible text. -/
def visB (s : ByteArray) : Bool := decide (s.size ≤ 400) && allB visN s.data.toList
theorem visB_out {s : ByteArray} (h : 400 < s.size) : false = visB s := by
  have e : decide (s.size ≤ 400) = false := decide_eq_false (by omega)
  unfold visB; rw [e]; rfl
theorem visB_in {s : ByteArray} {b : Bool} (h2 : s.size ≤ 400) (h : b = allB visN s.data.toList) : b = visB s := by
  have e : decide (s.size ≤ 400) = true := decide_eq_true h2
  unfold visB; rw [e, h]; rfl
theorem bne_yes {a b : Int} (h : a ≠ b) : (a != b) = true := by simp [h]
theorem bne_no {a b : Int} (h : a = b) : (a != b) = false := by simp [h]

theorem specVis_out (s : ByteArray) (w : World) (hs : s.size ≤ maxLen) (h : 400 < s.size) :
    Calls Tryz.prog 134 #[.string s] w fun e w' => e = .returned (.bool (visB s)) ∧ w' = w := by
  unfold maxLen at hs
  have ht := visB_out h
  have HT : Hid (false = visB s) := ht
  clear ht
  go_enter Tryz.func134, Tryz.ntmps134
  go_wp2
  go_ret
  exact ⟨ret_bool HT.out, rfl⟩

set_option maxHeartbeats 400000 in
theorem specVis_in (s : ByteArray) (w : World) (h2 : s.size ≤ 400) :
    Calls Tryz.prog 134 #[.string s] w fun e w' => e = .returned (.bool (visB s)) ∧ w' = w := by
  have d2 : decide (400 < (s.size : Int)) = false := by simp; omega
  go_enter Tryz.func134, Tryz.ntmps134
  go_wp2
  go_loop [3] (fun i => ∃ k : Nat, k ≤ s.size ∧ i = .int .i64 k ∧ Hid (allB visN (s.data.toList.take k) = true)) (fun i => s.size - (intOf i).toNat)
  case atStart => exact ⟨0, Nat.zero_le _, rfl, allB_nil _ _⟩
  case round =>
    obtain ⟨k, hk, rfl, ha⟩ := hrel
    by_cases hlt : k < s.size
    · by_cases h9 : (s[k].toNat : Int) = 9
      · have hv := allB_step hlt ha.out (visN_yes (Or.inr h9))
        have HV : Hid (allB visN (s.data.toList.take (k + 1)) = true) := hv
        have hq := bne_no h9
        have hl : (s[k].toNat : Int) < 32 := by omega
        clear hv h9
        go_wp2
        go_round
        case rel => exact ⟨k + 1, by omega, by go_num, HV⟩
        case measure => simp [intOf]; omega
      · have hq := bne_yes h9
        by_cases hl : (s[k].toNat : Int) < 32
        · have hf := allB_not (p := visN) hlt (visN_no (by omega))
          have HF : Hid (false = allB visN s.data.toList) := hf
          clear hf h9
          go_wp2
          go_ret
          exact ⟨ret_bool (visB_in h2 HF.out), rfl⟩
        · by_cases hg : 126 < (s[k].toNat : Int)
          · have hf := allB_not (p := visN) hlt (visN_no (by omega))
            have HF : Hid (false = allB visN s.data.toList) := hf
            clear hf h9
            go_wp2
            go_ret
            exact ⟨ret_bool (visB_in h2 HF.out), rfl⟩
          · have hv := allB_step hlt ha.out (visN_yes (by omega))
            have HV : Hid (allB visN (s.data.toList.take (k + 1)) = true) := hv
            clear hv h9
            go_wp2
            go_round
            case rel => exact ⟨k + 1, by omega, by go_num, HV⟩
            case measure => simp [intOf]; omega
    · go_wp2
      go_ret
      exact ⟨ret_bool (visB_in h2 (allB_end hlt ha.out)), rfl⟩

theorem specVis (s : ByteArray) (w : World) (hs : s.size ≤ maxLen) :
    Calls Tryz.prog 134 #[.string s] w fun e w' => e = .returned (.bool (visB s)) ∧ w' = w := by
  by_cases h : 400 < s.size
  · exact specVis_out s w hs h
  · exact specVis_in s w (by omega)

theorem implVis_out (s : ByteArray) (w : World) (hs : s.size ≤ maxLen) (h : 400 < s.size) :
    Calls Tryz.prog 90 #[.string s] w fun e w' => e = .returned (.bool (visB s)) ∧ Below w.heap.size w w' := by
  unfold maxLen at hs
  have ht := visB_out h
  have HT : Hid (false = visB s) := ht
  clear ht
  go_enter Tryz.func90, Tryz.ntmps90
  go_wp2
  go_ret
  exact ⟨ret_bool HT.out, Below.refl _ _⟩

set_option maxHeartbeats 400000 in
theorem implVis_in (s : ByteArray) (w : World) (h2 : s.size ≤ 400) :
    Calls Tryz.prog 90 #[.string s] w fun e w' => e = .returned (.bool (visB s)) ∧ Below w.heap.size w w' := by
  have d2 : decide (400 < (s.size : Int)) = false := by simp; omega
  go_enter Tryz.func90, Tryz.ntmps90
  go_wp2
  go_loopw [4] (fun _ wr => ∃ pos : Nat, pos ≤ s.size ∧ wr = w.iter s pos ∧ Hid (allB visN (s.data.toList.take pos) = true)) (fun _ wr => s.size - wr.iterPos w.heap.size)
  case atStart => exact ⟨0, Nat.zero_le _, rfl, allB_nil _ _⟩
  case round =>
    obtain ⟨pos, hpos, rfl, ha⟩ := hrel
    by_cases hp : pos < s.size
    · by_cases hasc : (s[pos]).toNat < 128
      · have hnx : ∀ ty, (Instr.next (.pointer (some ⟨w.heap.size, 0, none⟩)) true ty).run Tryz.prog (w.iter s pos) = _ := fun ty => run_next_ascii w s pos ty hp hasc
        by_cases h9 : (s[pos].toNat : Int) = 9
        · have hv := allB_step hp ha.out (visN_yes (Or.inr h9))
          have HV : Hid (allB visN (s.data.toList.take (pos + 1)) = true) := hv
          have hq := bne_no h9
          clear hv h9
          go_wp2
          go_roundw
          case rel => exact ⟨pos + 1, by omega, rfl, HV⟩
          case measure => simp; omega
        · have hq := bne_yes h9
          by_cases hl : (s[pos].toNat : Int) < 32
          · have hf := allB_not (p := visN) hp (visN_no (by omega))
            have HF : Hid (false = allB visN s.data.toList) := hf
            clear hf h9
            go_wp2
            go_ret
            exact ⟨ret_bool (visB_in h2 HF.out), below_iter _ _ _⟩
          · by_cases hg : 126 < (s[pos].toNat : Int)
            · have hf := allB_not (p := visN) hp (visN_no (by omega))
              have HF : Hid (false = allB visN s.data.toList) := hf
              clear hf h9
              go_wp2
              go_ret
              exact ⟨ret_bool (visB_in h2 HF.out), below_iter _ _ _⟩
            · have hv := allB_step hp ha.out (visN_yes (by omega))
              have HV : Hid (allB visN (s.data.toList.take (pos + 1)) = true) := hv
              clear hv h9
              go_wp2
              go_roundw
              case rel => exact ⟨pos + 1, by omega, rfl, HV⟩
              case measure => simp; omega
      · have hnx : ∀ ty, (Instr.next (.pointer (some ⟨w.heap.size, 0, none⟩)) true ty).run Tryz.prog (w.iter s pos) = _ := fun ty => run_next_any w s pos ty hp
        have hd := (decode_high s pos hp (by omega)).1
        have hf := allB_not (p := visN) hp (visN_no (by omega))
        have HF : Hid (false = allB visN s.data.toList) := hf
        clear hf
        generalize (Utf8.decode s pos).1 = r at hnx hd
        generalize (Utf8.decode s pos).2 = p2 at hnx
        have hq : ((r : Int) != 9) = true := bne_yes (by omega)
        have hl : ¬ (r : Int) < 32 := by omega
        have hg : 126 < (r : Int) := by omega
        go_wp2
        go_ret
        exact ⟨ret_bool (visB_in h2 HF.out), below_iter _ _ _⟩
    · have hnx : ∀ ty, (Instr.next (.pointer (some ⟨w.heap.size, 0, none⟩)) true ty).run Tryz.prog (w.iter s pos) = _ := fun ty => run_next_end w s pos ty hp
      go_wp2
      go_ret
      exact ⟨ret_bool (visB_in h2 (allB_end hp ha.out)), below_iter _ _ _⟩

theorem implVis (s : ByteArray) (w : World) (hs : s.size ≤ maxLen) :
    Calls Tryz.prog 90 #[.string s] w fun e w' => e = .returned (.bool (visB s)) ∧ Below w.heap.size w w' := by
  by_cases h : 400 < s.size
  · exact implVis_out s w hs h
  · exact implVis_in s w (by omega)
end Go.Proofs.YtmgmphkncgochaaGreatDoor
