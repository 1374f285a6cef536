/-
  DERIVED: THE SHELF's CONTRACTS AT THIS DUMP, IN PLAIN WORDS (tools/lay-plain.mjs out of 'YtmgmphkncgochaaGreatDoorShelfF.lean', which tools/lay-shelf.mjs wrote): THE SAME DECLARATIONS UNDER THE SAME NAMES: 'import', 'namespace', 'open', 'def', 'theorem' AND NOTHING ELSE: no command of the shelf's: FOR A HAND-IN. Each laying: the table of numbers ('.._ren') and one theorem, a field a fact of the dump's own or the kernel's comparison; each contract: ONE APPLICATION.
  The program's methodOk, targetOk, statusOk, isBodiless, Framing, isUnframed, RequestOk and ResponseOk by their contracts.
  The program's cursor by its contracts: what is left, skipped, taken, a line.
-/
import Derived.Shelf.Strings.IndexAnyAll
import Derived.Test.YtmgmphkncgochaaGreatDoorProg
import Derived.Test.YtmgmphkncgochaaGreatDoorG12
import Derived.Test.YtmgmphkncgochaaGreatDoorG14
import Derived.Test.YtmgmphkncgochaaGreatDoorG19
import Derived.Test.YtmgmphkncgochaaGreatDoorG22
import Derived.BigQuiet
namespace Go.Proofs
open Go.Shelf
def Tryz.lays150_ren : Go.Shelf.Ren := ⟨fun | 150 => 91 | 153 => 117 | 152 => 139 | 226 => 140 | 227 => 141 | 228 => 142 | 137 => 156 | 119 => 157 | 224 => 158 | 225 => 159 | 217 => 176 | 266 => 192 | n => n, fun | 9 => 9 | 4 => 4 | 3 => 3 | 5 => 5 | 21 => 21 | 117 => 151 | 116 => 150 | 0 => 0 | 46 => 133 | 124 => 166 | n => n, fun | n => n⟩
theorem Tryz.lays150 : Go.Proofs.Lays.n150 Tryz.prog Tryz.lays150_ren := {
  mixed := by kernel_rfl
  f119 := Tryz.func157.trans (congrArg some (by kernel_rfl))
  f137 := Tryz.func156.trans (congrArg some (by kernel_rfl))
  f150 := Tryz.func91.trans (congrArg some (by kernel_rfl))
  f152 := Tryz.func139.trans (congrArg some (by kernel_rfl))
  f153 := Tryz.func117.trans (congrArg some (by kernel_rfl))
  f217 := Tryz.func176.trans (congrArg some (by kernel_rfl))
  f224 := Tryz.func158.trans (congrArg some (by kernel_rfl))
  f225 := Tryz.func159.trans (congrArg some (by kernel_rfl))
  f226 := Tryz.func140.trans (congrArg some (by kernel_rfl))
  f227 := Tryz.func141.trans (congrArg some (by kernel_rfl))
  f228 := Tryz.func142.trans (congrArg some (by kernel_rfl))
  f266 := Tryz.func192.trans (congrArg some (by kernel_rfl))
  t0 := Tryz.underlying0
  a0 := Tryz.isAgg0
  z0 := Tryz.sizeOf0
  v0 := Tryz.zeroValue0
  t3 := Tryz.underlying3
  a3 := Tryz.isAgg3
  z3 := Tryz.sizeOf3
  v3 := Tryz.zeroValue3
  t4 := Tryz.underlying4
  a4 := Tryz.isAgg4
  z4 := Tryz.sizeOf4
  v4 := Tryz.zeroValue4
  t5 := Tryz.underlying5
  a5 := Tryz.isAgg5
  z5 := Tryz.sizeOf5
  v5 := Tryz.zeroValue5
  t9 := Tryz.underlying9
  a9 := Tryz.isAgg9
  z9 := Tryz.sizeOf9
  v9 := Tryz.zeroValue9
  t21 := Tryz.underlying21
  a21 := Tryz.isAgg21
  z21 := Tryz.sizeOf21
  v21 := Tryz.zeroValue21
  t46 := Tryz.underlying133
  a46 := Tryz.isAgg133
  z46 := Tryz.sizeOf133
  v46 := Tryz.zeroValue133
  t116 := Tryz.underlying150
  a116 := Tryz.isAgg150
  z116 := Tryz.sizeOf150
  t117 := Tryz.underlying151
  a117 := Tryz.isAgg151
  z117 := Tryz.sizeOf151
  v117 := Tryz.zeroValue151
  t124 := Tryz.underlying166
  a124 := Tryz.isAgg166
  z124 := Tryz.sizeOf166
  v124 := Tryz.zeroValue166 }
open Go.RowKit in
theorem Tryz.containsAny (s chars : ByteArray) (w : World) (hs : s.size < 4294967281) (hcs : chars.size < 4294967281) (has : ∀ (j : Nat) b, s.data.toList[j]? = some b → b.toNat < 128) (hac : ∀ (j : Nat) b, chars.data.toList[j]? = some b → b.toNat < 128) :
    Calls Tryz.prog 91 #[.string s, .string chars] w fun e w' => e = .returned (.bool (Lib.containsAny s.data.toList chars.data.toList)) ∧ Below w.heap.size w w' :=
  Any.strings_ContainsAny_laid Tryz.lays150 (by kernel_rfl) s chars w hs hcs has hac
end Go.Proofs
namespace Go.Proofs.YtmgmphkncgochaaGreatDoor
open Go.RowKit
set_option linter.unusedVariables false

set_option maxHeartbeats 400000 in
theorem implMet (s : ByteArray) (w : World) (hs : s.size ≤ maxLen) :
    Calls Tryz.prog 39 #[.string s] w fun e w' => e = .returned (.bool (metB s)) ∧ Below w.heap.size w w' := by
  have hm := hs
  unfold maxLen at hs
  go_enter Tryz.func39, Tryz.ntmps39
  go_wp2
  go_loopw [4] (fun _ wr => ∃ pos : Nat, pos ≤ s.size ∧ wr = w.iter s pos ∧ Hid (allB capN (s.data.toList.take pos) = true)) (fun _ wr => s.size - wr.iterPos w.heap.size)
  case atStart => exact ⟨0, Nat.zero_le _, rfl, allB_nil _ _⟩
  case round =>
    obtain ⟨pos, hpos, rfl, ha⟩ := hrel
    by_cases hp : pos < s.size
    · by_cases hasc : (s[pos]).toNat < 128
      · have hnx : ∀ ty, (Instr.next (.pointer (some ⟨w.heap.size, 0, none⟩)) true ty).run Tryz.prog (w.iter s pos) = _ := fun ty => run_next_ascii w s pos ty hp hasc
        by_cases hl : (s[pos].toNat : Int) < 65
        · have HF : Hid (false = metB s) := metB_no (allB_not hp (capN_no (by omega)))
          go_wp2
          go_ret
          exact ⟨ret_bool HF.out, below_iter _ _ _⟩
        · by_cases hg : 90 < (s[pos].toNat : Int)
          · have HF : Hid (false = metB s) := metB_no (allB_not hp (capN_no (by omega)))
            go_wp2
            go_ret
            exact ⟨ret_bool HF.out, below_iter _ _ _⟩
          · have HV : Hid (allB capN (s.data.toList.take (pos + 1)) = true) := allB_step hp ha.out (capN_yes (by omega))
            go_wp2
            go_roundw
            case rel => exact ⟨pos + 1, by omega, rfl, HV⟩
            case measure => simp; omega
      · have hnx : ∀ ty, (Instr.next (.pointer (some ⟨w.heap.size, 0, none⟩)) true ty).run Tryz.prog (w.iter s pos) = _ := fun ty => run_next_any w s pos ty hp
        have hd := (decode_high s pos hp (by omega)).1
        have HF : Hid (false = metB s) := metB_no (allB_not hp (capN_no (by omega)))
        generalize (Utf8.decode s pos).1 = r at hnx hd
        generalize (Utf8.decode s pos).2 = p2 at hnx
        have hl : ¬ (r : Int) < 65 := by omega
        have hg : 90 < (r : Int) := by omega
        go_wp2
        go_ret
        exact ⟨ret_bool HF.out, below_iter _ _ _⟩
    · have hnx : ∀ ty, (Instr.next (.pointer (some ⟨w.heap.size, 0, none⟩)) true ty).run Tryz.prog (w.iter s pos) = _ := fun ty => run_next_end w s pos ty hp
      have HT : Hid (tokB s = metB s) := metB_yes (allB_end hp ha.out)
      go_wp2_with (go_at_call 89; refine (implTok s _ hm).mono ?_; rintro e w1 ⟨rfl, hb1⟩)
      go_ret
      exact ⟨ret_bool HT.out, past6 (below_iter _ _ _) hb1⟩

/-! ### Targets -/
theorem vis_tar : ∀ b : UInt8, visN (b.toNat : Int) = true → (!([32, 9] : List UInt8).contains b) = tarN (b.toNat : Int) := by
  have k : ∀ j : Fin 256, visN (((UInt8.ofNat j.val).toNat : Nat) : Int) = true → (!([32, 9] : List UInt8).contains (UInt8.ofNat j.val)) = tarN (((UInt8.ofNat j.val).toNat : Nat) : Int) := by decide +kernel
  intro b
  have := k ⟨b.toNat, b.toNat_lt⟩
  simpa using this
theorem tar_vis : ∀ b : UInt8, tarN (b.toNat : Int) = true → visN (b.toNat : Int) = true := by
  intro b h
  have h2 := of_decide_eq_true h
  exact visN_yes (.inl ⟨by omega, h2.2⟩)
theorem any_is : ∀ l : List UInt8, allB visN l = true → (!Lib.containsAny l [32, 9]) = allB tarN l
  | [], _ => rfl
  | b :: l, h => by
    have h1 : visN (b.toNat : Int) = true ∧ allB visN l = true := by unfold allB at h ⊢; rw [List.all_cons, Bool.and_eq_true] at h; exact h
    have ih := any_is l h1.2
    have hb := vis_tar b h1.1
    have hge := Lib.indexAny_ge [32, 9] l
    have e : allB tarN (b :: l) = (tarN (b.toNat : Int) && allB tarN l) := by unfold allB; rw [List.all_cons]
    rw [e, ← hb, ← ih]
    unfold Lib.containsAny
    rw [Lib.indexAny]
    cases hc : ([32, 9] : List UInt8).contains b with
    | true => simp
    | false =>
      by_cases hi : Lib.indexAny l [32, 9] = -1
      · simp [hi]
      · have hi2 : 0 ≤ Lib.indexAny l [32, 9] := by omega
        have hi3 : 0 ≤ Lib.indexAny l [32, 9] + 1 := by omega
        simp [hi, hi2, hi3]
theorem tar_no {s : ByteArray} (h1 : 1 ≤ s.size) (h2 : s.size ≤ 200) (h : visB s = false) : false = tarB s := by
  refine tarB_in h1 h2 ?_
  cases e : allB tarN s.data.toList with
  | false => rfl
  | true =>
    have hv : allB visN s.data.toList = true := by
      unfold allB at e ⊢
      rw [List.all_eq_true] at e ⊢
      exact fun c hc => tar_vis c (e c hc)
    rw [← visB_in (by omega) hv.symm] at h
    cases h
theorem tar_is {s : ByteArray} (h1 : 1 ≤ s.size) (h2 : s.size ≤ 200) (h : visB s = true) : (!Lib.containsAny s.data.toList [32, 9]) = tarB s := by
  refine tarB_in h1 h2 (any_is _ ?_)
  unfold visB at h
  rw [Bool.and_eq_true] at h
  exact h.2
theorem vis_ascii {s : ByteArray} (h : visB s = true) : ∀ (j : Nat) b, s.data.toList[j]? = some b → b.toNat < 128 := by
  intro j b hb
  unfold visB at h
  rw [Bool.and_eq_true] at h
  have h2 := h.2
  unfold allB at h2
  have := List.all_eq_true.1 h2 b (List.mem_of_getElem? hb)
  have := of_decide_eq_true this
  omega
set_option maxHeartbeats 400000 in
theorem implTar (s : ByteArray) (w : World) (hs : s.size ≤ maxLen) :
    Calls Tryz.prog 40 #[.string s] w fun e w' => e = .returned (.bool (tarB s)) ∧ Below w.heap.size w w' := by
  have hm := hs
  unfold maxLen at hs
  by_cases h1 : s.size < 1
  · have HF : Hid (false = tarB s) := tarB_out (.inl h1)
    have d1 : decide (1 ≤ (s.size : Int)) = false := by simp; omega
    go_enter Tryz.func40, Tryz.ntmps40
    go_wp2
    go_ret
    exact ⟨ret_bool HF.out, Below.refl _ _⟩
  · have d1 : decide (1 ≤ (s.size : Int)) = true := by simp; omega
    by_cases h2 : 200 < s.size
    · have HF : Hid (false = tarB s) := tarB_out (.inr h2)
      have d2 : decide ((s.size : Int) ≤ 200) = false := by simp; omega
      go_enter Tryz.func40, Tryz.ntmps40
      go_wp2
      go_ret
      exact ⟨ret_bool HF.out, Below.refl _ _⟩
    · have d2 : decide ((s.size : Int) ≤ 200) = true := by simp; omega
      cases hv : visB s with
      | false =>
        have HF : Hid (false = tarB s) := tar_no (by omega) (by omega) hv
        go_enter Tryz.func40, Tryz.ntmps40
        go_wp2_with (go_at_call 90; refine (implVis s _ hm).mono ?_; rw [hv]; rintro e w1 ⟨rfl, hb1⟩)
        go_ret
        exact ⟨ret_bool HF.out, hb1⟩
      | true =>
        have HF : Hid ((!Lib.containsAny s.data.toList [32, 9]) = tarB s) := tar_is (by omega) (by omega) hv
        have HA : Hid (∀ (j : Nat) b, s.data.toList[j]? = some b → b.toNat < 128) := vis_ascii hv
        have hc : Hid (∀ W, Calls Tryz.prog 91 #[.string s, .string ⟨#[32, 9]⟩] W fun e w' => e = .returned (.bool (Lib.containsAny s.data.toList [32, 9])) ∧ Below W.heap.size W w') :=
          fun W => Tryz.containsAny s ⟨#[32, 9]⟩ W (by omega) (by decide) HA.out (by intro j b hb; have := List.mem_of_getElem? hb; simp at this; rcases this with rfl | rfl <;> decide)
        generalize Lib.containsAny s.data.toList [32, 9] = ca at HF hc
        go_enter Tryz.func40, Tryz.ntmps40
        go_wp2_with (first
          | (go_at_call 90; refine (implVis s _ hm).mono ?_; rw [hv]; rintro e w1 ⟨rfl, hb1⟩)
          | (go_at_call 91; refine (hc.out _).mono ?_; rintro e w2 ⟨rfl, hb2⟩))
        go_ret
        exact ⟨ret_bool HF.out, past6 hb1 hb2⟩
theorem implSta (x : Int) (w : World) :
    Calls Tryz.prog 77 #[.int .i64 x] w fun e w' => e = .returned (.bool (decide (200 ≤ x ∧ x ≤ 599))) ∧ w = w' := by
  obtain ⟨b, hb⟩ : ∃ b, decide (200 ≤ x ∧ x ≤ 599) = b := ⟨_, rfl⟩
  rw [hb]
  by_cases h1 : 200 ≤ x
  · have H0 : Hid (decide (x ≤ 599) = b) := by show decide (x ≤ 599) = b; rw [← hb]; simp [h1]
    have d1 : decide (200 ≤ x) = true := by simpa using h1
    clear hb
    go_enter Tryz.func77, Tryz.ntmps77
    go_wp2
    go_ret
    exact ⟨ret_bool H0.out, rfl⟩
  · have H0 : Hid (false = b) := by show false = b; rw [← hb]; simp [h1]
    have d1 : decide (200 ≤ x) = false := by simpa using h1
    clear hb
    go_enter Tryz.func77, Tryz.ntmps77
    go_wp2
    go_ret
    exact ⟨ret_bool H0.out, rfl⟩
theorem implBare (s : Int) (w : World) :
    Calls Tryz.prog 74 #[.int .i64 s] w fun e w' => e = .returned (.bool (bareB s)) ∧ w = w' := by
  by_cases h1 : s = 204
  · subst h1
    have H0 : Hid (true = bareB 204) := rfl
    go_enter Tryz.func74, Tryz.ntmps74
    go_wp2
    go_ret
    exact ⟨ret_bool H0.out, rfl⟩
  · have d1 : (s == 204) = false := by simp [h1]
    by_cases h2 : s = 304
    · subst h2
      have H0 : Hid (true = bareB 304) := rfl
      go_enter Tryz.func74, Tryz.ntmps74
      go_wp2
      go_ret
      exact ⟨ret_bool H0.out, rfl⟩
    · have d2 : (s == 304) = false := by simp [h2]
      have H0 : Hid (false = bareB s) := by show false = bareB s; unfold bareB; simp [h1, h2]
      go_enter Tryz.func74, Tryz.ntmps74
      go_wp2
      go_ret
      exact ⟨ret_bool H0.out, rfl⟩

/-! ### Where it ends -/
theorem fold_void (n : ByteArray) : ∀ (l : List Fl) (p : ByteArray × Bool), (l.foldl (gStep n) p).2 = false → l.foldl (gStep n) p = p
  | [], _, _ => rfl
  | f :: l, p, h => by
    rw [List.foldl_cons] at h ⊢
    have e := fold_void n l _ h
    rw [e] at h ⊢
    unfold gStep at h ⊢
    split
    · rename_i hh; rw [if_pos hh] at h; cases h
    · rfl
theorem getF_void {l : List Fl} {n : ByteArray} (h : (getF l n).2 = false) : (getF l n).1 = ⟨#[]⟩ := by
  have := fold_void n l _ h
  unfold getF
  rw [this]
theorem low_void : lowS ⟨#[]⟩ = ⟨#[]⟩ := rfl
theorem void_ch : ¬ lowS ⟨#[]⟩ = chS := by rw [low_void]; intro e; have := congrArg ByteArray.size e; revert this; decide
theorem num_void : numOk 10 15 ⟨#[]⟩ = false := by decide +kernel
set_option maxHeartbeats 1000000 in
theorem implFrm (v : Value) (l : List Fl) (w : World) (h : Fits w v l) :
    Calls Tryz.prog 19 #[v] w fun e w' => e = .returned (frmE (frm l)) ∧ Below w.heap.size w w' := by
  have hz := h.2.1
  obtain ⟨a, cap, rfl, hcap⟩ := h.1
  have HF : Hid (Fits w (.slice a l.length cap) l) := h
  clear h hcap
  cases hok : fldsOk l with
  | false =>
    have H0 : Hid ((3, 0) = frm l) := frm_bad hok
    go_enter Tryz.func19, Tryz.ntmps19
    go_wp2_with (go_at_call 64; refine (implOk _ l _ HF.out.1 hz).mono ?_; rw [hok]; rintro e w1 ⟨rfl, hb1⟩)
    go_ret2
    exact ⟨ret_frm H0.out, hb1⟩
  | true =>
    have F0 := @frm_neither l hok
    have F1 := @frm_both l hok
    have F2 := @frm_len l hok
    have F3 := @frm_nolen l hok
    have F4 := @frm_ch l hok
    have F5 := @frm_noch l hok
    have zx := getF_fits clS hok
    have zy := getF_fits teS hok
    have vx : (getF l clS).2 = false → (getF l clS).1 = ⟨#[]⟩ := getF_void
    have vy : (getF l teS).2 = false → (getF l teS).1 = ⟨#[]⟩ := getF_void
    have hg1 : Hid (∀ w, Fits w (.slice a l.length cap) l → Calls Tryz.prog 65 #[.slice a l.length cap, .string clS] w fun e w' => e = .returned (.tuple #[.string (getF l clS).1, .bool (getF l clS).2]) ∧ Below w.heap.size w w') := fun w h => by have := implGet _ l clS w h.1 h.2.1 (by decide); unfold getE at this; rw [← getA_yes clS hok] at this; exact this
    have hg2 : Hid (∀ w, Fits w (.slice a l.length cap) l → Calls Tryz.prog 65 #[.slice a l.length cap, .string teS] w fun e w' => e = .returned (.tuple #[.string (getF l teS).1, .bool (getF l teS).2]) ∧ Below w.heap.size w w') := fun w h => by have := implGet _ l teS w h.1 h.2.1 (by decide); unfold getE at this; rw [← getA_yes teS hok] at this; exact this
    generalize frm l = fr at F0 F1 F2 F3 F4 F5 ⊢
    generalize getF l clS = gx at F0 F1 F2 F3 F4 F5 zx vx hg1
    generalize getF l teS = gy at F0 F1 F2 F3 F4 F5 zy vy hg2
    obtain ⟨x, p⟩ := gx
    obtain ⟨y, q⟩ := gy
    simp only at F0 F1 F2 F3 F4 F5 zx zy vx vy hg1 hg2
    have G0 : Hid _ := F0
    have G1 : Hid _ := F1
    have G2 : Hid _ := F2
    have G3 : Hid _ := F3
    have G4 : Hid _ := F4
    have G5 : Hid _ := F5
    have VX : Hid (p = false → x = ⟨#[]⟩) := vx
    have VY : Hid (q = false → y = ⟨#[]⟩) := vy
    clear F0 F1 F2 F3 F4 F5 vx vy
    unfold clS at hg1
    unfold teS at hg2
    go_enter Tryz.func19, Tryz.ntmps19
    go_wp2_with fail
    refine (implOk _ l _ HF.out.1 hz).mono ?_
    rw [hok]
    rintro e w1 ⟨rfl, hb1⟩
    have HF1 : Hid (Fits w1 (.slice a l.length cap) l) := HF.out.kept hb1
    clear HF
    go_wp2_with fail
    refine (hg1.out _ HF1.out).mono ?_
    rintro e w2 ⟨rfl, hb2'⟩
    have hb2 := past6 hb1 hb2'
    have HF2 : Hid (Fits w2 (.slice a l.length cap) l) := HF1.out.kept hb2'
    clear hb1 hb2' hg1 HF1
    go_wp2_with fail
    refine (hg2.out _ HF2.out).mono ?_
    rintro e w3 ⟨rfl, hb3'⟩
    have hb3 := past6 hb2 hb3'
    clear hb2 hb3' hg2 HF2
    go_wp2_with fail
    refine (implDig x _ (le_max (by omega))).mono ?_
    unfold numE
    rintro e w4 ⟨rfl, hb4'⟩
    have hb4 : Below w.heap.size w w4 := past6 hb3 hb4'
    clear hb3 hb4'
    cases p with
    | false =>
      cases q with
      | false =>
        have H0 : Hid ((0, 0) = fr) := G0.out rfl rfl
        clear G0 G1 G2 G3 G4 G5
        go_wp2
        go_ret2
        exact ⟨ret_frm H0.out, hb4⟩
      | true =>
        have hn0 : numOk 10 15 x = false := by rw [VX.out rfl]; exact num_void
        rw [hn0]
        generalize numV 10 15 x = n0
        clear hn0
        by_cases hc : lowS y = chS
        · have H0 : Hid ((2, 0) = fr) := G4.out rfl rfl hc
          have hq := same_ch (same_yes hc)
          clear G0 G1 G2 G3 G4 G5 hc
          go_wp2_with (go_at_call 67; refine (implLow y _ (le_max (by omega))).mono ?_; rintro e w5 ⟨rfl, hb5⟩)
          go_ret2
          exact ⟨ret_frm H0.out, past6 hb4 hb5⟩
        · have H0 : Hid ((3, 0) = fr) := G5.out rfl rfl hc
          have hq := same_ch (same_no hc)
          clear G0 G1 G2 G3 G4 G5 hc
          go_wp2_with (go_at_call 67; refine (implLow y _ (le_max (by omega))).mono ?_; rintro e w5 ⟨rfl, hb5⟩)
          go_ret2
          exact ⟨ret_frm H0.out, past6 hb4 hb5⟩
    | true =>
      cases q with
      | true =>
        have H0 : Hid ((3, 0) = fr) := G1.out rfl rfl
        clear G0 G1 G2 G3 G4 G5
        go_wp2
        go_ret2
        exact ⟨ret_frm H0.out, hb4⟩
      | false =>
        have g2 := G2.out rfl rfl
        have g3 := G3.out rfl rfl
        have hy : Hid (y = ⟨#[]⟩) := VY.out rfl
        have hq : ((lowS y).toList == [99, 104, 117, 110, 107, 101, 100]) = false := by rw [hy.out]; exact same_ch (same_no void_ch)
        generalize numV 10 15 x = n at g2 g3 ⊢
        generalize numOk 10 15 x = o at g2 g3 ⊢
        clear G0 G1 G2 G3 G4 G5
        cases o with
        | false =>
          have H0 : Hid ((3, 0) = fr) := g3 (by simp)
          clear g2 g3
          go_wp2_with (go_at_call 67; refine (implLow y _ (le_max (by omega))).mono ?_; rintro e w5 ⟨rfl, hb5⟩)
          go_ret2
          exact ⟨ret_frm H0.out, past6 hb4 hb5⟩
        | true =>
          by_cases hn : n ≤ 4000
          · have H0 : Hid ((1, n) = fr) := g2 ⟨rfl, hn⟩
            have d1 : decide (n ≤ 4000) = true := by simpa using hn
            clear g2 g3
            go_wp2
            go_ret2
            exact ⟨ret_frm H0.out, hb4⟩
          · have H0 : Hid ((3, 0) = fr) := g3 (by simp [hn])
            have d1 : decide (n ≤ 4000) = false := by simpa using hn
            clear g2 g3
            go_wp2_with (go_at_call 67; refine (implLow y _ (le_max (by omega))).mono ?_; rintro e w5 ⟨rfl, hb5⟩)
            go_ret2
            exact ⟨ret_frm H0.out, past6 hb4 hb5⟩
theorem own_frm (l : List Fl) : ((frm l).1 == 0) = ownB l := by
  unfold ownB frm
  cases fldsOk l with
  | false => rfl
  | true =>
    rw [if_pos rfl]
    cases (getF l clS).2 with
    | true =>
      rw [if_pos rfl]
      split
      · rfl
      · split <;> rfl
    | false =>
      rw [if_neg (by decide)]
      cases (getF l teS).2 with
      | true => rw [if_pos rfl]; split <;> rfl
      | false => rw [if_neg (by decide)]; rfl
theorem implUnf (v : Value) (l : List Fl) (w : World) (h : Fits w v l) :
    Calls Tryz.prog 41 #[v] w fun e w' => e = .returned (.bool (ownB l)) ∧ Below w.heap.size w w' := by
  have hf := implFrm v l w h
  have H0 : Hid (((frm l).1 == 0) = ownB l) := own_frm l
  obtain ⟨a, cap, rfl, hcap⟩ := h.1
  clear hcap h
  unfold frmE at hf
  generalize frm l = fr at hf H0
  obtain ⟨k, n⟩ := fr
  simp only at hf H0
  go_enter Tryz.func41, Tryz.ntmps41
  go_wp2_with (go_at_call 19; refine hf.mono ?_; rintro e w1 ⟨rfl, hb1⟩)
  go_ret
  exact ⟨ret_bool H0.out, hb1⟩
set_option maxHeartbeats 1000000 in
theorem implRqOk (r : Rq) (v : Value) (w : World) (h : RqIn w v r) :
    Calls Tryz.prog 11 #[rqV r v] w fun e w' => e = .returned (.bool (rqOk r)) ∧ Below w.heap.size w w' := by
  obtain ⟨hf, z1, z2, z3⟩ := h
  have hfs := hf.1
  obtain ⟨a, cap, rfl, hcap⟩ := hfs
  clear hcap
  unfold rqV
  have HF : Hid (Fits w (.slice a r.l.length cap) r.l) := hf
  clear hf
  have hq1 : r.b.size ≤ 9223372036854775807 := by omega
  go_enter Tryz.func11, Tryz.ntmps11
  go_wp2_with fail
  refine (implMet r.m _ (le_max z1)).mono ?_
  rintro e w1 ⟨rfl, hb1⟩
  have Q1 : Hid (RqB w1 w.heap.size r (.slice a r.l.length cap)) := (RqB.new w r _ _).next hb1
  have B1 : Hid (Below w.heap.size w w1) := pastA6 (Below.refl _ w) hb1
  have F1 : Hid (Fits w1 (.slice a r.l.length cap) r.l) := (HF.out.alloc _).kept hb1
  clear HF hb1
  have a1 := Q1.out.c1
  cases hm : metB r.m with
  | false =>
    have H0 : Hid (false = rqOk r) := rqOk_no1 hm
    go_wp2
    go_ret
    exact ⟨ret_bool H0.out, B1.out⟩
  | true =>
    go_wp2_with fail
    refine (implTar r.t _ (le_max z2)).mono ?_
    rintro e w2 ⟨rfl, hb2⟩
    have Q2 : Hid (RqB w2 w.heap.size r (.slice a r.l.length cap)) := Q1.out.next hb2
    have B2 : Hid (Below w.heap.size w w2) := past6 B1.out hb2
    have F2 : Hid (Fits w2 (.slice a r.l.length cap) r.l) := F1.out.kept hb2
    clear Q1 B1 F1 hb2 a1
    have a2 := Q2.out.c2
    cases ht : tarB r.t with
    | false =>
      have H0 : Hid (false = rqOk r) := rqOk_no2 hm ht
      go_wp2
      go_ret
      exact ⟨ret_bool H0.out, B2.out⟩
    | true =>
      go_wp2_with fail
      refine (implUnf _ r.l _ F2.out).mono ?_
      rintro e w3 ⟨rfl, hb3⟩
      have Q3 : Hid (RqB w3 w.heap.size r (.slice a r.l.length cap)) := Q2.out.next hb3
      have B3 : Hid (Below w.heap.size w w3) := past6 B2.out hb3
      clear Q2 B2 F2 hb3 a2
      have a3 := Q3.out.c3
      cases ho : ownB r.l with
      | false =>
        have H0 : Hid (false = rqOk r) := rqOk_no3 hm ht ho
        go_wp2
        go_ret
        exact ⟨ret_bool H0.out, B3.out⟩
      | true =>
        have H0 : Hid (decide ((r.b.size : Int) ≤ 4000) = rqOk r) := rqOk_is hm ht ho
        go_wp2
        go_ret
        exact ⟨ret_bool H0.out, B3.out⟩


theorem rsOk_bad {r : Rs} (h4 : bareB r.s = true) (h5 : ¬ r.b.size = 0) : false = rsOk r := by unfold rsOk; rw [h4, decide_eq_false h5]; simp
theorem rsOk_is2 {r : Rs} (h : decide (200 ≤ r.s ∧ r.s ≤ 599) = true) (h2 : ownB r.l = true) (h4 : bareB r.s = false ∨ r.b.size = 0) : decide ((r.b.size : Int) ≤ 4000) = rsOk r := by
  unfold rsOk
  rw [h, h2]
  have e : (!bareB r.s || decide (r.b.size = 0)) = true := by rcases h4 with h4 | h4 <;> simp [h4]
  rw [e]
  by_cases hb : r.b.size ≤ 4000
  · rw [decide_eq_true hb, decide_eq_true (by omega)]; rfl
  · rw [decide_eq_false hb, decide_eq_false (by omega)]; rfl
set_option maxHeartbeats 1000000 in
theorem implRsOk_tail (r : Rs) (v : Value) (w : World) (h : RsIn w v r) (h4 : bareB r.s = false ∨ r.b.size = 0) :
    Calls Tryz.prog 24 #[rsV r v] w fun e w' => e = .returned (.bool (rsOk r)) ∧ Below w.heap.size w w' := by
  obtain ⟨hf, z3⟩ := h
  have hfs := hf.1
  obtain ⟨a, cap, rfl, hcap⟩ := hfs
  clear hcap
  unfold rsV
  have F0 : Hid (Fits (w.alloc (.cells #[.int .i64 r.s, .slice a r.l.length cap, .string r.b] 39)) (.slice a r.l.length cap) r.l) := hf.alloc _
  have Q0 : Hid (RsB (w.alloc (.cells #[.int .i64 r.s, .slice a r.l.length cap, .string r.b] 39)) w.heap.size r (.slice a r.l.length cap)) := RsB.new w r _ _
  have B0 : Hid (Below w.heap.size w (w.alloc (.cells #[.int .i64 r.s, .slice a r.l.length cap, .string r.b] 39))) := (Below.refl _ w).alloc (Nat.le_refl _) _
  clear hf
  have hq1 : r.b.size ≤ 9223372036854775807 := by omega
  have H4 : Hid (bareB r.s = false ∨ r.b.size = 0) := h4
  have hbe : bareB r.s = true → r.b.toList.isEmpty = true := fun hb => by rw [void_emp]; rcases h4 with h4 | h4; · rw [h4] at hb; cases hb
                                                                          · exact decide_eq_true h4
  clear h4
  go_enter Tryz.func24, Tryz.ntmps24
  go_wp2_with fail
  refine (implBare _ _).mono ?_
  rintro e w1 ⟨rfl, rfl⟩
  cases hba : bareB r.s with
  | true =>
    have hb1 := hbe hba
    have hb2 : r.b.toList = [] := by simpa using hb1
    clear hbe
    go_wp2_with fail
    refine (implSta _ _).mono ?_
    rintro e w1 ⟨rfl, rfl⟩
    clear hb1 hb2
    cases h1 : decide (200 ≤ r.s ∧ r.s ≤ 599) with
    | false =>
      have H0 : Hid (false = rsOk r) := rsOk_no1 h1
      go_wp2
      go_ret
      exact ⟨ret_bool H0.out, B0.out⟩
    | true =>
      go_wp2_with fail
      refine (implUnf _ r.l _ F0.out).mono ?_
      rintro e w2 ⟨rfl, hb2⟩
      have Q2 : Hid (RsB w2 w.heap.size r (.slice a r.l.length cap)) := Q0.out.next hb2
      have B2 : Hid (Below w.heap.size w w2) := past6 B0.out hb2
      clear Q0 B0 F0 hb2
      have a2 := Q2.out.c2
      cases h2 : ownB r.l with
      | false =>
        have H0 : Hid (false = rsOk r) := rsOk_no2 h1 h2
        go_wp2
        go_ret
        exact ⟨ret_bool H0.out, B2.out⟩
      | true =>
        have H0 : Hid (decide ((r.b.size : Int) ≤ 4000) = rsOk r) := rsOk_is2 h1 h2 H4.out
        go_wp2
        go_ret
        exact ⟨ret_bool H0.out, B2.out⟩
  | false =>
    clear hbe
    go_wp2_with fail
    refine (implSta _ _).mono ?_
    rintro e w1 ⟨rfl, rfl⟩
    cases h1 : decide (200 ≤ r.s ∧ r.s ≤ 599) with
    | false =>
      have H0 : Hid (false = rsOk r) := rsOk_no1 h1
      go_wp2
      go_ret
      exact ⟨ret_bool H0.out, B0.out⟩
    | true =>
      go_wp2_with fail
      refine (implUnf _ r.l _ F0.out).mono ?_
      rintro e w2 ⟨rfl, hb2⟩
      have Q2 : Hid (RsB w2 w.heap.size r (.slice a r.l.length cap)) := Q0.out.next hb2
      have B2 : Hid (Below w.heap.size w w2) := past6 B0.out hb2
      clear Q0 B0 F0 hb2
      have a2 := Q2.out.c2
      cases h2 : ownB r.l with
      | false =>
        have H0 : Hid (false = rsOk r) := rsOk_no2 h1 h2
        go_wp2
        go_ret
        exact ⟨ret_bool H0.out, B2.out⟩
      | true =>
        have H0 : Hid (decide ((r.b.size : Int) ≤ 4000) = rsOk r) := rsOk_is2 h1 h2 H4.out
        go_wp2
        go_ret
        exact ⟨ret_bool H0.out, B2.out⟩
set_option maxHeartbeats 1000000 in
theorem implRsOk (r : Rs) (v : Value) (w : World) (h : RsIn w v r) :
    Calls Tryz.prog 24 #[rsV r v] w fun e w' => e = .returned (.bool (rsOk r)) ∧ Below w.heap.size w w' := by
  by_cases h4 : bareB r.s = false ∨ r.b.size = 0
  · exact implRsOk_tail r v w h h4
  · have hba : bareB r.s = true := by cases e : bareB r.s with
      | false => exact absurd (.inl e) h4
      | true => rfl
    have hbz : ¬ r.b.size = 0 := fun e => h4 (.inr e)
    have hbe : r.b.toList.isEmpty = false := by rw [void_emp]; exact decide_eq_false hbz
    have hbl : ¬ r.b.toList = [] := by simpa using hbe
    have H0 : Hid (false = rsOk r) := rsOk_bad hba hbz
    obtain ⟨hf, z3⟩ := h
    have hfs := hf.1
    obtain ⟨a, cap, rfl, hcap⟩ := hfs
    clear hcap hf h4 hbz
    unfold rsV
    have Q0 : Hid (RsB (w.alloc (.cells #[.int .i64 r.s, .slice a r.l.length cap, .string r.b] 39)) w.heap.size r (.slice a r.l.length cap)) := RsB.new w r _ _
    have B0 : Hid (Below w.heap.size w (w.alloc (.cells #[.int .i64 r.s, .slice a r.l.length cap, .string r.b] 39))) := (Below.refl _ w).alloc (Nat.le_refl _) _
    go_enter Tryz.func24, Tryz.ntmps24
    go_wp2_with fail
    refine (implBare _ _).mono ?_
    rw [hba]
    rintro e w1 ⟨rfl, rfl⟩
    go_wp2
    go_ret
    exact ⟨ret_bool H0.out, B0.out⟩
end Go.Proofs.YtmgmphkncgochaaGreatDoor
namespace Go.Proofs.YtmgmphkncgochaaGreatDoor
open Go.RowKit Go.Sort
set_option linter.unusedVariables false

/-- A reader in block b stands in the text t, ahead of place k. -/
structure Rdr (w : World) (b : Nat) (t : ByteArray) (k : Nat) : Prop where
  c0 : w.cell? ⟨b, 0, none⟩ = some (.string t)
  c1 : w.cell? ⟨b, 1, none⟩ = some (.int .i64 k)
  fz : ∀ j, w.frozen? ⟨b, j, none⟩ = false
  hi : b < w.heap.size
theorem Rdr.new (w : World) (t : ByteArray) : Rdr (w.alloc (.cells #[.string t, .int .i64 0] 63)) w.heap.size t 0 where
  c0 := World.cell?_alloc_mark _ _ _ _ _
  c1 := World.cell?_alloc_mark _ _ _ _ _
  fz := fun k => by rw [World.frozen?_alloc_mark]; simp
  hi := by simp
theorem Rdr.kept {w w' : World} {b k : Nat} {t : ByteArray} (h : Rdr w b t k) (hb : Below w.heap.size w w') : Rdr w' b t k := by
  have e : w'.heap[b]? = w.heap[b]? := hb.block b h.hi
  have q : ∀ k, w'.cell? ⟨b, k, none⟩ = w.cell? ⟨b, k, none⟩ := fun k => World.cell?_of_block (a := ⟨b, k, none⟩) e
  exact ⟨(q 0).trans h.c0, (q 1).trans h.c1, fun j => (World.frozen?_of_block (a := ⟨b, j, none⟩) e).trans (h.fz j), Nat.lt_of_lt_of_le h.hi hb.size⟩
theorem Rdr.put {w : World} {b k : Nat} {t : ByteArray} (h : Rdr w b t k) (m : Nat) : Rdr (w.setCell ⟨b, 1, none⟩ (.int .i64 m)) b t m where
  c0 := by rw [World.cell?_setCell_other _ _ _ _ (by simp)]; exact h.c0
  c1 := World.cell?_setCell_same _ _ _ h.c1
  fz := fun k => by rw [World.frozen?_setCell]; exact h.fz k
  hi := by rw [World.size_setCell]; exact h.hi

set_option maxHeartbeats 400000 in
theorem implRest (b : Nat) (t : ByteArray) (k : Nat) (w : World) (h : Rdr w b t k) (hk : k ≤ t.size) (ht : t.size ≤ 1048576) :
    Calls Tryz.prog 95 #[.pointer (some ⟨b, 0, none⟩)] w fun e w' => e = .returned (.string (t.extract k t.size)) ∧ Below w.heap.size w w' := by
  have c0 := h.c0
  have c1 := h.c1
  clear h
  go_enter Tryz.func95, Tryz.ntmps95
  go_wp2
  go_quiet (fail)
  go_wp2
  go_ret
  exact ⟨rfl, drewN_below w _⟩

set_option maxHeartbeats 400000 in
theorem implSkip (b : Nat) (t : ByteArray) (k n : Nat) (w : World) (h : Rdr w b t k) (hk : k ≤ 1048576) (hn : n ≤ 1048576) :
    Calls Tryz.prog 96 #[.pointer (some ⟨b, 0, none⟩), .int .i64 n] w fun e w' => e = .returned (.tuple #[]) ∧ Rdr w' b t (k + n) ∧ w.grownBy w' (some b) := by
  have c1 := h.c1
  have fz := h.fz 1
  have H1 : Hid (Rdr (w.setCell ⟨b, 1, none⟩ (.int .i64 ((k : Int) + (n : Int)))) b t (k + n)) := by
    have := h.put (k + n)
    rw [show (((k + n : Nat) : Int)) = (k : Int) + (n : Int) from by omega] at this
    exact this
  have H2 : Hid (w.grownBy (w.setCell ⟨b, 1, none⟩ (.int .i64 ((k : Int) + (n : Int)))) (some b)) := grown_put (grown_self w (some b)) _ _
  clear h
  go_enter Tryz.func96, Tryz.ntmps96
  go_wp2
  go_returns
  exact ⟨rfl, H1.out, H2.out⟩

theorem rest_size (t : ByteArray) {k : Nat} (hk : k ≤ t.size) : (t.extract k t.size).size = t.size - k := by rw [ByteArray.size_extract]; omega
theorem rest_len (t : ByteArray) (k : Nat) : (t.data.toList.drop k).length = t.size - k := by rw [List.length_drop]; simp
set_option maxHeartbeats 1000000 in
theorem implLine_no (b : Nat) (t : ByteArray) (k : Nat) (m : Int) (w : World) (h : Rdr w b t k) (hk : k ≤ t.size) (ht : t.size ≤ 1048576) (hm : w.cell? ⟨1, 0, none⟩ = some (.int .i64 m)) (hl : lnC (t.data.toList.drop k) = none) :
    Calls Tryz.prog 118 #[.pointer (some ⟨b, 0, none⟩)] w fun e w' => e = .returned (.tuple #[.string ⟨#[]⟩, .bool false]) ∧ Below w.heap.size w w' := by
  have hr := implRest b t k w h hk ht
  have hz := rest_size t hk
  have hd := drop_text t k
  have hcut := fun W hW => Tryz.strings_Cut (t.extract k t.size) ⟨#[13, 10]⟩ m W (by omega) hW
  rw [show (⟨#[13, 10]⟩ : ByteArray).data.toList = [13, 10] from rfl, cut_ln, hd, hl] at hcut
  simp only at hcut
  generalize (⟨(t.data.toList.drop k).toArray⟩ : ByteArray) = q1 at hcut
  generalize t.extract k t.size = s at hr hcut
  clear hl h hd
  go_enter Tryz.func118, Tryz.ntmps118
  go_wp2_with fail
  refine hr.mono ?_
  rintro e w1 ⟨rfl, hb1⟩
  have m1 := (hb1.cell (p := ⟨1, 0, none⟩) (cell_lt hm)).trans hm
  go_wp2_with fail
  refine (hcut w1 m1).mono ?_
  rintro e w2 ⟨rfl, n, hw2⟩
  have hb2 : Below w.heap.size w w2 := by rw [hw2]; exact past6 hb1 (drewN_below w1 n)
  clear hw2 hb1 m1
  go_wp2
  go_ret2
  exact ⟨rfl, hb2⟩

set_option maxHeartbeats 1000000 in
theorem implLine_yes (b : Nat) (t : ByteArray) (k : Nat) (m : Int) (x r : List UInt8) (w : World) (h : Rdr w b t k) (hk : k ≤ t.size) (ht : t.size ≤ 1048576) (hm : w.cell? ⟨1, 0, none⟩ = some (.int .i64 m)) (hl : lnC (t.data.toList.drop k) = some (x, r)) :
    Calls Tryz.prog 118 #[.pointer (some ⟨b, 0, none⟩)] w fun e w' => e = .returned (.tuple #[.string (txtL x), .bool true]) ∧ Rdr w' b t (k + (x.length + 2)) ∧ w.grownBy w' (some b) := by
  have hr := implRest b t k w h hk ht
  have hz := rest_size t hk
  have hd := drop_text t k
  have hlen := congrArg List.length (lnC_length hl)
  rw [rest_len] at hlen
  simp only [List.length_append, List.length_cons, List.length_nil] at hlen
  have hcut := fun W hW => Tryz.strings_Cut (t.extract k t.size) ⟨#[13, 10]⟩ m W (by omega) hW
  rw [show (⟨#[13, 10]⟩ : ByteArray).data.toList = [13, 10] from rfl, cut_ln, hd, hl] at hcut
  simp only at hcut
  have hxs : (txtL x).size = x.length := by show x.toArray.size = x.length; simp
  have hcut' : Hid (∀ (W : World), W.cell? ⟨1, 0, none⟩ = some (.int .i64 m) → Calls Tryz.prog 121 #[.string (t.extract k t.size), .string ⟨#[13, 10]⟩] W fun e w' => e = .returned (.tuple #[.string (txtL x), .string ⟨r.toArray⟩, .bool true]) ∧ ∃ n, w' = W.drewN n) := hcut
  clear hcut
  have hsk : Hid (∀ W, Rdr W b t k → Calls Tryz.prog 96 #[.pointer (some ⟨b, 0, none⟩), .int .i64 ((x.length : Int) + 2)] W fun e w' => e = .returned (.tuple #[]) ∧ Rdr w' b t (k + (x.length + 2)) ∧ W.grownBy w' (some b)) := fun W hW => by
    have := implSkip b t k (x.length + 2) W hW (by omega) (by omega)
    exact this
  have RD : Hid (Rdr w b t k) := h
  generalize txtL x = X at hcut' hxs ⊢
  generalize (⟨r.toArray⟩ : ByteArray) = R at hcut'
  generalize t.extract k t.size = s at hr hcut'
  have hxm : (X.size : Int) + 2 = (x.length : Int) + 2 := by omega
  have hX : X.size ≤ 1048576 := by omega
  have HX : Hid (X.size = x.length) := hxs
  clear hl h hd hz hxs hlen
  go_enter Tryz.func118, Tryz.ntmps118
  go_wp2_with fail
  refine hr.mono ?_
  rintro e w1 ⟨rfl, hb1⟩
  have m1 := (hb1.cell (p := ⟨1, 0, none⟩) (cell_lt hm)).trans hm
  have R1 : Hid (Rdr w1 b t k) := RD.out.kept hb1
  go_wp2_with fail
  refine (hcut'.out w1 m1).mono ?_
  rintro e w2 ⟨rfl, n, hw2⟩
  have hb2 : Below w.heap.size w w2 := by rw [hw2]; exact past6 hb1 (drewN_below w1 n)
  have R2 : Hid (Rdr w2 b t k) := by rw [hw2]; exact R1.out.kept (drewN_below w1 n)
  clear hw2 hb1 m1 R1 RD hcut'
  go_wp2_with (go_at_call 96; first | (rw [hxm]; refine (hsk.out _ R2.out).mono ?_) | refine (hsk.out _ R2.out).mono ?_; rintro e w3 ⟨rfl, hr3, hg3⟩)
  go_ret2
  exact ⟨rfl, hr3, (grown_below (grown_self w (some b)) hb2).trans hg3⟩

set_option maxHeartbeats 1000000 in
theorem implTake_no (b : Nat) (t : ByteArray) (k n : Nat) (w : World) (h : Rdr w b t k) (hk : k ≤ t.size) (ht : t.size ≤ 1048576) (hn : ¬ n ≤ t.size - k) :
    Calls Tryz.prog 124 #[.pointer (some ⟨b, 0, none⟩), .int .i64 n] w fun e w' => e = .returned (.tuple #[.string ⟨#[]⟩, .bool false]) ∧ Below w.heap.size w w' := by
  have hr := implRest b t k w h hk ht
  have hz := rest_size t hk
  generalize t.extract k t.size = s at hr hz
  have hs1 : s.size ≤ 1048576 := by omega
  have d1 : decide ((s.size : Int) < (n : Int)) = true := by simp; omega
  clear h
  go_enter Tryz.func124, Tryz.ntmps124
  go_wp2_with fail
  refine hr.mono ?_
  rintro e w1 ⟨rfl, hb1⟩
  go_wp2
  go_ret2
  exact ⟨rfl, hb1⟩

set_option maxHeartbeats 1000000 in
theorem implTake_yes (b : Nat) (t : ByteArray) (k n : Nat) (w : World) (h : Rdr w b t k) (hk : k ≤ t.size) (ht : t.size ≤ 1048576) (hn : n ≤ t.size - k) :
    Calls Tryz.prog 124 #[.pointer (some ⟨b, 0, none⟩), .int .i64 n] w fun e w' => e = .returned (.tuple #[.string (txtL ((t.data.toList.drop k).take n)), .bool true]) ∧ Rdr w' b t (k + n) ∧ w.grownBy w' (some b) := by
  have hr := implRest b t k w h hk ht
  have hz := rest_size t hk
  have hd := drop_text t k
  have HT : Hid ((t.extract k t.size).extract 0 n = txtL ((t.data.toList.drop k).take n)) := by
    have := take_text (t.extract k t.size) (p := 0) (n := n) (q := t.data.toList.drop k) (by rw [hd]; rfl)
    rw [Nat.zero_add] at this
    exact this
  have RD : Hid (Rdr w b t k) := h
  have hsk : Hid (∀ W, Rdr W b t k → Calls Tryz.prog 96 #[.pointer (some ⟨b, 0, none⟩), .int .i64 (n : Int)] W fun e w' => e = .returned (.tuple #[]) ∧ Rdr w' b t (k + n) ∧ W.grownBy w' (some b)) := fun W hW => implSkip b t k n W hW (by omega) (by omega)
  generalize txtL ((t.data.toList.drop k).take n) = X at HT ⊢
  generalize t.extract k t.size = s at hr hz HT
  have hs1 : s.size ≤ 1048576 := by omega
  have hns : n ≤ s.size := by omega
  have d1 : decide ((s.size : Int) < (n : Int)) = false := by simp; omega
  clear h hd hz
  go_enter Tryz.func124, Tryz.ntmps124
  go_wp2_with fail
  refine hr.mono ?_
  rintro e w1 ⟨rfl, hb1⟩
  have R1 : Hid (Rdr w1 b t k) := RD.out.kept hb1
  clear RD
  go_wp2_with (go_at_call 96; refine (hsk.out _ R1.out).mono ?_; rintro e w3 ⟨rfl, hr3, hg3⟩)
  go_ret2
  refine ⟨?_, hr3, (grown_below (grown_self w (some b)) hb1).trans hg3⟩
  rw [HT.out]
  rfl
end Go.Proofs.YtmgmphkncgochaaGreatDoor
