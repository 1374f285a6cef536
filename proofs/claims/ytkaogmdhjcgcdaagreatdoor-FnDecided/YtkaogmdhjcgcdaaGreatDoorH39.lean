/-
  The methods of the program's reader of control, by their contracts.
  What the program's methods tell of a directive is what the specification reads of it.
  The program's ReadControl by its contract.
  The program's TagOk, ShowTag, Strong and Alike by their contracts.
  What the program's ReadTag finds by cutting a text: it is what the specification reads.
  The program's ReadTag by its contract.
  A date read: the program's contract.
-/
import Derived.Test.YtkaogmdhjcgcdaaGreatDoorH14
import Derived.Test.YtkaogmdhjcgcdaaGreatDoorH38
import Derived.Test.YtkaogmdhjcgcdaaGreatDoorH10
import Derived.Handy
import Derived.ProofKit
import Derived.OpenShut
import Derived.ShutString
import Derived.Lib.SmallJoins
import Derived.Test.YtkaogmdhjcgcdaaGreatDoorH35
import Derived.Test.YtkaogmdhjcgcdaaGreatDoorH31
import Derived.Test.YtkaogmdhjcgcdaaGreatDoorH05
import Derived.Test.YtkaogmdhjcgcdaaGreatDoorShelfC
import Derived.Test.YtkaogmdhjcgcdaaGreatDoorH18
import Derived.Test.YtkaogmdhjcgcdaaGreatDoorH04
import Derived.Lib.Strings
import Derived.Test.YtkaogmdhjcgcdaaGreatDoorShelfI
import Derived.Test.YtkaogmdhjcgcdaaGreatDoorH01
import Derived.Test.YtkaogmdhjcgcdaaGreatDoorH20
import Derived.Shelf.Abstract
import Derived.Deep.DeepCutAuto
import Derived.Deep.RegionWith
import Derived.BigRegion
import Derived.Deep.Cut
import Derived.Deep.CutRange
namespace Go.Proofs.YtkaogmdhjcgcdaaGreatDoor
open Go.RowKit Go.Sort
set_option linter.unusedVariables false

theorem tell_first {n : Int} {v : ByteArray} (h : -1 ≤ n) (h0 : ∀ t, 0 ≤ numV 10 15 t) : (if n = -1 ∧ numOk 10 15 v = true then min (numV 10 15 v) 1000000000 else n) = tell n v := by
  have := h0 v
  unfold tell minI
  generalize numV 10 15 v = m at this ⊢
  cases numOk 10 15 v with
  | false => simp
  | true =>
    by_cases h2 : n = -1
    · subst h2
      simp
      repeat' split
      all_goals omega
    · have h3 : ¬ n < 0 := by omega
      simp [h2, h3]
theorem implFst (n : Int) (hn : -1 ≤ n) (v : ByteArray) (hv : v.size ≤ 1000) (w : World) : Calls Tryz.prog 184 #[.int .i64 n, .string v] w fun e w' => e = .returned (.int .i64 (tell n v)) ∧ Below w.heap.size w w' := by
  have hd := fun W => implDig v W (by unfold maxLen; omega)
  have HT : Hid ((if n = -1 ∧ numOk 10 15 v = true then min (numV 10 15 v) 1000000000 else n) = tell n v) := tell_first hn (fun t => (numV_bound9 t).1)
  unfold numE at hd
  generalize tell n v = T at HT ⊢
  generalize numV 10 15 v = m at hd HT
  generalize numOk 10 15 v = b at hd HT
  by_cases h : n = -1
  · subst h
    cases b with
    | true =>
      have H : Hid (min m 1000000000 = T) := (by rw [← HT.out, if_pos ⟨rfl, rfl⟩] : min m 1000000000 = T)
      clear HT
      go_enter Tryz.func184, Tryz.ntmps184
      go_wp2_with fail
      refine (hd _).mono ?_
      rintro e w1 ⟨rfl, hb1⟩
      have B1 : Hid (Below w.heap.size w w1) := hb1
      clear hb1 hd
      go_wp2
      go_ret
      exact ⟨ret_i9 H.out, B1.out⟩
    | false =>
      have H : Hid (-1 = T) := (by rw [← HT.out, if_neg (fun h => by cases h.2)] : -1 = T)
      clear HT
      go_enter Tryz.func184, Tryz.ntmps184
      go_wp2_with fail
      refine (hd _).mono ?_
      rintro e w1 ⟨rfl, hb1⟩
      have B1 : Hid (Below w.heap.size w w1) := hb1
      clear hb1 hd
      go_wp2
      go_ret
      exact ⟨ret_i9 H.out, B1.out⟩
  · have H : Hid (n = T) := (by rw [← HT.out, if_neg (fun hh => h hh.1)] : n = T)
    clear HT
    go_enter Tryz.func184, Tryz.ntmps184
    go_wp2_with fail
    refine (hd _).mono ?_
    rintro e w1 ⟨rfl, hb1⟩
    have B1 : Hid (Below w.heap.size w w1) := hb1
    clear hb1 hd
    go_wp2
    go_ret
    exact ⟨ret_i9 H.out, B1.out⟩
set_option maxHeartbeats 1000000 in
theorem implMa (c : Ct) (hc : ctB c = true) (v : ByteArray) (hv : v.size ≤ 1000) (p : Nat) (w : World) (hp : CtB w p c) : Calls Tryz.prog 153 #[.pointer (some ⟨p, 0, Option.none⟩), .string v] w fun e w' => e = .returned (.tuple #[]) ∧ CtB w' p { c with a := tell c.a v } ∧ w.grownBy w' (some p) := by
  have hl := ct_low hc
  have hf := fun W => implFst c.a (by omega) v hv W
  generalize tell c.a v = T at hf ⊢
  have P0 : Hid (CtB w p c) := hp
  obtain ⟨x0, x1, x2, x3, x4, x5, x6⟩ := hp.all
  clear hp
  go_enter Tryz.func153, Tryz.ntmps153
  go_wp2_with fail
  refine (hf _).mono ?_
  rintro e w1 ⟨rfl, hb1⟩
  have P1 : Hid (CtB w1 p c) := P0.out.kept hb1
  have G1 : Hid (w.grownBy w1 (some p)) := grownE_below (grownE_self w (some p)) hb1
  clear hb1 hf P0 x0 x1 x2 x3 x4 x5 x6
  obtain ⟨x0, x1, x2, x3, x4, x5, x6⟩ := P1.out.all
  have zf := P1.out.fz
  go_wp2
  go_returns
  exact ⟨rfl, P1.out.put (i := 0) (by decide) (.int .i64 T) _ rfl, grownE_put G1.out 0 _⟩
set_option maxHeartbeats 1000000 in
theorem implMs (c : Ct) (hc : ctB c = true) (v : ByteArray) (hv : v.size ≤ 1000) (p : Nat) (w : World) (hp : CtB w p c) : Calls Tryz.prog 154 #[.pointer (some ⟨p, 0, Option.none⟩), .string v] w fun e w' => e = .returned (.tuple #[]) ∧ CtB w' p { c with s := tell c.s v } ∧ w.grownBy w' (some p) := by
  have hl := ct_low hc
  have hf := fun W => implFst c.s (by omega) v hv W
  generalize tell c.s v = T at hf ⊢
  have P0 : Hid (CtB w p c) := hp
  obtain ⟨x0, x1, x2, x3, x4, x5, x6⟩ := hp.all
  clear hp
  go_enter Tryz.func154, Tryz.ntmps154
  go_wp2_with fail
  refine (hf _).mono ?_
  rintro e w1 ⟨rfl, hb1⟩
  have P1 : Hid (CtB w1 p c) := P0.out.kept hb1
  have G1 : Hid (w.grownBy w1 (some p)) := grownE_below (grownE_self w (some p)) hb1
  clear hb1 hf P0 x0 x1 x2 x3 x4 x5 x6
  obtain ⟨x0, x1, x2, x3, x4, x5, x6⟩ := P1.out.all
  have zf := P1.out.fz
  go_wp2
  go_returns
  exact ⟨rfl, P1.out.put (i := 1) (by decide) (.int .i64 T) _ rfl, grownE_put G1.out 1 _⟩
set_option maxHeartbeats 1000000 in
theorem implMt (c : Ct) (hc : ctB c = true) (v : ByteArray) (hv : v.size ≤ 1000) (p : Nat) (w : World) (hp : CtB w p c) : Calls Tryz.prog 155 #[.pointer (some ⟨p, 0, Option.none⟩), .string v] w fun e w' => e = .returned (.tuple #[]) ∧ CtB w' p { c with t := tell c.t v } ∧ w.grownBy w' (some p) := by
  have hl := ct_low hc
  have hf := fun W => implFst c.t (by omega) v hv W
  generalize tell c.t v = T at hf ⊢
  have P0 : Hid (CtB w p c) := hp
  obtain ⟨x0, x1, x2, x3, x4, x5, x6⟩ := hp.all
  clear hp
  go_enter Tryz.func155, Tryz.ntmps155
  go_wp2_with fail
  refine (hf _).mono ?_
  rintro e w1 ⟨rfl, hb1⟩
  have P1 : Hid (CtB w1 p c) := P0.out.kept hb1
  have G1 : Hid (w.grownBy w1 (some p)) := grownE_below (grownE_self w (some p)) hb1
  clear hb1 hf P0 x0 x1 x2 x3 x4 x5 x6
  obtain ⟨x0, x1, x2, x3, x4, x5, x6⟩ := P1.out.all
  have zf := P1.out.fz
  go_wp2
  go_returns
  exact ⟨rfl, P1.out.put (i := 2) (by decide) (.int .i64 T) _ rfl, grownE_put G1.out 2 _⟩
set_option maxHeartbeats 1000000 in
theorem implMn (c : Ct) (hc : ctB c = true) (v : ByteArray) (hv : v.size ≤ 1000) (p : Nat) (w : World) (hp : CtB w p c) : Calls Tryz.prog 156 #[.pointer (some ⟨p, 0, Option.none⟩), .string v] w fun e w' => e = .returned (.tuple #[]) ∧ CtB w' p { c with t := if c.t < 0 then 1000000000 else c.t } ∧ w.grownBy w' (some p) := by
  have hl := ct_low hc
  have P0 : Hid (CtB w p c) := hp
  obtain ⟨x0, x1, x2, x3, x4, x5, x6⟩ := hp.all
  have zf := hp.fz
  clear hp
  by_cases h : c.t = -1
  · have e : (if c.t < 0 then 1000000000 else c.t) = 1000000000 := if_pos (by omega)
    rw [e]
    rw [h] at x2
    clear e
    go_enter Tryz.func156, Tryz.ntmps156
    go_wp2
    go_returns
    exact ⟨rfl, P0.out.put (i := 2) (by decide) (.int .i64 1000000000) _ rfl, grownE_put (grownE_self w (some p)) 2 _⟩
  · have e : (if c.t < 0 then 1000000000 else c.t) = c.t := if_neg (by omega)
    rw [e]
    clear e
    go_enter Tryz.func156, Tryz.ntmps156
    go_wp2
    go_returns
    exact ⟨rfl, P0.out, grownE_self w (some p)⟩
set_option maxHeartbeats 1000000 in
theorem implMns (c : Ct) (v : ByteArray) (p : Nat) (w : World) (hp : CtB w p c) : Calls Tryz.prog 157 #[.pointer (some ⟨p, 0, Option.none⟩), .string v] w fun e w' => e = .returned (.tuple #[]) ∧ CtB w' p { c with ns := true } ∧ w.grownBy w' (some p) := by
  have P0 : Hid (CtB w p c) := hp
  obtain ⟨x0, x1, x2, x3, x4, x5, x6⟩ := hp.all
  have zf := hp.fz
  clear hp
  go_enter Tryz.func157, Tryz.ntmps157
  go_wp2
  go_returns
  exact ⟨rfl, P0.out.put (i := 3) (by decide) (.bool true) _ rfl, grownE_put (grownE_self w (some p)) 3 _⟩
set_option maxHeartbeats 1000000 in
theorem implMnc (c : Ct) (v : ByteArray) (p : Nat) (w : World) (hp : CtB w p c) : Calls Tryz.prog 158 #[.pointer (some ⟨p, 0, Option.none⟩), .string v] w fun e w' => e = .returned (.tuple #[]) ∧ CtB w' p { c with nc := true } ∧ w.grownBy w' (some p) := by
  have P0 : Hid (CtB w p c) := hp
  obtain ⟨x0, x1, x2, x3, x4, x5, x6⟩ := hp.all
  have zf := hp.fz
  clear hp
  go_enter Tryz.func158, Tryz.ntmps158
  go_wp2
  go_returns
  exact ⟨rfl, P0.out.put (i := 4) (by decide) (.bool true) _ rfl, grownE_put (grownE_self w (some p)) 4 _⟩
set_option maxHeartbeats 1000000 in
theorem implMpr (c : Ct) (v : ByteArray) (p : Nat) (w : World) (hp : CtB w p c) : Calls Tryz.prog 159 #[.pointer (some ⟨p, 0, Option.none⟩), .string v] w fun e w' => e = .returned (.tuple #[]) ∧ CtB w' p { c with pr := true } ∧ w.grownBy w' (some p) := by
  have P0 : Hid (CtB w p c) := hp
  obtain ⟨x0, x1, x2, x3, x4, x5, x6⟩ := hp.all
  have zf := hp.fz
  clear hp
  go_enter Tryz.func159, Tryz.ntmps159
  go_wp2
  go_returns
  exact ⟨rfl, P0.out.put (i := 5) (by decide) (.bool true) _ rfl, grownE_put (grownE_self w (some p)) 5 _⟩
set_option maxHeartbeats 1000000 in
theorem implMmu (c : Ct) (v : ByteArray) (p : Nat) (w : World) (hp : CtB w p c) : Calls Tryz.prog 160 #[.pointer (some ⟨p, 0, Option.none⟩), .string v] w fun e w' => e = .returned (.tuple #[]) ∧ CtB w' p { c with mu := true } ∧ w.grownBy w' (some p) := by
  have P0 : Hid (CtB w p c) := hp
  obtain ⟨x0, x1, x2, x3, x4, x5, x6⟩ := hp.all
  have zf := hp.fz
  clear hp
  go_enter Tryz.func160, Tryz.ntmps160
  go_wp2
  go_returns
  exact ⟨rfl, P0.out.put (i := 6) (by decide) (.bool true) _ rfl, grownE_put (grownE_self w (some p)) 6 _⟩
/-- The methods by their keys. -/
def tb9 : List (ByteArray × Nat) := [] ++ [(nmA, 153)] ++ [(nmS, 154)] ++ [(nmT, 155)] ++ [(wdT, 156)] ++ [(wdS, 157)] ++ [(wdC, 158)] ++ [(wdP, 159)] ++ [(wdM, 160)]
theorem tb9_in {s : ByteArray} {j : Nat} (h : lookF tb9 s = some j) : j = 153 ∨ j = 154 ∨ j = 155 ∨ j = 156 ∨ j = 157 ∨ j = 158 ∨ j = 159 ∨ j = 160 := by
  unfold tb9 at h
  simp only [lookF_snoc] at h
  repeat' split at h
  all_goals first | (injection h with h; omega) | (simp [lookF] at h)
/-- What each of them does. -/
def upC (j : Nat) (c : Ct) (v : ByteArray) : Ct := if j = 153 then { c with a := tell c.a v } else if j = 154 then { c with s := tell c.s v } else if j = 155 then { c with t := tell c.t v } else if j = 156 then { c with t := if c.t < 0 then 1000000000 else c.t } else if j = 157 then { c with ns := true } else if j = 158 then { c with nc := true } else if j = 159 then { c with pr := true } else if j = 160 then { c with mu := true } else c
def key9 (x : ByteArray) : ByteArray := if eqC x = true then eqA x ++ ⟨#[61]⟩ else eqA x
def stX (c : Ct) (x : ByteArray) : Ct := match lookF tb9 (key9 x) with
  | some j => upC j c (eqB x)
  | none => c
end Go.Proofs.YtkaogmdhjcgcdaaGreatDoor
namespace Go.Proofs.YtkaogmdhjcgcdaaGreatDoor
open Go.RowKit
set_option linter.unusedVariables false

theorem look_is (k : ByteArray) : lookF tb9 k = if wdM = k then some 160 else if wdP = k then some 159 else if wdC = k then some 158 else if wdS = k then some 157 else if wdT = k then some 156 else if nmT = k then some 155 else if nmS = k then some 154 else if nmA = k then some 153 else none := by
  unfold tb9
  simp only [lookF_snoc]
  rfl
theorem key_word {x wd : ByteArray} (h : eqC x = true) (hw : (61 : UInt8) ∉ wd.data.toList) : ¬ wd = key9 x := fun e => hw (by
  rw [e]; unfold key9; rw [if_pos h, ByteArray.data_append, Array.toList_append]; simp)
theorem key_name {x n name : ByteArray} (h : eqC x = true) (hn : NameEq n name) : name = key9 x ↔ eqA x = n := by
  have hk : (key9 x).data.toList = (eqA x).data.toList ++ [61] := by unfold key9; rw [if_pos h, ByteArray.data_append, Array.toList_append]
  constructor
  · intro e
    have h2 : n.data.toList ++ [61] = (eqA x).data.toList ++ [61] := by rw [← hn.1, ← hk, e]
    exact ext_z (List.append_cancel_right h2).symm
  · intro e
    exact ext_z (by rw [hn.1, hk, e])
theorem up_a (c : Ct) (v : ByteArray) : upC 153 c v = { c with a := tell c.a v } := rfl
theorem up_s (c : Ct) (v : ByteArray) : upC 154 c v = { c with s := tell c.s v } := rfl
theorem up_t (c : Ct) (v : ByteArray) : upC 155 c v = { c with t := tell c.t v } := rfl
theorem up_n (c : Ct) (v : ByteArray) : upC 156 c v = { c with t := if c.t < 0 then 1000000000 else c.t } := rfl
theorem up_ns (c : Ct) (v : ByteArray) : upC 157 c v = { c with ns := true } := rfl
theorem up_nc (c : Ct) (v : ByteArray) : upC 158 c v = { c with nc := true } := rfl
theorem up_pr (c : Ct) (v : ByteArray) : upC 159 c v = { c with pr := true } := rfl
theorem up_mu (c : Ct) (v : ByteArray) : upC 160 c v = { c with mu := true } := rfl
theorem name_ne {x name : ByteArray} (hw : (61 : UInt8) ∉ x.data.toList) (hn : (61 : UInt8) ∈ name.data.toList) : ¬ name = x := fun e => hw (by rw [← e]; exact hn)
theorem stX_is (c : Ct) (x : ByteArray) : stX c x = stp c x := by
  unfold stX
  rw [look_is]
  cases h : eqC x with
  | true =>
    rw [stp_yes h, if_neg (key_word h (by decide)), if_neg (key_word h (by decide)), if_neg (key_word h (by decide)), if_neg (key_word h (by decide)), if_neg (key_word h (by decide))]
    have ka := key_name h nA_eq
    have ks := key_name h nS_eq
    have kt := key_name h nT_eq
    by_cases h1 : eqA x = n0A
    · have h2 : ¬ eqA x = n0S := by rw [h1]; decide
      have h3 : ¬ eqA x = wdT := by rw [h1]; decide
      rw [if_neg (fun e => h3 (kt.1 e)), if_neg (fun e => h2 (ks.1 e)), if_pos (ka.2 h1), if_pos h1, if_neg h2, if_neg h3]
      exact up_a c (eqB x)
    · by_cases h2 : eqA x = n0S
      · have h3 : ¬ eqA x = wdT := by rw [h2]; decide
        rw [if_neg (fun e => h3 (kt.1 e)), if_pos (ks.2 h2), if_neg h1, if_pos h2, if_neg h3]
        exact up_s c (eqB x)
      · by_cases h3 : eqA x = wdT
        · rw [if_pos (kt.2 h3), if_neg h1, if_neg h2, if_pos h3]
          exact up_t c (eqB x)
        · rw [if_neg (fun e => h3 (kt.1 e)), if_neg (fun e => h2 (ks.1 e)), if_neg (fun e => h1 (ka.1 e)), if_neg h1, if_neg h2, if_neg h3]
  | false =>
    have ho := eq_out x
    have hx := (eq_no h).1
    have hk : key9 x = x := by unfold key9; rw [if_neg (by rw [h]; decide)]; exact hx.symm
    rw [← hx] at ho
    rw [stp_no h, hk]
    unfold st4
    by_cases e1 : x = wdT
    · rw [if_pos e1, if_neg (by rw [e1]; decide), if_neg (by rw [e1]; decide), if_neg (by rw [e1]; decide), if_neg (by rw [e1]; decide), if_pos e1.symm]
      show upC _ c (eqB x) = _
      rw [up_n]
      split <;> rfl
    · rw [if_neg e1]
      by_cases e2 : x = wdS
      · rw [if_pos e2, if_neg (by rw [e2]; decide), if_neg (by rw [e2]; decide), if_neg (by rw [e2]; decide), if_pos e2.symm]
        exact up_ns c (eqB x)
      · rw [if_neg e2]
        by_cases e3 : x = wdC
        · rw [if_pos e3, if_neg (by rw [e3]; decide), if_neg (by rw [e3]; decide), if_pos e3.symm]
          exact up_nc c (eqB x)
        · rw [if_neg e3]
          by_cases e4 : x = wdP
          · rw [if_pos e4, if_neg (by rw [e4]; decide), if_pos e4.symm]
            exact up_pr c (eqB x)
          · rw [if_neg e4]
            by_cases e5 : x = wdM
            · rw [if_pos e5, if_pos e5.symm]
              exact up_mu c (eqB x)
            · rw [if_neg e5, if_neg (fun e => e5 e.symm), if_neg (fun e => e4 e.symm), if_neg (fun e => e3 e.symm), if_neg (fun e => e2 e.symm), if_neg (fun e => e1 e.symm), if_neg (name_ne ho (by decide)), if_neg (name_ne ho (by decide)), if_neg (name_ne ho (by decide))]
theorem upM (j : Nat) (s : ByteArray) (hj : lookF tb9 s = some j) (c : Ct) (hc : ctB c = true) (v : ByteArray) (hv : v.size ≤ 1000) (p : Nat) (w : World) (hp : CtB w p c) : Calls Tryz.prog j #[.pointer (some ⟨p, 0, Option.none⟩), .string v] w fun e w' => e = .returned (.tuple #[]) ∧ CtB w' p (upC j c v) ∧ w.grownBy w' (some p) := by
  rcases tb9_in hj with rfl | rfl | rfl | rfl | rfl | rfl | rfl | rfl
  · rw [up_a]; exact implMa c hc v hv p w hp
  · rw [up_s]; exact implMs c hc v hv p w hp
  · rw [up_t]; exact implMt c hc v hv p w hp
  · rw [up_n]; exact implMn c hc v hv p w hp
  · rw [up_ns]; exact implMns c v p w hp
  · rw [up_nc]; exact implMnc c v p w hp
  · rw [up_pr]; exact implMpr c v p w hp
  · rw [up_mu]; exact implMmu c v p w hp
end Go.Proofs.YtkaogmdhjcgcdaaGreatDoor
namespace Go.Proofs.YtkaogmdhjcgcdaaGreatDoor
open Go.RowKit Go.Sort
set_option linter.unusedVariables false
set_option linter.unusedSimpArgs false

theorem cutEq (s : ByteArray) (m : Int) (w : World) (hs : s.size ≤ 1000) (hm : w.cell? ⟨0, 0, Option.none⟩ = some (.int .i64 m)) :
    Calls Tryz.prog 162 #[.string s, .string ⟨#[61]⟩] w fun e w' => e = .returned (.tuple #[.string (eqA s), .string (eqB s), .bool (eqC s)]) ∧ Below w.heap.size w w' :=
  (Tryz.strings_Cut s ⟨#[61]⟩ m w (by omega) hm).mono fun e w' ⟨h1, n, h2⟩ => ⟨h1, by rw [h2]; exact ⟨rfl, rfl, rfl, Nat.le_refl _, fun _ _ => rfl⟩⟩
theorem eq_size (s : ByteArray) : (eqA s).size ≤ s.size ∧ (eqB s).size ≤ s.size := by
  have hl : s.data.toList.length = s.size := by simp
  have k : (Lib.cut s.data.toList [61]).1.length ≤ s.data.toList.length ∧ (Lib.cut s.data.toList [61]).2.1.length ≤ s.data.toList.length := by
    unfold Lib.cut
    split <;> simp <;> omega
  rw [hl] at k
  exact ⟨by show (Lib.cut s.data.toList [61]).1.toArray.size ≤ _; simpa using k.1, by show (Lib.cut s.data.toList [61]).2.1.toArray.size ≤ _; simpa using k.2⟩
theorem lt_cell9 {w : World} {b o : Nat} {v : Value} (h : w.cell? ⟨b, o, Option.none⟩ = some v) : b < w.heap.size := by
  obtain ⟨c, e, fr, hb, _⟩ := cells_of_cell? h
  exact (Array.getElem?_eq_some_iff.1 hb).1
theorem BlkE.grown {α : Type} {E : Enc α} {w w' : World} {b : Nat} {x : α} {r : Option Nat} (h : BlkE E w b x) (hg : w.grownBy w' r) (hne : some b ≠ r) : BlkE E w' b x := h.same (hg.block b h.hi (fun e => hne e)) hg.size
set_option maxHeartbeats 1000000 in
theorem implDir (p : Nat) (w : World) : Calls Tryz.prog 130 #[.pointer (some ⟨p, 0, Option.none⟩)] w fun e w' => e = .returned (.map (some w.heap.size)) ∧ FnM w' w.heap.size p tb9 ∧ Below w.heap.size w w' := by
  have hu : Tryz.prog.underlying 152 = some (.map 9 156) := by kernel_rfl
  have hmk : ∀ W, (Instr.makeMap 152 Option.none).run Tryz.prog W = .ok (.map (some W.heap.size)) (W.alloc (.map #[] 0)) := fun W => by kernel_rfl
  have hF : FnM (w.alloc (.map #[] 0)) w.heap.size p [] := FnM.made w p
  have hb1 : (w.alloc (.map #[] 0)).grownBy (w.alloc (.map #[] 0)) (some w.heap.size) := grownE_self _ _
  have B0 : Hid (Below w.heap.size w (w.alloc (.map #[] 0))) := (Below.refl _ w).alloc (Nat.le_refl _) _
  go_enter Tryz.func130, Tryz.ntmps130
  go_wp2_with (refine wpList_insertF _ rfl _ _ _ 152 156 rfl hu w.heap.size p _ rfl hF (by decide) _ (by decide) _ rfl rfl ?_; clear hF; intro wf hF hgf; have hb2 := hb1.trans hgf; clear hb1 hgf; have hb1 := hb2; clear hb2)
  have F1 : Hid (FnM wf w.heap.size p tb9) := hF
  have B1 : Hid (Below w.heap.size w wf) := belowE B0.out hb1 B0.out.size (by intro k hk; cases hk; omega)
  clear hF hb1 B0 hmk
  go_ret
  exact ⟨rfl, F1.out, B1.out⟩
theorem key_size {x : ByteArray} (h : x.size ≤ 400) : (key9 x).size ≤ 401 ∧ (eqB x).size ≤ 400 := by
  have k := eq_size x
  refine ⟨?_, by omega⟩
  unfold key9
  split
  · rw [ByteArray.size_append]
    show (eqA x).size + 1 ≤ 401
    omega
  · omega
set_option maxHeartbeats 1000000 in
theorem implDof (x : ByteArray) (m : Int) (w : World) (hs : x.size ≤ 400) (hm : w.cell? ⟨0, 0, Option.none⟩ = some (.int .i64 m)) :
    Calls Tryz.prog 132 #[.string x] w fun e w' => e = .returned (.tuple #[.string (key9 x), .string (eqB x)]) ∧ Below w.heap.size w w' := by
  have hce := cutEq x m w (by omega) hm
  have hez := eq_size x
  have HY : Hid (eqC x = true → eqA x ++ ⟨#[61]⟩ = key9 x) := fun h => by unfold key9; rw [if_pos h]
  have HN : Hid (eqC x = false → eqA x = key9 x ∧ (⟨#[]⟩ : ByteArray) = eqB x) := fun h => ⟨by unfold key9; rw [if_neg (by rw [h]; decide)], by
    have h1 : eqB x = ByteArray.empty := by simpa using (eq_no h).2
    rw [h1]
    rfl⟩
  generalize key9 x = K at HY HN ⊢
  generalize eqA x = xa at hce HY HN hez
  generalize eqB x = xb at hce HN hez ⊢
  generalize eqC x = xc at hce HY HN
  have hsz : (xa ++ (⟨#[61]⟩ : ByteArray)).size = xa.size + 1 := ByteArray.size_append
  clear hm
  go_enter Tryz.func132, Tryz.ntmps132
  go_wp2_with fail
  refine hce.mono ?_
  rintro e w1 ⟨rfl, hb1⟩
  have B1 : Hid (Below w.heap.size w w1) := hb1
  clear hb1 hce
  cases xc with
  | true =>
    have H : Hid (xa ++ (⟨#[61]⟩ : ByteArray) = K) := HY.out rfl
    clear HY HN
    go_wp2
    go_ret2
    exact ⟨by rw [H.out]; rfl, B1.out⟩
  | false =>
    have H : Hid (xa = K) := (HN.out rfl).1
    have H2 : Hid ((⟨#[]⟩ : ByteArray) = xb) := (HN.out rfl).2
    clear HY HN
    go_wp2
    go_ret2
    exact ⟨by rw [H.out, ← H2.out]; rfl, B1.out⟩
theorem fold_ok (l : List ByteArray) : ctB (l.foldl (fun c t => stX c (lowT t)) ctN) = true := by
  have e : (fun (c : Ct) (t : ByteArray) => stX c (lowT t)) = fun c t => stp c (lowT t) := by funext c t; exact stX_is c _
  rw [e]
  exact rdL_ok (fun t => (numV_bound9 t).1) l
set_option maxRecDepth 100000 in
set_option maxHeartbeats 8000000 in
theorem implRdC (s : ByteArray) (m : Int) (w : World) (hs : s.size ≤ 1048576) (hm : w.cell? ⟨0, 0, Option.none⟩ = some (.int .i64 m)) :
    Calls Tryz.prog 104 #[.string s] w fun e w' => e = .returned (ctV (rdCt s)) ∧ Below w.heap.size w w' := by
  have hrd : rdCt s = (itemsA s).foldl (fun c t => stX c (lowT t)) ctN := by
    have e : (fun (c : Ct) (t : ByteArray) => stX c (lowT t)) = fun c t => stp c (lowT t) := by funext c t; exact stX_is c _
    rw [e]; rfl
  rw [hrd]
  clear hrd
  have hz : ∀ W, (zeroValue 156).run Tryz.prog W = .ok .nilFunc W := fun W => by kernel_rfl
  have hu : Tryz.prog.underlying 152 = some (.map 9 156) := by kernel_rfl
  have R0 : Hid (CtB ((w.alloc (.cells #[.int .i64 0, .int .i64 0, .int .i64 0, .bool false, .bool false, .bool false, .bool false] 50)).alloc (.cells #[.int .i64 (-1), .int .i64 (-1), .int .i64 (-1), .bool false, .bool false, .bool false, .bool false] 151)) w.heap.size ctZ) := (CtB.born w ctZ 50).alloc _
  have T0 : Hid (CtB ((w.alloc (.cells #[.int .i64 0, .int .i64 0, .int .i64 0, .bool false, .bool false, .bool false, .bool false] 50)).alloc (.cells #[.int .i64 (-1), .int .i64 (-1), .int .i64 (-1), .bool false, .bool false, .bool false, .bool false] 151)) (w.heap.size + 1) ctN) := by
    have := CtB.born (w.alloc (.cells #[.int .i64 0, .int .i64 0, .int .i64 0, .bool false, .bool false, .bool false, .bool false] 50)) ctN 151
    simp only [World.size_alloc] at this
    exact this
  have B0 : Hid (Below w.heap.size w ((w.alloc (.cells #[.int .i64 0, .int .i64 0, .int .i64 0, .bool false, .bool false, .bool false, .bool false] 50)).alloc (.cells #[.int .i64 (-1), .int .i64 (-1), .int .i64 (-1), .bool false, .bool false, .bool false, .bool false] 151))) := ((Below.refl _ w).alloc (Nat.le_refl _) _).alloc (by simp) _
  have D0 := implDir (w.heap.size + 1) ((w.alloc (.cells #[.int .i64 0, .int .i64 0, .int .i64 0, .bool false, .bool false, .bool false, .bool false] 50)).alloc (.cells #[.int .i64 (-1), .int .i64 (-1), .int .i64 (-1), .bool false, .bool false, .bool false, .bool false] 151))
  have M : Hid (∀ W, Below w.heap.size w W → W.cell? ⟨0, 0, Option.none⟩ = some (.int .i64 m)) := fun W hW => (hW.cell (p := ⟨0, 0, Option.none⟩) (lt_cell9 hm)).trans hm
  have hit := fun W => implItems s W (by unfold maxLen; omega)
  have hlz := items_size s
  have hll : (itemsA s).length ≤ 1000 := by have := itemsA_length s; omega
  generalize itemsA s = l at hit hlz hll ⊢
  clear hm
  go_enter Tryz.func104, Tryz.ntmps104
  go_wp2_with fail
  refine D0.mono ?_
  rintro e wf ⟨rfl, hF, hbf⟩
  have F1 : Hid (FnM wf (w.heap.size + 1 + 1) (w.heap.size + 1) tb9) := by
    have := hF
    simp only [World.size_alloc] at this
    exact this
  have R1 : Hid (CtB wf w.heap.size ctZ) := R0.out.kept hbf
  have T1 : Hid (CtB wf (w.heap.size + 1) ctN) := T0.out.kept hbf
  have B1 : Hid (Below w.heap.size w wf) := past9 B0.out hbf
  clear hF hbf R0 T0 B0 D0
  go_wp2_with fail
  refine (hit _).mono ?_
  rintro e w1 ⟨v, rfl, ho, hb1⟩
  have ho' := ho
  obtain ⟨⟨g, cap, rfl, hg0, hg1⟩, _⟩ := ho
  have O2 : Hid (∀ j (hj : j < l.length), w1.cell? ⟨g, j, Option.none⟩ = some (.string l[j])) := ho'.at rfl
  have F2 : Hid (FnM w1 (w.heap.size + 1 + 1) (w.heap.size + 1) tb9) := F1.out.kept hb1
  have R2 : Hid (CtB w1 w.heap.size ctZ) := R1.out.kept hb1
  have T2 : Hid (CtB w1 (w.heap.size + 1) ctN) := T1.out.kept hb1
  have B2 : Hid (Below w.heap.size w w1) := B1.out.trans (hb1.mono B1.out.size)
  have hzf : w.heap.size + 1 + 1 < wf.heap.size := F1.out.lt
  have hgp : w.heap.size + 1 + 1 < g := by omega
  clear ho' hb1 F1 R1 T1 B1 hit
  go_wp2
  go_loopw [17] (fun i wr => ∃ (k : Nat), k ≤ l.length ∧ i = .int .i64 k ∧ Hid (FnM wr (w.heap.size + 1 + 1) (w.heap.size + 1) tb9) ∧ Hid (CtB wr w.heap.size ctZ) ∧ Hid (CtB wr (w.heap.size + 1) ((l.take k).foldl (fun c t => stX c (lowT t)) ctN)) ∧ Hid (Below w.heap.size w wr) ∧ Hid (w1.grownBy wr (some (w.heap.size + 1)))) (fun i _ => l.length - (intOf i).toNat)
  case atStart => exact ⟨0, Nat.zero_le _, rfl, F2, R2, T2, B2, grownE_self _ _⟩
  case round =>
    clear F2 R2 T2 B2
    obtain ⟨k, hk, rfl, hF, hR, hT, hB, hG⟩ := hrel
    by_cases hlt : k < l.length
    · have hc : wr.cell? ⟨g, k, Option.none⟩ = some (.string l[k]) := hG.out.cell (O2.out k hlt) (fun e => by simp at e; omega)
      have htz := hlz l[k] (List.getElem_mem hlt)
      have HN : Hid ((l.take (k + 1)).foldl (fun c t => stX c (lowT t)) ctN = stX ((l.take k).foldl (fun c t => stX c (lowT t)) ctN) (lowT l[k])) := by show _ = _; rw [List.take_succ_eq_append_getElem hlt, List.foldl_append]; rfl
      generalize l[k] = t at hc htz HN
      have HCk : Hid (ctB ((l.take k).foldl (fun c t => stX c (lowT t)) ctN) = true) := fold_ok _
      generalize (l.take k).foldl (fun c t => stX c (lowT t)) ctN = c at hT HN HCk
      have hlw := fun W => implLow t W (by unfold maxLen; omega)
      change ∀ W, Calls _ _ _ _ fun e w' => e = .returned (.string (lowT t)) ∧ _ at hlw
      have hxz : (lowT t).size ≤ 400 := by show ((t.data.toList.map lowB).toArray).size ≤ 400; simpa using htz
      generalize lowT t = x at hlw hxz HN
      have hez := key_size hxz
      have hce := fun W hW => implDof x m W (by omega) hW
      have HX : Hid (stX c x = match lookF tb9 (key9 x) with | some j => upC j c (eqB x) | none => c) := rfl
      generalize stX c x = c2 at HN HX
      generalize key9 x = xa at hce HX hez
      generalize eqB x = xb at hce HX hez
      go_wp2_with fail
      refine (hlw _).mono ?_
      rintro e w2 ⟨rfl, hb2⟩
      have F2 : Hid (FnM w2 (w.heap.size + 1 + 1) (w.heap.size + 1) tb9) := hF.out.kept hb2
      have R2 : Hid (CtB w2 w.heap.size ctZ) := hR.out.kept hb2
      have T2 : Hid (CtB w2 (w.heap.size + 1) c) := hT.out.kept hb2
      have B2 : Hid (Below w.heap.size w w2) := hB.out.trans (hb2.mono hB.out.size)
      have G2 : Hid (w1.grownBy w2 (some (w.heap.size + 1))) := grownE_below hG.out hb2
      clear hb2 hF hR hT hB hG hlw hc
      go_wp2_with fail
      refine (hce _ (M.out _ B2.out)).mono ?_
      rintro e w3 ⟨rfl, hb3⟩
      have F3 : Hid (FnM w3 (w.heap.size + 1 + 1) (w.heap.size + 1) tb9) := F2.out.kept hb3
      have R3 : Hid (CtB w3 w.heap.size ctZ) := R2.out.kept hb3
      have T3 : Hid (CtB w3 (w.heap.size + 1) c) := T2.out.kept hb3
      have B3 : Hid (Below w.heap.size w w3) := B2.out.trans (hb3.mono B2.out.size)
      have G3 : Hid (w1.grownBy w3 (some (w.heap.size + 1))) := grownE_below G2.out hb3
      clear hb3 F2 R2 T2 B2 G2 hce
      cases hl : lookF tb9 xa with
      | none =>
        rw [hl] at HX
        have HM : Hid ((l.take (k + 1)).foldl (fun c t => stX c (lowT t)) ctN = c) := HN.out.trans HX.out
        go_wp2_with (at_lookup; refine wpList_lookF_no _ rfl _ _ 152 156 rfl hu (hz _) (w.heap.size + 1 + 1) (w.heap.size + 1) tb9 rfl F3.out xa (by unfold maxLen; omega) rfl hl ?_)
        go_roundw
        case rel => exact ⟨k + 1, by omega, by go_num, F3, R3, by rw [HM.out]; exact T3, B3, G3⟩
        case measure => simp [intOf]; omega
      | some j =>
        rw [hl] at HX
        have HM : Hid ((l.take (k + 1)).foldl (fun c t => stX c (lowT t)) ctN = upC j c xb) := HN.out.trans HX.out
        have hup3 := upM j xa hl c HCk.out xb (by omega) (w.heap.size + 1) w3 T3.out
        rcases tb9_in hl with rfl | rfl | rfl | rfl | rfl | rfl | rfl | rfl
        all_goals
          go_wp2_with (first | (at_lookup; refine wpList_lookF_yes _ rfl _ _ 152 156 rfl hu (hz _) (w.heap.size + 1 + 1) (w.heap.size + 1) tb9 rfl F3.out xa (by unfold maxLen; omega) rfl _ hl ?_) | (refine hup3.mono ?_; rintro e w4 ⟨rfl, k1, k2⟩; have K1 : Hid _ := k1; have K2 : Hid _ := k2; clear k1 k2))
          have T4 : Hid (CtB w4 (w.heap.size + 1) ((l.take (k + 1)).foldl (fun c t => stX c (lowT t)) ctN)) := by show CtB _ _ _; rw [HM.out]; exact K1.out
          have F4 : Hid (FnM w4 (w.heap.size + 1 + 1) (w.heap.size + 1) tb9) := F3.out.grown K2.out (by intro e; injection e; omega)
          have R4 : Hid (CtB w4 w.heap.size ctZ) := R3.out.grown K2.out (by intro e; injection e; omega)
          have B4 : Hid (Below w.heap.size w w4) := belowE B3.out K2.out B3.out.size (by intro k hk; cases hk; omega)
          have G4 : Hid (w1.grownBy w4 (some (w.heap.size + 1))) := G3.out.trans K2.out
          go_roundw
          case rel => exact ⟨k + 1, by omega, by go_num, F4, R4, T4, B4, G4⟩
          case measure => simp [intOf]; omega
    · obtain rfl : k = l.length := by omega
      rw [List.take_length] at hT
      generalize hq : l.foldl (fun c t => stX c (lowT t)) ctN = q at hT
      have HQ : Hid _ := hq
      clear hq
      obtain ⟨qa, qs, qt, qns, qnc, qpr, qmu⟩ := q
      obtain ⟨t0, t1, t2, t3, t4, t5, t6⟩ := hT.out.all
      obtain ⟨z0, z1, z2, z3, z4, z5, z6⟩ := hR.out.all
      have zf := hR.out.fz
      have P1 := hR.out.puts ⟨qa, qs, qt, qns, qnc, qpr, qmu⟩
      have HP : Hid _ := CtB.all P1
      have BP : Hid _ := putL_below (B := w.heap.size) (b := w.heap.size) (Nat.le_refl _) (ctE.c ⟨qa, qs, qt, qns, qnc, qpr, qmu⟩) 0 hB.out
      unfold ctZ at z0 z1 z2 z3 z4 z5 z6
      simp only at t0 t1 t2 t3 t4 t5 t6 z0 z1 z2 z3 z4 z5 z6
      clear P1 hR hT hF hG O2
      go_wp2
      obtain ⟨p0, p1, p2, p3, p4, p5, p6⟩ := HP.out
      rw [ctE_c] at p0 p1 p2 p3 p4 p5 p6
      have bp := BP.out
      rw [ctE_c] at bp
      simp only [putL, Nat.zero_add, Nat.reduceAdd] at p0 p1 p2 p3 p4 p5 p6 bp
      exact bodyPost_ret (v := ctV ⟨qa, qs, qt, qns, qnc, qpr, qmu⟩) (by unfold ctV; simp [results, Tryz.results104, go_sem, p0, p1, p2, p3, p4, p5, p6]) rfl ⟨by rw [HQ.out], bp⟩
end Go.Proofs.YtkaogmdhjcgcdaaGreatDoor
namespace Go.Proofs.YtkaogmdhjcgcdaaGreatDoor
open Go.RowKit
set_option linter.unusedVariables false

set_option maxHeartbeats 400000 in
theorem implTag (x : Tg) (w : World) (hs : x.t.size ≤ maxLen) :
    Calls Tryz.prog 165 #[tgV x] w fun e w' => e = .returned (.bool (tagB x.t)) ∧ Below w.heap.size w w' := by
  obtain ⟨wk, s⟩ := x
  unfold tgV
  simp only at hs ⊢
  unfold maxLen at hs
  have B0 : Hid (Below w.heap.size w (w.alloc (.cells #[.bool wk, .string s] 131))) := (Below.refl _ w).alloc (Nat.le_refl _) _
  by_cases h2 : 40 < s.size
  · have HF : Hid (false = tagB s) := tagB_out h2
    have d2 : decide (40 < (s.size : Int)) = true := by simp; omega
    go_enter Tryz.func165, Tryz.ntmps165
    go_wp2
    go_ret
    exact ⟨ret_bool HF.out, B0.out⟩
  · have d2 : decide (40 < (s.size : Int)) = false := by simp; omega
    have BI : Hid (∀ pos, Below w.heap.size w ((w.alloc (.cells #[.bool wk, .string s] 131)).iter s pos)) := fun pos => past7 B0.out (below_iter _ _ _)
    go_enter Tryz.func165, Tryz.ntmps165
    go_wp2
    have hW : (w.alloc (.cells #[.bool wk, .string s] 131)).heap.size = w.heap.size + 1 := by simp
    generalize (w.alloc (.cells #[.bool wk, .string s] 131)) = W at hW BI ⊢
    go_loopw [4] (fun _ wr => ∃ pos : Nat, pos ≤ s.size ∧ wr = W.iter s pos ∧ Hid (allB tagN (s.data.toList.take pos) = true)) (fun _ wr => s.size - wr.iterPos (w.heap.size + 1))
    case atStart => exact ⟨0, Nat.zero_le _, rfl, allB_nil _ _⟩
    case round =>
      obtain ⟨pos, hpos, rfl, ha⟩ := hrel
      by_cases hp : pos < s.size
      · by_cases hasc : (s[pos]).toNat < 128
        · have hnx : ∀ ty, (Instr.next (.pointer (some ⟨W.heap.size, 0, none⟩)) true ty).run Tryz.prog (W.iter s pos) = _ := fun ty => run_next_ascii W s pos ty hp hasc
          rw [hW] at hnx
          by_cases hl : (s[pos].toNat : Int) < 33
          · have HF : Hid (false = tagB s) := tagB_in (by omega) (allB_not hp (tagN_no (by omega)))
            go_wp2
            go_ret
            exact ⟨ret_bool HF.out, BI.out _⟩
          · by_cases hg : 126 < (s[pos].toNat : Int)
            · have HF : Hid (false = tagB s) := tagB_in (by omega) (allB_not hp (tagN_no (by omega)))
              go_wp2
              go_ret
              exact ⟨ret_bool HF.out, BI.out _⟩
            · by_cases hq : (s[pos].toNat : Int) = 34
              · have HF : Hid (false = tagB s) := tagB_in (by omega) (allB_not hp (tagN_no (by omega)))
                have dq : ((s[pos].toNat : Int) == 34) = true := by rw [hq]; rfl
                clear hq
                go_wp2
                go_ret
                exact ⟨ret_bool HF.out, BI.out _⟩
              · have HV : Hid (allB tagN (s.data.toList.take (pos + 1)) = true) := allB_step hp ha.out (tagN_yes (by omega))
                have dq : ((s[pos].toNat : Int) == 34) = false := by simpa using hq
                go_wp2
                go_roundw
                case rel => exact ⟨pos + 1, by omega, rfl, HV⟩
                case measure => rw [← hW]; simp; omega
        · have hnx : ∀ ty, (Instr.next (.pointer (some ⟨W.heap.size, 0, none⟩)) true ty).run Tryz.prog (W.iter s pos) = _ := fun ty => run_next_any W s pos ty hp
          rw [hW] at hnx
          have hd := (decode_high s pos hp (by omega)).1
          have HF : Hid (false = tagB s) := tagB_in (by omega) (allB_not hp (tagN_no (by omega)))
          generalize (Utf8.decode s pos).1 = r at hnx hd
          generalize (Utf8.decode s pos).2 = p2 at hnx
          have hl : ¬ (r : Int) < 33 := by omega
          have hg : 126 < (r : Int) := by omega
          go_wp2
          go_ret
          exact ⟨ret_bool HF.out, BI.out _⟩
      · have hnx : ∀ ty, (Instr.next (.pointer (some ⟨W.heap.size, 0, none⟩)) true ty).run Tryz.prog (W.iter s pos) = _ := fun ty => run_next_end W s pos ty hp
        rw [hW] at hnx
        have HT : Hid (true = tagB s) := tagB_in (by omega) (allB_end hp ha.out)
        go_wp2
        go_ret
        exact ⟨ret_bool HT.out, BI.out _⟩

end Go.Proofs.YtkaogmdhjcgcdaaGreatDoor
namespace Go.Proofs.YtkaogmdhjcgcdaaGreatDoor
open Go.RowKit
set_option linter.unusedVariables false

/-- What stands behind the mark of a weak tag, what behind the first sign, and what ahead of the last. -/
def cpW (s : ByteArray) : ByteArray := ⟨(Lib.trimPrefix s.data.toList [87, 47]).toArray⟩
def cpQ (s : ByteArray) : ByteArray := ⟨(Lib.trimPrefix s.data.toList [34]).toArray⟩
def csQ (s : ByteArray) : ByteArray := ⟨(Lib.trimSuffix s.data.toList [34]).toArray⟩
def hpW (s : ByteArray) : Bool := Lib.hasPrefix s.data.toList [87, 47]
def hpQ (s : ByteArray) : Bool := Lib.hasPrefix s.data.toList [34]
def hsQ (s : ByteArray) : Bool := Lib.hasSuffix s.data.toList [34]
theorem tp_len (l p : List UInt8) : (Lib.trimPrefix l p).length ≤ l.length := by
  unfold Lib.trimPrefix; split <;> simp
theorem ts_len (l p : List UInt8) : (Lib.trimSuffix l p).length ≤ l.length := by
  unfold Lib.trimSuffix; split <;> simp
theorem size_len7 (s : ByteArray) : s.size = s.data.toList.length := by simp
theorem cpW_size (s : ByteArray) : (cpW s).size ≤ s.size := by
  rw [size_len7, size_len7]; unfold cpW; simpa using tp_len s.data.toList [87, 47]
theorem cpQ_size (s : ByteArray) : (cpQ s).size ≤ s.size := by
  rw [size_len7, size_len7]; unfold cpQ; simpa using tp_len s.data.toList [34]
theorem csQ_size (s : ByteArray) : (csQ s).size ≤ s.size := by
  rw [size_len7, size_len7]; unfold csQ; simpa using ts_len s.data.toList [34]
theorem hp_yes {l p : List UInt8} (h : Lib.hasPrefix l p = true) : l = p ++ Lib.trimPrefix l p := by
  have h2 : p <+: l := by unfold Lib.hasPrefix at h; exact List.isPrefixOf_iff_prefix.1 h
  obtain ⟨m, rfl⟩ := h2
  unfold Lib.trimPrefix
  rw [if_pos h, List.drop_left]
theorem hp_app (p m : List UInt8) : Lib.hasPrefix (p ++ m) p = true := by
  unfold Lib.hasPrefix; exact List.isPrefixOf_iff_prefix.2 (List.prefix_append p m)
theorem tp_app (p m : List UInt8) : Lib.trimPrefix (p ++ m) p = m := by
  unfold Lib.trimPrefix; rw [if_pos (hp_app p m), List.drop_left]
theorem hs_yes {l p : List UInt8} (h : Lib.hasSuffix l p = true) : l = Lib.trimSuffix l p ++ p := by
  have h2 : p <:+ l := by unfold Lib.hasSuffix at h; exact List.isSuffixOf_iff_suffix.1 h
  obtain ⟨m, rfl⟩ := h2
  unfold Lib.trimSuffix
  rw [if_pos h]
  simp
theorem hs_app (p m : List UInt8) : Lib.hasSuffix (m ++ p) p = true := by
  unfold Lib.hasSuffix; exact List.isSuffixOf_iff_suffix.2 (List.suffix_append m p)
theorem ts_app (p m : List UInt8) : Lib.trimSuffix (m ++ p) p = m := by
  unfold Lib.trimSuffix; rw [if_pos (hs_app p m)]; simp
/-- The text that the program cuts out. -/
def ctT (s : ByteArray) : ByteArray := csQ (cpQ (cpW s))
def ctO (s : ByteArray) : Bool := hpQ (cpW s)
def ctC (s : ByteArray) : Bool := hsQ (cpQ (cpW s))
theorem ctT_size (s : ByteArray) : (ctT s).size ≤ s.size := Nat.le_trans (csQ_size _) (Nat.le_trans (cpQ_size _) (cpW_size _))
theorem list_of7 (l : List UInt8) : ((⟨l.toArray⟩ : ByteArray)).data.toList = l := rfl
theorem cut_some {s : ByteArray} (ho : ctO s = true) (hc : ctC s = true) (hk : tagB (ctT s) = true) : rdT s = some ⟨hpW s, ctT s⟩ := by
  refine rdT_of hk (data_ext ?_)
  have e1 : (cpQ (cpW s)).data.toList = (ctT s).data.toList ++ [34] := hs_yes hc
  have e2 : (cpW s).data.toList = 34 :: (cpQ (cpW s)).data.toList := hp_yes ho
  cases hw : hpW s with
  | false =>
    have e3 : (cpW s).data.toList = s.data.toList := by
      unfold cpW Lib.trimPrefix
      rw [list_of7, if_neg (by unfold hpW at hw; rw [hw]; decide)]
    rw [shU_not rfl, ← e3, e2, e1]
  | true =>
    have e3 : s.data.toList = 87 :: 47 :: (cpW s).data.toList := hp_yes hw
    rw [shU_weak rfl, e3, e2, e1]
theorem cut_of7 {s : ByteArray} {x : Tg} (h : rdT s = some x) : ctO s = true ∧ ctC s = true ∧ ctT s = x.t := by
  obtain ⟨h1, h2⟩ := rdT_some h
  have e1 : (cpW s).data.toList = 34 :: (x.t.data.toList ++ [34]) := by
    cases hw : x.w with
    | false =>
      have e := shU_not hw
      rw [h2] at e
      unfold cpW
      rw [list_of7, e]
      rfl
    | true =>
      have e := shU_weak hw
      rw [h2] at e
      unfold cpW
      rw [list_of7, e]
      exact tp_app [87, 47] _
  have e2 : (cpQ (cpW s)).data.toList = x.t.data.toList ++ [34] := by
    unfold cpQ
    rw [list_of7, e1]
    exact tp_app [34] _
  refine ⟨?_, ?_, data_ext ?_⟩
  · unfold ctO hpQ; rw [e1]; exact hp_app [34] _
  · unfold ctC hsQ; rw [e2]; exact hs_app [34] _
  · unfold ctT csQ; rw [list_of7, e2]; exact ts_app [34] _
theorem cut_none {s : ByteArray} (h : ¬ (ctO s = true ∧ ctC s = true ∧ tagB (ctT s) = true)) : rdT s = none := by
  cases hr : rdT s with
  | none => rfl
  | some x =>
    obtain ⟨h1, h2, h3⟩ := cut_of7 hr
    exact absurd ⟨h1, h2, by rw [h3]; exact (rdT_some hr).1⟩ h
end Go.Proofs.YtkaogmdhjcgcdaaGreatDoor
namespace Go.Proofs.YtkaogmdhjcgcdaaGreatDoor
open Go.RowKit
set_option linter.unusedVariables false

theorem cloneT (s : ByteArray) (w : World) (h : s.size ≤ 1048576) :
    Calls Tryz.prog 77 #[.string s] w fun e w' => e = .returned (.string s) ∧ Below w.heap.size w w' := by
  go_enter Tryz.func77, Tryz.ntmps77
  go_wp2_with (go_at_call 112; refine (Tryz.stringslite_Clone s _ (by omega)).mono ?_; rintro e w1 ⟨rfl, hb1⟩)
  go_ret
  exact ⟨rfl, hb1⟩
theorem cutW (s : ByteArray) (w : World) : Calls Tryz.prog 163 #[.string s, .string ⟨#[87, 47]⟩] w fun e w' => e = .returned (.tuple #[.string (cpW s), .bool (hpW s)]) ∧ w = w' :=
  (Tryz.strings_CutPrefix s ⟨#[87, 47]⟩ w).mono fun e w' h => ⟨h.1, h.2.symm⟩
theorem cutQ (s : ByteArray) (w : World) : Calls Tryz.prog 163 #[.string s, .string ⟨#[34]⟩] w fun e w' => e = .returned (.tuple #[.string (cpQ s), .bool (hpQ s)]) ∧ w = w' :=
  (Tryz.strings_CutPrefix s ⟨#[34]⟩ w).mono fun e w' h => ⟨h.1, h.2.symm⟩
theorem cutE (s : ByteArray) (w : World) (h : s.size ≤ 1048576) : Calls Tryz.prog 164 #[.string s, .string ⟨#[34]⟩] w fun e w' => e = .returned (.tuple #[.string (csQ s), .bool (hsQ s)]) ∧ w = w' :=
  (Tryz.strings_CutSuffix s ⟨#[34]⟩ w (by omega)).mono fun e w' h => ⟨h.1, h.2.symm⟩
set_option maxHeartbeats 1000000 in
theorem implRd (s : ByteArray) (w : World) (hs : s.size ≤ 1048576) :
    Calls Tryz.prog 133 #[.string s] w fun e w' => e = .returned (rdV (rdT s)) ∧ Below w.heap.size w w' := by
  have h1 := fun W => cutW s W
  have h2 := fun W => cutQ (cpW s) W
  have h3 := fun W => cutE (cpQ (cpW s)) W (by have := cpQ_size (cpW s); have := cpW_size s; omega)
  have hz := ctT_size s
  have h4 := fun W => cloneT (ctT s) W (by omega)
  have h5 := fun W => implTag ⟨hpW s, ctT s⟩ W (by unfold maxLen; show (ctT s).size ≤ _; omega)
  have HY : Hid (ctO s = true → ctC s = true → tagB (ctT s) = true → rdT s = some ⟨hpW s, ctT s⟩) := cut_some
  have HN : Hid (¬ (ctO s = true ∧ ctC s = true ∧ tagB (ctT s) = true) → rdT s = none) := cut_none
  unfold tgV at h5
  simp only at h5
  change ∀ W, Calls _ _ _ _ fun e w' => e = .returned (.tuple #[.string (cpQ (cpW s)), .bool (ctO s)]) ∧ W = w' at h2
  change ∀ W, Calls _ _ _ _ fun e w' => e = .returned (.tuple #[.string (ctT s), .bool (ctC s)]) ∧ W = w' at h3
  generalize tagB (ctT s) = ok at h5 HY HN
  generalize rdT s = R at HY HN ⊢
  generalize ctT s = t at h3 h4 h5 HY hz
  generalize ctO s = op at h2 HY HN
  generalize ctC s = cl at h3 HY HN
  generalize hpW s = wk at h1 h5 HY
  generalize cpQ (cpW s) = s2 at h2 h3
  generalize cpW s = s1 at h1 h2
  go_enter Tryz.func133, Tryz.ntmps133
  go_wp2_with fail
  refine (h1 _).mono ?_
  rintro e w1 ⟨rfl, rfl⟩
  go_wp2_with fail
  refine (h2 _).mono ?_
  rintro e w1 ⟨rfl, rfl⟩
  go_wp2_with fail
  refine (h3 _).mono ?_
  rintro e w1 ⟨rfl, rfl⟩
  go_wp2_with fail
  refine (h4 _).mono ?_
  rintro e w1 ⟨rfl, hb1⟩
  have T0 : Hid (TgB (w1.alloc (.cells #[.bool wk, .string t] 131)) w.heap.size noT) := ((TgB.new w noT 131).kept hb1).alloc _
  have T9 : Hid (TgB w1 w.heap.size noT) := (TgB.new w noT 131).kept hb1
  have B9 : Hid (Below w.heap.size w w1) := past7 ((Below.refl _ w).alloc (Nat.le_refl _) _) hb1
  have T1 : Hid (TgB (w1.alloc (.cells #[.bool wk, .string t] 131)) w1.heap.size ⟨wk, t⟩) := TgB.new w1 ⟨wk, t⟩ 131
  have B1 : Hid (Below w.heap.size w (w1.alloc (.cells #[.bool wk, .string t] 131))) := by
    have := past7 ((Below.refl _ w).alloc (Nat.le_refl _) _) hb1
    exact this.alloc this.size _
  have hlt : w.heap.size < w1.heap.size := by have := hb1.size; simp at this; omega
  clear hb1 h1 h2 h3 h4
  have PN : Hid (∀ W, TgB W w.heap.size noT → Below w.heap.size w W → TgB ((W.setCell ⟨w.heap.size, 0, none⟩ (.bool false)).setCell ⟨w.heap.size, 1, none⟩ (.string ⟨#[]⟩)) w.heap.size noT ∧ Below w.heap.size w ((W.setCell ⟨w.heap.size, 0, none⟩ (.bool false)).setCell ⟨w.heap.size, 1, none⟩ (.string ⟨#[]⟩))) := fun W h hb => ⟨h.put noT, (hb.setCell (p := ⟨w.heap.size, 0, none⟩) (Nat.le_refl _) _).setCell (p := ⟨w.heap.size, 1, none⟩) (Nat.le_refl _) _⟩
  have PY : Hid (∀ W, TgB W w.heap.size noT → Below w.heap.size w W → TgB ((W.setCell ⟨w.heap.size, 0, none⟩ (.bool wk)).setCell ⟨w.heap.size, 1, none⟩ (.string t)) w.heap.size ⟨wk, t⟩ ∧ Below w.heap.size w ((W.setCell ⟨w.heap.size, 0, none⟩ (.bool wk)).setCell ⟨w.heap.size, 1, none⟩ (.string t))) := fun W h hb => ⟨h.put ⟨wk, t⟩, (hb.setCell (p := ⟨w.heap.size, 0, none⟩) (Nat.le_refl _) _).setCell (p := ⟨w.heap.size, 1, none⟩) (Nat.le_refl _) _⟩
  cases op with
  | false =>
    have HR : Hid (R = none) := HN.out (fun h => by cases h.1)
    clear HY HN h5
    have b0 := T9.out.c0
    have b1 := T9.out.c1
    have fz := T9.out.fz
    go_wp2
    obtain ⟨P1, BB⟩ := PN.out _ T9.out B9.out
    have BC := BB.alloc BB.size (.cells #[.bool wk, .string t] 131)
    have p0 := (P1.alloc (.cells #[.bool wk, .string t] 131)).c0
    have p1 := (P1.alloc (.cells #[.bool wk, .string t] 131)).c1
    unfold noT at p0 p1
    simp only at p0 p1
    refine bodyPost_ret (v := .tuple #[.agg #[.bool false, .string ⟨#[]⟩], .bool false]) (by simp [results, Tryz.results133, go_sem, p0, p1]) rfl ⟨ret_rd (by rw [HR.out]; rfl), BC⟩
  | true =>
    cases cl with
    | false =>
      have HR : Hid (R = none) := HN.out (fun h => by cases h.2.1)
      clear HY HN h5
      have b0 := T9.out.c0
      have b1 := T9.out.c1
      have fz := T9.out.fz
      go_wp2
      obtain ⟨P1, BB⟩ := PN.out _ T9.out B9.out
      have BC := BB.alloc BB.size (.cells #[.bool wk, .string t] 131)
      have p0 := (P1.alloc (.cells #[.bool wk, .string t] 131)).c0
      have p1 := (P1.alloc (.cells #[.bool wk, .string t] 131)).c1
      unfold noT at p0 p1
      simp only at p0 p1
      refine bodyPost_ret (v := .tuple #[.agg #[.bool false, .string ⟨#[]⟩], .bool false]) (by simp [results, Tryz.results133, go_sem, p0, p1]) rfl ⟨ret_rd (by rw [HR.out]; rfl), BC⟩
    | true =>
      go_wp2_with fail
      refine (h5 _).mono ?_
      rintro e w2 ⟨rfl, hb2⟩
      have T2 : Hid (TgB w2 w.heap.size noT) := T0.out.kept hb2
      have T3 : Hid (TgB w2 w1.heap.size ⟨wk, t⟩) := T1.out.kept hb2
      have B2 : Hid (Below w.heap.size w w2) := past7 B1.out hb2
      clear hb2 h5 T0 T1 B1
      have b0 := T2.out.c0
      have b1 := T2.out.c1
      have fz := T2.out.fz
      have c0 := T3.out.c0
      have c1 := T3.out.c1
      cases ok with
      | false =>
        have HR : Hid (R = none) := HN.out (fun h => by cases h.2.2)
        clear HY HN
        go_wp2
        obtain ⟨P1, BB⟩ := PN.out _ T2.out B2.out
        have p0 := P1.c0
        have p1 := P1.c1
        unfold noT at p0 p1
        simp only at p0 p1
        refine bodyPost_ret (v := .tuple #[.agg #[.bool false, .string ⟨#[]⟩], .bool false]) (by simp [results, Tryz.results133, go_sem, p0, p1]) rfl ⟨ret_rd (by rw [HR.out]; rfl), BB⟩
      | true =>
        have HR : Hid (R = some ⟨wk, t⟩) := by have := HY.out; simp only [forall_const] at this; exact this
        clear HY HN
        go_wp2
        obtain ⟨P1, BB⟩ := PY.out _ T2.out B2.out
        have p0 := P1.c0
        have p1 := P1.c1
        simp only at p0 p1
        refine bodyPost_ret (v := .tuple #[.agg #[.bool wk, .string t], .bool true]) (by simp [results, Tryz.results133, go_sem, p0, p1]) rfl ⟨ret_rd (by rw [HR.out]; rfl), BB⟩
end Go.Proofs.YtkaogmdhjcgcdaaGreatDoor
namespace Go.Proofs.YtkaogmdhjcgcdaaGreatDoor.Dd
open Go.RowKit Go.Sort

def frRd (t0 : ByteArray) (n0 : Nat) (t : Nat → Value) : Act := { tmps := #[.string t0, undef, .pointer (some ⟨n0, 0, none⟩), .bool false, t 4, .string t0, .int .i64 29, .bool false, undef, t 9, t 10, t 11, t 12, t 13, t 14, t 15, t 16, t 17, t 18, t 19, t 20, t 21, t 22, t 23, t 24, t 25, t 26, t 27, undef, undef, undef, undef, undef, undef], defers := [] }
def dRd (i : Nat) : Nat := if i = 0 then 9 else if i = 1 then 10 else if i = 2 then 11 else if i = 3 then 12 else if i = 4 then 13 else if i = 5 then 14 else if i = 6 then 15 else if i = 7 then 16 else if i = 8 then 17 else if i = 9 then 18 else if i = 10 then 19 else if i = 11 then 20 else if i = 12 then 21 else if i = 13 then 22 else if i = 14 then 23 else if i = 15 then 24 else if i = 16 then 25 else if i = 17 then 26 else if i = 18 then 27 else if i = 19 then 4 else i + 5000
def GRd (t0 : ByteArray) (n0 : Nat) (i : Nat) (x : World) (v : Value) : Prop := match i with
  | 0 => v = (.string t0)
  | 1 => v = (.string (t0.extract 12 16))
  | 2 => v = (.int .i64 (numV 10 15 (t0.extract 12 16)))
  | 3 => v = (.string t0)
  | 4 => v = (.string (t0.extract 8 11))
  | 5 => v = (.int .i64 (monV (t0.extract 8 11)))
  | 6 => v = (.string t0)
  | 7 => v = (.string (t0.extract 5 7))
  | 8 => v = (.int .i64 (numV 10 15 (t0.extract 5 7)))
  | 9 => v = (.string t0)
  | 10 => v = (.string (t0.extract 17 19))
  | 11 => v = (.int .i64 (numV 10 15 (t0.extract 17 19)))
  | 12 => v = (.string t0)
  | 13 => v = (.string (t0.extract 20 22))
  | 14 => v = (.int .i64 (numV 10 15 (t0.extract 20 22)))
  | 15 => v = (.string t0)
  | 16 => v = (.string (t0.extract 23 25))
  | 17 => v = (.int .i64 (numV 10 15 (t0.extract 23 25)))
  | 18 => v = (.agg #[.int .i64 (numV 10 15 (t0.extract 12 16)), .int .i64 (monV (t0.extract 8 11)), .int .i64 (numV 10 15 (t0.extract 5 7)), .int .i64 (numV 10 15 (t0.extract 17 19)), .int .i64 (numV 10 15 (t0.extract 20 22)), .int .i64 (numV 10 15 (t0.extract 23 25))])
  | 19 => ∃ g, v = .pointer (some ⟨g, 0, none⟩) ∧ Zb x g ∧ n0 < g
  | _ => True
theorem GRd.keep (t0 : ByteArray) (n0 : Nat) {x y : World} (hb : Grew x y) (j : Nat) (v : Value) (hj : j < 20) (h : GRd t0 n0 j x v) : GRd t0 n0 j y v := by
  rcases (show j = 0 ∨ j = 1 ∨ j = 2 ∨ j = 3 ∨ j = 4 ∨ j = 5 ∨ j = 6 ∨ j = 7 ∨ j = 8 ∨ j = 9 ∨ j = 10 ∨ j = 11 ∨ j = 12 ∨ j = 13 ∨ j = 14 ∨ j = 15 ∨ j = 16 ∨ j = 17 ∨ j = 18 ∨ j = 19 by omega) with rfl | rfl | rfl | rfl | rfl | rfl | rfl | rfl | rfl | rfl | rfl | rfl | rfl | rfl | rfl | rfl | rfl | rfl | rfl | rfl
  · exact h
  · exact h
  · exact h
  · exact h
  · exact h
  · exact h
  · exact h
  · exact h
  · exact h
  · exact h
  · exact h
  · exact h
  · exact h
  · exact h
  · exact h
  · exact h
  · exact h
  · exact h
  · exact h
  · obtain ⟨g, h1, h2, h3⟩ := h; exact ⟨g, h1, h2.grew hb, h3⟩
theorem dRd_ne {i j : Nat} (hi : i < 20) (hj : j < 20) (h : j ≠ i) : dRd j ≠ dRd i := by
  rcases (show i = 0 ∨ i = 1 ∨ i = 2 ∨ i = 3 ∨ i = 4 ∨ i = 5 ∨ i = 6 ∨ i = 7 ∨ i = 8 ∨ i = 9 ∨ i = 10 ∨ i = 11 ∨ i = 12 ∨ i = 13 ∨ i = 14 ∨ i = 15 ∨ i = 16 ∨ i = 17 ∨ i = 18 ∨ i = 19 by omega) with rfl | rfl | rfl | rfl | rfl | rfl | rfl | rfl | rfl | rfl | rfl | rfl | rfl | rfl | rfl | rfl | rfl | rfl | rfl | rfl <;> rcases (show j = 0 ∨ j = 1 ∨ j = 2 ∨ j = 3 ∨ j = 4 ∨ j = 5 ∨ j = 6 ∨ j = 7 ∨ j = 8 ∨ j = 9 ∨ j = 10 ∨ j = 11 ∨ j = 12 ∨ j = 13 ∨ j = 14 ∨ j = 15 ∨ j = 16 ∨ j = 17 ∨ j = 18 ∨ j = 19 by omega) with rfl | rfl | rfl | rfl | rfl | rfl | rfl | rfl | rfl | rfl | rfl | rfl | rfl | rfl | rfl | rfl | rfl | rfl | rfl | rfl <;> first | (exact absurd rfl h) | decide
set_option maxRecDepth 100000 in
set_option maxHeartbeats 8000000 in
theorem implRead_x (t0 : ByteArray) (w : World) (ht : Tab w) (hz : t0.size = 29) :
    Calls Tryz.prog 118 #[.string t0] w fun e w' => (∃ v, e = .returned v ∧ ReadIs t0 v) ∧ Grew w w' := by
  have hd := fun a b (x : World) => digNought (t0.extract a b) x (by rw [ByteArray.size_extract]; unfold maxLen; omega)
  have HT : Hid (∀ x, Grew (w.alloc (.cells #[.int .i64 0, .int .i64 0, .int .i64 0, .int .i64 0, .int .i64 0, .int .i64 0] 121)) x → Tab x) := fun x h => ht.grew (((Grew.refl w).alloc _).trans h)
  clear ht
  go_enter Tryz.func118, Tryz.ntmps118
  go_upto_region 3 with fail
  refine region_heads 20 mixed (by decide) (by kernel_rfl) (by kernel_rfl) (by kernel_rfl) (by kernel_rfl) (frRd t0 w.heap.size) dRd (Grew (w.alloc (.cells #[.int .i64 0, .int .i64 0, .int .i64 0, .int .i64 0, .int .i64 0, .int .i64 0] 121))) (GRd t0 w.heap.size) (fun i j hi hj h => dRd_ne hi hj h) ?put (fun _ => undef) rfl ?hS ?step ?done
  case put =>
    intro i o hi ho t v
    rcases (show i = 0 ∨ i = 1 ∨ i = 2 ∨ i = 3 ∨ i = 4 ∨ i = 5 ∨ i = 6 ∨ i = 7 ∨ i = 8 ∨ i = 9 ∨ i = 10 ∨ i = 11 ∨ i = 12 ∨ i = 13 ∨ i = 14 ∨ i = 15 ∨ i = 16 ∨ i = 17 ∨ i = 18 ∨ i = 19 by omega) with rfl | rfl | rfl | rfl | rfl | rfl | rfl | rfl | rfl | rfl | rfl | rfl | rfl | rfl | rfl | rfl | rfl | rfl | rfl | rfl
    all_goals
      obtain rfl := Option.some.inj ho
      rfl
  case step =>
    intro i o hi ho t x hS hdep K hK
    rcases (show i = 0 ∨ i = 1 ∨ i = 2 ∨ i = 3 ∨ i = 4 ∨ i = 5 ∨ i = 6 ∨ i = 7 ∨ i = 8 ∨ i = 9 ∨ i = 10 ∨ i = 11 ∨ i = 12 ∨ i = 13 ∨ i = 14 ∨ i = 15 ∨ i = 16 ∨ i = 17 ∨ i = 18 ∨ i = 19 by omega) with rfl | rfl | rfl | rfl | rfl | rfl | rfl | rfl | rfl | rfl | rfl | rfl | rfl | rfl | rfl | rfl | rfl | rfl | rfl | rfl
    all_goals obtain rfl := Option.some.inj ho
    · have HK : Hid (K ((frRd t0 w.heap.size t).put (some 9) (.string t0)) x) := hK _ _ hS (fun j u hj hne h => h) rfl
      have h2 := HK.out
      unfold frRd at h2 ⊢
      go_simp
      simpa [Act.put, Act.put] using h2
    · have e0 : t 9 = (.string t0) := hdep { on := 0, ground := Ground.data } (by simp) rfl
      have HK : Hid (K ((frRd t0 w.heap.size t).put (some 10) (.string (t0.extract 12 16))) x) := hK _ _ hS (fun j u hj hne h => h) rfl
      have h2 := HK.out
      unfold frRd at h2 ⊢
      go_simp
      simpa [Act.put, e0, hz] using h2
    · have e1 : t 10 = (.string (t0.extract 12 16)) := hdep { on := 1, ground := Ground.data } (by simp) rfl
      refine step_call1 rfl 139 (.tmp 10) _ rfl (.string (t0.extract 12 16)) e1 (Go.Proofs.enters_of Tryz.func139 (by kernel_rfl) rfl _) (fun v y => v = (.int .i64 (numV 10 15 (t0.extract 12 16))) ∧ Grew x y) ((hd 12 16 x).mono ?_) ?_
      · rintro e y ⟨h0, h1⟩
        exact ⟨_, h0, rfl, h1⟩
      · rintro v y ⟨h0, h1⟩
        exact hK v y (hS.trans h1) (fun j u hj hne h => GRd.keep t0 w.heap.size h1 j u hj h) h0
    · have HK : Hid (K ((frRd t0 w.heap.size t).put (some 12) (.string t0)) x) := hK _ _ hS (fun j u hj hne h => h) rfl
      have h2 := HK.out
      unfold frRd at h2 ⊢
      go_simp
      simpa [Act.put, Act.put] using h2
    · have e3 : t 12 = (.string t0) := hdep { on := 3, ground := Ground.data } (by simp) rfl
      have HK : Hid (K ((frRd t0 w.heap.size t).put (some 13) (.string (t0.extract 8 11))) x) := hK _ _ hS (fun j u hj hne h => h) rfl
      have h2 := HK.out
      unfold frRd at h2 ⊢
      go_simp
      simpa [Act.put, e3, hz] using h2
    · have e4 : t 13 = (.string (t0.extract 8 11)) := hdep { on := 4, ground := Ground.data } (by simp) rfl
      refine step_call1 rfl 140 (.tmp 13) _ rfl (.string (t0.extract 8 11)) e4 (Go.Proofs.enters_of Tryz.func140 (by kernel_rfl) rfl _) (fun v y => v = (.int .i64 (monV (t0.extract 8 11))) ∧ Grew x y) ((monNamed (t0.extract 8 11) x).mono ?_) ?_
      · rintro e y ⟨h0, h1⟩
        exact ⟨_, h0, rfl, h1⟩
      · rintro v y ⟨h0, h1⟩
        exact hK v y (hS.trans h1) (fun j u hj hne h => GRd.keep t0 w.heap.size h1 j u hj h) h0
    · have HK : Hid (K ((frRd t0 w.heap.size t).put (some 15) (.string t0)) x) := hK _ _ hS (fun j u hj hne h => h) rfl
      have h2 := HK.out
      unfold frRd at h2 ⊢
      go_simp
      simpa [Act.put, Act.put] using h2
    · have e6 : t 15 = (.string t0) := hdep { on := 6, ground := Ground.data } (by simp) rfl
      have HK : Hid (K ((frRd t0 w.heap.size t).put (some 16) (.string (t0.extract 5 7))) x) := hK _ _ hS (fun j u hj hne h => h) rfl
      have h2 := HK.out
      unfold frRd at h2 ⊢
      go_simp
      simpa [Act.put, e6, hz] using h2
    · have e7 : t 16 = (.string (t0.extract 5 7)) := hdep { on := 7, ground := Ground.data } (by simp) rfl
      refine step_call1 rfl 139 (.tmp 16) _ rfl (.string (t0.extract 5 7)) e7 (Go.Proofs.enters_of Tryz.func139 (by kernel_rfl) rfl _) (fun v y => v = (.int .i64 (numV 10 15 (t0.extract 5 7))) ∧ Grew x y) ((hd 5 7 x).mono ?_) ?_
      · rintro e y ⟨h0, h1⟩
        exact ⟨_, h0, rfl, h1⟩
      · rintro v y ⟨h0, h1⟩
        exact hK v y (hS.trans h1) (fun j u hj hne h => GRd.keep t0 w.heap.size h1 j u hj h) h0
    · have HK : Hid (K ((frRd t0 w.heap.size t).put (some 18) (.string t0)) x) := hK _ _ hS (fun j u hj hne h => h) rfl
      have h2 := HK.out
      unfold frRd at h2 ⊢
      go_simp
      simpa [Act.put, Act.put] using h2
    · have e9 : t 18 = (.string t0) := hdep { on := 9, ground := Ground.data } (by simp) rfl
      have HK : Hid (K ((frRd t0 w.heap.size t).put (some 19) (.string (t0.extract 17 19))) x) := hK _ _ hS (fun j u hj hne h => h) rfl
      have h2 := HK.out
      unfold frRd at h2 ⊢
      go_simp
      simpa [Act.put, e9, hz] using h2
    · have e10 : t 19 = (.string (t0.extract 17 19)) := hdep { on := 10, ground := Ground.data } (by simp) rfl
      refine step_call1 rfl 139 (.tmp 19) _ rfl (.string (t0.extract 17 19)) e10 (Go.Proofs.enters_of Tryz.func139 (by kernel_rfl) rfl _) (fun v y => v = (.int .i64 (numV 10 15 (t0.extract 17 19))) ∧ Grew x y) ((hd 17 19 x).mono ?_) ?_
      · rintro e y ⟨h0, h1⟩
        exact ⟨_, h0, rfl, h1⟩
      · rintro v y ⟨h0, h1⟩
        exact hK v y (hS.trans h1) (fun j u hj hne h => GRd.keep t0 w.heap.size h1 j u hj h) h0
    · have HK : Hid (K ((frRd t0 w.heap.size t).put (some 21) (.string t0)) x) := hK _ _ hS (fun j u hj hne h => h) rfl
      have h2 := HK.out
      unfold frRd at h2 ⊢
      go_simp
      simpa [Act.put, Act.put] using h2
    · have e12 : t 21 = (.string t0) := hdep { on := 12, ground := Ground.data } (by simp) rfl
      have HK : Hid (K ((frRd t0 w.heap.size t).put (some 22) (.string (t0.extract 20 22))) x) := hK _ _ hS (fun j u hj hne h => h) rfl
      have h2 := HK.out
      unfold frRd at h2 ⊢
      go_simp
      simpa [Act.put, e12, hz] using h2
    · have e13 : t 22 = (.string (t0.extract 20 22)) := hdep { on := 13, ground := Ground.data } (by simp) rfl
      refine step_call1 rfl 139 (.tmp 22) _ rfl (.string (t0.extract 20 22)) e13 (Go.Proofs.enters_of Tryz.func139 (by kernel_rfl) rfl _) (fun v y => v = (.int .i64 (numV 10 15 (t0.extract 20 22))) ∧ Grew x y) ((hd 20 22 x).mono ?_) ?_
      · rintro e y ⟨h0, h1⟩
        exact ⟨_, h0, rfl, h1⟩
      · rintro v y ⟨h0, h1⟩
        exact hK v y (hS.trans h1) (fun j u hj hne h => GRd.keep t0 w.heap.size h1 j u hj h) h0
    · have HK : Hid (K ((frRd t0 w.heap.size t).put (some 24) (.string t0)) x) := hK _ _ hS (fun j u hj hne h => h) rfl
      have h2 := HK.out
      unfold frRd at h2 ⊢
      go_simp
      simpa [Act.put, Act.put] using h2
    · have e15 : t 24 = (.string t0) := hdep { on := 15, ground := Ground.data } (by simp) rfl
      have HK : Hid (K ((frRd t0 w.heap.size t).put (some 25) (.string (t0.extract 23 25))) x) := hK _ _ hS (fun j u hj hne h => h) rfl
      have h2 := HK.out
      unfold frRd at h2 ⊢
      go_simp
      simpa [Act.put, e15, hz] using h2
    · have e16 : t 25 = (.string (t0.extract 23 25)) := hdep { on := 16, ground := Ground.data } (by simp) rfl
      refine step_call1 rfl 139 (.tmp 25) _ rfl (.string (t0.extract 23 25)) e16 (Go.Proofs.enters_of Tryz.func139 (by kernel_rfl) rfl _) (fun v y => v = (.int .i64 (numV 10 15 (t0.extract 23 25))) ∧ Grew x y) ((hd 23 25 x).mono ?_) ?_
      · rintro e y ⟨h0, h1⟩
        exact ⟨_, h0, rfl, h1⟩
      · rintro v y ⟨h0, h1⟩
        exact hK v y (hS.trans h1) (fun j u hj hne h => GRd.keep t0 w.heap.size h1 j u hj h) h0
    · have e2 : t 11 = (.int .i64 (numV 10 15 (t0.extract 12 16))) := hdep { on := 2, ground := Ground.data } (by simp) rfl
      have e5 : t 14 = (.int .i64 (monV (t0.extract 8 11))) := hdep { on := 5, ground := Ground.data } (by simp) rfl
      have e8 : t 17 = (.int .i64 (numV 10 15 (t0.extract 5 7))) := hdep { on := 8, ground := Ground.data } (by simp) rfl
      have e11 : t 20 = (.int .i64 (numV 10 15 (t0.extract 17 19))) := hdep { on := 11, ground := Ground.data } (by simp) rfl
      have e14 : t 23 = (.int .i64 (numV 10 15 (t0.extract 20 22))) := hdep { on := 14, ground := Ground.data } (by simp) rfl
      have e17 : t 26 = (.int .i64 (numV 10 15 (t0.extract 23 25))) := hdep { on := 17, ground := Ground.data } (by simp) rfl
      have HK : Hid (K ((frRd t0 w.heap.size t).put (some 27) (.agg #[.int .i64 (numV 10 15 (t0.extract 12 16)), .int .i64 (monV (t0.extract 8 11)), .int .i64 (numV 10 15 (t0.extract 5 7)), .int .i64 (numV 10 15 (t0.extract 17 19)), .int .i64 (numV 10 15 (t0.extract 20 22)), .int .i64 (numV 10 15 (t0.extract 23 25))])) x) := hK _ _ hS (fun j u hj hne h => h) rfl
      have h2 := HK.out
      unfold frRd at h2 ⊢
      go_simp
      simpa [Act.put, e2, e5, e8, e11, e14, e17] using h2
    · have hba : Grew x (x.alloc (.cells #[.int .i64 0, .int .i64 0, .int .i64 0, .int .i64 0, .int .i64 0, .int .i64 0] 121)) := (Grew.refl x).alloc _
      have hxs : w.heap.size < x.heap.size := by have := hS.low.size; simp at this; omega
      have HK : Hid (K ((frRd t0 w.heap.size t).put (some 4) (.pointer (some ⟨x.heap.size, 0, none⟩))) (x.alloc (.cells #[.int .i64 0, .int .i64 0, .int .i64 0, .int .i64 0, .int .i64 0, .int .i64 0] 121))) := hK _ _ (hS.trans hba) (fun j u hj hne h => GRd.keep t0 w.heap.size hba j u hj h) ⟨x.heap.size, rfl, Zb.of (t := 121) (Grew.refl _), hxs⟩
      unfold frRd
      go_simp
      exact HK.out
  case hS => exact (Grew.refl _).drew
  case done =>
    intro t x hS hG
    have e27 : t 27 = (.agg #[.int .i64 (numV 10 15 (t0.extract 12 16)), .int .i64 (monV (t0.extract 8 11)), .int .i64 (numV 10 15 (t0.extract 5 7)), .int .i64 (numV 10 15 (t0.extract 17 19)), .int .i64 (numV 10 15 (t0.extract 20 22)), .int .i64 (numV 10 15 (t0.extract 23 25))]) := hG 18 (by decide)
    obtain ⟨g, e4, hZ, hgn⟩ : ∃ g, t 4 = .pointer (some ⟨g, 0, none⟩) ∧ Zb x g ∧ w.heap.size < g := hG 19 (by decide)
    have hD0 := hZ.puts ((numV 10 15 (t0.extract 12 16))) ((monV (t0.extract 8 11))) ((numV 10 15 (t0.extract 5 7))) ((numV 10 15 (t0.extract 17 19))) ((numV 10 15 (t0.extract 20 22))) ((numV 10 15 (t0.extract 23 25)))
    have G0 := Grew.puts (g := g) (show Grew _ x from hS) (by simp; omega) (.int .i64 (numV 10 15 (t0.extract 12 16))) (.int .i64 (monV (t0.extract 8 11))) (.int .i64 (numV 10 15 (t0.extract 5 7))) (.int .i64 (numV 10 15 (t0.extract 17 19))) (.int .i64 (numV 10 15 (t0.extract 20 22))) (.int .i64 (numV 10 15 (t0.extract 23 25)))
    obtain ⟨⟨_, c0, c1, c2, c3, c4, c5⟩, hf⟩ := hZ
    have f0 := hf 0
    have f1 := hf 1
    have f2 := hf 2
    have f3 := hf 3
    have f4 := hf 4
    have f5 := hf 5
    clear hf hG hS
    show wpList Tryz.prog _ _ [_] _ x
    unfold frRd
    rw [e27, e4]
    clear e27 e4
    go_upto_region 4 with fail
    have hD : Dt _ g _ _ _ _ _ _ := hD0
    have G2 := G0
    clear hD0 G0 c0 c1 c2 c3 c4 c5 f0 f1 f2 f3 f4 f5
    generalize hX : ((((((x.setCell ⟨g, 0, none⟩ (.int .i64 (numV 10 15 (t0.extract 12 16)))).setCell ⟨g, 1, none⟩ (.int .i64 (monV (t0.extract 8 11)))).setCell ⟨g, 2, none⟩ (.int .i64 (numV 10 15 (t0.extract 5 7)))).setCell ⟨g, 3, none⟩ (.int .i64 (numV 10 15 (t0.extract 17 19)))).setCell ⟨g, 4, none⟩ (.int .i64 (numV 10 15 (t0.extract 20 22)))).setCell ⟨g, 5, none⟩ (.int .i64 (numV 10 15 (t0.extract 23 25)))) = wx at hD G2 ⊢
    clear hX
    have HP : Hid (∀ y m d h i s : Int, okD y m d h i s → showA y m d h i s = t0 → (numV 10 15 (t0.extract 12 16)) = y ∧ (monV (t0.extract 8 11)) = m ∧ (numV 10 15 (t0.extract 5 7)) = d ∧ (numV 10 15 (t0.extract 17 19)) = h ∧ (numV 10 15 (t0.extract 20 22)) = i ∧ (numV 10 15 (t0.extract 23 25)) = s) := fun y m d h i s ok e => by
      obtain ⟨a1, a2, a3, a4, a5, a6, _⟩ := parts_of ok e
      exact ⟨a1, a2, a3, a4, a5, a6⟩
    generalize numV 10 15 (t0.extract 12 16) = y at hD HP
    generalize monV (t0.extract 8 11) = m at hD HP
    generalize numV 10 15 (t0.extract 5 7) = d at hD HP
    generalize numV 10 15 (t0.extract 17 19) = h at hD HP
    generalize numV 10 15 (t0.extract 20 22) = i at hD HP
    generalize numV 10 15 (t0.extract 23 25) = s at hD HP
    have k := hD
    obtain ⟨_, k0, k1, k2, k3, k4, k5⟩ := k
    have HZ : Hid (t0.size = 29) := hz
    clear hd
    by_cases he : showV y m d h i s = t0
    · have hq := bytes_eq he
      have HE : Hid (okD y m d h i s ∧ showA y m d h i s = t0) := showV_full hz he
      clear he hz
      go_wp2_with (go_at_call 141; refine (implShow _ _ _ _ _ _ _ (HT.out _ G2)).mono ?_; rintro e x3 ⟨rfl, hb3⟩; have D3 := hD.grew hb3; obtain ⟨_, q0, q1, q2, q3, q4, q5⟩ := D3; have G3 := G2.trans hb3; obtain ⟨r0, r1, r2, r3, r4, r5⟩ := boxCells G3; have f0 := boxFree G3 0; have f1 := boxFree G3 1; have f2 := boxFree G3 2; have f3 := boxFree G3 3; have f4 := boxFree G3 4; have f5 := boxFree G3 5; clear hb3)
      refine bodyPost_ret (v := .tuple #[.agg #[.int .i64 y, .int .i64 m, .int .i64 d, .int .i64 h, .int .i64 i, .int .i64 s], .bool true]) (by simp [results, Tryz.results118, go_sem, r0, r1, r2, r3, r4, r5]) rfl ⟨⟨_, rfl, .inl ⟨y, m, d, h, i, s, HE.out.1, HE.out.2, rfl⟩⟩, ?_⟩
      exact Grew.puts (((Grew.refl w).alloc _).trans G3) (Nat.le_refl _) _ _ _ _ _ _
    · have hq := bytes_ne he
      have HE : Hid (∀ y m d h i s : Int, okD y m d h i s → showA y m d h i s ≠ t0) := fun y' m' d' h' i' s' ok' e' => by
        obtain ⟨rfl, rfl, rfl, rfl, rfl, rfl⟩ := HP.out y' m' d' h' i' s' ok' e'
        exact he ((showV_of ok').trans e')
      clear he hz
      go_wp2_with (go_at_call 141; refine (implShow _ _ _ _ _ _ _ (HT.out _ G2)).mono ?_; rintro e x3 ⟨rfl, hb3⟩; have G3 := G2.trans hb3; obtain ⟨r0, r1, r2, r3, r4, r5⟩ := boxCells G3; have f0 := boxFree G3 0; have f1 := boxFree G3 1; have f2 := boxFree G3 2; have f3 := boxFree G3 3; have f4 := boxFree G3 4; have f5 := boxFree G3 5; clear hb3)
      refine bodyPost_ret (v := .tuple #[.agg #[.int .i64 0, .int .i64 0, .int .i64 0, .int .i64 0, .int .i64 0, .int .i64 0], .bool false]) (by simp [results, Tryz.results118, go_sem, r0, r1, r2, r3, r4, r5]) rfl ⟨⟨_, rfl, .inr ⟨HE.out, rfl⟩⟩, ?_⟩
      exact Grew.puts (((Grew.refl w).alloc _).trans G3) (Nat.le_refl _) _ _ _ _ _ _

theorem implRead_o (t : ByteArray) (w : World) (hm : t.size ≤ maxLen) (hz : t.size ≠ 29) :
    Calls Tryz.prog 118 #[.string t] w fun e w' => (∃ v, e = .returned v ∧ ReadIs t v) ∧ Grew w w' := by
  have hm2 := hm
  unfold maxLen at hm2
  have HE : Hid (∀ y m d h i s : Int, okD y m d h i s → showA y m d h i s ≠ t) := fun y m d h i s _ e => hz (by rw [← e]; exact showA_size y m d h i s)
  go_enter Tryz.func118, Tryz.ntmps118
  go_wp2
  refine bodyPost_ret (v := .tuple #[.agg #[.int .i64 0, .int .i64 0, .int .i64 0, .int .i64 0, .int .i64 0, .int .i64 0], .bool false]) (by simp [results, Tryz.results118, go_sem]) rfl ⟨⟨_, rfl, .inr ⟨HE.out, rfl⟩⟩, (Grew.refl w).alloc _⟩
theorem implRead (t : ByteArray) (w : World) (ht : Tab w) (hm : t.size ≤ maxLen) :
    Calls Tryz.prog 118 #[.string t] w fun e w' => (∃ v, e = .returned v ∧ ReadIs t v) ∧ Grew w w' := by
  by_cases hz : t.size = 29
  · exact implRead_x t w ht hz
  · exact implRead_o t w hm hz
end Go.Proofs.YtkaogmdhjcgcdaaGreatDoor.Dd
