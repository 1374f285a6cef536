/-
  What the program's methods tell of a directive is what the specification reads of it.
-/
import Derived.Test.YtccnkmffadmfhaaDoorCtqC
namespace Go.Proofs.YtccnkmffadmfhaaDoor
open Go.RowKit
set_option linter.unusedVariables false

theorem look_is (k : ByteArray) : lookF tb9 k = if wdM = k then some 35 else if wdP = k then some 34 else if wdC = k then some 33 else if wdS = k then some 32 else if wdT = k then some 31 else if nmT = k then some 30 else if nmS = k then some 29 else if nmA = k then some 28 else none := by
  unfold tb9
  simp only [lookF_snoc]
  rfl
theorem key_word {x wd : ByteArray} (h : eqC x = true) (hw : (61 : UInt8) ∉ wd.data.toList) : ¬ wd = key9 x := fun e => hw (by
  rw [e]; unfold key9; rw [if_pos h, ByteArray.data_append, Array.toList_append]; simp)
theorem key_name {x n name : ByteArray} (h : eqC x = true) (hn : NameEq n name) : name = key9 x ↔ eqA x = n := by
  have hk : (key9 x).data.toList = (eqA x).data.toList ++ [61] := by unfold key9; rw [if_pos h, ByteArray.data_append, Array.toList_append]
  constructor
  · intro e
    have h2 : n.data.toList ++ [61] = (eqA x).data.toList ++ [61] := by rw [← hn.1, ← hk, e]
    exact ext_z (List.append_cancel_right h2).symm
  · intro e
    exact ext_z (by rw [hn.1, hk, e])
theorem up_a (c : Ct) (v : ByteArray) : upC 28 c v = { c with a := tell c.a v } := rfl
theorem up_s (c : Ct) (v : ByteArray) : upC 29 c v = { c with s := tell c.s v } := rfl
theorem up_t (c : Ct) (v : ByteArray) : upC 30 c v = { c with t := tell c.t v } := rfl
theorem up_n (c : Ct) (v : ByteArray) : upC 31 c v = { c with t := if c.t < 0 then 1000000000 else c.t } := rfl
theorem up_ns (c : Ct) (v : ByteArray) : upC 32 c v = { c with ns := true } := rfl
theorem up_nc (c : Ct) (v : ByteArray) : upC 33 c v = { c with nc := true } := rfl
theorem up_pr (c : Ct) (v : ByteArray) : upC 34 c v = { c with pr := true } := rfl
theorem up_mu (c : Ct) (v : ByteArray) : upC 35 c v = { c with mu := true } := rfl
theorem name_ne {x name : ByteArray} (hw : (61 : UInt8) ∉ x.data.toList) (hn : (61 : UInt8) ∈ name.data.toList) : ¬ name = x := fun e => hw (by rw [← e]; exact hn)
theorem stX_is (c : Ct) (x : ByteArray) : stX c x = stp c x := by
  unfold stX
  rw [look_is]
  cases h : eqC x with
  | true =>
    rw [stp_yes h, if_neg (key_word h (by decide)), if_neg (key_word h (by decide)), if_neg (key_word h (by decide)), if_neg (key_word h (by decide)), if_neg (key_word h (by decide))]
    have ka := key_name h nA_eq
    have ks := key_name h nS_eq
    have kt := key_name h nT_eq
    by_cases h1 : eqA x = n0A
    · have h2 : ¬ eqA x = n0S := by rw [h1]; decide
      have h3 : ¬ eqA x = wdT := by rw [h1]; decide
      rw [if_neg (fun e => h3 (kt.1 e)), if_neg (fun e => h2 (ks.1 e)), if_pos (ka.2 h1), if_pos h1, if_neg h2, if_neg h3]
      exact up_a c (eqB x)
    · by_cases h2 : eqA x = n0S
      · have h3 : ¬ eqA x = wdT := by rw [h2]; decide
        rw [if_neg (fun e => h3 (kt.1 e)), if_pos (ks.2 h2), if_neg h1, if_pos h2, if_neg h3]
        exact up_s c (eqB x)
      · by_cases h3 : eqA x = wdT
        · rw [if_pos (kt.2 h3), if_neg h1, if_neg h2, if_pos h3]
          exact up_t c (eqB x)
        · rw [if_neg (fun e => h3 (kt.1 e)), if_neg (fun e => h2 (ks.1 e)), if_neg (fun e => h1 (ka.1 e)), if_neg h1, if_neg h2, if_neg h3]
  | false =>
    have ho := eq_out x
    have hx := (eq_no h).1
    have hk : key9 x = x := by unfold key9; rw [if_neg (by rw [h]; decide)]; exact hx.symm
    rw [← hx] at ho
    rw [stp_no h, hk]
    unfold st4
    by_cases e1 : x = wdT
    · rw [if_pos e1, if_neg (by rw [e1]; decide), if_neg (by rw [e1]; decide), if_neg (by rw [e1]; decide), if_neg (by rw [e1]; decide), if_pos e1.symm]
      show upC _ c (eqB x) = _
      rw [up_n]
      split <;> rfl
    · rw [if_neg e1]
      by_cases e2 : x = wdS
      · rw [if_pos e2, if_neg (by rw [e2]; decide), if_neg (by rw [e2]; decide), if_neg (by rw [e2]; decide), if_pos e2.symm]
        exact up_ns c (eqB x)
      · rw [if_neg e2]
        by_cases e3 : x = wdC
        · rw [if_pos e3, if_neg (by rw [e3]; decide), if_neg (by rw [e3]; decide), if_pos e3.symm]
          exact up_nc c (eqB x)
        · rw [if_neg e3]
          by_cases e4 : x = wdP
          · rw [if_pos e4, if_neg (by rw [e4]; decide), if_pos e4.symm]
            exact up_pr c (eqB x)
          · rw [if_neg e4]
            by_cases e5 : x = wdM
            · rw [if_pos e5, if_pos e5.symm]
              exact up_mu c (eqB x)
            · rw [if_neg e5, if_neg (fun e => e5 e.symm), if_neg (fun e => e4 e.symm), if_neg (fun e => e3 e.symm), if_neg (fun e => e2 e.symm), if_neg (fun e => e1 e.symm), if_neg (name_ne ho (by decide)), if_neg (name_ne ho (by decide)), if_neg (name_ne ho (by decide))]
theorem upM (j : Nat) (s : ByteArray) (hj : lookF tb9 s = some j) (c : Ct) (hc : ctB c = true) (v : ByteArray) (hv : v.size ≤ 1000) (p : Nat) (w : World) (hp : CtB w p c) : Calls Tryd.prog j #[.pointer (some ⟨p, 0, Option.none⟩), .string v] w fun e w' => e = .returned (.tuple #[]) ∧ CtB w' p (upC j c v) ∧ w.grownBy w' (some p) := by
  rcases tb9_in hj with rfl | rfl | rfl | rfl | rfl | rfl | rfl | rfl
  · rw [up_a]; exact implMa c hc v hv p w hp
  · rw [up_s]; exact implMs c hc v hv p w hp
  · rw [up_t]; exact implMt c hc v hv p w hp
  · rw [up_n]; exact implMn c hc v hv p w hp
  · rw [up_ns]; exact implMns c v p w hp
  · rw [up_nc]; exact implMnc c v p w hp
  · rw [up_pr]; exact implMpr c v p w hp
  · rw [up_mu]; exact implMmu c v p w hp
end Go.Proofs.YtccnkmffadmfhaaDoor
