/-
  The methods of the program's reader of control, by their contracts.
-/
import Derived.Test.YtccnkmffadmfhaaDoorCtlC
import Derived.Test.YtccnkmffadmfhaaDoorCtlZ
import Derived.Test.YtccnkmffadmfhaaDoorNum
import Derived.Test.YtccnkmffadmfhaaDoorMapF
import Derived.Handy
namespace Go.Proofs.YtccnkmffadmfhaaDoor
open Go.RowKit Go.Sort
set_option linter.unusedVariables false

theorem tell_first {n : Int} {v : ByteArray} (h : -1 ≤ n) (h0 : ∀ t, 0 ≤ numV 10 15 t) : (if n = -1 ∧ numOk 10 15 v = true then min (numV 10 15 v) 1000000000 else n) = tell n v := by
  have := h0 v
  unfold tell minI
  generalize numV 10 15 v = m at this ⊢
  cases numOk 10 15 v with
  | false => simp
  | true =>
    by_cases h2 : n = -1
    · subst h2
      simp
      repeat' split
      all_goals omega
    · have h3 : ¬ n < 0 := by omega
      simp [h2, h3]
theorem implFst (n : Int) (hn : -1 ≤ n) (v : ByteArray) (hv : v.size ≤ 1000) (w : World) : Calls Tryd.prog 46 #[.int .i64 n, .string v] w fun e w' => e = .returned (.int .i64 (tell n v)) ∧ Below w.heap.size w w' := by
  have hd := fun W => implDig v W (by unfold maxLen; omega)
  have HT : Hid ((if n = -1 ∧ numOk 10 15 v = true then min (numV 10 15 v) 1000000000 else n) = tell n v) := tell_first hn (fun t => (numV_bound9 t).1)
  unfold numE at hd
  generalize tell n v = T at HT ⊢
  generalize numV 10 15 v = m at hd HT
  generalize numOk 10 15 v = b at hd HT
  by_cases h : n = -1
  · subst h
    cases b with
    | true =>
      have H : Hid (min m 1000000000 = T) := (by rw [← HT.out, if_pos ⟨rfl, rfl⟩] : min m 1000000000 = T)
      clear HT
      go_enter Tryd.func46, Tryd.ntmps46
      go_wp2_with fail
      refine (hd _).mono ?_
      rintro e w1 ⟨rfl, hb1⟩
      have B1 : Hid (Below w.heap.size w w1) := hb1
      clear hb1 hd
      go_wp2
      go_ret
      exact ⟨ret_i9 H.out, B1.out⟩
    | false =>
      have H : Hid (-1 = T) := (by rw [← HT.out, if_neg (fun h => by cases h.2)] : -1 = T)
      clear HT
      go_enter Tryd.func46, Tryd.ntmps46
      go_wp2_with fail
      refine (hd _).mono ?_
      rintro e w1 ⟨rfl, hb1⟩
      have B1 : Hid (Below w.heap.size w w1) := hb1
      clear hb1 hd
      go_wp2
      go_ret
      exact ⟨ret_i9 H.out, B1.out⟩
  · have H : Hid (n = T) := (by rw [← HT.out, if_neg (fun hh => h hh.1)] : n = T)
    clear HT
    go_enter Tryd.func46, Tryd.ntmps46
    go_wp2_with fail
    refine (hd _).mono ?_
    rintro e w1 ⟨rfl, hb1⟩
    have B1 : Hid (Below w.heap.size w w1) := hb1
    clear hb1 hd
    go_wp2
    go_ret
    exact ⟨ret_i9 H.out, B1.out⟩
set_option maxHeartbeats 1000000 in
theorem implMa (c : Ct) (hc : ctB c = true) (v : ByteArray) (hv : v.size ≤ 1000) (p : Nat) (w : World) (hp : CtB w p c) : Calls Tryd.prog 28 #[.pointer (some ⟨p, 0, Option.none⟩), .string v] w fun e w' => e = .returned (.tuple #[]) ∧ CtB w' p { c with a := tell c.a v } ∧ w.grownBy w' (some p) := by
  have hl := ct_low hc
  have hf := fun W => implFst c.a (by omega) v hv W
  generalize tell c.a v = T at hf ⊢
  have P0 : Hid (CtB w p c) := hp
  obtain ⟨x0, x1, x2, x3, x4, x5, x6⟩ := hp.all
  clear hp
  go_enter Tryd.func28, Tryd.ntmps28
  go_wp2_with fail
  refine (hf _).mono ?_
  rintro e w1 ⟨rfl, hb1⟩
  have P1 : Hid (CtB w1 p c) := P0.out.kept hb1
  have G1 : Hid (w.grownBy w1 (some p)) := grownE_below (grownE_self w (some p)) hb1
  clear hb1 hf P0 x0 x1 x2 x3 x4 x5 x6
  obtain ⟨x0, x1, x2, x3, x4, x5, x6⟩ := P1.out.all
  have zf := P1.out.fz
  go_wp2
  go_returns
  exact ⟨rfl, P1.out.put (i := 0) (by decide) (.int .i64 T) _ rfl, grownE_put G1.out 0 _⟩
set_option maxHeartbeats 1000000 in
theorem implMs (c : Ct) (hc : ctB c = true) (v : ByteArray) (hv : v.size ≤ 1000) (p : Nat) (w : World) (hp : CtB w p c) : Calls Tryd.prog 29 #[.pointer (some ⟨p, 0, Option.none⟩), .string v] w fun e w' => e = .returned (.tuple #[]) ∧ CtB w' p { c with s := tell c.s v } ∧ w.grownBy w' (some p) := by
  have hl := ct_low hc
  have hf := fun W => implFst c.s (by omega) v hv W
  generalize tell c.s v = T at hf ⊢
  have P0 : Hid (CtB w p c) := hp
  obtain ⟨x0, x1, x2, x3, x4, x5, x6⟩ := hp.all
  clear hp
  go_enter Tryd.func29, Tryd.ntmps29
  go_wp2_with fail
  refine (hf _).mono ?_
  rintro e w1 ⟨rfl, hb1⟩
  have P1 : Hid (CtB w1 p c) := P0.out.kept hb1
  have G1 : Hid (w.grownBy w1 (some p)) := grownE_below (grownE_self w (some p)) hb1
  clear hb1 hf P0 x0 x1 x2 x3 x4 x5 x6
  obtain ⟨x0, x1, x2, x3, x4, x5, x6⟩ := P1.out.all
  have zf := P1.out.fz
  go_wp2
  go_returns
  exact ⟨rfl, P1.out.put (i := 1) (by decide) (.int .i64 T) _ rfl, grownE_put G1.out 1 _⟩
set_option maxHeartbeats 1000000 in
theorem implMt (c : Ct) (hc : ctB c = true) (v : ByteArray) (hv : v.size ≤ 1000) (p : Nat) (w : World) (hp : CtB w p c) : Calls Tryd.prog 30 #[.pointer (some ⟨p, 0, Option.none⟩), .string v] w fun e w' => e = .returned (.tuple #[]) ∧ CtB w' p { c with t := tell c.t v } ∧ w.grownBy w' (some p) := by
  have hl := ct_low hc
  have hf := fun W => implFst c.t (by omega) v hv W
  generalize tell c.t v = T at hf ⊢
  have P0 : Hid (CtB w p c) := hp
  obtain ⟨x0, x1, x2, x3, x4, x5, x6⟩ := hp.all
  clear hp
  go_enter Tryd.func30, Tryd.ntmps30
  go_wp2_with fail
  refine (hf _).mono ?_
  rintro e w1 ⟨rfl, hb1⟩
  have P1 : Hid (CtB w1 p c) := P0.out.kept hb1
  have G1 : Hid (w.grownBy w1 (some p)) := grownE_below (grownE_self w (some p)) hb1
  clear hb1 hf P0 x0 x1 x2 x3 x4 x5 x6
  obtain ⟨x0, x1, x2, x3, x4, x5, x6⟩ := P1.out.all
  have zf := P1.out.fz
  go_wp2
  go_returns
  exact ⟨rfl, P1.out.put (i := 2) (by decide) (.int .i64 T) _ rfl, grownE_put G1.out 2 _⟩
set_option maxHeartbeats 1000000 in
theorem implMn (c : Ct) (hc : ctB c = true) (v : ByteArray) (hv : v.size ≤ 1000) (p : Nat) (w : World) (hp : CtB w p c) : Calls Tryd.prog 31 #[.pointer (some ⟨p, 0, Option.none⟩), .string v] w fun e w' => e = .returned (.tuple #[]) ∧ CtB w' p { c with t := if c.t < 0 then 1000000000 else c.t } ∧ w.grownBy w' (some p) := by
  have hl := ct_low hc
  have P0 : Hid (CtB w p c) := hp
  obtain ⟨x0, x1, x2, x3, x4, x5, x6⟩ := hp.all
  have zf := hp.fz
  clear hp
  by_cases h : c.t = -1
  · have e : (if c.t < 0 then 1000000000 else c.t) = 1000000000 := if_pos (by omega)
    rw [e]
    rw [h] at x2
    clear e
    go_enter Tryd.func31, Tryd.ntmps31
    go_wp2
    go_returns
    exact ⟨rfl, P0.out.put (i := 2) (by decide) (.int .i64 1000000000) _ rfl, grownE_put (grownE_self w (some p)) 2 _⟩
  · have e : (if c.t < 0 then 1000000000 else c.t) = c.t := if_neg (by omega)
    rw [e]
    clear e
    go_enter Tryd.func31, Tryd.ntmps31
    go_wp2
    go_returns
    exact ⟨rfl, P0.out, grownE_self w (some p)⟩
set_option maxHeartbeats 1000000 in
theorem implMns (c : Ct) (v : ByteArray) (p : Nat) (w : World) (hp : CtB w p c) : Calls Tryd.prog 32 #[.pointer (some ⟨p, 0, Option.none⟩), .string v] w fun e w' => e = .returned (.tuple #[]) ∧ CtB w' p { c with ns := true } ∧ w.grownBy w' (some p) := by
  have P0 : Hid (CtB w p c) := hp
  obtain ⟨x0, x1, x2, x3, x4, x5, x6⟩ := hp.all
  have zf := hp.fz
  clear hp
  go_enter Tryd.func32, Tryd.ntmps32
  go_wp2
  go_returns
  exact ⟨rfl, P0.out.put (i := 3) (by decide) (.bool true) _ rfl, grownE_put (grownE_self w (some p)) 3 _⟩
set_option maxHeartbeats 1000000 in
theorem implMnc (c : Ct) (v : ByteArray) (p : Nat) (w : World) (hp : CtB w p c) : Calls Tryd.prog 33 #[.pointer (some ⟨p, 0, Option.none⟩), .string v] w fun e w' => e = .returned (.tuple #[]) ∧ CtB w' p { c with nc := true } ∧ w.grownBy w' (some p) := by
  have P0 : Hid (CtB w p c) := hp
  obtain ⟨x0, x1, x2, x3, x4, x5, x6⟩ := hp.all
  have zf := hp.fz
  clear hp
  go_enter Tryd.func33, Tryd.ntmps33
  go_wp2
  go_returns
  exact ⟨rfl, P0.out.put (i := 4) (by decide) (.bool true) _ rfl, grownE_put (grownE_self w (some p)) 4 _⟩
set_option maxHeartbeats 1000000 in
theorem implMpr (c : Ct) (v : ByteArray) (p : Nat) (w : World) (hp : CtB w p c) : Calls Tryd.prog 34 #[.pointer (some ⟨p, 0, Option.none⟩), .string v] w fun e w' => e = .returned (.tuple #[]) ∧ CtB w' p { c with pr := true } ∧ w.grownBy w' (some p) := by
  have P0 : Hid (CtB w p c) := hp
  obtain ⟨x0, x1, x2, x3, x4, x5, x6⟩ := hp.all
  have zf := hp.fz
  clear hp
  go_enter Tryd.func34, Tryd.ntmps34
  go_wp2
  go_returns
  exact ⟨rfl, P0.out.put (i := 5) (by decide) (.bool true) _ rfl, grownE_put (grownE_self w (some p)) 5 _⟩
set_option maxHeartbeats 1000000 in
theorem implMmu (c : Ct) (v : ByteArray) (p : Nat) (w : World) (hp : CtB w p c) : Calls Tryd.prog 35 #[.pointer (some ⟨p, 0, Option.none⟩), .string v] w fun e w' => e = .returned (.tuple #[]) ∧ CtB w' p { c with mu := true } ∧ w.grownBy w' (some p) := by
  have P0 : Hid (CtB w p c) := hp
  obtain ⟨x0, x1, x2, x3, x4, x5, x6⟩ := hp.all
  have zf := hp.fz
  clear hp
  go_enter Tryd.func35, Tryd.ntmps35
  go_wp2
  go_returns
  exact ⟨rfl, P0.out.put (i := 6) (by decide) (.bool true) _ rfl, grownE_put (grownE_self w (some p)) 6 _⟩
/-- The methods by their keys. -/
def tb9 : List (ByteArray × Nat) := [] ++ [(nmA, 28)] ++ [(nmS, 29)] ++ [(nmT, 30)] ++ [(wdT, 31)] ++ [(wdS, 32)] ++ [(wdC, 33)] ++ [(wdP, 34)] ++ [(wdM, 35)]
theorem tb9_in {s : ByteArray} {j : Nat} (h : lookF tb9 s = some j) : j = 28 ∨ j = 29 ∨ j = 30 ∨ j = 31 ∨ j = 32 ∨ j = 33 ∨ j = 34 ∨ j = 35 := by
  unfold tb9 at h
  simp only [lookF_snoc] at h
  repeat' split at h
  all_goals first | (injection h with h; omega) | (simp [lookF] at h)
/-- What each of them does. -/
def upC (j : Nat) (c : Ct) (v : ByteArray) : Ct := if j = 28 then { c with a := tell c.a v } else if j = 29 then { c with s := tell c.s v } else if j = 30 then { c with t := tell c.t v } else if j = 31 then { c with t := if c.t < 0 then 1000000000 else c.t } else if j = 32 then { c with ns := true } else if j = 33 then { c with nc := true } else if j = 34 then { c with pr := true } else if j = 35 then { c with mu := true } else c
def key9 (x : ByteArray) : ByteArray := if eqC x = true then eqA x ++ ⟨#[61]⟩ else eqA x
def stX (c : Ct) (x : ByteArray) : Ct := match lookF tb9 (key9 x) with
  | some j => upC j c (eqB x)
  | none => c
end Go.Proofs.YtccnkmffadmfhaaDoor
