/-
  Tags as plain data: what is right, what it is shown as, what is read, what is alike.
-/
import Derived.Test.YtkaogmdhjcgcdaaGreatDoorH03
namespace Go.Proofs.YtkaogmdhjcgcdaaGreatDoor
open Go.RowKit
set_option linter.unusedVariables false

structure Tg where
  w : Bool
  t : ByteArray
def tgV (x : Tg) : Value := .agg #[.bool x.w, .string x.t]
def noT : Tg := ⟨false, ⟨#[]⟩⟩
/-- The number of a byte of a tag. -/
def tagN (r : Int) : Bool := decide ((33 ≤ r ∧ r ≤ 126) ∧ ¬ r = 34)
theorem tagN_yes {r : Int} (h : (33 ≤ r ∧ r ≤ 126) ∧ ¬ r = 34) : tagN r = true := decide_eq_true h
theorem tagN_no {r : Int} (h : ¬ ((33 ≤ r ∧ r ≤ 126) ∧ ¬ r = 34)) : tagN r = false := decide_eq_false h
/-- The text of a right tag. -/
def tagB (s : ByteArray) : Bool := decide (s.size ≤ 40) && allB tagN s.data.toList
theorem tagB_out {s : ByteArray} (h : 40 < s.size) : false = tagB s := by
  unfold tagB; rw [decide_eq_false (by omega)]; rfl
theorem tagB_in {s : ByteArray} {b : Bool} (h : s.size ≤ 40) (hb : b = allB tagN s.data.toList) : b = tagB s := by
  unfold tagB; rw [decide_eq_true h, ← hb]; rfl
theorem tagB_size {s : ByteArray} (h : tagB s = true) : s.size ≤ 40 := by
  unfold tagB at h; rw [Bool.and_eq_true] at h; exact of_decide_eq_true h.1
/-- What a tag is shown as, right or not. -/
def shQ (t : ByteArray) : ByteArray := (⟨#[34]⟩ : ByteArray) ++ t ++ (⟨#[34]⟩ : ByteArray)
def shU (x : Tg) : ByteArray := if x.w = true then (⟨#[87, 47]⟩ : ByteArray) ++ shQ x.t else shQ x.t
/-- What ShowTag answers. -/
def shT (x : Tg) : ByteArray := if tagB x.t = true then shU x else ⟨#[]⟩
theorem shQ_size (t : ByteArray) : (shQ t).size = t.size + 2 := by
  unfold shQ; rw [ByteArray.size_append, ByteArray.size_append]; show 1 + t.size + 1 = _; omega
theorem shU_size (x : Tg) : (shU x).size = x.t.size + (if x.w = true then 4 else 2) := by
  unfold shU
  split
  · rw [ByteArray.size_append, shQ_size]; show 2 + (x.t.size + 2) = _; omega
  · rw [shQ_size]
theorem shT_yes {x : Tg} (h : tagB x.t = true) : shT x = shU x := by unfold shT; rw [if_pos h]
theorem shT_no {x : Tg} (h : tagB x.t = false) : shT x = ⟨#[]⟩ := by unfold shT; rw [if_neg (by rw [h]; decide)]
theorem shU_some (x : Tg) : ¬ shU x = ⟨#[]⟩ := fun h => by
  have := shU_size x
  rw [h] at this
  have e : ((⟨#[]⟩ : ByteArray)).size = 0 := rfl
  rw [e] at this
  split at this <;> omega
theorem shT_some {x : Tg} : (¬ shT x = ⟨#[]⟩) ↔ tagB x.t = true := by
  cases h : tagB x.t with
  | false => rw [shT_no h]; simp
  | true => rw [shT_yes h]; exact ⟨fun _ => rfl, fun _ => shU_some x⟩
theorem data_ext {a b : ByteArray} (h : a.data.toList = b.data.toList) : a = b := by
  cases a; cases b; simp at h; rw [h]
theorem app_list (a b : ByteArray) : (a ++ b).data.toList = a.data.toList ++ b.data.toList := by simp
theorem shQ_list (t : ByteArray) : (shQ t).data.toList = 34 :: (t.data.toList ++ [34]) := by
  unfold shQ; rw [app_list, app_list]; rfl
theorem ext_list (s : ByteArray) (i j : Nat) : (s.extract i j).data.toList = (s.data.toList.take j).drop i := by
  simp [List.drop_take]
theorem shU_weak {x : Tg} (h : x.w = true) : (shU x).data.toList = 87 :: 47 :: 34 :: (x.t.data.toList ++ [34]) := by
  unfold shU; rw [if_pos h, app_list, shQ_list]; rfl
theorem shU_not {x : Tg} (h : x.w = false) : (shU x).data.toList = 34 :: (x.t.data.toList ++ [34]) := by
  unfold shU; rw [if_neg (by rw [h]; decide), shQ_list]
/-- Does a text open as a weak tag does? -/
def wkB (s : ByteArray) : Bool := decide (2 < s.size) && decide (s.extract 0 2 = ⟨#[87, 47]⟩)
/-- The tag that a text may be. -/
def rdC (s : ByteArray) : Tg := if wkB s = true then ⟨true, (s.extract 2 s.size).extract 1 (s.size - 3)⟩ else ⟨false, s.extract 1 (s.size - 1)⟩
def rdZ (s : ByteArray) : Nat := if wkB s = true then s.size - 2 else s.size
/-- What ReadTag answers. -/
def rdT (s : ByteArray) : Option Tg := if 2 ≤ rdZ s ∧ shT (rdC s) = s then some (rdC s) else none
theorem rdT_some {s : ByteArray} {x : Tg} (h : rdT s = some x) : tagB x.t = true ∧ shU x = s := by
  unfold rdT at h
  split at h
  · rename_i hc
    obtain ⟨h1, h2⟩ := hc
    injection h with h
    subst h
    have hz : ¬ s = ⟨#[]⟩ := fun e => by
      subst e
      have : rdZ (⟨#[]⟩ : ByteArray) = 0 := rfl
      omega
    have h3 : tagB (rdC s).t = true := shT_some.1 (by rw [h2]; exact hz)
    exact ⟨h3, by rw [← shT_yes h3]; exact h2⟩
  · cases h
theorem rdT_of {s : ByteArray} {x : Tg} (h1 : tagB x.t = true) (h2 : shU x = s) : rdT s = some x := by
  subst h2
  have key : 2 ≤ rdZ (shU x) ∧ rdC (shU x) = x := by
    have hz := shU_size x
    cases hx : x.w with
    | true =>
      rw [if_pos hx] at hz
      have e := shU_weak hx
      have hw : wkB (shU x) = true := by
        unfold wkB
        rw [decide_eq_true (by omega), decide_eq_true (data_ext (by rw [ext_list, e]; rfl))]
        rfl
      refine ⟨by unfold rdZ; rw [if_pos hw]; omega, ?_⟩
      unfold rdC
      rw [if_pos hw]
      have e2 : ((shU x).extract 2 (shU x).size).extract 1 ((shU x).size - 3) = x.t := data_ext (by
        have hl : (shU x).size = ((shU x).data.toList).length := by simp
        rw [ext_list, ext_list, List.take_of_length_le (l := (shU x).data.toList) (by omega), e, hz]
        show ((34 :: (x.t.data.toList ++ [34])).take (x.t.size + 4 - 3)).drop 1 = _
        have hl2 : x.t.data.toList.length = x.t.size := by simp
        rw [show x.t.size + 4 - 3 = x.t.size + 1 by omega, List.take_succ_cons]
        show ((x.t.data.toList ++ [34]).take x.t.size) = _
        rw [← hl2, List.take_left])
      rw [e2, ← hx]
    | false =>
      rw [if_neg (by rw [hx]; decide)] at hz
      have e := shU_not hx
      have hw : wkB (shU x) = false := by
        unfold wkB
        have : ¬ (shU x).extract 0 2 = ⟨#[87, 47]⟩ := fun h => by
          have e3 : ((shU x).extract 0 2).data.toList = [87, 47] := by rw [h]
          rw [ext_list, e] at e3
          have hd : (List.drop 0 (List.take 2 (34 :: (x.t.data.toList ++ [34])))).head? = some 34 := rfl
          rw [e3] at hd
          cases hd
        rw [decide_eq_false this, Bool.and_false]
      refine ⟨by unfold rdZ; rw [if_neg (by rw [hw]; decide)]; omega, ?_⟩
      unfold rdC
      rw [if_neg (by rw [hw]; decide)]
      have e2 : (shU x).extract 1 ((shU x).size - 1) = x.t := data_ext (by
        rw [ext_list, e, hz]
        have hl2 : x.t.data.toList.length = x.t.size := by simp
        rw [show x.t.size + 2 - 1 = x.t.size + 1 by omega, List.take_succ_cons]
        show ((x.t.data.toList ++ [34]).take x.t.size) = _
        rw [← hl2, List.take_left])
      rw [e2, ← hx]
  unfold rdT
  rw [if_pos ⟨key.1, by rw [key.2, shT_yes h1]⟩, key.2]
/-- What ReadTag answers, as a value. -/
def rdV (o : Option Tg) : Value := .tuple #[tgV (o.getD noT), .bool o.isSome]
end Go.Proofs.YtkaogmdhjcgcdaaGreatDoor
