/-
  Whether a date is one: the program's contract.
-/
import Derived.Test.YtfflifhcbfoliaaDoorMon
import Derived.Test.YtfflifhcbfoliaaDoorGrew
import Derived.Test.YtfflifhcbfoliaaDoorOkS
import Derived.Test.YtfflifhcbfoliaaDoorOkI0
import Derived.Test.YtfflifhcbfoliaaDoorOkI1
import Derived.Test.YtfflifhcbfoliaaDoorOkI2
import Derived.Test.YtfflifhcbfoliaaDoorOkI3
import Derived.BigQuiet
namespace Go.Proofs.YtfflifhcbfoliaaDoor
open Go.RowKit Go.Sort


theorem implOk (y m d h i s : Int) (w : World) :
    Calls Tryd.prog 18 #[.agg #[.int .i64 y, .int .i64 m, .int .i64 d, .int .i64 h, .int .i64 i, .int .i64 s]] w fun e w' => e = .returned (.bool (okB y m d h i s)) ∧ Grew w w' := by
  by_cases c0 : 1970 ≤ y
  case neg =>
    have E : okB y m d h i s = false := decide_eq_false (by unfold okD; omega)
    rw [E]
    exact implOk_0 y m d h i s w  (decide_eq_false c0)
  by_cases c1 : y ≤ 9999
  case neg =>
    have E : okB y m d h i s = false := decide_eq_false (by unfold okD; omega)
    rw [E]
    exact implOk_1 y m d h i s w c0 (decide_eq_false c1)
  by_cases c2 : 1 ≤ m
  case neg =>
    have E : okB y m d h i s = false := decide_eq_false (by unfold okD; omega)
    rw [E]
    exact implOk_2 y m d h i s w c0 c1 (decide_eq_false c2)
  by_cases c3 : m ≤ 12
  case neg =>
    have E : okB y m d h i s = false := decide_eq_false (by unfold okD; omega)
    rw [E]
    exact implOk_3 y m d h i s w c0 c1 c2 (decide_eq_false c3)
  by_cases c4 : 1 ≤ d
  case neg =>
    have E : okB y m d h i s = false := decide_eq_false (by unfold okD; omega)
    rw [E]
    exact implOk_4 y m d h i s w c0 c1 c2 c3 (decide_eq_false c4)
  by_cases c5 : d ≤ mdays y m
  case neg =>
    have E : okB y m d h i s = false := decide_eq_false (by unfold okD; omega)
    rw [E]
    exact implOk_5 y m d h i s w c0 c1 c2 c3 c4 (decide_eq_false c5)
  by_cases c6 : 0 ≤ h
  case neg =>
    have E : okB y m d h i s = false := decide_eq_false (by unfold okD; omega)
    rw [E]
    exact implOk_6 y m d h i s w c0 c1 c2 c3 c4 c5 (decide_eq_false c6)
  by_cases c7 : h ≤ 23
  case neg =>
    have E : okB y m d h i s = false := decide_eq_false (by unfold okD; omega)
    rw [E]
    exact implOk_7 y m d h i s w c0 c1 c2 c3 c4 c5 c6 (decide_eq_false c7)
  by_cases c8 : 0 ≤ i
  case neg =>
    have E : okB y m d h i s = false := decide_eq_false (by unfold okD; omega)
    rw [E]
    exact implOk_8 y m d h i s w c0 c1 c2 c3 c4 c5 c6 c7 (decide_eq_false c8)
  by_cases c9 : i ≤ 59
  case neg =>
    have E : okB y m d h i s = false := decide_eq_false (by unfold okD; omega)
    rw [E]
    exact implOk_9 y m d h i s w c0 c1 c2 c3 c4 c5 c6 c7 c8 (decide_eq_false c9)
  by_cases c10 : 0 ≤ s
  case neg =>
    have E : okB y m d h i s = false := decide_eq_false (by unfold okD; omega)
    rw [E]
    exact implOk_10 y m d h i s w c0 c1 c2 c3 c4 c5 c6 c7 c8 c9 (decide_eq_false c10)
  have E : okB y m d h i s = decide (s ≤ 59) := by
    unfold okB
    by_cases c : s ≤ 59
    · rw [decide_eq_true c]; exact decide_eq_true (by unfold okD; omega)
    · rw [decide_eq_false c]; exact decide_eq_false (by unfold okD; omega)
  rw [E]
  exact implOk_11 y m d h i s w c0 c1 c2 c3 c4 c5 c6 c7 c8 c9 c10
end Go.Proofs.YtfflifhcbfoliaaDoor
