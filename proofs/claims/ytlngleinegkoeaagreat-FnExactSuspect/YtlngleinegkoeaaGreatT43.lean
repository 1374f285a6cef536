/-
  The specification's l17Told.
-/
import Derived.Test.YtlngleinegkoeaaGreatT42
import Derived.Test.YtlngleinegkoeaaGreatT40
import Derived.Test.YtlngleinegkoeaaGreatT39
import Derived.Test.YtlngleinegkoeaaGreatT30
import Derived.Test.YtlngleinegkoeaaGreatT28
namespace Go.Proofs.YtlngleinegkoeaaGreat.Rl
open Go.RowKit Go.Sort Go.Shelf
set_option linter.unusedVariables false
set_option linter.unusedSimpArgs false

theorem Tryz.rszMs : (Tryz.prog.info? 30).map (·.size) = some 7 := by kernel_rfl
/-- A message's seven cells, stored. -/
theorem wpList_stM {ops : Array Oper} {rest : List Oper} {o : Oper} {a : Act} {w : World} {Q : Exit → Act → World → Prop} (hgd : o.guard = none) (hd : o.dst = none) (x y : Operand) (ho : o.op = .store 30 x y) (b : Nat) (vs : Array Value) (hx : a.eval x = .pointer (some ⟨b, 0, none⟩)) (hy : a.eval y = .agg vs) {old : Array Value} (hB : Bx w b 30 old) (hs : old.size = 7) (hv : vs.size = 7)
    (h1 : vs.all (·.oneCell') = true) (h : ∀ W, Bx W b 30 vs → ChS (fun k => k = b) w W → wpList Tryz.prog ops Q rest a W) : wpList Tryz.prog ops Q (o :: rest) a w :=
  wpList_store_row hgd _ x y ho b vs hx hy _ old hB (by rw [Tryz.rszMs, hv]) (by rw [hs, hv]) h1 (by
    rw [hd]
    exact h _ (setRow_heap w b _ _ _ _ hB) ⟨rfl, rfl, rfl, by simp [World.setRow], fun k _ hk => setRow_other w b k _ hk⟩)
theorem wpList_ldM {ops : Array Oper} {rest : List Oper} {o : Oper} {a : Act} {w : World} {Q : Exit → Act → World → Prop} (hgd : o.guard = none) (x : Operand) (ho : o.op = .load 30 x) (b : Nat) (hx : a.eval x = .pointer (some ⟨b, 0, none⟩)) {vs : Array Value} (hB : Bx w b 30 vs) (hs : vs.size = 7)
    (h : wpList Tryz.prog ops Q rest (a.put o.dst (.agg vs)) w) : wpList Tryz.prog ops Q (o :: rest) a w :=
  wpList_load_row hgd _ x ho b hx _ vs (0, 0) _ hB Tryz.underlying30 rfl (by rw [Tryz.rszMs, hs]) h
theorem specMx (a b : Int) (w : World) : Calls Tryz.prog 153 #[.int .i64 a, .int .i64 b] w fun e w' => e = .returned (.int .i64 (max a b)) ∧ w = w' := by
  by_cases h : b < a
  · rw [show max a b = a by omega]
    go_enter Tryz.func153, Tryz.ntmps153
    go_wp2
    go_ret
    exact ⟨rfl, rfl⟩
  · rw [show max a b = b by omega]
    go_enter Tryz.func153, Tryz.ntmps153
    go_wp2
    go_ret
    exact ⟨rfl, rfl⟩
theorem specMn (a b : Int) (w : World) : Calls Tryz.prog 161 #[.int .i64 a, .int .i64 b] w fun e w' => e = .returned (.int .i64 (min a b)) ∧ w = w' := by
  by_cases h : a < b
  · rw [show min a b = a by omega]
    go_enter Tryz.func161, Tryz.ntmps161
    go_wp2
    go_ret
    exact ⟨rfl, rfl⟩
  · rw [show min a b = b by omega]
    go_enter Tryz.func161, Tryz.ntmps161
    go_wp2
    go_ret
    exact ⟨rfl, rfl⟩
theorem cmtM_take (te : List Ms) (k : Nat) (h : k < te.length) : cmtM (te.take (k + 1)) = max (cmtM (te.take k)) te[k].c := by
  unfold cmtM
  rw [List.take_succ_eq_append_getElem h, List.foldl_append]
  rfl
theorem bes_take (te : List Ms) (x : Ms) (k : Nat) (h : k < te.length) : (te.take (k + 1)).foldl betM x = betM ((te.take k).foldl betM x) te[k] := by
  rw [List.take_succ_eq_append_getElem h, List.foldl_append]
  rfl
def mxV (y : Mx) : Array Value := #[.int .i64 y.m.k, .int .i64 y.m.f, .int .i64 y.m.t, .int .i64 y.m.v, .int .i64 y.m.la, .slice y.pl y.m.l.length y.cl, .int .i64 y.m.c]
theorem Sls.take {α : Type} {E : Enc α} {w : World} {a : Option Addr} {n c : Nat} {l : List α} (h : Sls E w (.slice a n c) l) {k : Nat} (hk : k ≤ l.length) : Sls E w (.slice a k c) (l.take k) := by
  obtain ⟨a', cap, hv, h1, h2, h3⟩ := h
  injection hv with e1 e2 e3
  subst e1; subst e3
  refine ⟨_, _, by rw [List.length_take, Nat.min_eq_left hk], by rw [List.length_take]; omega, h2, fun h0 => ?_⟩
  rw [List.length_take] at h0
  obtain ⟨g, o, e, hg, hc⟩ := h3 (by omega)
  refine ⟨g, o, e, hg, fun j u hu => hc j u ?_⟩
  rw [← List.take_append_drop k l, cellsE_append, List.getElem?_append_left (List.getElem?_eq_some_iff.1 hu).1]
  exact hu
def frTa (s t : Nat → Value) : Act := { tmps := #[s 0, s 1, s 2, s 3, s 4, s 5, t 6, t 7, t 8, t 9, t 10, t 11, t 12, t 13, t 14, t 15, t 16, t 17, t 18, t 19, t 20, t 21, t 22, t 23, t 24, t 25, t 26, t 27, t 28, t 29, t 30, t 31, t 32, t 33, t 34, t 35, t 36, t 37, s 38, s 39, s 40, s 41, s 42, s 43, s 44, s 45, s 46, s 47, s 48, s 49, s 50, s 51, s 52, s 53, s 54, s 55, s 56, s 57, s 58, s 59, s 60, s 61, s 62, s 63, s 64, s 65, s 66, s 67, s 68, s 69, s 70, s 71, s 72, s 73, s 74, s 75, s 76, s 77, s 78, s 79, s 80, s 81, s 82, s 83, s 84, s 85, s 86, s 87, s 88, s 89, s 90, s 91, s 92, s 93, s 94, s 95, s 96, s 97, s 98, s 99, s 100, s 101, s 102, s 103, s 104, s 105, s 106, s 107, s 108, s 109, s 110, s 111, s 112, s 113, s 114, s 115, s 116, s 117, s 118, s 119, s 120, s 121, s 122, s 123, s 124, s 125, s 126, s 127, s 128, s 129, s 130, s 131, s 132, s 133, s 134, s 135, s 136, s 137, s 138, s 139, s 140, s 141, s 142, s 143, s 144, s 145, s 146, s 147, s 148, s 149, s 150, s 151, s 152, s 153, s 154, s 155, s 156, s 157, s 158, s 159, s 160, s 161, s 162, s 163, s 164, s 165, s 166, s 167, s 168, s 169, s 170, s 171, s 172, s 173, s 174, s 175, s 176, s 177, s 178, s 179, s 180, s 181], defers := [] }
def LTa : List Nat := [6, 7, 8, 9, 10, 11, 12, 13, 14, 15, 16, 17, 18, 19, 20, 21, 22, 23, 24, 25, 26, 27, 28, 29, 30, 31, 32, 33, 34, 35, 36, 37]
def dTa (i : Nat) : Nat := LTa.getD i (i + 5000)
theorem dTa_ne {i j : Nat} (hi : i < 32) (hj : j < 32) (h : j ≠ i) : dTa j ≠ dTa i := slotsNe (L := LTa) (by decide) rfl hi hj h
def GTa (r : Rp) (q : Int) (b lo : Nat) (la : Option Addr) (lc : Nat) (oa : Option Addr) (oc : Nat) (ca : Option Addr) (cc : Nat) (ta : Option Addr) (tc : Nat) (i : Nat) (x : World) (v : Value) : Prop := match i with
  | 0 => v = .pointer (some ⟨b, 0, none⟩)
  | 1 => v = .pointer (some ⟨b, 0, none⟩)
  | 2 => v = .pointer (some ⟨b, 3, none⟩)
  | 3 => v = .bool true
  | 4 => v = .bool true
  | 5 => v = undef
  | 6 => v = undef
  | 7 => v = undef
  | 8 => v = undef
  | 9 => v = undef
  | 10 => v = undef
  | 11 => v = undef
  | 12 => v = undef
  | 13 => v = undef
  | 14 => v = undef
  | 15 => v = undef
  | 16 => v = .bool true
  | 17 => v = .bool true
  | 18 => v = undef
  | 19 => v = undef
  | 20 => v = undef
  | 21 => v = undef
  | 22 => v = undef
  | 23 => v = undef
  | 24 => v = undef
  | 25 => v = undef
  | 26 => v = undef
  | 27 => v = undef
  | 28 => v = undef
  | 29 => v = undef
  | 30 => v = undef
  | 31 => v = undef
  | _ => True
theorem GTa.keep {r : Rp} {q : Int} {b lo : Nat} {la : Option Addr} {lc : Nat} {oa : Option Addr} {oc : Nat} {ca : Option Addr} {cc : Nat} {ta : Option Addr} {tc : Nat} {x y : World} (hb : Below x.heap.size x y) (j : Nat) (v : Value) (hj : j < 32) (h : GTa r q b lo la lc oa oc ca cc ta tc j x v) : GTa r q b lo la lc oa oc ca cc ta tc j y v := by
  rcases (show j = 0 ∨ j = 1 ∨ j = 2 ∨ j = 3 ∨ j = 4 ∨ j = 5 ∨ j = 6 ∨ j = 7 ∨ j = 8 ∨ j = 9 ∨ j = 10 ∨ j = 11 ∨ j = 12 ∨ j = 13 ∨ j = 14 ∨ j = 15 ∨ j = 16 ∨ j = 17 ∨ j = 18 ∨ j = 19 ∨ j = 20 ∨ j = 21 ∨ j = 22 ∨ j = 23 ∨ j = 24 ∨ j = 25 ∨ j = 26 ∨ j = 27 ∨ j = 28 ∨ j = 29 ∨ j = 30 ∨ j = 31 by omega) with rfl | rfl | rfl | rfl | rfl | rfl | rfl | rfl | rfl | rfl | rfl | rfl | rfl | rfl | rfl | rfl | rfl | rfl | rfl | rfl | rfl | rfl | rfl | rfl | rfl | rfl | rfl | rfl | rfl | rfl | rfl | rfl
  · exact h
  · exact h
  · exact h
  · exact h
  · exact h
  · exact h
  · exact h
  · exact h
  · exact h
  · exact h
  · exact h
  · exact h
  · exact h
  · exact h
  · exact h
  · exact h
  · exact h
  · exact h
  · exact h
  · exact h
  · exact h
  · exact h
  · exact h
  · exact h
  · exact h
  · exact h
  · exact h
  · exact h
  · exact h
  · exact h
  · exact h
  · exact h
def frTb (s t : Nat → Value) : Act := { tmps := #[s 0, s 1, s 2, s 3, s 4, s 5, t 6, t 7, t 8, t 9, t 10, t 11, t 12, t 13, t 14, t 15, t 16, t 17, t 18, t 19, t 20, t 21, t 22, t 23, t 24, t 25, t 26, t 27, t 28, t 29, t 30, t 31, t 32, t 33, t 34, t 35, t 36, t 37, s 38, s 39, s 40, s 41, s 42, s 43, s 44, s 45, s 46, s 47, s 48, s 49, s 50, s 51, s 52, s 53, s 54, s 55, s 56, s 57, s 58, s 59, s 60, s 61, s 62, s 63, s 64, s 65, s 66, s 67, s 68, s 69, s 70, s 71, s 72, s 73, s 74, s 75, s 76, s 77, s 78, s 79, s 80, s 81, s 82, s 83, s 84, s 85, s 86, s 87, s 88, s 89, s 90, s 91, s 92, s 93, s 94, s 95, s 96, s 97, s 98, s 99, s 100, s 101, s 102, s 103, s 104, s 105, s 106, s 107, s 108, s 109, s 110, s 111, s 112, s 113, s 114, s 115, s 116, s 117, s 118, s 119, s 120, s 121, s 122, s 123, s 124, s 125, s 126, s 127, s 128, s 129, s 130, s 131, s 132, s 133, s 134, s 135, s 136, s 137, s 138, s 139, s 140, s 141, s 142, s 143, s 144, s 145, s 146, s 147, s 148, s 149, s 150, s 151, s 152, s 153, s 154, s 155, s 156, s 157, s 158, s 159, s 160, s 161, s 162, s 163, s 164, s 165, s 166, s 167, s 168, s 169, s 170, s 171, s 172, s 173, s 174, s 175, s 176, s 177, s 178, s 179, s 180, s 181], defers := [] }
def LTb : List Nat := [6, 7, 8, 9, 10, 11, 12, 13, 14, 15, 16, 17, 18, 19, 20, 21, 22, 23, 24, 25, 26, 27, 28, 29, 30, 31, 32, 33, 34, 35, 36, 37]
def dTb (i : Nat) : Nat := LTb.getD i (i + 5000)
theorem dTb_ne {i j : Nat} (hi : i < 32) (hj : j < 32) (h : j ≠ i) : dTb j ≠ dTb i := slotsNe (L := LTb) (by decide) rfl hi hj h
def GTb (r : Rp) (q : Int) (b lo : Nat) (la : Option Addr) (lc : Nat) (oa : Option Addr) (oc : Nat) (ca : Option Addr) (cc : Nat) (ta : Option Addr) (tc : Nat) (i : Nat) (x : World) (v : Value) : Prop := match i with
  | 0 => v = .pointer (some ⟨b, 0, none⟩)
  | 1 => v = .pointer (some ⟨b, 0, none⟩)
  | 2 => v = .pointer (some ⟨b, 3, none⟩)
  | 3 => v = .bool false
  | 4 => v = .bool false
  | 5 => v = .pointer (some ⟨b, 0, none⟩)
  | 6 => v = .pointer (some ⟨b, 0, none⟩)
  | 7 => v = .pointer (some ⟨b, 8, none⟩)
  | 8 => v = .slice ca r.ch.length cc
  | 9 => v = .int .i64 (r.ch.length : Int)
  | 10 => v = .pointer (some ⟨b, 0, none⟩)
  | 11 => v = .pointer (some ⟨b, 0, none⟩)
  | 12 => v = .pointer (some ⟨b, 1, none⟩)
  | 13 => v = .int .i64 r.p
  | 14 => v = .bool false
  | 15 => v = .bool true
  | 16 => v = .bool true
  | 17 => v = .bool true
  | 18 => v = undef
  | 19 => v = undef
  | 20 => v = undef
  | 21 => v = undef
  | 22 => v = undef
  | 23 => v = undef
  | 24 => v = undef
  | 25 => v = undef
  | 26 => v = undef
  | 27 => v = undef
  | 28 => v = undef
  | 29 => v = undef
  | 30 => v = undef
  | 31 => v = undef
  | _ => True
theorem GTb.keep {r : Rp} {q : Int} {b lo : Nat} {la : Option Addr} {lc : Nat} {oa : Option Addr} {oc : Nat} {ca : Option Addr} {cc : Nat} {ta : Option Addr} {tc : Nat} {x y : World} (hb : Below x.heap.size x y) (j : Nat) (v : Value) (hj : j < 32) (h : GTb r q b lo la lc oa oc ca cc ta tc j x v) : GTb r q b lo la lc oa oc ca cc ta tc j y v := by
  rcases (show j = 0 ∨ j = 1 ∨ j = 2 ∨ j = 3 ∨ j = 4 ∨ j = 5 ∨ j = 6 ∨ j = 7 ∨ j = 8 ∨ j = 9 ∨ j = 10 ∨ j = 11 ∨ j = 12 ∨ j = 13 ∨ j = 14 ∨ j = 15 ∨ j = 16 ∨ j = 17 ∨ j = 18 ∨ j = 19 ∨ j = 20 ∨ j = 21 ∨ j = 22 ∨ j = 23 ∨ j = 24 ∨ j = 25 ∨ j = 26 ∨ j = 27 ∨ j = 28 ∨ j = 29 ∨ j = 30 ∨ j = 31 by omega) with rfl | rfl | rfl | rfl | rfl | rfl | rfl | rfl | rfl | rfl | rfl | rfl | rfl | rfl | rfl | rfl | rfl | rfl | rfl | rfl | rfl | rfl | rfl | rfl | rfl | rfl | rfl | rfl | rfl | rfl | rfl | rfl
  · exact h
  · exact h
  · exact h
  · exact h
  · exact h
  · exact h
  · exact h
  · exact h
  · exact h
  · exact h
  · exact h
  · exact h
  · exact h
  · exact h
  · exact h
  · exact h
  · exact h
  · exact h
  · exact h
  · exact h
  · exact h
  · exact h
  · exact h
  · exact h
  · exact h
  · exact h
  · exact h
  · exact h
  · exact h
  · exact h
  · exact h
  · exact h
def frTc (s t : Nat → Value) : Act := { tmps := #[s 0, s 1, s 2, s 3, s 4, s 5, t 6, t 7, t 8, t 9, t 10, t 11, t 12, t 13, t 14, t 15, t 16, t 17, t 18, t 19, t 20, t 21, t 22, t 23, t 24, t 25, t 26, t 27, t 28, t 29, t 30, t 31, t 32, t 33, t 34, t 35, t 36, t 37, s 38, s 39, s 40, s 41, s 42, s 43, s 44, s 45, s 46, s 47, s 48, s 49, s 50, s 51, s 52, s 53, s 54, s 55, s 56, s 57, s 58, s 59, s 60, s 61, s 62, s 63, s 64, s 65, s 66, s 67, s 68, s 69, s 70, s 71, s 72, s 73, s 74, s 75, s 76, s 77, s 78, s 79, s 80, s 81, s 82, s 83, s 84, s 85, s 86, s 87, s 88, s 89, s 90, s 91, s 92, s 93, s 94, s 95, s 96, s 97, s 98, s 99, s 100, s 101, s 102, s 103, s 104, s 105, s 106, s 107, s 108, s 109, s 110, s 111, s 112, s 113, s 114, s 115, s 116, s 117, s 118, s 119, s 120, s 121, s 122, s 123, s 124, s 125, s 126, s 127, s 128, s 129, s 130, s 131, s 132, s 133, s 134, s 135, s 136, s 137, s 138, s 139, s 140, s 141, s 142, s 143, s 144, s 145, s 146, s 147, s 148, s 149, s 150, s 151, s 152, s 153, s 154, s 155, s 156, s 157, s 158, s 159, s 160, s 161, s 162, s 163, s 164, s 165, s 166, s 167, s 168, s 169, s 170, s 171, s 172, s 173, s 174, s 175, s 176, s 177, s 178, s 179, s 180, s 181], defers := [] }
def LTc : List Nat := [6, 7, 8, 9, 10, 11, 12, 13, 14, 15, 16, 17, 18, 19, 20, 21, 22, 23, 24, 25, 26, 27, 28, 29, 30, 31, 32, 33, 34, 35, 36, 37]
def dTc (i : Nat) : Nat := LTc.getD i (i + 5000)
theorem dTc_ne {i j : Nat} (hi : i < 32) (hj : j < 32) (h : j ≠ i) : dTc j ≠ dTc i := slotsNe (L := LTc) (by decide) rfl hi hj h
def GTc (r : Rp) (q : Int) (b lo : Nat) (la : Option Addr) (lc : Nat) (oa : Option Addr) (oc : Nat) (ca : Option Addr) (cc : Nat) (ta : Option Addr) (tc : Nat) (i : Nat) (x : World) (v : Value) : Prop := match i with
  | 0 => v = .pointer (some ⟨b, 0, none⟩)
  | 1 => v = .pointer (some ⟨b, 0, none⟩)
  | 2 => v = .pointer (some ⟨b, 3, none⟩)
  | 3 => v = .bool false
  | 4 => v = .bool false
  | 5 => v = .pointer (some ⟨b, 0, none⟩)
  | 6 => v = .pointer (some ⟨b, 0, none⟩)
  | 7 => v = .pointer (some ⟨b, 8, none⟩)
  | 8 => v = .slice ca r.ch.length cc
  | 9 => v = .int .i64 (r.ch.length : Int)
  | 10 => v = .pointer (some ⟨b, 0, none⟩)
  | 11 => v = .pointer (some ⟨b, 0, none⟩)
  | 12 => v = .pointer (some ⟨b, 1, none⟩)
  | 13 => v = .int .i64 r.p
  | 14 => v = .bool true
  | 15 => v = .bool false
  | 16 => v = .bool false
  | 17 => v = .bool false
  | 18 => v = .pointer (some ⟨b, 0, none⟩)
  | 19 => v = .pointer (some ⟨b, 0, none⟩)
  | 20 => v = .pointer (some ⟨b, 2, none⟩)
  | 21 => v = .int .i64 r.v
  | 22 => v = .pointer (some ⟨b, 0, none⟩)
  | 23 => v = .pointer (some ⟨b, 0, none⟩)
  | 24 => v = .pointer (some ⟨b, 1, none⟩)
  | 25 => v = .int .i64 r.p
  | 26 => v = .int .i64 q
  | 27 => v = .pointer (some ⟨b, 0, none⟩)
  | 28 => v = .pointer (some ⟨b, 0, none⟩)
  | 29 => v = .pointer (some ⟨b, 0, none⟩)
  | 30 => v = .int .i64 r.id
  | 31 => v = .bool (q != r.id)
  | _ => True
theorem GTc.keep {r : Rp} {q : Int} {b lo : Nat} {la : Option Addr} {lc : Nat} {oa : Option Addr} {oc : Nat} {ca : Option Addr} {cc : Nat} {ta : Option Addr} {tc : Nat} {x y : World} (hb : Below x.heap.size x y) (j : Nat) (v : Value) (hj : j < 32) (h : GTc r q b lo la lc oa oc ca cc ta tc j x v) : GTc r q b lo la lc oa oc ca cc ta tc j y v := by
  rcases (show j = 0 ∨ j = 1 ∨ j = 2 ∨ j = 3 ∨ j = 4 ∨ j = 5 ∨ j = 6 ∨ j = 7 ∨ j = 8 ∨ j = 9 ∨ j = 10 ∨ j = 11 ∨ j = 12 ∨ j = 13 ∨ j = 14 ∨ j = 15 ∨ j = 16 ∨ j = 17 ∨ j = 18 ∨ j = 19 ∨ j = 20 ∨ j = 21 ∨ j = 22 ∨ j = 23 ∨ j = 24 ∨ j = 25 ∨ j = 26 ∨ j = 27 ∨ j = 28 ∨ j = 29 ∨ j = 30 ∨ j = 31 by omega) with rfl | rfl | rfl | rfl | rfl | rfl | rfl | rfl | rfl | rfl | rfl | rfl | rfl | rfl | rfl | rfl | rfl | rfl | rfl | rfl | rfl | rfl | rfl | rfl | rfl | rfl | rfl | rfl | rfl | rfl | rfl | rfl
  · exact h
  · exact h
  · exact h
  · exact h
  · exact h
  · exact h
  · exact h
  · exact h
  · exact h
  · exact h
  · exact h
  · exact h
  · exact h
  · exact h
  · exact h
  · exact h
  · exact h
  · exact h
  · exact h
  · exact h
  · exact h
  · exact h
  · exact h
  · exact h
  · exact h
  · exact h
  · exact h
  · exact h
  · exact h
  · exact h
  · exact h
  · exact h
def frT1 (s t : Nat → Value) : Act := { tmps := #[s 0, s 1, s 2, s 3, s 4, s 5, s 6, s 7, s 8, s 9, s 10, s 11, s 12, s 13, s 14, s 15, s 16, s 17, s 18, s 19, s 20, s 21, s 22, s 23, s 24, s 25, s 26, s 27, s 28, s 29, s 30, s 31, s 32, s 33, s 34, s 35, s 36, s 37, s 38, t 39, t 40, t 41, t 42, t 43, t 44, t 45, t 46, t 47, t 48, t 49, t 50, t 51, t 52, t 53, t 54, t 55, t 56, t 57, t 58, t 59, t 60, t 61, t 62, t 63, t 64, s 65, s 66, s 67, s 68, s 69, s 70, s 71, s 72, s 73, s 74, s 75, s 76, s 77, s 78, s 79, s 80, s 81, s 82, s 83, s 84, s 85, s 86, s 87, s 88, s 89, s 90, s 91, s 92, s 93, s 94, s 95, s 96, s 97, s 98, s 99, s 100, s 101, s 102, s 103, s 104, s 105, s 106, s 107, s 108, s 109, s 110, s 111, s 112, s 113, s 114, s 115, s 116, s 117, s 118, s 119, s 120, s 121, s 122, s 123, s 124, s 125, s 126, s 127, s 128, s 129, s 130, s 131, s 132, s 133, s 134, s 135, s 136, s 137, s 138, s 139, s 140, s 141, s 142, s 143, s 144, s 145, s 146, s 147, s 148, s 149, s 150, s 151, s 152, s 153, s 154, s 155, s 156, s 157, s 158, s 159, s 160, s 161, s 162, s 163, s 164, s 165, s 166, s 167, s 168, s 169, s 170, s 171, s 172, s 173, s 174, s 175, s 176, s 177, s 178, s 179, s 180, s 181], defers := [] }
def LT1 : List Nat := [39, 40, 41, 42, 43, 44, 45, 46, 47, 48, 49, 50, 51, 52, 53, 54, 55, 56, 57, 58, 59, 60, 61, 62, 63, 64]
def dT1 (i : Nat) : Nat := LT1.getD i (i + 5000)
theorem dT1_ne {i j : Nat} (hi : i < 26) (hj : j < 26) (h : j ≠ i) : dT1 j ≠ dT1 i := slotsNe (L := LT1) (by decide) rfl hi hj h
def GT1 (r : Rp) (b lo : Nat) (la : Option Addr) (lc : Nat) (oa : Option Addr) (oc : Nat) (ca : Option Addr) (cc : Nat) (ta : Option Addr) (tc : Nat) (i : Nat) (x : World) (v : Value) : Prop := match i with
  | 0 => v = .pointer (some ⟨b, 0, none⟩)
  | 1 => v = .pointer (some ⟨b, 0, none⟩)
  | 2 => v = .pointer (some ⟨b, 0, none⟩)
  | 3 => v = .pointer (some ⟨b, 0, none⟩)
  | 4 => v = .int .i64 r.id
  | 5 => v = .pointer (some ⟨b, 0, none⟩)
  | 6 => v = .pointer (some ⟨b, 0, none⟩)
  | 7 => v = .pointer (some ⟨b, 0, none⟩)
  | 8 => v = .int .i64 r.id
  | 9 => v = .pointer (some ⟨b, 0, none⟩)
  | 10 => v = .pointer (some ⟨b, 0, none⟩)
  | 11 => v = .pointer (some ⟨b, 2, none⟩)
  | 12 => v = .int .i64 r.v
  | 13 => v = .pointer (some ⟨b, 0, none⟩)
  | 14 => v = .pointer (some ⟨b, 0, none⟩)
  | 15 => v = .pointer (some ⟨b, 4, none⟩)
  | 16 => v = .int .i64 r.la
  | 17 => v = .pointer (some ⟨b, 0, none⟩)
  | 18 => v = .pointer (some ⟨b, 0, none⟩)
  | 19 => v = .pointer (some ⟨b, 5, none⟩)
  | 20 => v = .slice la r.l.length lc
  | 21 => v = .pointer (some ⟨b, 0, none⟩)
  | 22 => v = .pointer (some ⟨b, 0, none⟩)
  | 23 => v = .pointer (some ⟨b, 6, none⟩)
  | 24 => v = .int .i64 r.c
  | 25 => v = .agg #[.int .i64 4, .int .i64 r.id, .int .i64 r.id, .int .i64 r.v, .int .i64 r.la, .slice la r.l.length lc, .int .i64 r.c]
  | _ => True
theorem GT1.keep {r : Rp} {b lo : Nat} {la : Option Addr} {lc : Nat} {oa : Option Addr} {oc : Nat} {ca : Option Addr} {cc : Nat} {ta : Option Addr} {tc : Nat} {x y : World} (hb : Below x.heap.size x y) (j : Nat) (v : Value) (hj : j < 26) (h : GT1 r b lo la lc oa oc ca cc ta tc j x v) : GT1 r b lo la lc oa oc ca cc ta tc j y v := by
  rcases (show j = 0 ∨ j = 1 ∨ j = 2 ∨ j = 3 ∨ j = 4 ∨ j = 5 ∨ j = 6 ∨ j = 7 ∨ j = 8 ∨ j = 9 ∨ j = 10 ∨ j = 11 ∨ j = 12 ∨ j = 13 ∨ j = 14 ∨ j = 15 ∨ j = 16 ∨ j = 17 ∨ j = 18 ∨ j = 19 ∨ j = 20 ∨ j = 21 ∨ j = 22 ∨ j = 23 ∨ j = 24 ∨ j = 25 by omega) with rfl | rfl | rfl | rfl | rfl | rfl | rfl | rfl | rfl | rfl | rfl | rfl | rfl | rfl | rfl | rfl | rfl | rfl | rfl | rfl | rfl | rfl | rfl | rfl | rfl | rfl
  · exact h
  · exact h
  · exact h
  · exact h
  · exact h
  · exact h
  · exact h
  · exact h
  · exact h
  · exact h
  · exact h
  · exact h
  · exact h
  · exact h
  · exact h
  · exact h
  · exact h
  · exact h
  · exact h
  · exact h
  · exact h
  · exact h
  · exact h
  · exact h
  · exact h
  · exact h
def frT2 (s t : Nat → Value) : Act := { tmps := #[s 0, s 1, s 2, s 3, s 4, s 5, s 6, s 7, s 8, s 9, s 10, s 11, s 12, s 13, s 14, s 15, s 16, s 17, s 18, s 19, s 20, s 21, s 22, s 23, s 24, s 25, s 26, s 27, s 28, s 29, s 30, s 31, s 32, s 33, s 34, s 35, s 36, s 37, s 38, s 39, s 40, s 41, s 42, s 43, s 44, s 45, s 46, s 47, s 48, s 49, s 50, s 51, s 52, s 53, s 54, s 55, s 56, s 57, s 58, s 59, s 60, s 61, s 62, s 63, s 64, s 65, t 66, t 67, t 68, t 69, t 70, t 71, t 72, t 73, t 74, t 75, s 76, s 77, s 78, s 79, s 80, s 81, s 82, s 83, s 84, s 85, s 86, s 87, s 88, s 89, s 90, s 91, s 92, s 93, s 94, s 95, s 96, s 97, s 98, s 99, s 100, s 101, s 102, s 103, s 104, s 105, s 106, s 107, s 108, s 109, s 110, s 111, s 112, s 113, s 114, s 115, s 116, s 117, s 118, s 119, s 120, s 121, s 122, s 123, s 124, s 125, s 126, s 127, s 128, s 129, s 130, s 131, s 132, s 133, s 134, s 135, s 136, s 137, s 138, s 139, s 140, s 141, s 142, s 143, s 144, s 145, s 146, s 147, s 148, s 149, s 150, s 151, s 152, s 153, s 154, s 155, s 156, s 157, s 158, s 159, s 160, s 161, s 162, s 163, s 164, s 165, s 166, s 167, s 168, s 169, s 170, s 171, s 172, s 173, s 174, s 175, s 176, s 177, s 178, s 179, s 180, s 181], defers := [] }
def LT2 : List Nat := [66, 67, 68, 69, 70, 71, 72, 73, 74, 75]
def dT2 (i : Nat) : Nat := LT2.getD i (i + 5000)
theorem dT2_ne {i j : Nat} (hi : i < 10) (hj : j < 10) (h : j ≠ i) : dT2 j ≠ dT2 i := slotsNe (L := LT2) (by decide) rfl hi hj h
def GT2 (r : Rp) (KK b lo : Nat) (ta4 : Option Addr) (tc4 : Nat) (i : Nat) (x : World) (v : Value) : Prop := match i with
  | 0 => v = .pointer (some ⟨b, 0, none⟩)
  | 1 => v = .pointer (some ⟨b, 0, none⟩)
  | 2 => v = .pointer (some ⟨b, 9, none⟩)
  | 3 => v = .slice ta4 KK tc4
  | 4 => v = .int .i64 (KK : Int)
  | 5 => v = .pointer (some ⟨b, 0, none⟩)
  | 6 => v = .pointer (some ⟨b, 0, none⟩)
  | 7 => v = .pointer (some ⟨b, 1, none⟩)
  | 8 => v = .int .i64 r.p
  | 9 => v = .bool (dB (maj KK r.p))
  | _ => True
theorem GT2.keep {r : Rp} {KK b lo : Nat} {ta4 : Option Addr} {tc4 : Nat} {x y : World} (hb : Below x.heap.size x y) (j : Nat) (v : Value) (hj : j < 10) (h : GT2 r KK b lo ta4 tc4 j x v) : GT2 r KK b lo ta4 tc4 j y v := by
  rcases (show j = 0 ∨ j = 1 ∨ j = 2 ∨ j = 3 ∨ j = 4 ∨ j = 5 ∨ j = 6 ∨ j = 7 ∨ j = 8 ∨ j = 9 by omega) with rfl | rfl | rfl | rfl | rfl | rfl | rfl | rfl | rfl | rfl
  · exact h
  · exact h
  · exact h
  · exact h
  · exact h
  · exact h
  · exact h
  · exact h
  · exact h
  · exact h
def frT12 (s t : Nat → Value) : Act := { tmps := #[s 0, s 1, s 2, s 3, s 4, s 5, s 6, s 7, s 8, s 9, s 10, s 11, s 12, s 13, s 14, s 15, s 16, s 17, s 18, s 19, s 20, s 21, s 22, s 23, s 24, s 25, s 26, s 27, s 28, s 29, s 30, s 31, s 32, s 33, s 34, s 35, s 36, s 37, s 38, s 39, s 40, s 41, s 42, s 43, s 44, s 45, s 46, s 47, s 48, s 49, s 50, s 51, s 52, s 53, s 54, s 55, s 56, s 57, s 58, s 59, s 60, s 61, s 62, s 63, s 64, s 65, s 66, s 67, s 68, s 69, s 70, s 71, s 72, s 73, s 74, s 75, s 76, s 77, s 78, s 79, s 80, s 81, s 82, s 83, s 84, s 85, s 86, s 87, s 88, s 89, s 90, s 91, s 92, s 93, s 94, s 95, s 96, s 97, s 98, s 99, s 100, s 101, s 102, s 103, s 104, s 105, s 106, s 107, s 108, s 109, s 110, s 111, s 112, s 113, s 114, s 115, s 116, s 117, s 118, s 119, s 120, s 121, s 122, s 123, s 124, t 125, t 126, t 127, t 128, t 129, t 130, t 131, t 132, t 133, t 134, t 135, t 136, s 137, s 138, s 139, s 140, s 141, s 142, s 143, s 144, s 145, s 146, s 147, s 148, s 149, s 150, s 151, s 152, s 153, s 154, s 155, s 156, s 157, s 158, s 159, s 160, s 161, s 162, s 163, s 164, s 165, s 166, s 167, s 168, s 169, s 170, s 171, s 172, s 173, s 174, s 175, s 176, s 177, s 178, s 179, s 180, s 181], defers := [] }
def LT12 : List Nat := [125, 126, 127, 128, 129, 130, 131, 132, 133, 134, 135, 136]
def dT12 (i : Nat) : Nat := LT12.getD i (i + 5000)
theorem dT12_ne {i j : Nat} (hi : i < 12) (hj : j < 12) (h : j ≠ i) : dT12 j ≠ dT12 i := slotsNe (L := LT12) (by decide) rfl hi hj h
def GT12 (r : Rp) (Y : Mx) (cN b g lo : Nat) (la4 : Option Addr) (lc4 : Nat) (i : Nat) (x : World) (v : Value) : Prop := match i with
  | 0 => v = .pointer (some ⟨g, 5, none⟩)
  | 1 => v = .slice Y.pl Y.m.l.length Y.cl
  | 2 => v = .pointer (some ⟨b, 0, none⟩)
  | 3 => v = .pointer (some ⟨b, 0, none⟩)
  | 4 => v = .pointer (some ⟨b, 5, none⟩)
  | 5 => v = .slice la4 r.l.length lc4
  | 6 => v = .pointer (some ⟨b, 0, none⟩)
  | 7 => v = .pointer (some ⟨b, 0, none⟩)
  | 8 => v = .pointer (some ⟨b, 6, none⟩)
  | 9 => v = .int .i64 (cN : Int)
  | 10 => v = .slice la4 cN lc4
  | 11 => v = .bool (dB (r.l.take cN <+: Y.m.l))
  | _ => True
theorem GT12.keep {r : Rp} {Y : Mx} {cN b g lo : Nat} {la4 : Option Addr} {lc4 : Nat} {x y : World} (hb : Below x.heap.size x y) (j : Nat) (v : Value) (hj : j < 12) (h : GT12 r Y cN b g lo la4 lc4 j x v) : GT12 r Y cN b g lo la4 lc4 j y v := by
  rcases (show j = 0 ∨ j = 1 ∨ j = 2 ∨ j = 3 ∨ j = 4 ∨ j = 5 ∨ j = 6 ∨ j = 7 ∨ j = 8 ∨ j = 9 ∨ j = 10 ∨ j = 11 by omega) with rfl | rfl | rfl | rfl | rfl | rfl | rfl | rfl | rfl | rfl | rfl | rfl
  · exact h
  · exact h
  · exact h
  · exact h
  · exact h
  · exact h
  · exact h
  · exact h
  · exact h
  · exact h
  · exact h
  · exact h
set_option maxRecDepth 100000 in
set_option maxHeartbeats 16000000 in
theorem specTld (r : Rp) (u : Rv) (B b : Nat) (w : World) (h : RpAt w B b u r) (hr : RpOk r) :
    Calls Tryz.prog 114 #[.pointer (some ⟨b, 0, none⟩)] w fun e w' => e = .returned (.tuple #[]) ∧ ∃ u', RpAt w' B b u' (told r) ∧ Below B w w' := by
  obtain ⟨la, lc, oa, oc, ca, cc, ta, tc, T, rfl⟩ := h.got.form
  have H0 : Hid (RpAt w B b ⟨.slice la r.l.length lc, .slice oa r.ok.length oc, .slice ca r.ch.length cc, .slice ta r.te.length tc, T⟩ r) := h
  have HR : Hid (RpOk r) := hr
  have jm := fun (y : World) => specMaj r.ch.length r.p y (by have := hr.ch5; omega)
  have S0 : Below w.heap.size w w.drew := ⟨rfl, rfl, rfl, Nat.le_refl _, fun _ _ => rfl⟩
  have CB := fun x (hS : Below w.heap.size w x) => RpB.cells (show RpB x b r ⟨.slice la r.l.length lc, .slice oa r.ok.length oc, .slice ca r.ch.length cc, .slice ta r.te.length tc, T⟩ from (H0.out.kept hS).c)
  simp only at CB
  clear h hr
  cases hn : r.n with
  | true =>
    have HE : Hid (told r = r) := (show _ = _ by unfold told; exact if_pos (.inl hn))
    rw [hn] at CB
    obtain ⟨q, hq⟩ : ∃ q : Int, q = 0 := ⟨_, rfl⟩
    go_enter Tryz.func114, Tryz.ntmps114
    go_upto_region 0 with fail
    clear hn hq jm
    obtain ⟨lo, hlo⟩ : ∃ lo, lo = w.heap.size := ⟨_, rfl⟩
    generalize hA : Act.mk _ _ = A
    obtain ⟨s, hs, s0_⟩ : ∃ s : Nat → Value, A = frTa s s ∧ s 0 = .pointer (some ⟨b, 0, none⟩) := by
      refine ⟨fun i => A.tmps.getD i undef, ?_, ?_⟩ <;> rw [← hA] <;> rfl
    rw [hs]
    clear hs hA
    refine region_heads 32 mixed (by decide) (by kernel_rfl) (by kernel_rfl) (by kernel_rfl) (by kernel_rfl) (frTa s) dTa (fun x => Below w.heap.size w x) (GTa r q b lo la lc oa oc ca cc ta tc) (fun i j hi hj h => dTa_ne hi hj h) ?put s rfl S0 ?step ?done
    case put =>
      intro i o hi ho t v
      rcases (show i = 0 ∨ i = 1 ∨ i = 2 ∨ i = 3 ∨ i = 4 ∨ i = 5 ∨ i = 6 ∨ i = 7 ∨ i = 8 ∨ i = 9 ∨ i = 10 ∨ i = 11 ∨ i = 12 ∨ i = 13 ∨ i = 14 ∨ i = 15 ∨ i = 16 ∨ i = 17 ∨ i = 18 ∨ i = 19 ∨ i = 20 ∨ i = 21 ∨ i = 22 ∨ i = 23 ∨ i = 24 ∨ i = 25 ∨ i = 26 ∨ i = 27 ∨ i = 28 ∨ i = 29 ∨ i = 30 ∨ i = 31 by omega) with rfl | rfl | rfl | rfl | rfl | rfl | rfl | rfl | rfl | rfl | rfl | rfl | rfl | rfl | rfl | rfl | rfl | rfl | rfl | rfl | rfl | rfl | rfl | rfl | rfl | rfl | rfl | rfl | rfl | rfl | rfl | rfl
      all_goals
        obtain rfl := Option.some.inj ho
        rfl
    case step =>
      intro i o hi ho t x hS hdep K hK
      rcases (show i = 0 ∨ i = 1 ∨ i = 2 ∨ i = 3 ∨ i = 4 ∨ i = 5 ∨ i = 6 ∨ i = 7 ∨ i = 8 ∨ i = 9 ∨ i = 10 ∨ i = 11 ∨ i = 12 ∨ i = 13 ∨ i = 14 ∨ i = 15 ∨ i = 16 ∨ i = 17 ∨ i = 18 ∨ i = 19 ∨ i = 20 ∨ i = 21 ∨ i = 22 ∨ i = 23 ∨ i = 24 ∨ i = 25 ∨ i = 26 ∨ i = 27 ∨ i = 28 ∨ i = 29 ∨ i = 30 ∨ i = 31 by omega) with rfl | rfl | rfl | rfl | rfl | rfl | rfl | rfl | rfl | rfl | rfl | rfl | rfl | rfl | rfl | rfl | rfl | rfl | rfl | rfl | rfl | rfl | rfl | rfl | rfl | rfl | rfl | rfl | rfl | rfl | rfl | rfl
      all_goals obtain rfl := Option.some.inj ho
      · have h2 := hK (.pointer (some ⟨b, 0, none⟩)) x hS (fun j u hj hne h => h) rfl
        unfold frTa at h2 ⊢
        clear hK
        go_simp
        simpa [Act.put, s0_] using h2
      · have e0 : t 6 = .pointer (some ⟨b, 0, none⟩) := hdep { on := 0, ground := Ground.data } (by simp) rfl
        have h2 := hK (.pointer (some ⟨b, 0, none⟩)) x hS (fun j u hj hne h => h) rfl
        unfold frTa at h2 ⊢
        clear hK
        go_simp
        simpa [Act.put, e0, s0_] using h2
      · have e1 : t 7 = .pointer (some ⟨b, 0, none⟩) := hdep { on := 1, ground := Ground.data } (by simp) rfl
        have h2 := hK (.pointer (some ⟨b, 3, none⟩)) x hS (fun j u hj hne h => h) rfl
        unfold frTa at h2 ⊢
        clear hK
        go_simp
        simpa [Act.put, e1, s0_] using h2
      · have e2 : t 8 = .pointer (some ⟨b, 3, none⟩) := hdep { on := 2, ground := Ground.data } (by simp) rfl
        have y0 := (CB x hS).2.2.2.1
        have h2 := hK (.bool true) x hS (fun j u hj hne h => h) rfl
        unfold frTa at h2 ⊢
        clear hK
        go_simp
        simpa [Act.put, e2, y0, s0_] using h2
      · have e3 : t 9 = .bool true := hdep { on := 3, ground := Ground.data } (by simp) rfl
        have h2 := hK (.bool true) x hS (fun j u hj hne h => h) rfl
        unfold frTa at h2 ⊢
        clear hK
        go_simp
        simpa [Act.put, e3, s0_] using h2
      · have e4 : t 10 = .bool true := hdep { on := 4, ground := Ground.guard } (by simp) rfl
        refine skipG 4 false rfl _ rfl 10 rfl true (congrArg some e4) (by decide) ?_
        exact hK undef x hS (fun j u hj hne h => h) rfl
      · have e4 : t 10 = .bool true := hdep { on := 4, ground := Ground.guard } (by simp) rfl
        refine skipG 4 false rfl _ rfl 10 rfl true (congrArg some e4) (by decide) ?_
        exact hK undef x hS (fun j u hj hne h => h) rfl
      · have e4 : t 10 = .bool true := hdep { on := 4, ground := Ground.guard } (by simp) rfl
        refine skipG 4 false rfl _ rfl 10 rfl true (congrArg some e4) (by decide) ?_
        exact hK undef x hS (fun j u hj hne h => h) rfl
      · have e4 : t 10 = .bool true := hdep { on := 4, ground := Ground.guard } (by simp) rfl
        refine skipG 4 false rfl _ rfl 10 rfl true (congrArg some e4) (by decide) ?_
        exact hK undef x hS (fun j u hj hne h => h) rfl
      · have e4 : t 10 = .bool true := hdep { on := 4, ground := Ground.guard } (by simp) rfl
        refine skipG 4 false rfl _ rfl 10 rfl true (congrArg some e4) (by decide) ?_
        exact hK undef x hS (fun j u hj hne h => h) rfl
      · have e4 : t 10 = .bool true := hdep { on := 4, ground := Ground.guard } (by simp) rfl
        refine skipG 4 false rfl _ rfl 10 rfl true (congrArg some e4) (by decide) ?_
        exact hK undef x hS (fun j u hj hne h => h) rfl
      · have e4 : t 10 = .bool true := hdep { on := 4, ground := Ground.guard } (by simp) rfl
        refine skipG 4 false rfl _ rfl 10 rfl true (congrArg some e4) (by decide) ?_
        exact hK undef x hS (fun j u hj hne h => h) rfl
      · have e4 : t 10 = .bool true := hdep { on := 4, ground := Ground.guard } (by simp) rfl
        refine skipG 4 false rfl _ rfl 10 rfl true (congrArg some e4) (by decide) ?_
        exact hK undef x hS (fun j u hj hne h => h) rfl
      · have e4 : t 10 = .bool true := hdep { on := 4, ground := Ground.guard } (by simp) rfl
        refine skipG 4 false rfl _ rfl 10 rfl true (congrArg some e4) (by decide) ?_
        exact hK undef x hS (fun j u hj hne h => h) rfl
      · have e4 : t 10 = .bool true := hdep { on := 4, ground := Ground.guard } (by simp) rfl
        refine skipG 4 false rfl _ rfl 10 rfl true (congrArg some e4) (by decide) ?_
        exact hK undef x hS (fun j u hj hne h => h) rfl
      · have e4 : t 10 = .bool true := hdep { on := 4, ground := Ground.guard } (by simp) rfl
        refine skipG 4 false rfl _ rfl 10 rfl true (congrArg some e4) (by decide) ?_
        exact hK undef x hS (fun j u hj hne h => h) rfl
      · have e4 : t 10 = .bool true := hdep { on := 4, ground := Ground.data } (by simp) rfl
        have e15 : t 21 = undef := hdep { on := 15, ground := Ground.data } (by simp) rfl
        have h2 := hK (.bool true) x hS (fun j u hj hne h => h) rfl
        unfold frTa at h2 ⊢
        clear hK
        go_simp
        simpa [Act.put, e4, e15, s0_] using h2
      · have e16 : t 22 = .bool true := hdep { on := 16, ground := Ground.data } (by simp) rfl
        have h2 := hK (.bool true) x hS (fun j u hj hne h => h) rfl
        unfold frTa at h2 ⊢
        clear hK
        go_simp
        simpa [Act.put, e16, s0_] using h2
      · have e17 : t 23 = .bool true := hdep { on := 17, ground := Ground.guard } (by simp) rfl
        refine skipG 17 false rfl _ rfl 23 rfl true (congrArg some e17) (by decide) ?_
        exact hK undef x hS (fun j u hj hne h => h) rfl
      · have e17 : t 23 = .bool true := hdep { on := 17, ground := Ground.guard } (by simp) rfl
        refine skipG 17 false rfl _ rfl 23 rfl true (congrArg some e17) (by decide) ?_
        exact hK undef x hS (fun j u hj hne h => h) rfl
      · have e17 : t 23 = .bool true := hdep { on := 17, ground := Ground.guard } (by simp) rfl
        refine skipG 17 false rfl _ rfl 23 rfl true (congrArg some e17) (by decide) ?_
        exact hK undef x hS (fun j u hj hne h => h) rfl
      · have e17 : t 23 = .bool true := hdep { on := 17, ground := Ground.guard } (by simp) rfl
        refine skipG 17 false rfl _ rfl 23 rfl true (congrArg some e17) (by decide) ?_
        exact hK undef x hS (fun j u hj hne h => h) rfl
      · have e17 : t 23 = .bool true := hdep { on := 17, ground := Ground.guard } (by simp) rfl
        refine skipG 17 false rfl _ rfl 23 rfl true (congrArg some e17) (by decide) ?_
        exact hK undef x hS (fun j u hj hne h => h) rfl
      · have e17 : t 23 = .bool true := hdep { on := 17, ground := Ground.guard } (by simp) rfl
        refine skipG 17 false rfl _ rfl 23 rfl true (congrArg some e17) (by decide) ?_
        exact hK undef x hS (fun j u hj hne h => h) rfl
      · have e17 : t 23 = .bool true := hdep { on := 17, ground := Ground.guard } (by simp) rfl
        refine skipG 17 false rfl _ rfl 23 rfl true (congrArg some e17) (by decide) ?_
        exact hK undef x hS (fun j u hj hne h => h) rfl
      · have e17 : t 23 = .bool true := hdep { on := 17, ground := Ground.guard } (by simp) rfl
        refine skipG 17 false rfl _ rfl 23 rfl true (congrArg some e17) (by decide) ?_
        exact hK undef x hS (fun j u hj hne h => h) rfl
      · have e17 : t 23 = .bool true := hdep { on := 17, ground := Ground.guard } (by simp) rfl
        refine skipG 17 false rfl _ rfl 23 rfl true (congrArg some e17) (by decide) ?_
        exact hK undef x hS (fun j u hj hne h => h) rfl
      · have e17 : t 23 = .bool true := hdep { on := 17, ground := Ground.guard } (by simp) rfl
        refine skipG 17 false rfl _ rfl 23 rfl true (congrArg some e17) (by decide) ?_
        exact hK undef x hS (fun j u hj hne h => h) rfl
      · have e17 : t 23 = .bool true := hdep { on := 17, ground := Ground.guard } (by simp) rfl
        refine skipG 17 false rfl _ rfl 23 rfl true (congrArg some e17) (by decide) ?_
        exact hK undef x hS (fun j u hj hne h => h) rfl
      · have e17 : t 23 = .bool true := hdep { on := 17, ground := Ground.guard } (by simp) rfl
        refine skipG 17 false rfl _ rfl 23 rfl true (congrArg some e17) (by decide) ?_
        exact hK undef x hS (fun j u hj hne h => h) rfl
      · have e17 : t 23 = .bool true := hdep { on := 17, ground := Ground.guard } (by simp) rfl
        refine skipG 17 false rfl _ rfl 23 rfl true (congrArg some e17) (by decide) ?_
        exact hK undef x hS (fun j u hj hne h => h) rfl
      · have e17 : t 23 = .bool true := hdep { on := 17, ground := Ground.guard } (by simp) rfl
        refine skipG 17 false rfl _ rfl 23 rfl true (congrArg some e17) (by decide) ?_
        exact hK undef x hS (fun j u hj hne h => h) rfl
    case done =>
      intro t w2 hS hG
      have e17 : t 23 = .bool true := hG 17 (by decide)
      clear hG
      try clear jm
      try clear CB
      show wpList Tryz.prog _ _ [_] _ w2
      unfold frTa
      simp only [e17, s0_]
      clear e17 s0_
      have HS : Hid (Below w.heap.size w w2) := hS
      clear hS
      go_wp2_with fail
      refine bodyPost_ret (results_none rfl _ _ _) rfl ?_
      have hret : told r = r := HE.out
      rw [hret]
      exact ⟨rfl, _, H0.out.kept HS.out, HS.out.mono H0.out.le⟩
  | false =>
    rw [hn] at CB
    cases hmj : dB (maj r.ch.length r.p) with
    | false =>
      have HE : Hid (told r = r) := (show _ = _ by unfold told; exact if_pos (.inr (.inl (dB_not hmj))))
      rw [hmj] at jm
      obtain ⟨q, hq⟩ : ∃ q : Int, q = 0 := ⟨_, rfl⟩
      go_enter Tryz.func114, Tryz.ntmps114
      go_upto_region 0 with fail
      clear hn hq hmj
      obtain ⟨lo, hlo⟩ : ∃ lo, lo = w.heap.size := ⟨_, rfl⟩
      generalize hA : Act.mk _ _ = A
      obtain ⟨s, hs, s0_⟩ : ∃ s : Nat → Value, A = frTb s s ∧ s 0 = .pointer (some ⟨b, 0, none⟩) := by
        refine ⟨fun i => A.tmps.getD i undef, ?_, ?_⟩ <;> rw [← hA] <;> rfl
      rw [hs]
      clear hs hA
      refine region_heads 32 mixed (by decide) (by kernel_rfl) (by kernel_rfl) (by kernel_rfl) (by kernel_rfl) (frTb s) dTb (fun x => Below w.heap.size w x) (GTb r q b lo la lc oa oc ca cc ta tc) (fun i j hi hj h => dTb_ne hi hj h) ?put s rfl S0 ?step ?done
      case put =>
        intro i o hi ho t v
        rcases (show i = 0 ∨ i = 1 ∨ i = 2 ∨ i = 3 ∨ i = 4 ∨ i = 5 ∨ i = 6 ∨ i = 7 ∨ i = 8 ∨ i = 9 ∨ i = 10 ∨ i = 11 ∨ i = 12 ∨ i = 13 ∨ i = 14 ∨ i = 15 ∨ i = 16 ∨ i = 17 ∨ i = 18 ∨ i = 19 ∨ i = 20 ∨ i = 21 ∨ i = 22 ∨ i = 23 ∨ i = 24 ∨ i = 25 ∨ i = 26 ∨ i = 27 ∨ i = 28 ∨ i = 29 ∨ i = 30 ∨ i = 31 by omega) with rfl | rfl | rfl | rfl | rfl | rfl | rfl | rfl | rfl | rfl | rfl | rfl | rfl | rfl | rfl | rfl | rfl | rfl | rfl | rfl | rfl | rfl | rfl | rfl | rfl | rfl | rfl | rfl | rfl | rfl | rfl | rfl
        all_goals
          obtain rfl := Option.some.inj ho
          rfl
      case step =>
        intro i o hi ho t x hS hdep K hK
        rcases (show i = 0 ∨ i = 1 ∨ i = 2 ∨ i = 3 ∨ i = 4 ∨ i = 5 ∨ i = 6 ∨ i = 7 ∨ i = 8 ∨ i = 9 ∨ i = 10 ∨ i = 11 ∨ i = 12 ∨ i = 13 ∨ i = 14 ∨ i = 15 ∨ i = 16 ∨ i = 17 ∨ i = 18 ∨ i = 19 ∨ i = 20 ∨ i = 21 ∨ i = 22 ∨ i = 23 ∨ i = 24 ∨ i = 25 ∨ i = 26 ∨ i = 27 ∨ i = 28 ∨ i = 29 ∨ i = 30 ∨ i = 31 by omega) with rfl | rfl | rfl | rfl | rfl | rfl | rfl | rfl | rfl | rfl | rfl | rfl | rfl | rfl | rfl | rfl | rfl | rfl | rfl | rfl | rfl | rfl | rfl | rfl | rfl | rfl | rfl | rfl | rfl | rfl | rfl | rfl
        all_goals obtain rfl := Option.some.inj ho
        · have h2 := hK (.pointer (some ⟨b, 0, none⟩)) x hS (fun j u hj hne h => h) rfl
          unfold frTb at h2 ⊢
          clear hK
          go_simp
          simpa [Act.put, s0_] using h2
        · have e0 : t 6 = .pointer (some ⟨b, 0, none⟩) := hdep { on := 0, ground := Ground.data } (by simp) rfl
          have h2 := hK (.pointer (some ⟨b, 0, none⟩)) x hS (fun j u hj hne h => h) rfl
          unfold frTb at h2 ⊢
          clear hK
          go_simp
          simpa [Act.put, e0, s0_] using h2
        · have e1 : t 7 = .pointer (some ⟨b, 0, none⟩) := hdep { on := 1, ground := Ground.data } (by simp) rfl
          have h2 := hK (.pointer (some ⟨b, 3, none⟩)) x hS (fun j u hj hne h => h) rfl
          unfold frTb at h2 ⊢
          clear hK
          go_simp
          simpa [Act.put, e1, s0_] using h2
        · have e2 : t 8 = .pointer (some ⟨b, 3, none⟩) := hdep { on := 2, ground := Ground.data } (by simp) rfl
          have y0 := (CB x hS).2.2.2.1
          have h2 := hK (.bool false) x hS (fun j u hj hne h => h) rfl
          unfold frTb at h2 ⊢
          clear hK
          go_simp
          simpa [Act.put, e2, y0, s0_] using h2
        · have e3 : t 9 = .bool false := hdep { on := 3, ground := Ground.data } (by simp) rfl
          have h2 := hK (.bool false) x hS (fun j u hj hne h => h) rfl
          unfold frTb at h2 ⊢
          clear hK
          go_simp
          simpa [Act.put, e3, s0_] using h2
        · have e4 : t 10 = .bool false := hdep { on := 4, ground := Ground.guard } (by simp) rfl
          have h2 := hK (.pointer (some ⟨b, 0, none⟩)) x hS (fun j u hj hne h => h) rfl
          unfold frTb at h2 ⊢
          clear hK
          go_simp
          simpa [Act.put, e4, s0_] using h2
        · have e5 : t 11 = .pointer (some ⟨b, 0, none⟩) := hdep { on := 5, ground := Ground.data } (by simp) rfl
          have e4 : t 10 = .bool false := hdep { on := 4, ground := Ground.guard } (by simp) rfl
          have h2 := hK (.pointer (some ⟨b, 0, none⟩)) x hS (fun j u hj hne h => h) rfl
          unfold frTb at h2 ⊢
          clear hK
          go_simp
          simpa [Act.put, e5, e4, s0_] using h2
        · have e6 : t 12 = .pointer (some ⟨b, 0, none⟩) := hdep { on := 6, ground := Ground.data } (by simp) rfl
          have e4 : t 10 = .bool false := hdep { on := 4, ground := Ground.guard } (by simp) rfl
          have h2 := hK (.pointer (some ⟨b, 8, none⟩)) x hS (fun j u hj hne h => h) rfl
          unfold frTb at h2 ⊢
          clear hK
          go_simp
          simpa [Act.put, e6, e4, s0_] using h2
        · have e7 : t 13 = .pointer (some ⟨b, 8, none⟩) := hdep { on := 7, ground := Ground.data } (by simp) rfl
          have e4 : t 10 = .bool false := hdep { on := 4, ground := Ground.guard } (by simp) rfl
          have y0 := (CB x hS).2.2.2.2.2.2.2.2.1
          have h2 := hK (.slice ca r.ch.length cc) x hS (fun j u hj hne h => h) rfl
          unfold frTb at h2 ⊢
          clear hK
          go_simp
          simpa [Act.put, e7, e4, y0, s0_] using h2
        · have e8 : t 14 = .slice ca r.ch.length cc := hdep { on := 8, ground := Ground.data } (by simp) rfl
          have e4 : t 10 = .bool false := hdep { on := 4, ground := Ground.guard } (by simp) rfl
          have h2 := hK (.int .i64 (r.ch.length : Int)) x hS (fun j u hj hne h => h) rfl
          unfold frTb at h2 ⊢
          clear hK
          go_simp
          simpa [Act.put, e8, e4, s0_] using h2
        · have e4 : t 10 = .bool false := hdep { on := 4, ground := Ground.guard } (by simp) rfl
          have h2 := hK (.pointer (some ⟨b, 0, none⟩)) x hS (fun j u hj hne h => h) rfl
          unfold frTb at h2 ⊢
          clear hK
          go_simp
          simpa [Act.put, e4, s0_] using h2
        · have e10 : t 16 = .pointer (some ⟨b, 0, none⟩) := hdep { on := 10, ground := Ground.data } (by simp) rfl
          have e4 : t 10 = .bool false := hdep { on := 4, ground := Ground.guard } (by simp) rfl
          have h2 := hK (.pointer (some ⟨b, 0, none⟩)) x hS (fun j u hj hne h => h) rfl
          unfold frTb at h2 ⊢
          clear hK
          go_simp
          simpa [Act.put, e10, e4, s0_] using h2
        · have e11 : t 17 = .pointer (some ⟨b, 0, none⟩) := hdep { on := 11, ground := Ground.data } (by simp) rfl
          have e4 : t 10 = .bool false := hdep { on := 4, ground := Ground.guard } (by simp) rfl
          have h2 := hK (.pointer (some ⟨b, 1, none⟩)) x hS (fun j u hj hne h => h) rfl
          unfold frTb at h2 ⊢
          clear hK
          go_simp
          simpa [Act.put, e11, e4, s0_] using h2
        · have e12 : t 18 = .pointer (some ⟨b, 1, none⟩) := hdep { on := 12, ground := Ground.data } (by simp) rfl
          have e4 : t 10 = .bool false := hdep { on := 4, ground := Ground.guard } (by simp) rfl
          have y0 := (CB x hS).2.1
          have h2 := hK (.int .i64 r.p) x hS (fun j u hj hne h => h) rfl
          unfold frTb at h2 ⊢
          clear hK
          go_simp
          simpa [Act.put, e12, e4, y0, s0_] using h2
        · have e9 : t 15 = .int .i64 (r.ch.length : Int) := hdep { on := 9, ground := Ground.data } (by simp) rfl
          have e13 : t 19 = .int .i64 r.p := hdep { on := 13, ground := Ground.data } (by simp) rfl
          have e4 : t 10 = .bool false := hdep { on := 4, ground := Ground.guard } (by simp) rfl
          refine callG2 (wantG 4 false rfl _ rfl 10 rfl (congrArg some e4)) 162 (.tmp 15) (.tmp 19) _ rfl (.int .i64 (r.ch.length : Int)) (.int .i64 r.p) e9 e13 (Go.Proofs.enters_of Tryz.func162 (by kernel_rfl) rfl _) (fun v y => (v = .bool false) ∧ Below x.heap.size x y) ((jm x).mono ?_) ?_
          · rintro e0 y0 ⟨h0, rfl⟩
            exact ⟨_, h0, rfl, Below.refl _ _⟩
          · rintro v y ⟨h0, hb2⟩
            exact hK v y (hS.trans (hb2.mono hS.size)) (fun j u hj hne h => GTb.keep hb2 j u hj h) h0
        · have e14 : t 20 = .bool false := hdep { on := 14, ground := Ground.data } (by simp) rfl
          have e4 : t 10 = .bool false := hdep { on := 4, ground := Ground.guard } (by simp) rfl
          have h2 := hK (.bool true) x hS (fun j u hj hne h => h) rfl
          unfold frTb at h2 ⊢
          clear hK
          go_simp
          simpa [Act.put, e14, e4, s0_] using h2
        · have e4 : t 10 = .bool false := hdep { on := 4, ground := Ground.data } (by simp) rfl
          have e15 : t 21 = .bool true := hdep { on := 15, ground := Ground.data } (by simp) rfl
          have h2 := hK (.bool true) x hS (fun j u hj hne h => h) rfl
          unfold frTb at h2 ⊢
          clear hK
          go_simp
          simpa [Act.put, e4, e15, s0_] using h2
        · have e16 : t 22 = .bool true := hdep { on := 16, ground := Ground.data } (by simp) rfl
          have h2 := hK (.bool true) x hS (fun j u hj hne h => h) rfl
          unfold frTb at h2 ⊢
          clear hK
          go_simp
          simpa [Act.put, e16, s0_] using h2
        · have e17 : t 23 = .bool true := hdep { on := 17, ground := Ground.guard } (by simp) rfl
          refine skipG 17 false rfl _ rfl 23 rfl true (congrArg some e17) (by decide) ?_
          exact hK undef x hS (fun j u hj hne h => h) rfl
        · have e17 : t 23 = .bool true := hdep { on := 17, ground := Ground.guard } (by simp) rfl
          refine skipG 17 false rfl _ rfl 23 rfl true (congrArg some e17) (by decide) ?_
          exact hK undef x hS (fun j u hj hne h => h) rfl
        · have e17 : t 23 = .bool true := hdep { on := 17, ground := Ground.guard } (by simp) rfl
          refine skipG 17 false rfl _ rfl 23 rfl true (congrArg some e17) (by decide) ?_
          exact hK undef x hS (fun j u hj hne h => h) rfl
        · have e17 : t 23 = .bool true := hdep { on := 17, ground := Ground.guard } (by simp) rfl
          refine skipG 17 false rfl _ rfl 23 rfl true (congrArg some e17) (by decide) ?_
          exact hK undef x hS (fun j u hj hne h => h) rfl
        · have e17 : t 23 = .bool true := hdep { on := 17, ground := Ground.guard } (by simp) rfl
          refine skipG 17 false rfl _ rfl 23 rfl true (congrArg some e17) (by decide) ?_
          exact hK undef x hS (fun j u hj hne h => h) rfl
        · have e17 : t 23 = .bool true := hdep { on := 17, ground := Ground.guard } (by simp) rfl
          refine skipG 17 false rfl _ rfl 23 rfl true (congrArg some e17) (by decide) ?_
          exact hK undef x hS (fun j u hj hne h => h) rfl
        · have e17 : t 23 = .bool true := hdep { on := 17, ground := Ground.guard } (by simp) rfl
          refine skipG 17 false rfl _ rfl 23 rfl true (congrArg some e17) (by decide) ?_
          exact hK undef x hS (fun j u hj hne h => h) rfl
        · have e17 : t 23 = .bool true := hdep { on := 17, ground := Ground.guard } (by simp) rfl
          refine skipG 17 false rfl _ rfl 23 rfl true (congrArg some e17) (by decide) ?_
          exact hK undef x hS (fun j u hj hne h => h) rfl
        · have e17 : t 23 = .bool true := hdep { on := 17, ground := Ground.guard } (by simp) rfl
          refine skipG 17 false rfl _ rfl 23 rfl true (congrArg some e17) (by decide) ?_
          exact hK undef x hS (fun j u hj hne h => h) rfl
        · have e17 : t 23 = .bool true := hdep { on := 17, ground := Ground.guard } (by simp) rfl
          refine skipG 17 false rfl _ rfl 23 rfl true (congrArg some e17) (by decide) ?_
          exact hK undef x hS (fun j u hj hne h => h) rfl
        · have e17 : t 23 = .bool true := hdep { on := 17, ground := Ground.guard } (by simp) rfl
          refine skipG 17 false rfl _ rfl 23 rfl true (congrArg some e17) (by decide) ?_
          exact hK undef x hS (fun j u hj hne h => h) rfl
        · have e17 : t 23 = .bool true := hdep { on := 17, ground := Ground.guard } (by simp) rfl
          refine skipG 17 false rfl _ rfl 23 rfl true (congrArg some e17) (by decide) ?_
          exact hK undef x hS (fun j u hj hne h => h) rfl
        · have e17 : t 23 = .bool true := hdep { on := 17, ground := Ground.guard } (by simp) rfl
          refine skipG 17 false rfl _ rfl 23 rfl true (congrArg some e17) (by decide) ?_
          exact hK undef x hS (fun j u hj hne h => h) rfl
        · have e17 : t 23 = .bool true := hdep { on := 17, ground := Ground.guard } (by simp) rfl
          refine skipG 17 false rfl _ rfl 23 rfl true (congrArg some e17) (by decide) ?_
          exact hK undef x hS (fun j u hj hne h => h) rfl
      case done =>
        intro t w2 hS hG
        have e17 : t 23 = .bool true := hG 17 (by decide)
        clear hG
        try clear jm
        try clear CB
        show wpList Tryz.prog _ _ [_] _ w2
        unfold frTb
        simp only [e17, s0_]
        clear e17 s0_
        have HS : Hid (Below w.heap.size w w2) := hS
        clear hS
        go_wp2_with fail
        refine bodyPost_ret (results_none rfl _ _ _) rfl ?_
        have hret : told r = r := HE.out
        rw [hret]
        exact ⟨rfl, _, H0.out.kept HS.out, HS.out.mono H0.out.le⟩
    | true =>
      rw [hmj] at jm
      have em : Int.tmod r.v r.p = r.v % r.p := modE HR.out.v.1
      have hpz : ¬ r.p = 0 := by rcases HR.out.p with h | h | h <;> rw [h] <;> decide
      have ew : wrap64 (r.v % r.p) = r.v % r.p := by unfold wrap64; rcases HR.out.p with h | h | h <;> rw [h] <;> omega
      obtain ⟨q, hq⟩ : ∃ q : Int, q = r.v % r.p := ⟨_, rfl⟩
      have HQ : Hid (q = r.v % r.p) := hq
      rw [← hq] at em ew
      go_enter Tryz.func114, Tryz.ntmps114
      go_upto_region 0 with fail
      have HN : Hid (r.n = false ∧ maj r.ch.length r.p) := (show _ ∧ _ from ⟨hn, dB_is hmj⟩)
      clear hn hq hmj
      obtain ⟨lo, hlo⟩ : ∃ lo, lo = w.heap.size := ⟨_, rfl⟩
      generalize hA : Act.mk _ _ = A
      obtain ⟨s, hs, s0_⟩ : ∃ s : Nat → Value, A = frTc s s ∧ s 0 = .pointer (some ⟨b, 0, none⟩) := by
        refine ⟨fun i => A.tmps.getD i undef, ?_, ?_⟩ <;> rw [← hA] <;> rfl
      rw [hs]
      clear hs hA
      refine region_heads 32 mixed (by decide) (by kernel_rfl) (by kernel_rfl) (by kernel_rfl) (by kernel_rfl) (frTc s) dTc (fun x => Below w.heap.size w x) (GTc r q b lo la lc oa oc ca cc ta tc) (fun i j hi hj h => dTc_ne hi hj h) ?put s rfl S0 ?step ?done
      case put =>
        intro i o hi ho t v
        rcases (show i = 0 ∨ i = 1 ∨ i = 2 ∨ i = 3 ∨ i = 4 ∨ i = 5 ∨ i = 6 ∨ i = 7 ∨ i = 8 ∨ i = 9 ∨ i = 10 ∨ i = 11 ∨ i = 12 ∨ i = 13 ∨ i = 14 ∨ i = 15 ∨ i = 16 ∨ i = 17 ∨ i = 18 ∨ i = 19 ∨ i = 20 ∨ i = 21 ∨ i = 22 ∨ i = 23 ∨ i = 24 ∨ i = 25 ∨ i = 26 ∨ i = 27 ∨ i = 28 ∨ i = 29 ∨ i = 30 ∨ i = 31 by omega) with rfl | rfl | rfl | rfl | rfl | rfl | rfl | rfl | rfl | rfl | rfl | rfl | rfl | rfl | rfl | rfl | rfl | rfl | rfl | rfl | rfl | rfl | rfl | rfl | rfl | rfl | rfl | rfl | rfl | rfl | rfl | rfl
        all_goals
          obtain rfl := Option.some.inj ho
          rfl
      case step =>
        intro i o hi ho t x hS hdep K hK
        rcases (show i = 0 ∨ i = 1 ∨ i = 2 ∨ i = 3 ∨ i = 4 ∨ i = 5 ∨ i = 6 ∨ i = 7 ∨ i = 8 ∨ i = 9 ∨ i = 10 ∨ i = 11 ∨ i = 12 ∨ i = 13 ∨ i = 14 ∨ i = 15 ∨ i = 16 ∨ i = 17 ∨ i = 18 ∨ i = 19 ∨ i = 20 ∨ i = 21 ∨ i = 22 ∨ i = 23 ∨ i = 24 ∨ i = 25 ∨ i = 26 ∨ i = 27 ∨ i = 28 ∨ i = 29 ∨ i = 30 ∨ i = 31 by omega) with rfl | rfl | rfl | rfl | rfl | rfl | rfl | rfl | rfl | rfl | rfl | rfl | rfl | rfl | rfl | rfl | rfl | rfl | rfl | rfl | rfl | rfl | rfl | rfl | rfl | rfl | rfl | rfl | rfl | rfl | rfl | rfl
        all_goals obtain rfl := Option.some.inj ho
        · have h2 := hK (.pointer (some ⟨b, 0, none⟩)) x hS (fun j u hj hne h => h) rfl
          unfold frTc at h2 ⊢
          clear hK
          go_simp
          simpa [Act.put, s0_] using h2
        · have e0 : t 6 = .pointer (some ⟨b, 0, none⟩) := hdep { on := 0, ground := Ground.data } (by simp) rfl
          have h2 := hK (.pointer (some ⟨b, 0, none⟩)) x hS (fun j u hj hne h => h) rfl
          unfold frTc at h2 ⊢
          clear hK
          go_simp
          simpa [Act.put, e0, s0_] using h2
        · have e1 : t 7 = .pointer (some ⟨b, 0, none⟩) := hdep { on := 1, ground := Ground.data } (by simp) rfl
          have h2 := hK (.pointer (some ⟨b, 3, none⟩)) x hS (fun j u hj hne h => h) rfl
          unfold frTc at h2 ⊢
          clear hK
          go_simp
          simpa [Act.put, e1, s0_] using h2
        · have e2 : t 8 = .pointer (some ⟨b, 3, none⟩) := hdep { on := 2, ground := Ground.data } (by simp) rfl
          have y0 := (CB x hS).2.2.2.1
          have h2 := hK (.bool false) x hS (fun j u hj hne h => h) rfl
          unfold frTc at h2 ⊢
          clear hK
          go_simp
          simpa [Act.put, e2, y0, s0_] using h2
        · have e3 : t 9 = .bool false := hdep { on := 3, ground := Ground.data } (by simp) rfl
          have h2 := hK (.bool false) x hS (fun j u hj hne h => h) rfl
          unfold frTc at h2 ⊢
          clear hK
          go_simp
          simpa [Act.put, e3, s0_] using h2
        · have e4 : t 10 = .bool false := hdep { on := 4, ground := Ground.guard } (by simp) rfl
          have h2 := hK (.pointer (some ⟨b, 0, none⟩)) x hS (fun j u hj hne h => h) rfl
          unfold frTc at h2 ⊢
          clear hK
          go_simp
          simpa [Act.put, e4, s0_] using h2
        · have e5 : t 11 = .pointer (some ⟨b, 0, none⟩) := hdep { on := 5, ground := Ground.data } (by simp) rfl
          have e4 : t 10 = .bool false := hdep { on := 4, ground := Ground.guard } (by simp) rfl
          have h2 := hK (.pointer (some ⟨b, 0, none⟩)) x hS (fun j u hj hne h => h) rfl
          unfold frTc at h2 ⊢
          clear hK
          go_simp
          simpa [Act.put, e5, e4, s0_] using h2
        · have e6 : t 12 = .pointer (some ⟨b, 0, none⟩) := hdep { on := 6, ground := Ground.data } (by simp) rfl
          have e4 : t 10 = .bool false := hdep { on := 4, ground := Ground.guard } (by simp) rfl
          have h2 := hK (.pointer (some ⟨b, 8, none⟩)) x hS (fun j u hj hne h => h) rfl
          unfold frTc at h2 ⊢
          clear hK
          go_simp
          simpa [Act.put, e6, e4, s0_] using h2
        · have e7 : t 13 = .pointer (some ⟨b, 8, none⟩) := hdep { on := 7, ground := Ground.data } (by simp) rfl
          have e4 : t 10 = .bool false := hdep { on := 4, ground := Ground.guard } (by simp) rfl
          have y0 := (CB x hS).2.2.2.2.2.2.2.2.1
          have h2 := hK (.slice ca r.ch.length cc) x hS (fun j u hj hne h => h) rfl
          unfold frTc at h2 ⊢
          clear hK
          go_simp
          simpa [Act.put, e7, e4, y0, s0_] using h2
        · have e8 : t 14 = .slice ca r.ch.length cc := hdep { on := 8, ground := Ground.data } (by simp) rfl
          have e4 : t 10 = .bool false := hdep { on := 4, ground := Ground.guard } (by simp) rfl
          have h2 := hK (.int .i64 (r.ch.length : Int)) x hS (fun j u hj hne h => h) rfl
          unfold frTc at h2 ⊢
          clear hK
          go_simp
          simpa [Act.put, e8, e4, s0_] using h2
        · have e4 : t 10 = .bool false := hdep { on := 4, ground := Ground.guard } (by simp) rfl
          have h2 := hK (.pointer (some ⟨b, 0, none⟩)) x hS (fun j u hj hne h => h) rfl
          unfold frTc at h2 ⊢
          clear hK
          go_simp
          simpa [Act.put, e4, s0_] using h2
        · have e10 : t 16 = .pointer (some ⟨b, 0, none⟩) := hdep { on := 10, ground := Ground.data } (by simp) rfl
          have e4 : t 10 = .bool false := hdep { on := 4, ground := Ground.guard } (by simp) rfl
          have h2 := hK (.pointer (some ⟨b, 0, none⟩)) x hS (fun j u hj hne h => h) rfl
          unfold frTc at h2 ⊢
          clear hK
          go_simp
          simpa [Act.put, e10, e4, s0_] using h2
        · have e11 : t 17 = .pointer (some ⟨b, 0, none⟩) := hdep { on := 11, ground := Ground.data } (by simp) rfl
          have e4 : t 10 = .bool false := hdep { on := 4, ground := Ground.guard } (by simp) rfl
          have h2 := hK (.pointer (some ⟨b, 1, none⟩)) x hS (fun j u hj hne h => h) rfl
          unfold frTc at h2 ⊢
          clear hK
          go_simp
          simpa [Act.put, e11, e4, s0_] using h2
        · have e12 : t 18 = .pointer (some ⟨b, 1, none⟩) := hdep { on := 12, ground := Ground.data } (by simp) rfl
          have e4 : t 10 = .bool false := hdep { on := 4, ground := Ground.guard } (by simp) rfl
          have y0 := (CB x hS).2.1
          have h2 := hK (.int .i64 r.p) x hS (fun j u hj hne h => h) rfl
          unfold frTc at h2 ⊢
          clear hK
          go_simp
          simpa [Act.put, e12, e4, y0, s0_] using h2
        · have e9 : t 15 = .int .i64 (r.ch.length : Int) := hdep { on := 9, ground := Ground.data } (by simp) rfl
          have e13 : t 19 = .int .i64 r.p := hdep { on := 13, ground := Ground.data } (by simp) rfl
          have e4 : t 10 = .bool false := hdep { on := 4, ground := Ground.guard } (by simp) rfl
          refine callG2 (wantG 4 false rfl _ rfl 10 rfl (congrArg some e4)) 162 (.tmp 15) (.tmp 19) _ rfl (.int .i64 (r.ch.length : Int)) (.int .i64 r.p) e9 e13 (Go.Proofs.enters_of Tryz.func162 (by kernel_rfl) rfl _) (fun v y => (v = .bool true) ∧ Below x.heap.size x y) ((jm x).mono ?_) ?_
          · rintro e0 y0 ⟨h0, rfl⟩
            exact ⟨_, h0, rfl, Below.refl _ _⟩
          · rintro v y ⟨h0, hb2⟩
            exact hK v y (hS.trans (hb2.mono hS.size)) (fun j u hj hne h => GTc.keep hb2 j u hj h) h0
        · have e14 : t 20 = .bool true := hdep { on := 14, ground := Ground.data } (by simp) rfl
          have e4 : t 10 = .bool false := hdep { on := 4, ground := Ground.guard } (by simp) rfl
          have h2 := hK (.bool false) x hS (fun j u hj hne h => h) rfl
          unfold frTc at h2 ⊢
          clear hK
          go_simp
          simpa [Act.put, e14, e4, s0_] using h2
        · have e4 : t 10 = .bool false := hdep { on := 4, ground := Ground.data } (by simp) rfl
          have e15 : t 21 = .bool false := hdep { on := 15, ground := Ground.data } (by simp) rfl
          have h2 := hK (.bool false) x hS (fun j u hj hne h => h) rfl
          unfold frTc at h2 ⊢
          clear hK
          go_simp
          simpa [Act.put, e4, e15, s0_] using h2
        · have e16 : t 22 = .bool false := hdep { on := 16, ground := Ground.data } (by simp) rfl
          have h2 := hK (.bool false) x hS (fun j u hj hne h => h) rfl
          unfold frTc at h2 ⊢
          clear hK
          go_simp
          simpa [Act.put, e16, s0_] using h2
        · have e17 : t 23 = .bool false := hdep { on := 17, ground := Ground.guard } (by simp) rfl
          have h2 := hK (.pointer (some ⟨b, 0, none⟩)) x hS (fun j u hj hne h => h) rfl
          unfold frTc at h2 ⊢
          clear hK
          go_simp
          simpa [Act.put, e17, s0_] using h2
        · have e18 : t 24 = .pointer (some ⟨b, 0, none⟩) := hdep { on := 18, ground := Ground.data } (by simp) rfl
          have e17 : t 23 = .bool false := hdep { on := 17, ground := Ground.guard } (by simp) rfl
          have h2 := hK (.pointer (some ⟨b, 0, none⟩)) x hS (fun j u hj hne h => h) rfl
          unfold frTc at h2 ⊢
          clear hK
          go_simp
          simpa [Act.put, e18, e17, s0_] using h2
        · have e19 : t 25 = .pointer (some ⟨b, 0, none⟩) := hdep { on := 19, ground := Ground.data } (by simp) rfl
          have e17 : t 23 = .bool false := hdep { on := 17, ground := Ground.guard } (by simp) rfl
          have h2 := hK (.pointer (some ⟨b, 2, none⟩)) x hS (fun j u hj hne h => h) rfl
          unfold frTc at h2 ⊢
          clear hK
          go_simp
          simpa [Act.put, e19, e17, s0_] using h2
        · have e20 : t 26 = .pointer (some ⟨b, 2, none⟩) := hdep { on := 20, ground := Ground.data } (by simp) rfl
          have e17 : t 23 = .bool false := hdep { on := 17, ground := Ground.guard } (by simp) rfl
          have y0 := (CB x hS).2.2.1
          have h2 := hK (.int .i64 r.v) x hS (fun j u hj hne h => h) rfl
          unfold frTc at h2 ⊢
          clear hK
          go_simp
          simpa [Act.put, e20, e17, y0, s0_] using h2
        · have e17 : t 23 = .bool false := hdep { on := 17, ground := Ground.guard } (by simp) rfl
          have h2 := hK (.pointer (some ⟨b, 0, none⟩)) x hS (fun j u hj hne h => h) rfl
          unfold frTc at h2 ⊢
          clear hK
          go_simp
          simpa [Act.put, e17, s0_] using h2
        · have e22 : t 28 = .pointer (some ⟨b, 0, none⟩) := hdep { on := 22, ground := Ground.data } (by simp) rfl
          have e17 : t 23 = .bool false := hdep { on := 17, ground := Ground.guard } (by simp) rfl
          have h2 := hK (.pointer (some ⟨b, 0, none⟩)) x hS (fun j u hj hne h => h) rfl
          unfold frTc at h2 ⊢
          clear hK
          go_simp
          simpa [Act.put, e22, e17, s0_] using h2
        · have e23 : t 29 = .pointer (some ⟨b, 0, none⟩) := hdep { on := 23, ground := Ground.data } (by simp) rfl
          have e17 : t 23 = .bool false := hdep { on := 17, ground := Ground.guard } (by simp) rfl
          have h2 := hK (.pointer (some ⟨b, 1, none⟩)) x hS (fun j u hj hne h => h) rfl
          unfold frTc at h2 ⊢
          clear hK
          go_simp
          simpa [Act.put, e23, e17, s0_] using h2
        · have e24 : t 30 = .pointer (some ⟨b, 1, none⟩) := hdep { on := 24, ground := Ground.data } (by simp) rfl
          have e17 : t 23 = .bool false := hdep { on := 17, ground := Ground.guard } (by simp) rfl
          have y0 := (CB x hS).2.1
          have h2 := hK (.int .i64 r.p) x hS (fun j u hj hne h => h) rfl
          unfold frTc at h2 ⊢
          clear hK
          go_simp
          simpa [Act.put, e24, e17, y0, s0_] using h2
        · have e21 : t 27 = .int .i64 r.v := hdep { on := 21, ground := Ground.data } (by simp) rfl
          have e25 : t 31 = .int .i64 r.p := hdep { on := 25, ground := Ground.data } (by simp) rfl
          have e17 : t 23 = .bool false := hdep { on := 17, ground := Ground.guard } (by simp) rfl
          have h2 := hK (.int .i64 q) x hS (fun j u hj hne h => h) rfl
          unfold frTc at h2 ⊢
          clear hK
          go_simp
          simpa [Act.put, e21, e25, e17, s0_, hpz, em, ew] using h2
        · have e17 : t 23 = .bool false := hdep { on := 17, ground := Ground.guard } (by simp) rfl
          have h2 := hK (.pointer (some ⟨b, 0, none⟩)) x hS (fun j u hj hne h => h) rfl
          unfold frTc at h2 ⊢
          clear hK
          go_simp
          simpa [Act.put, e17, s0_] using h2
        · have e27 : t 33 = .pointer (some ⟨b, 0, none⟩) := hdep { on := 27, ground := Ground.data } (by simp) rfl
          have e17 : t 23 = .bool false := hdep { on := 17, ground := Ground.guard } (by simp) rfl
          have h2 := hK (.pointer (some ⟨b, 0, none⟩)) x hS (fun j u hj hne h => h) rfl
          unfold frTc at h2 ⊢
          clear hK
          go_simp
          simpa [Act.put, e27, e17, s0_] using h2
        · have e28 : t 34 = .pointer (some ⟨b, 0, none⟩) := hdep { on := 28, ground := Ground.data } (by simp) rfl
          have e17 : t 23 = .bool false := hdep { on := 17, ground := Ground.guard } (by simp) rfl
          have h2 := hK (.pointer (some ⟨b, 0, none⟩)) x hS (fun j u hj hne h => h) rfl
          unfold frTc at h2 ⊢
          clear hK
          go_simp
          simpa [Act.put, e28, e17, s0_] using h2
        · have e29 : t 35 = .pointer (some ⟨b, 0, none⟩) := hdep { on := 29, ground := Ground.data } (by simp) rfl
          have e17 : t 23 = .bool false := hdep { on := 17, ground := Ground.guard } (by simp) rfl
          have y0 := (CB x hS).1
          have h2 := hK (.int .i64 r.id) x hS (fun j u hj hne h => h) rfl
          unfold frTc at h2 ⊢
          clear hK
          go_simp
          simpa [Act.put, e29, e17, y0, s0_] using h2
        · have e26 : t 32 = .int .i64 q := hdep { on := 26, ground := Ground.data } (by simp) rfl
          have e30 : t 36 = .int .i64 r.id := hdep { on := 30, ground := Ground.data } (by simp) rfl
          have e17 : t 23 = .bool false := hdep { on := 17, ground := Ground.guard } (by simp) rfl
          have h2 := hK (.bool (q != r.id)) x hS (fun j u hj hne h => h) rfl
          unfold frTc at h2 ⊢
          clear hK
          go_simp
          simpa [Act.put, e26, e30, e17, s0_] using h2
      case done =>
        intro t w2 hS hG
        have e17 : t 23 = .bool false := hG 17 (by decide)
        have e31 : t 37 = .bool (q != r.id) := hG 31 (by decide)
        clear hG
        try clear jm em hpz ew hlo S0
        try clear CB
        show wpList Tryz.prog _ _ [_] _ w2
        unfold frTc
        simp only [e17, e31, s0_]
        clear e17 e31 s0_
        have HS : Hid (Below w.heap.size w w2) := hS
        clear hS
        by_cases hqi : q = r.id
        · have HM : Hid (mine r) := (show mine r from by unfold mine; rw [← HQ.out]; exact hqi)
          rw [show (q != r.id) = false from by simp [hqi]]
          clear hqi
          have H2 : Hid (RpAt w2 B b ⟨.slice la r.l.length lc, .slice oa r.ok.length oc, .slice ca r.ch.length cc, .slice ta r.te.length tc, T⟩ r) := (show Hid _ from H0.out.kept HS.out)
          have WB : Hid (Below B w w2) := (show Hid _ from HS.out.mono H0.out.le)
          have WL : Hid (B ≤ w2.heap.size) := H2.out.le
          have CB := fun x (hS : Below w2.heap.size w2 x) => RpB.cells (show RpB x b r ⟨.slice la r.l.length lc, .slice oa r.ok.length oc, .slice ca r.ch.length cc, .slice ta r.te.length tc, T⟩ from (H2.out.kept hS).c)
          simp only [HN.out.1] at CB
          have jt := fun x (hS : Below w2.heap.size w2 x) => specTell r ⟨.slice la r.l.length lc, .slice oa r.ok.length oc, .slice ca r.ch.length cc, .slice ta r.te.length tc, T⟩ B b (tellM r r.id) (.slice la r.l.length lc) x (H2.out.kept hS) (H2.out.kept hS).got.l (by have := (logB_sm HR.out.l).1; show r.l.length ≤ _; omega) (by have := HR.out.te5.1; have := congrArg List.length H2.out.o.t; rw [List.length_map] at this; show T.length ≤ _; simp only at this; omega)
          unfold tellM msA at jt
          simp only at jt
          go_upto_region 1 with fail
          clear HS H0
          have S0 : Below w2.heap.size w2 w2.drew := ⟨rfl, rfl, rfl, Nat.le_refl _, fun _ _ => rfl⟩
          obtain ⟨lo, hlo⟩ : ∃ lo, lo = w2.heap.size := ⟨_, rfl⟩
          generalize hA : Act.mk _ _ = A
          obtain ⟨s, hs, s0_⟩ : ∃ s : Nat → Value, A = frT1 s s ∧ s 0 = .pointer (some ⟨b, 0, none⟩) := by
            refine ⟨fun i => A.tmps.getD i undef, ?_, ?_⟩ <;> rw [← hA] <;> rfl
          rw [hs]
          clear hs hA
          refine region_heads 26 mixed (by decide) (by kernel_rfl) (by kernel_rfl) (by kernel_rfl) (by kernel_rfl) (frT1 s) dT1 (fun x => Below w2.heap.size w2 x) (GT1 r b lo la lc oa oc ca cc ta tc) (fun i j hi hj h => dT1_ne hi hj h) ?put s rfl S0 ?step ?done
          case put =>
            intro i o hi ho t v
            rcases (show i = 0 ∨ i = 1 ∨ i = 2 ∨ i = 3 ∨ i = 4 ∨ i = 5 ∨ i = 6 ∨ i = 7 ∨ i = 8 ∨ i = 9 ∨ i = 10 ∨ i = 11 ∨ i = 12 ∨ i = 13 ∨ i = 14 ∨ i = 15 ∨ i = 16 ∨ i = 17 ∨ i = 18 ∨ i = 19 ∨ i = 20 ∨ i = 21 ∨ i = 22 ∨ i = 23 ∨ i = 24 ∨ i = 25 by omega) with rfl | rfl | rfl | rfl | rfl | rfl | rfl | rfl | rfl | rfl | rfl | rfl | rfl | rfl | rfl | rfl | rfl | rfl | rfl | rfl | rfl | rfl | rfl | rfl | rfl | rfl
            all_goals
              obtain rfl := Option.some.inj ho
              rfl
          case step =>
            intro i o hi ho t x hS hdep K hK
            rcases (show i = 0 ∨ i = 1 ∨ i = 2 ∨ i = 3 ∨ i = 4 ∨ i = 5 ∨ i = 6 ∨ i = 7 ∨ i = 8 ∨ i = 9 ∨ i = 10 ∨ i = 11 ∨ i = 12 ∨ i = 13 ∨ i = 14 ∨ i = 15 ∨ i = 16 ∨ i = 17 ∨ i = 18 ∨ i = 19 ∨ i = 20 ∨ i = 21 ∨ i = 22 ∨ i = 23 ∨ i = 24 ∨ i = 25 by omega) with rfl | rfl | rfl | rfl | rfl | rfl | rfl | rfl | rfl | rfl | rfl | rfl | rfl | rfl | rfl | rfl | rfl | rfl | rfl | rfl | rfl | rfl | rfl | rfl | rfl | rfl
            all_goals obtain rfl := Option.some.inj ho
            · have h2 := hK (.pointer (some ⟨b, 0, none⟩)) x hS (fun j u hj hne h => h) rfl
              unfold frT1 at h2 ⊢
              clear hK
              go_simp
              simpa [Act.put, s0_] using h2
            · have h2 := hK (.pointer (some ⟨b, 0, none⟩)) x hS (fun j u hj hne h => h) rfl
              unfold frT1 at h2 ⊢
              clear hK
              go_simp
              simpa [Act.put, s0_] using h2
            · have e1 : t 40 = .pointer (some ⟨b, 0, none⟩) := hdep { on := 1, ground := Ground.data } (by simp) rfl
              have h2 := hK (.pointer (some ⟨b, 0, none⟩)) x hS (fun j u hj hne h => h) rfl
              unfold frT1 at h2 ⊢
              clear hK
              go_simp
              simpa [Act.put, e1, s0_] using h2
            · have e2 : t 41 = .pointer (some ⟨b, 0, none⟩) := hdep { on := 2, ground := Ground.data } (by simp) rfl
              have h2 := hK (.pointer (some ⟨b, 0, none⟩)) x hS (fun j u hj hne h => h) rfl
              unfold frT1 at h2 ⊢
              clear hK
              go_simp
              simpa [Act.put, e2, s0_] using h2
            · have e3 : t 42 = .pointer (some ⟨b, 0, none⟩) := hdep { on := 3, ground := Ground.data } (by simp) rfl
              have y0 := (CB x hS).1
              have h2 := hK (.int .i64 r.id) x hS (fun j u hj hne h => h) rfl
              unfold frT1 at h2 ⊢
              clear hK
              go_simp
              simpa [Act.put, e3, y0, s0_] using h2
            · have h2 := hK (.pointer (some ⟨b, 0, none⟩)) x hS (fun j u hj hne h => h) rfl
              unfold frT1 at h2 ⊢
              clear hK
              go_simp
              simpa [Act.put, s0_] using h2
            · have e5 : t 44 = .pointer (some ⟨b, 0, none⟩) := hdep { on := 5, ground := Ground.data } (by simp) rfl
              have h2 := hK (.pointer (some ⟨b, 0, none⟩)) x hS (fun j u hj hne h => h) rfl
              unfold frT1 at h2 ⊢
              clear hK
              go_simp
              simpa [Act.put, e5, s0_] using h2
            · have e6 : t 45 = .pointer (some ⟨b, 0, none⟩) := hdep { on := 6, ground := Ground.data } (by simp) rfl
              have h2 := hK (.pointer (some ⟨b, 0, none⟩)) x hS (fun j u hj hne h => h) rfl
              unfold frT1 at h2 ⊢
              clear hK
              go_simp
              simpa [Act.put, e6, s0_] using h2
            · have e7 : t 46 = .pointer (some ⟨b, 0, none⟩) := hdep { on := 7, ground := Ground.data } (by simp) rfl
              have y0 := (CB x hS).1
              have h2 := hK (.int .i64 r.id) x hS (fun j u hj hne h => h) rfl
              unfold frT1 at h2 ⊢
              clear hK
              go_simp
              simpa [Act.put, e7, y0, s0_] using h2
            · have h2 := hK (.pointer (some ⟨b, 0, none⟩)) x hS (fun j u hj hne h => h) rfl
              unfold frT1 at h2 ⊢
              clear hK
              go_simp
              simpa [Act.put, s0_] using h2
            · have e9 : t 48 = .pointer (some ⟨b, 0, none⟩) := hdep { on := 9, ground := Ground.data } (by simp) rfl
              have h2 := hK (.pointer (some ⟨b, 0, none⟩)) x hS (fun j u hj hne h => h) rfl
              unfold frT1 at h2 ⊢
              clear hK
              go_simp
              simpa [Act.put, e9, s0_] using h2
            · have e10 : t 49 = .pointer (some ⟨b, 0, none⟩) := hdep { on := 10, ground := Ground.data } (by simp) rfl
              have h2 := hK (.pointer (some ⟨b, 2, none⟩)) x hS (fun j u hj hne h => h) rfl
              unfold frT1 at h2 ⊢
              clear hK
              go_simp
              simpa [Act.put, e10, s0_] using h2
            · have e11 : t 50 = .pointer (some ⟨b, 2, none⟩) := hdep { on := 11, ground := Ground.data } (by simp) rfl
              have y0 := (CB x hS).2.2.1
              have h2 := hK (.int .i64 r.v) x hS (fun j u hj hne h => h) rfl
              unfold frT1 at h2 ⊢
              clear hK
              go_simp
              simpa [Act.put, e11, y0, s0_] using h2
            · have h2 := hK (.pointer (some ⟨b, 0, none⟩)) x hS (fun j u hj hne h => h) rfl
              unfold frT1 at h2 ⊢
              clear hK
              go_simp
              simpa [Act.put, s0_] using h2
            · have e13 : t 52 = .pointer (some ⟨b, 0, none⟩) := hdep { on := 13, ground := Ground.data } (by simp) rfl
              have h2 := hK (.pointer (some ⟨b, 0, none⟩)) x hS (fun j u hj hne h => h) rfl
              unfold frT1 at h2 ⊢
              clear hK
              go_simp
              simpa [Act.put, e13, s0_] using h2
            · have e14 : t 53 = .pointer (some ⟨b, 0, none⟩) := hdep { on := 14, ground := Ground.data } (by simp) rfl
              have h2 := hK (.pointer (some ⟨b, 4, none⟩)) x hS (fun j u hj hne h => h) rfl
              unfold frT1 at h2 ⊢
              clear hK
              go_simp
              simpa [Act.put, e14, s0_] using h2
            · have e15 : t 54 = .pointer (some ⟨b, 4, none⟩) := hdep { on := 15, ground := Ground.data } (by simp) rfl
              have y0 := (CB x hS).2.2.2.2.1
              have h2 := hK (.int .i64 r.la) x hS (fun j u hj hne h => h) rfl
              unfold frT1 at h2 ⊢
              clear hK
              go_simp
              simpa [Act.put, e15, y0, s0_] using h2
            · have h2 := hK (.pointer (some ⟨b, 0, none⟩)) x hS (fun j u hj hne h => h) rfl
              unfold frT1 at h2 ⊢
              clear hK
              go_simp
              simpa [Act.put, s0_] using h2
            · have e17 : t 56 = .pointer (some ⟨b, 0, none⟩) := hdep { on := 17, ground := Ground.data } (by simp) rfl
              have h2 := hK (.pointer (some ⟨b, 0, none⟩)) x hS (fun j u hj hne h => h) rfl
              unfold frT1 at h2 ⊢
              clear hK
              go_simp
              simpa [Act.put, e17, s0_] using h2
            · have e18 : t 57 = .pointer (some ⟨b, 0, none⟩) := hdep { on := 18, ground := Ground.data } (by simp) rfl
              have h2 := hK (.pointer (some ⟨b, 5, none⟩)) x hS (fun j u hj hne h => h) rfl
              unfold frT1 at h2 ⊢
              clear hK
              go_simp
              simpa [Act.put, e18, s0_] using h2
            · have e19 : t 58 = .pointer (some ⟨b, 5, none⟩) := hdep { on := 19, ground := Ground.data } (by simp) rfl
              have y0 := (CB x hS).2.2.2.2.2.1
              have h2 := hK (.slice la r.l.length lc) x hS (fun j u hj hne h => h) rfl
              unfold frT1 at h2 ⊢
              clear hK
              go_simp
              simpa [Act.put, e19, y0, s0_] using h2
            · have h2 := hK (.pointer (some ⟨b, 0, none⟩)) x hS (fun j u hj hne h => h) rfl
              unfold frT1 at h2 ⊢
              clear hK
              go_simp
              simpa [Act.put, s0_] using h2
            · have e21 : t 60 = .pointer (some ⟨b, 0, none⟩) := hdep { on := 21, ground := Ground.data } (by simp) rfl
              have h2 := hK (.pointer (some ⟨b, 0, none⟩)) x hS (fun j u hj hne h => h) rfl
              unfold frT1 at h2 ⊢
              clear hK
              go_simp
              simpa [Act.put, e21, s0_] using h2
            · have e22 : t 61 = .pointer (some ⟨b, 0, none⟩) := hdep { on := 22, ground := Ground.data } (by simp) rfl
              have h2 := hK (.pointer (some ⟨b, 6, none⟩)) x hS (fun j u hj hne h => h) rfl
              unfold frT1 at h2 ⊢
              clear hK
              go_simp
              simpa [Act.put, e22, s0_] using h2
            · have e23 : t 62 = .pointer (some ⟨b, 6, none⟩) := hdep { on := 23, ground := Ground.data } (by simp) rfl
              have y0 := (CB x hS).2.2.2.2.2.2.1
              have h2 := hK (.int .i64 r.c) x hS (fun j u hj hne h => h) rfl
              unfold frT1 at h2 ⊢
              clear hK
              go_simp
              simpa [Act.put, e23, y0, s0_] using h2
            · have e4 : t 43 = .int .i64 r.id := hdep { on := 4, ground := Ground.data } (by simp) rfl
              have e8 : t 47 = .int .i64 r.id := hdep { on := 8, ground := Ground.data } (by simp) rfl
              have e12 : t 51 = .int .i64 r.v := hdep { on := 12, ground := Ground.data } (by simp) rfl
              have e16 : t 55 = .int .i64 r.la := hdep { on := 16, ground := Ground.data } (by simp) rfl
              have e20 : t 59 = .slice la r.l.length lc := hdep { on := 20, ground := Ground.data } (by simp) rfl
              have e24 : t 63 = .int .i64 r.c := hdep { on := 24, ground := Ground.data } (by simp) rfl
              have h2 := hK (.agg #[.int .i64 4, .int .i64 r.id, .int .i64 r.id, .int .i64 r.v, .int .i64 r.la, .slice la r.l.length lc, .int .i64 r.c]) x hS (fun j u hj hne h => h) rfl
              unfold frT1 at h2 ⊢
              clear hK
              go_simp
              simpa [Act.put, e4, e8, e12, e16, e20, e24, s0_] using h2
          case done =>
            intro t w3 hS hG
            have e0 : t 39 = .pointer (some ⟨b, 0, none⟩) := hG 0 (by decide)
            have e25 : t 64 = .agg #[.int .i64 4, .int .i64 r.id, .int .i64 r.id, .int .i64 r.v, .int .i64 r.la, .slice la r.l.length lc, .int .i64 r.c] := hG 25 (by decide)
            clear hG CB
            show wpList Tryz.prog _ _ [_] _ w3
            unfold frT1
            simp only [e0, e25, s0_]
            clear e0 e25 s0_
            have HS0 : Hid (Below B w w3) := (show Hid _ from WB.out.trans (hS.mono WL.out))
            clear hlo S0
            go_upto_region 2 with (go_at_call 164; refine (jt w3 hS).mono ?_; rintro e w4 ⟨rfl, u4, h4, b4⟩)
            clear jt hS
            have hk9 : Kp r { r with te := putM (tellM r r.id) r.te } := te_kp HR.out HN.out.1 HM.out (tell_ok HR.out)
            have h4 : RpAt w4 B b u4 { r with te := putM (tellM r r.id) r.te } := h4
            obtain ⟨te, hte⟩ : ∃ te, te = putM (tellM r r.id) r.te := ⟨_, rfl⟩
            rw [← hte] at h4 hk9
            have HTE : Hid (te = putM (tellM r r.id) r.te) := hte
            have HR1 : Hid (RpOk { r with te := te }) := hk9.ok
            have HTE0 : Hid (0 < te.length) := (show _ < _ from by
              have := putM_has (tellM r r.id) r.te
              rw [← hte] at this
              exact List.length_pos_of_mem this)
            have hx5 : te.length ≤ 5 := hk9.ok.te5.1
            clear hte hk9
            obtain ⟨la4, lc4, oa4, oc4, ca4, cc4, ta4, tc4, T4, rfl⟩ := h4.got.form
            simp only at h4
            have H4 : Hid (RpAt w4 B b ⟨.slice la4 r.l.length lc4, .slice oa4 r.ok.length oc4, .slice ca4 r.ch.length cc4, .slice ta4 te.length tc4, T4⟩ { r with te := te }) := h4
            have B4 : Hid (Below B w w4) := (show Hid _ from HS0.out.trans b4)
            clear h4 b4 HS0 H2 WB WL
            have jm := fun (y : World) => specMaj te.length r.p y (by omega)
            have S0 : Below w4.heap.size w4 w4.drew := ⟨rfl, rfl, rfl, Nat.le_refl _, fun _ _ => rfl⟩
            have CB := fun x (hS : Below w4.heap.size w4 x) => RpB.cells (show RpB x b { r with te := te } ⟨.slice la4 r.l.length lc4, .slice oa4 r.ok.length oc4, .slice ca4 r.ch.length cc4, .slice ta4 te.length tc4, T4⟩ from (H4.out.kept hS).c)
            simp only [HN.out.1] at CB
            obtain ⟨KK, hK9⟩ : ∃ KK, KK = te.length := ⟨_, rfl⟩
            rw [← hK9] at CB jm
            have HK : Hid (KK = te.length) := hK9
            clear hK9 hx5
            obtain ⟨lo, hlo⟩ : ∃ lo, lo = w4.heap.size := ⟨_, rfl⟩
            generalize hA : Act.mk _ _ = A
            obtain ⟨s, hs, s0_⟩ : ∃ s : Nat → Value, A = frT2 s s ∧ s 0 = .pointer (some ⟨b, 0, none⟩) := by
              refine ⟨fun i => A.tmps.getD i undef, ?_, ?_⟩ <;> rw [← hA] <;> rfl
            rw [hs]
            clear hs hA
            refine region_heads 10 mixed (by decide) (by kernel_rfl) (by kernel_rfl) (by kernel_rfl) (by kernel_rfl) (frT2 s) dT2 (fun x => Below w4.heap.size w4 x) (GT2 r KK b lo ta4 tc4) (fun i j hi hj h => dT2_ne hi hj h) ?put s rfl S0 ?step ?done
            case put =>
              intro i o hi ho t v
              rcases (show i = 0 ∨ i = 1 ∨ i = 2 ∨ i = 3 ∨ i = 4 ∨ i = 5 ∨ i = 6 ∨ i = 7 ∨ i = 8 ∨ i = 9 by omega) with rfl | rfl | rfl | rfl | rfl | rfl | rfl | rfl | rfl | rfl
              all_goals
                obtain rfl := Option.some.inj ho
                rfl
            case step =>
              intro i o hi ho t x hS hdep K hK
              rcases (show i = 0 ∨ i = 1 ∨ i = 2 ∨ i = 3 ∨ i = 4 ∨ i = 5 ∨ i = 6 ∨ i = 7 ∨ i = 8 ∨ i = 9 by omega) with rfl | rfl | rfl | rfl | rfl | rfl | rfl | rfl | rfl | rfl
              all_goals obtain rfl := Option.some.inj ho
              · have h2 := hK (.pointer (some ⟨b, 0, none⟩)) x hS (fun j u hj hne h => h) rfl
                unfold frT2 at h2 ⊢
                clear hK
                go_simp
                simpa [Act.put, s0_] using h2
              · have e0 : t 66 = .pointer (some ⟨b, 0, none⟩) := hdep { on := 0, ground := Ground.data } (by simp) rfl
                have h2 := hK (.pointer (some ⟨b, 0, none⟩)) x hS (fun j u hj hne h => h) rfl
                unfold frT2 at h2 ⊢
                clear hK
                go_simp
                simpa [Act.put, e0, s0_] using h2
              · have e1 : t 67 = .pointer (some ⟨b, 0, none⟩) := hdep { on := 1, ground := Ground.data } (by simp) rfl
                have h2 := hK (.pointer (some ⟨b, 9, none⟩)) x hS (fun j u hj hne h => h) rfl
                unfold frT2 at h2 ⊢
                clear hK
                go_simp
                simpa [Act.put, e1, s0_] using h2
              · have e2 : t 68 = .pointer (some ⟨b, 9, none⟩) := hdep { on := 2, ground := Ground.data } (by simp) rfl
                have y0 := (CB x hS).2.2.2.2.2.2.2.2.2
                have h2 := hK (.slice ta4 KK tc4) x hS (fun j u hj hne h => h) rfl
                unfold frT2 at h2 ⊢
                clear hK
                go_simp
                simpa [Act.put, e2, y0, s0_] using h2
              · have e3 : t 69 = .slice ta4 KK tc4 := hdep { on := 3, ground := Ground.data } (by simp) rfl
                have h2 := hK (.int .i64 (KK : Int)) x hS (fun j u hj hne h => h) rfl
                unfold frT2 at h2 ⊢
                clear hK
                go_simp
                simpa [Act.put, e3, s0_] using h2
              · have h2 := hK (.pointer (some ⟨b, 0, none⟩)) x hS (fun j u hj hne h => h) rfl
                unfold frT2 at h2 ⊢
                clear hK
                go_simp
                simpa [Act.put, s0_] using h2
              · have e5 : t 71 = .pointer (some ⟨b, 0, none⟩) := hdep { on := 5, ground := Ground.data } (by simp) rfl
                have h2 := hK (.pointer (some ⟨b, 0, none⟩)) x hS (fun j u hj hne h => h) rfl
                unfold frT2 at h2 ⊢
                clear hK
                go_simp
                simpa [Act.put, e5, s0_] using h2
              · have e6 : t 72 = .pointer (some ⟨b, 0, none⟩) := hdep { on := 6, ground := Ground.data } (by simp) rfl
                have h2 := hK (.pointer (some ⟨b, 1, none⟩)) x hS (fun j u hj hne h => h) rfl
                unfold frT2 at h2 ⊢
                clear hK
                go_simp
                simpa [Act.put, e6, s0_] using h2
              · have e7 : t 73 = .pointer (some ⟨b, 1, none⟩) := hdep { on := 7, ground := Ground.data } (by simp) rfl
                have y0 := (CB x hS).2.1
                have h2 := hK (.int .i64 r.p) x hS (fun j u hj hne h => h) rfl
                unfold frT2 at h2 ⊢
                clear hK
                go_simp
                simpa [Act.put, e7, y0, s0_] using h2
              · have e4 : t 70 = .int .i64 (KK : Int) := hdep { on := 4, ground := Ground.data } (by simp) rfl
                have e8 : t 74 = .int .i64 r.p := hdep { on := 8, ground := Ground.data } (by simp) rfl
                refine callG2 (by rfl) 162 (.tmp 70) (.tmp 74) _ rfl (.int .i64 (KK : Int)) (.int .i64 r.p) e4 e8 (Go.Proofs.enters_of Tryz.func162 (by kernel_rfl) rfl _) (fun v y => (v = .bool (dB (maj KK r.p))) ∧ Below x.heap.size x y) ((jm x).mono ?_) ?_
                · rintro e0 y0 ⟨h0, rfl⟩
                  exact ⟨_, h0, rfl, Below.refl _ _⟩
                · rintro v y ⟨h0, hb2⟩
                  exact hK v y (hS.trans (hb2.mono hS.size)) (fun j u hj hne h => GT2.keep hb2 j u hj h) h0
            case done =>
              intro t w5 hS hG
              have e9 : t 75 = .bool (dB (maj KK r.p)) := hG 9 (by decide)
              clear hG CB jm hlo S0
              show wpList Tryz.prog _ _ [_] _ w5
              unfold frT2
              simp only [e9, s0_]
              clear e9 s0_
              have H5 : Hid (RpAt w5 B b ⟨.slice la4 r.l.length lc4, .slice oa4 r.ok.length oc4, .slice ca4 r.ch.length cc4, .slice ta4 te.length tc4, T4⟩ { r with te := te }) := (show Hid _ from H4.out.kept hS)
              have B5 : Hid (Below B w w5) := (show Hid _ from B4.out.trans (hS.mono H4.out.le))
              clear hS H4 B4
              cases hmj : dB (maj KK r.p) with
              | false =>
                have HE : Hid (told r = { r with te := te }) := (show _ = _ by
                  unfold told
                  rw [if_neg (by
                    rintro (h | h | h)
                    · rw [HN.out.1] at h; cases h
                    · exact h HN.out.2
                    · exact h HM.out)]
                  simp only
                  rw [← HTE.out, if_pos (by rw [← HK.out]; exact dB_not hmj)])
                go_wp2_with fail
                refine bodyPost_ret (results_none rfl _ _ _) rfl ?_
                have hret : told r = { r with te := te } := HE.out
                rw [hret]
                first | exact ⟨rfl, _, H5.out, B5.out⟩ | exact ⟨rfl, ⟨_, H5.out⟩, B5.out⟩
              | true =>
                have HMJ : Hid (maj te.length r.p) := (show maj _ _ from by rw [← HK.out]; exact dB_is hmj)
                clear hmj
                have HTL : Hid (T4.length = te.length) := (show _ = _ from by
                  have := congrArg List.length H5.out.o.t
                  rw [List.length_map] at this
                  exact this)
                have HA := H5.out.got.te
                simp only at HA
                obtain ⟨g0, q0, hta⟩ := mxAt HA.1 (by rw [HTL.out]; exact HTE0.out)
                subst hta
                have h0T : 0 < T4.length := by rw [HTL.out]; exact HTE0.out
                have CK := mxCells HA.1 h0T
                have HMX0 : Hid (T4[0] ∈ T4) := (show _ from List.getElem_mem h0T)
                have HTEM : Hid (te = T4.map (·.m)) := (show _ = _ from H5.out.o.t.symm)
                have HX0 : Hid (te = T4[0].m :: te.drop 1) := (show _ = _ from by
                  have e := HTEM.out
                  conv => rhs; rw [e]
                  conv => lhs; rw [e]
                  cases T4 with
                  | nil => simp at h0T
                  | cons a l => simp)
                generalize T4[0] = x0 at CK HMX0 HX0
                unfold Mx.u at CK
                simp only [Nat.zero_mul, Nat.add_zero] at CK
                obtain ⟨y0, y1, y2, y3, y4, y5, y6⟩ := CK
                clear HA h0T
                have q9 := (RpB.cells H5.out.c).2.2.2.2.2.2.2.2.2
                simp only at q9
                have hk0 : (0 : Int) < (te.length : Int) := by have := HTE0.out; omega
                go_upto_region 4 with (refine wpList_stM rfl rfl (.tmp 2) (.tmp 82) rfl w5.heap.size (mxV x0) rfl rfl (Bx.new _ _ _) rfl rfl (by simp [mxV, Value.oneCell']) ?_; intro w6 hz6 hc6)
                clear y0 y1 y2 y3 y4 y5 y6 q9 hk0
                obtain ⟨g, hg⟩ : ∃ g, g = w5.heap.size := ⟨_, rfl⟩
                have HG : Hid (g = w5.heap.size) := hg
                have BX6 : Hid (Bx w6 g 30 (mxV x0)) := (show Hid _ from by rw [hg]; exact hz6)
                have BL6 : Hid (Below g w5 w6) := (show Hid _ from by rw [hg]; exact hc6.below ((Below.refl _ w5).alloc (Nat.le_refl _) _) (by simp) (fun k hk => by omega))
                rw [← hg]
                clear hz6 hc6 hg
                go_wp2_with fail
                go_loopw [3, 4] (fun c i wr => ∃ (k : Nat) (y : Mx), k ≤ T4.length ∧ i = .int .i64 k ∧ c = .int .i64 (cmtM (te.take k)) ∧ Hid (y ∈ T4 ∧ y.m = (te.take k).foldl betM x0.m) ∧ Hid (Bx wr g 30 (mxV y)) ∧ Hid (Below g w5 wr)) (fun _ i _ => T4.length - (intOf i).toNat)
                case atStart => exact ⟨0, x0, Nat.zero_le _, rfl, by simp [cmtM], (show _ ∧ _ from ⟨HMX0.out, by simp⟩), BX6, BL6⟩
                case round =>
                  clear BX6 BL6
                  obtain ⟨k, y, hk, rfl, rfl, hY, hX, hB⟩ := hrel
                  have HRr : Hid (RpAt wr B b _ _) := (show Hid _ from H5.out.kept (by rw [← HG.out]; exact hB.out))
                  have q9 := (RpB.cells HRr.out.c).2.2.2.2.2.2.2.2.2
                  simp only at q9
                  have hTl := HTL.out
                  have hT5 : te.length ≤ 5 := HR1.out.te5.1
                  by_cases hlt : k < T4.length
                  · have HA := HRr.out.got.te
                    simp only at HA
                    have CK := mxCells HA.1 hlt
                    have HMX : Hid (T4[k] ∈ T4) := (show _ from List.getElem_mem hlt)
                    have HXK : Hid (∃ h : k < te.length, te[k] = T4[k].m) := (show ∃ _, _ from ⟨by omega, by rw [List.getElem_of_eq HTEM.out]; simp⟩)
                    generalize T4[k] = x at CK HMX HXK
                    unfold Mx.u at CK
                    obtain ⟨y0, y1, y2, y3, y4, y5, y6⟩ := CK
                    clear HA
                    have hlti : (k : Int) < (te.length : Int) := by omega
                    go_upto_region 9 with (refine wpList_stM rfl rfl (.tmp 5) (.tmp 98) rfl wr.heap.size (mxV x) rfl rfl (Bx.new _ _ _) rfl rfl (by simp [mxV, Value.oneCell']) ?_; intro w7 hz7 hc7)
                    clear y0 y1 y2 y3 y4 y5 y6 q9 hlti
                    have hgl := Bx.lt hX.out
                    have hba : Below wr.heap.size wr w7 := hc7.below ((Below.refl _ wr).alloc (Nat.le_refl _) _) (by simp) (fun k hk => by omega)
                    obtain ⟨g2, hg2⟩ : ∃ g2, g2 = wr.heap.size := ⟨_, rfl⟩
                    rw [← hg2] at hz7 ⊢
                    have X7 : Hid (Bx w7 g 30 (mxV y)) := (show Hid _ from Bx.kept hX.out hba)
                    have Z7 : Hid (Bx w7 g2 30 (mxV x)) := hz7
                    have B7 : Hid (Below g w5 w7) := (show Hid _ from hB.out.trans (hba.mono (by omega)))
                    have G7 : Hid (g ≠ g2) := (show _ ≠ _ from by omega)
                    clear hz7 hc7 hba hg2 hgl hX hB HRr
                    obtain ⟨xla, hxla⟩ : ∃ z, z = x.m.la := ⟨_, rfl⟩
                    obtain ⟨yla, hyla⟩ : ∃ z, z = y.m.la := ⟨_, rfl⟩
                    have HLA : Hid (xla = x.m.la ∧ yla = y.m.la) := (show _ ∧ _ from ⟨hxla, hyla⟩)
                    have a4 : w7.cell? ⟨g2, 4, none⟩ = some (.int .i64 xla) := hxla ▸ Z7.out.cell 4
                    have a5 : w7.cell? ⟨g2, 5, none⟩ = some (.slice x.pl x.m.l.length x.cl) := Z7.out.cell 5
                    have a6 : w7.cell? ⟨g2, 6, none⟩ = some (.int .i64 x.m.c) := Z7.out.cell 6
                    have c4 : w7.cell? ⟨g, 4, none⟩ = some (.int .i64 yla) := hyla ▸ X7.out.cell 4
                    clear hxla hyla
                    have c5 : w7.cell? ⟨g, 5, none⟩ = some (.slice y.pl y.m.l.length y.cl) := X7.out.cell 5
                    go_upto_region 10 with (go_at_call 153; refine (specMx _ _ _).mono ?_; rintro e w8 ⟨rfl, hw8⟩; subst hw8)
                    have hmx : max (cmtM (te.take k)) x.m.c = cmtM (te.take (k + 1)) := by
                      obtain ⟨h1, h2⟩ := HXK.out
                      rw [cmtM_take te k h1, h2]
                    rw [hmx]
                    clear hmx
                    go_cut [123] from 103 to 123 (fun s wx => s = .bool (dB (y.m.la < x.m.la ∨ (x.m.la = y.m.la ∧ y.m.l.length < x.m.l.length))) ∧ w7 = wx)
                    case first =>
                      by_cases h1 : yla < xla
                      · have hd : Hid (dB (y.m.la < x.m.la ∨ (x.m.la = y.m.la ∧ y.m.l.length < x.m.l.length)) = true) := (show _ = _ from dB_yes (.inl (by obtain ⟨e1, e2⟩ := HLA.out; omega)))
                        go_wp2_with fail
                        go_meet
                        exact ⟨by rw [hd.out], rfl⟩
                      · by_cases h2 : xla = yla
                        · by_cases h3 : (y.m.l.length : Int) < (x.m.l.length : Int)
                          · have hd : Hid (dB (y.m.la < x.m.la ∨ (x.m.la = y.m.la ∧ y.m.l.length < x.m.l.length)) = true) := (show _ = _ from dB_yes (.inr (by obtain ⟨e1, e2⟩ := HLA.out; omega)))
                            go_wp2_with fail
                            go_meet
                            exact ⟨by rw [hd.out], rfl⟩
                          · have hd : Hid (dB (y.m.la < x.m.la ∨ (x.m.la = y.m.la ∧ y.m.l.length < x.m.l.length)) = false) := (show _ = _ from dB_no (by obtain ⟨e1, e2⟩ := HLA.out; omega))
                            go_wp2_with fail
                            go_meet
                            exact ⟨by rw [hd.out], rfl⟩
                        · have hd : Hid (dB (y.m.la < x.m.la ∨ (x.m.la = y.m.la ∧ y.m.l.length < x.m.l.length)) = false) := (show _ = _ from dB_no (by obtain ⟨e1, e2⟩ := HLA.out; omega))
                          go_wp2_with fail
                          go_meet
                          exact ⟨by rw [hd.out], rfl⟩
                    case rest =>
                      obtain ⟨rfl, hww⟩ := hcut
                      subst hww
                      clear a4 a5 a6 c4 c5
                      cases hq : dB (y.m.la < x.m.la ∨ (x.m.la = y.m.la ∧ y.m.l.length < x.m.l.length)) with
                      | false =>
                        have hno := dB_not hq
                        have HY2 : Hid (y ∈ T4 ∧ y.m = (te.take (k + 1)).foldl betM x0.m) := (show _ ∧ _ from ⟨hY.out.1, by
                          obtain ⟨h1, h2⟩ := HXK.out
                          rw [bes_take te _ k h1, h2, ← hY.out.2]
                          unfold betM
                          rw [if_neg hno]⟩)
                        clear hno hq
                        go_wp2_with fail
                        go_roundw
                        case rel => exact ⟨k + 1, y, hlt, by go_num, rfl, HY2, X7, B7⟩
                        case measure => simp [intOf]; omega
                      | true =>
                        have hyes := dB_is hq
                        have HY2 : Hid (x ∈ T4 ∧ x.m = (te.take (k + 1)).foldl betM x0.m) := (show _ ∧ _ from ⟨HMX.out, by
                          obtain ⟨h1, h2⟩ := HXK.out
                          rw [bes_take te _ k h1, h2, ← hY.out.2]
                          unfold betM
                          rw [if_pos hyes]⟩)
                        clear hyes hq
                        go_wp2_with (first | (refine wpList_ldM rfl (.tmp 5) rfl g2 rfl Z7.out rfl ?_) | (refine wpList_stM rfl rfl (.tmp 2) (.tmp 124) rfl g (mxV x) rfl rfl X7.out rfl rfl (by simp [mxV, Value.oneCell']) ?_; intro w9 hz9 hc9; have X9 : Hid (Bx w9 g 30 (mxV x)) := hz9; have B9 : Hid (Below g w5 w9) := (show Hid _ from hc9.below B7.out (by have := HG.out; have := B7.out.size; omega) (fun k hk => by omega)); clear hz9 hc9))
                        go_roundw
                        case rel => exact ⟨k + 1, x, hlt, by go_num, rfl, HY2, X9, B9⟩
                        case measure => simp [intOf]; omega
                  · have hlti : ¬ (k : Int) < (te.length : Int) := by omega
                    have hkk : k = te.length := by omega
                    subst hkk
                    go_upto_region 12 with fail
                    clear q9 hlti hlt hTl
                    have HYM : Hid (y ∈ T4 ∧ y.m ∈ te ∧ y.m = besM te) := (show _ ∧ _ ∧ _ from ⟨hY.out.1, by rw [HTEM.out]; exact List.mem_map_of_mem hY.out.1, by
                      have e := hY.out.2
                      rw [List.take_length] at e
                      rw [e]
                      obtain ⟨d, hd⟩ : ∃ d, te = x0.m :: d := ⟨_, HX0.out⟩
                      rw [hd]
                      rfl⟩)
                    clear hY HMX0 HX0 hT5
                    rw [List.take_length]
                    obtain ⟨Y, hYY⟩ : ∃ Y, Y = y := ⟨_, rfl⟩
                    subst hYY
                    have BW : Hid (Below B w wr) := (show Hid _ from B5.out.trans (hB.out.mono (by rw [HG.out]; exact H5.out.le)))
                    have HRr : Hid (RpAt wr B b ⟨.slice la4 r.l.length lc4, .slice oa4 r.ok.length oc4, .slice ca4 r.ch.length cc4, .slice (some ⟨g0, q0, none⟩) te.length tc4, T4⟩ { r with te := te }) := HRr
                    clear H5 B5 hB
                    have S0 : Below wr.heap.size wr wr.drew := ⟨rfl, rfl, rfl, Nat.le_refl _, fun _ _ => rfl⟩
                    obtain ⟨cN, hcN⟩ : ∃ n : Nat, (n : Int) = r.c := ⟨r.c.toNat, by have := HR.out.c; omega⟩
                    have HCN : Hid (r.c.toNat = cN ∧ cN ≤ r.l.length ∧ (cN : Int) = r.c) := (show _ ∧ _ ∧ _ from by have := HR.out.c; omega)
                    have CB := fun x (hS : Below wr.heap.size wr x) => RpB.cells (show RpB x b { r with te := te } ⟨.slice la4 r.l.length lc4, .slice oa4 r.ok.length oc4, .slice ca4 r.ch.length cc4, .slice (some ⟨g0, q0, none⟩) te.length tc4, T4⟩ from (HRr.out.kept hS).c)
                    simp only [← hcN] at CB
                    have CY := fun x (hS : Below wr.heap.size wr x) => (show x.cell? ⟨g, 5, none⟩ = some (.slice Y.pl Y.m.l.length Y.cl) from (Bx.kept hX.out hS).cell 5)
                    have HLY : Hid (Y.m.l.length ≤ 60) := (HR1.out.te5.2 _ HYM.out.2.1).1
                    have jb := fun x (hS : Below wr.heap.size wr x) => specBeg (.slice Y.pl Y.m.l.length Y.cl) (.slice la4 cN lc4) Y.m.l (r.l.take cN) x ((HRr.out.kept hS).got.te.2 Y HYM.out.1) (Sls.take (HRr.out.kept hS).got.l HCN.out.2.1) (by have := HLY.out; omega) (by have := (logB_sm HR.out.l).1; rw [List.length_take]; omega)
                    have hcl : r.l.length ≤ lc4 ∧ lc4 ≤ 9223372036854775807 := by
                      obtain ⟨_, c', e, k1, k2, _⟩ := HRr.out.got.l
                      injection e with _ _ e3
                      subst e3
                      exact ⟨k1, k2⟩
                    have hcl1 := hcl.1
                    have hcl2 := hcl.2
                    have hcn2 := HCN.out.2.1
                    have hcn3 : cN ≤ lc4 := by omega
                    clear hcN hcl
                    obtain ⟨lo, hlo⟩ : ∃ lo, lo = wr.heap.size := ⟨_, rfl⟩
                    generalize hA : Act.mk _ _ = A
                    obtain ⟨s, hs, s0_, s2_, s3_⟩ : ∃ s : Nat → Value, A = frT12 s s ∧ s 0 = .pointer (some ⟨b, 0, none⟩) ∧ s 2 = .pointer (some ⟨g, 0, none⟩) ∧ s 3 = .int .i64 (cmtM te) := by
                      refine ⟨fun i => A.tmps.getD i undef, ?_, ?_, ?_, ?_⟩ <;> rw [← hA] <;> rfl
                    rw [hs]
                    clear hs hA
                    refine region_heads 12 mixed (by decide) (by kernel_rfl) (by kernel_rfl) (by kernel_rfl) (by kernel_rfl) (frT12 s) dT12 (fun x => Below wr.heap.size wr x) (GT12 r Y cN b g lo la4 lc4) (fun i j hi hj h => dT12_ne hi hj h) ?put s rfl S0 ?step ?done
                    case put =>
                      intro i o hi ho t v
                      rcases (show i = 0 ∨ i = 1 ∨ i = 2 ∨ i = 3 ∨ i = 4 ∨ i = 5 ∨ i = 6 ∨ i = 7 ∨ i = 8 ∨ i = 9 ∨ i = 10 ∨ i = 11 by omega) with rfl | rfl | rfl | rfl | rfl | rfl | rfl | rfl | rfl | rfl | rfl | rfl
                      all_goals
                        obtain rfl := Option.some.inj ho
                        rfl
                    case step =>
                      intro i o hi ho t x hS hdep K hK
                      rcases (show i = 0 ∨ i = 1 ∨ i = 2 ∨ i = 3 ∨ i = 4 ∨ i = 5 ∨ i = 6 ∨ i = 7 ∨ i = 8 ∨ i = 9 ∨ i = 10 ∨ i = 11 by omega) with rfl | rfl | rfl | rfl | rfl | rfl | rfl | rfl | rfl | rfl | rfl | rfl
                      all_goals obtain rfl := Option.some.inj ho
                      · have h2 := hK (.pointer (some ⟨g, 5, none⟩)) x hS (fun j u hj hne h => h) rfl
                        unfold frT12 at h2 ⊢
                        clear hK
                        go_simp
                        simpa [Act.put, s0_, s2_, s3_] using h2
                      · have e0 : t 125 = .pointer (some ⟨g, 5, none⟩) := hdep { on := 0, ground := Ground.data } (by simp) rfl
                        have y0 := (CY x hS)
                        have h2 := hK (.slice Y.pl Y.m.l.length Y.cl) x hS (fun j u hj hne h => h) rfl
                        unfold frT12 at h2 ⊢
                        clear hK
                        go_simp
                        simpa [Act.put, e0, y0, s0_, s2_, s3_] using h2
                      · have h2 := hK (.pointer (some ⟨b, 0, none⟩)) x hS (fun j u hj hne h => h) rfl
                        unfold frT12 at h2 ⊢
                        clear hK
                        go_simp
                        simpa [Act.put, s0_, s2_, s3_] using h2
                      · have e2 : t 127 = .pointer (some ⟨b, 0, none⟩) := hdep { on := 2, ground := Ground.data } (by simp) rfl
                        have h2 := hK (.pointer (some ⟨b, 0, none⟩)) x hS (fun j u hj hne h => h) rfl
                        unfold frT12 at h2 ⊢
                        clear hK
                        go_simp
                        simpa [Act.put, e2, s0_, s2_, s3_] using h2
                      · have e3 : t 128 = .pointer (some ⟨b, 0, none⟩) := hdep { on := 3, ground := Ground.data } (by simp) rfl
                        have h2 := hK (.pointer (some ⟨b, 5, none⟩)) x hS (fun j u hj hne h => h) rfl
                        unfold frT12 at h2 ⊢
                        clear hK
                        go_simp
                        simpa [Act.put, e3, s0_, s2_, s3_] using h2
                      · have e4 : t 129 = .pointer (some ⟨b, 5, none⟩) := hdep { on := 4, ground := Ground.data } (by simp) rfl
                        have y0 := (CB x hS).2.2.2.2.2.1
                        have h2 := hK (.slice la4 r.l.length lc4) x hS (fun j u hj hne h => h) rfl
                        unfold frT12 at h2 ⊢
                        clear hK
                        go_simp
                        simpa [Act.put, e4, y0, s0_, s2_, s3_] using h2
                      · have h2 := hK (.pointer (some ⟨b, 0, none⟩)) x hS (fun j u hj hne h => h) rfl
                        unfold frT12 at h2 ⊢
                        clear hK
                        go_simp
                        simpa [Act.put, s0_, s2_, s3_] using h2
                      · have e6 : t 131 = .pointer (some ⟨b, 0, none⟩) := hdep { on := 6, ground := Ground.data } (by simp) rfl
                        have h2 := hK (.pointer (some ⟨b, 0, none⟩)) x hS (fun j u hj hne h => h) rfl
                        unfold frT12 at h2 ⊢
                        clear hK
                        go_simp
                        simpa [Act.put, e6, s0_, s2_, s3_] using h2
                      · have e7 : t 132 = .pointer (some ⟨b, 0, none⟩) := hdep { on := 7, ground := Ground.data } (by simp) rfl
                        have h2 := hK (.pointer (some ⟨b, 6, none⟩)) x hS (fun j u hj hne h => h) rfl
                        unfold frT12 at h2 ⊢
                        clear hK
                        go_simp
                        simpa [Act.put, e7, s0_, s2_, s3_] using h2
                      · have e8 : t 133 = .pointer (some ⟨b, 6, none⟩) := hdep { on := 8, ground := Ground.data } (by simp) rfl
                        have y0 := (CB x hS).2.2.2.2.2.2.1
                        have h2 := hK (.int .i64 (cN : Int)) x hS (fun j u hj hne h => h) rfl
                        unfold frT12 at h2 ⊢
                        clear hK
                        go_simp
                        simpa [Act.put, e8, y0, s0_, s2_, s3_] using h2
                      · have e5 : t 130 = .slice la4 r.l.length lc4 := hdep { on := 5, ground := Ground.data } (by simp) rfl
                        have e9 : t 134 = .int .i64 (cN : Int) := hdep { on := 9, ground := Ground.data } (by simp) rfl
                        have h2 := hK (.slice la4 cN lc4) x hS (fun j u hj hne h => h) rfl
                        unfold frT12 at h2 ⊢
                        clear hK
                        go_simp
                        simpa [Act.put, e5, e9, s0_, s2_, s3_, hcn3] using h2
                      · have e1 : t 126 = .slice Y.pl Y.m.l.length Y.cl := hdep { on := 1, ground := Ground.data } (by simp) rfl
                        have e10 : t 135 = .slice la4 cN lc4 := hdep { on := 10, ground := Ground.data } (by simp) rfl
                        refine callG2 (by rfl) 133 (.tmp 126) (.tmp 135) _ rfl (.slice Y.pl Y.m.l.length Y.cl) (.slice la4 cN lc4) e1 e10 (Go.Proofs.enters_of Tryz.func133 (by kernel_rfl) rfl _) (fun v y => (v = .bool (dB (r.l.take cN <+: Y.m.l))) ∧ Below x.heap.size x y) ((jb x hS).mono ?_) ?_
                        · rintro e0 y0 ⟨h0, h1⟩
                          exact ⟨_, h0, rfl, h1⟩
                        · rintro v y ⟨h0, hb2⟩
                          exact hK v y (hS.trans (hb2.mono hS.size)) (fun j u hj hne h => GT12.keep hb2 j u hj h) h0
                    case done =>
                      intro t w7 hS hG
                      have e11 : t 136 = .bool (dB (r.l.take cN <+: Y.m.l)) := hG 11 (by decide)
                      clear hG CB CY jb hlo S0 hcl1 hcl2 hcn2 hcn3
                      show wpList Tryz.prog _ _ [_] _ w7
                      unfold frT12
                      simp only [e11, s0_, s2_, s3_]
                      clear e11 s0_ s2_ s3_
                      have H7 : Hid (RpAt w7 B b ⟨.slice la4 r.l.length lc4, .slice oa4 r.ok.length oc4, .slice ca4 r.ch.length cc4, .slice (some ⟨g0, q0, none⟩) te.length tc4, T4⟩ { r with te := te }) := (show Hid _ from HRr.out.kept hS)
                      have X7 : Hid (Bx w7 g 30 (mxV Y)) := (show Hid _ from Bx.kept hX.out hS)
                      have B7 : Hid (Below B w w7) := (show Hid _ from BW.out.trans (hS.mono HRr.out.le))
                      clear hS HRr hX BW
                      cases hbg : dB (r.l.take cN <+: Y.m.l) with
                      | false =>
                        have HE : Hid (told r = { r with te := te }) := (show _ = _ by
                          have hno := dB_not hbg
                          unfold told
                          rw [if_neg (by
                            rintro (h | h | h)
                            · rw [HN.out.1] at h; cases h
                            · exact h HN.out.2
                            · exact h HM.out)]
                          simp only
                          rw [← HTE.out, if_neg (fun h => h HMJ.out), if_pos (by rw [← HYM.out.2.2, HCN.out.1]; exact hno)])
                        go_wp2_with fail
                        refine bodyPost_ret (results_none rfl _ _ _) rfl ?_
                        have hret : told r = { r with te := te } := HE.out
                        rw [hret]
                        first | exact ⟨rfl, _, H7.out, B7.out⟩ | exact ⟨rfl, ⟨_, H7.out⟩, B7.out⟩
                      | true =>
                        have HBG : Hid (r.l.take cN <+: Y.m.l) := dB_is hbg
                        clear hbg
                        have HYT := HYM.out.1
                        have HLY2 : Y.m.l.length ≤ 1048576 := by have := HLY.out; omega
                        have HSY : Sls txtE w7 (.slice Y.pl Y.m.l.length Y.cl) Y.m.l := H7.out.got.te.2 Y HYM.out.1
                        have c5 : w7.cell? ⟨g, 5, none⟩ = some (.slice Y.pl Y.m.l.length Y.cl) := X7.out.cell 5
                        go_upto_region 14 with (first | (go_at_call 134; refine (specTxs _ Y.m.l _ HSY HLY2).mono ?_; rintro e w8 ⟨v8, rfl, hv8, hb8⟩; obtain ⟨p8, q8, rfl, _⟩ := hv8.form) | (refine wpList_rpL H7.out hb8 rfl rfl (.tmp 143) (.tmp 141) rfl hv8.has rfl rfl ?_; intro w9 h9 b9))
                        have H9 : Hid (RpAt w9 B b ⟨.slice p8 Y.m.l.length q8, .slice oa4 r.ok.length oc4, .slice ca4 r.ch.length cc4, .slice (some ⟨g0, q0, none⟩) te.length tc4, T4⟩ { r with l := Y.m.l, te := te }) := (show Hid _ from h9)
                        have B9 : Hid (Below B w w9) := (show Hid _ from B7.out.trans b9)
                        clear h9 b9 hv8 hb8 H7 B7 X7 HSY c5 HYT
                        have q5 := (RpB.cells H9.out.c).2.2.2.2.2.1
                        simp only at q5
                        go_upto_region 15 with (first | (go_at_call 161; refine (specMn _ _ _).mono ?_; rintro e w10 ⟨rfl, hw10⟩; subst hw10) | (refine wpList_rpC H9.out (Below.refl _ _) rfl rfl (.tmp 153) (.tmp 151) rfl (min (cmtM te) (Y.m.l.length : Int)) rfl rfl ?_; intro w11 h11 b11))
                        have H11 : Hid (RpAt w11 B b ⟨.slice p8 Y.m.l.length q8, .slice oa4 r.ok.length oc4, .slice ca4 r.ch.length cc4, .slice (some ⟨g0, q0, none⟩) te.length tc4, T4⟩ { r with l := Y.m.l, c := min (cmtM te) (Y.m.l.length : Int), te := te }) := (show Hid _ from h11)
                        have B11 : Hid (Below B w w11) := (show Hid _ from B9.out.trans b11)
                        clear h11 b11 H9 B9 q5
                        go_upto_region 16 with (refine wpList_rpN H11.out (Below.refl _ _) rfl rfl _ _ rfl true rfl rfl ?_; intro w12 h12 b12)
                        have H12 : Hid (RpAt w12 B b ⟨.slice p8 Y.m.l.length q8, .slice oa4 r.ok.length oc4, .slice ca4 r.ch.length cc4, .slice (some ⟨g0, q0, none⟩) te.length tc4, T4⟩ { r with n := true, l := Y.m.l, c := min (cmtM te) (Y.m.l.length : Int), te := te }) := (show Hid _ from h12)
                        have B12 : Hid (Below B w w12) := (show Hid _ from B11.out.trans b12)
                        clear h12 b12 H11 B11
                        have q2 := (RpB.cells H12.out.c).2.2.1
                        simp only at q2
                        go_upto_region 17 with (refine wpList_rpLa H12.out (Below.refl _ _) rfl rfl _ _ rfl r.v rfl rfl ?_; intro w13 h13 b13)
                        have H13 : Hid (RpAt w13 B b ⟨.slice p8 Y.m.l.length q8, .slice oa4 r.ok.length oc4, .slice ca4 r.ch.length cc4, .slice (some ⟨g0, q0, none⟩) te.length tc4, T4⟩ { r with n := true, la := r.v, l := Y.m.l, c := min (cmtM te) (Y.m.l.length : Int), te := te }) := (show Hid _ from h13)
                        have B13 : Hid (Below B w w13) := (show Hid _ from B12.out.trans b13)
                        clear h13 b13 H12 B12 q2
                        go_upto_region 18 with (refine wpList_rpCh H13.out ((Below.refl _ w13).alloc (Nat.le_refl _) _) rfl rfl _ _ rfl (OwnsE.born w13) rfl rfl ?_; intro w14 h14 b14)
                        have H14 : Hid (RpAt w14 B b ⟨.slice p8 Y.m.l.length q8, .slice oa4 r.ok.length oc4, .slice (some ⟨w13.heap.size, 0, none⟩) 0 0, .slice (some ⟨g0, q0, none⟩) te.length tc4, T4⟩ { r with n := true, la := r.v, l := Y.m.l, c := min (cmtM te) (Y.m.l.length : Int), ch := [], te := te }) := (show Hid _ from h14)
                        have B14 : Hid (Below B w w14) := (show Hid _ from B13.out.trans b14)
                        clear h14 b14 H13 B13
                        go_upto_region 19 with (refine wpList_rpTe0 H14.out ((Below.refl _ w14).alloc (Nat.le_refl _) _) rfl rfl _ _ rfl (OwnsE.born w14) rfl rfl ?_; intro w15 h15 b15)
                        have H15 : Hid (RpAt w15 B b ⟨.slice p8 Y.m.l.length q8, .slice oa4 r.ok.length oc4, .slice (some ⟨w13.heap.size, 0, none⟩) 0 0, .slice (some ⟨w14.heap.size, 0, none⟩) 0 0, []⟩ { r with n := true, la := r.v, l := Y.m.l, c := min (cmtM te) (Y.m.l.length : Int), ch := [], te := [] }) := (show Hid _ from h15)
                        have B15 : Hid (Below B w w15) := (show Hid _ from B14.out.trans b15)
                        clear h15 b15 H14 B14
                        have q1 := (RpB.cells H15.out.c).2.1
                        simp only at q1
                        obtain ⟨n, hn⟩ : ∃ n : Nat, (n : Int) = r.p := ⟨r.p.toNat, by rcases HR.out.p with h | h | h <;> omega⟩
                        have hn5 : n ≤ 5 := by rcases HR.out.p with h | h | h <;> omega
                        have HNN : Hid (r.p.toNat = n ∧ (n : Int) = r.p) := (show _ ∧ _ from ⟨by omega, hn⟩)
                        obtain ⟨i0, hi, hz0, hz1, hz2⟩ := info_parts Tryz.infoN2
                        obtain ⟨w16, hrun, hown, hgr⟩ := run_make_full (P := Tryz.prog) w15 w15.heap.size 25 2 i0 (.int .i64 0) 1 Tryz.underlying25 hi hz0 hz1 .i64 .i64 n (by rw [hz2]; omega) (by unfold maxLen; omega) (Nat.le_refl _)
                        rw [madeN] at hown
                        have O16 : Hid (OwnsN w16 w15.heap.size (.slice (some ⟨w15.heap.size, 0, none⟩) n n) (List.replicate n 0)) := (show w16.ownsRow _ _ 1 _ _ _ from by rw [List.length_replicate]; exact hown)
                        have B16 : Hid (Below w15.heap.size w15 w16) := (show Hid _ from (Below.refl _ w15).grown hgr (Nat.le_refl _) (fun j hj => by cases hj))
                        rw [hn] at hrun
                        clear hown hgr hi hz0 hz1 hz2 hn
                        go_upto_region 20 with (refine wpList_rpOk H15.out B16.out rfl rfl (.tmp 179) (.tmp 177) rfl O16.out.has rfl rfl ?_; intro w17 h17 b17)
                        have H17 : Hid (RpAt w17 B b ⟨.slice p8 Y.m.l.length q8, .slice (some ⟨w15.heap.size, 0, none⟩) n n, .slice (some ⟨w13.heap.size, 0, none⟩) 0 0, .slice (some ⟨w14.heap.size, 0, none⟩) 0 0, []⟩ { r with n := true, la := r.v, l := Y.m.l, c := min (cmtM te) (Y.m.l.length : Int), ok := List.replicate n 0, ch := [], te := [] }) := (show Hid _ from h17)
                        have B17 : Hid (Below B w w17) := (show Hid _ from B15.out.trans b17)
                        clear h17 b17 H15 B15 B16 O16 hrun q1
                        have hcm : 0 ≤ cmtM te := (cmt_ge te 0).1
                        have jc := specCnt _ _ b B w17 H17.out.c H17.out.o.ok H17.out.lslice (H17.out.o.ne H17.out.c _ (rows_ok _)) HR.out.p (by simp only [List.length_replicate]; exact HNN.out.2) HR.out.id ⟨by show (0 : Int) ≤ min _ _; omega, Int.min_le_right _ _⟩ HLY2
                        go_wp2_with (go_at_call 111; refine jc.mono ?_; rintro e w18 ⟨rfl, k1, k2, k3⟩)
                        obtain ⟨h18, b18⟩ := H17.out.counted k1 k2 k3
                        have hret : told r = cntd { r with n := true, la := r.v, l := Y.m.l, c := min (cmtM te) (Y.m.l.length : Int), ok := List.replicate n 0, ch := [], te := [] } := by
                          unfold told
                          rw [if_neg (by
                            rintro (h | h | h)
                            · rw [HN.out.1] at h; cases h
                            · exact h HN.out.2
                            · exact h HM.out)]
                          simp only
                          rw [← HTE.out, if_neg (fun h => h HMJ.out), if_neg (by rw [← HYM.out.2.2, HCN.out.1]; exact fun h => h HBG.out), ← HYM.out.2.2, HNN.out.1]
                        go_end0
                        rw [hret]
                        first | exact ⟨rfl, _, h18, B17.out.trans b18⟩ | exact ⟨rfl, ⟨_, h18⟩, B17.out.trans b18⟩
        · have hm : ¬ mine r := fun h => hqi (by rw [HQ.out]; exact h)
          have HE : Hid (told r = r) := (show _ = _ by unfold told; exact if_pos (.inr (.inr hm)))
          rw [show (q != r.id) = true from by simp [hqi]]
          clear hm hqi
          go_wp2_with fail
          refine bodyPost_ret (results_none rfl _ _ _) rfl ?_
          have hret : told r = r := HE.out
          rw [hret]
          exact ⟨rfl, _, H0.out.kept HS.out, HS.out.mono H0.out.le⟩
end Go.Proofs.YtlngleinegkoeaaGreat.Rl
