/-
  The library's Compare and Or; the greatest Commit.
  The closure of putTell.
  The specification's l17Told.
  The program's byLastAndLength.
  Calls of a function that is a value, in a region that draws its order.
  The library's BinarySearchFunc of messages by who sends them.
-/
import Derived.Test.YtdkhdjickkcaiaaGreatRVS
import Derived.Test.YtdkhdjickkcaiaaGreatRV23
import Derived.Test.YtdkhdjickkcaiaaGreatRV18
import Derived.Test.YtdkhdjickkcaiaaGreatRV17
import Derived.Test.YtdkhdjickkcaiaaGreatRV22
set_option linter.unusedVariables false
set_option linter.unusedSimpArgs false
set_option maxRecDepth 100000
set_option maxHeartbeats 64000000
namespace Go.Proofs.YtdkhdjickkcaiaaGreat.Rl
open Go.RowKit Go.Sort Go.Shelf

def cmI (a b : Int) : Int := if a < b then -1 else if b < a then 1 else 0
theorem implNan64 (a : Int) (w : World) : Calls Tryz.prog 172 #[.int .i64 a] w fun e w' => e = .returned (.bool false) ∧ w = w' := by
 go_enter Tryz.func172, Tryz.ntmps172
 go_wp2
 go_ret
 exact ⟨by simp, rfl⟩
theorem implNanI (a : Int) (w : World) : Calls Tryz.prog 179 #[.int .i64 a] w fun e w' => e = .returned (.bool false) ∧ w = w' := by
 go_enter Tryz.func179, Tryz.ntmps179
 go_wp2
 go_ret
 exact ⟨by simp, rfl⟩
theorem implCm64 (a b : Int) (w : World) : Calls Tryz.prog 159 #[.int .i64 a, .int .i64 b] w fun e w' => e = .returned (.int .i64 (cmI a b)) ∧ w = w' := by
 unfold cmI
 by_cases h : a < b
 ·
  rw [if_pos h]
  go_enter Tryz.func159, Tryz.ntmps159
  go_wp2_with (go_at_call 172; refine (implNan64 _ _).mono ?_; rintro e w1 ⟨rfl, h1⟩; subst h1)
  go_ret
  exact ⟨rfl, rfl⟩
 ·
  rw [if_neg h]
  by_cases h2 : b < a
  ·
   rw [if_pos h2]
   go_enter Tryz.func159, Tryz.ntmps159
   go_wp2_with (go_at_call 172; refine (implNan64 _ _).mono ?_; rintro e w1 ⟨rfl, h1⟩; subst h1)
   go_ret
   exact ⟨rfl, rfl⟩
  ·
   rw [if_neg h2]
   go_enter Tryz.func159, Tryz.ntmps159
   go_wp2_with (go_at_call 172; refine (implNan64 _ _).mono ?_; rintro e w1 ⟨rfl, h1⟩; subst h1)
   go_ret
   exact ⟨rfl, rfl⟩
theorem implCmI (a b : Int) (w : World) : Calls Tryz.prog 167 #[.int .i64 a, .int .i64 b] w fun e w' => e = .returned (.int .i64 (cmI a b)) ∧ w = w' := by
 unfold cmI
 by_cases h : a < b
 ·
  rw [if_pos h]
  go_enter Tryz.func167, Tryz.ntmps167
  go_wp2_with (go_at_call 179; refine (implNanI _ _).mono ?_; rintro e w1 ⟨rfl, h1⟩; subst h1)
  go_ret
  exact ⟨rfl, rfl⟩
 ·
  rw [if_neg h]
  by_cases h2 : b < a
  ·
   rw [if_pos h2]
   go_enter Tryz.func167, Tryz.ntmps167
   go_wp2_with (go_at_call 179; refine (implNanI _ _).mono ?_; rintro e w1 ⟨rfl, h1⟩; subst h1)
   go_ret
   exact ⟨rfl, rfl⟩
  ·
   rw [if_neg h2]
   go_enter Tryz.func167, Tryz.ntmps167
   go_wp2_with (go_at_call 179; refine (implNanI _ _).mono ?_; rintro e w1 ⟨rfl, h1⟩; subst h1)
   go_ret
   exact ⟨rfl, rfl⟩
theorem implOrI (g : Nat) (a b : Int) (w : World) (h0 : w.cell? ⟨g, 0, none⟩ = some (.int .i64 a)) (h1 : w.cell? ⟨g, 1, none⟩ = some (.int .i64 b)) :
  Calls Tryz.prog 166 #[.slice (some ⟨g, 0, none⟩) 2 2] w fun e w' => e = .returned (.int .i64 (if a = 0 then b else a)) ∧ w = w' := by
 by_cases ha : a = 0
 ·
  subst ha
  rw [if_pos rfl]
  by_cases hb : b = 0
  ·
   subst hb
   go_enter Tryz.func166, Tryz.ntmps166
   go_wp2_with fail
   go_loopw [8] (fun i wr => ∃ k : Nat, k ≤ 2 ∧ i = .int .i64 k ∧ w = wr) (fun i _ => 2 - (intOf i).toNat)
   case atStart => exact ⟨0, by omega, rfl, rfl⟩
   case round =>
    obtain ⟨k, hk, rfl, hw⟩ := hrel
    subst hw
    rcases (show k = 0 ∨ k = 1 ∨ k = 2 by omega) with rfl | rfl | rfl
    ·
     go_wp2_with fail
     go_roundw
     case rel => exact ⟨1, by omega, by go_num, trivial⟩
     case measure => decide
    ·
     go_wp2_with fail
     go_roundw
     case rel => exact ⟨2, by omega, by go_num, trivial⟩
     case measure => decide
    ·
     go_wp2
     go_ret
     exact ⟨rfl, rfl⟩
  ·
   go_enter Tryz.func166, Tryz.ntmps166
   go_wp2_with fail
   go_loopw [8] (fun i wr => ∃ k : Nat, k ≤ 1 ∧ i = .int .i64 k ∧ w = wr) (fun i _ => 2 - (intOf i).toNat)
   case atStart => exact ⟨0, by omega, rfl, rfl⟩
   case round =>
    obtain ⟨k, hk, rfl, hw⟩ := hrel
    subst hw
    rcases (show k = 0 ∨ k = 1 by omega) with rfl | rfl
    ·
     go_wp2_with fail
     go_roundw
     case rel => exact ⟨1, by omega, by go_num, trivial⟩
     case measure => decide
    ·
     go_wp2
     go_ret
     exact ⟨rfl, rfl⟩
 ·
  rw [if_neg ha]
  go_enter Tryz.func166, Tryz.ntmps166
  go_wp2_with fail
  go_loopw [8] (fun i wr => i = .int .i64 0 ∧ w = wr) (fun i _ => 2 - (intOf i).toNat)
  case atStart => exact ⟨rfl, rfl⟩
  case round =>
   obtain ⟨rfl, hw⟩ := hrel
   subst hw
   go_wp2
   go_ret
   exact ⟨rfl, rfl⟩
open Go.RowKit Go.Sort Go.Shelf

theorem implPtC (k f t v la d z : Int) (p : Option Addr) (n c : Nat) (w : World) :
  Calls Tryz.prog 158 #[.agg #[.int .i64 k, .int .i64 f, .int .i64 t, .int .i64 v, .int .i64 la, .slice p n c, .int .i64 d], .int .i64 z] w fun e w' => e = .returned (.int .i64 (cmI f z)) ∧ Below w.heap.size w w' := by
 have B1 : Hid (Below w.heap.size w (w.alloc (.cells #[.int .i64 k, .int .i64 f, .int .i64 t, .int .i64 v, .int .i64 la, .slice p n c, .int .i64 d] 30))) := hH_ ((Below.refl _ w).alloc (Nat.le_refl _) _)
 have X1 : Bx (w.alloc (.cells #[.int .i64 k, .int .i64 f, .int .i64 t, .int .i64 v, .int .i64 la, .slice p n c, .int .i64 d] 30)) w.heap.size 30 #[.int .i64 k, .int .i64 f, .int .i64 t, .int .i64 v, .int .i64 la, .slice p n c, .int .i64 d] := Bx.new _ _ _
 have c1 : (w.alloc (.cells #[.int .i64 k, .int .i64 f, .int .i64 t, .int .i64 v, .int .i64 la, .slice p n c, .int .i64 d] 30)).cell? ⟨w.heap.size, 1, none⟩ = some (.int .i64 f) := X1.cell 1
 clear X1
 go_enter Tryz.func158, Tryz.ntmps158
 go_upto_region 1 with fail
 generalize w.alloc (.cells #[.int .i64 k, .int .i64 f, .int .i64 t, .int .i64 v, .int .i64 la, .slice p n c, .int .i64 d] 30) = w1 at B1 c1 ⊢
 go_wp2_with (go_at_call 159; refine (implCm64 _ _ _).mono ?_; rintro e w2 ⟨rfl, h2⟩; subst h2)
 go_ret
 exact ⟨rfl, B1.out⟩
open Go.RowKit Go.Sort Go.Shelf

theorem Tryz.rszMs : (Tryz.prog.info? 30).map (·.size) = some 7 := by kernel_rfl
theorem wpList_stM {ops : Array Oper} {rest : List Oper} {o : Oper} {a : Act} {w : World} {Q : Exit → Act → World → Prop} (hgd : o.guard = none) (hd : o.dst = none) (x y : Operand) (ho : o.op = .store 30 x y) (b : Nat) (vs : Array Value) (hx : a.eval x = .pointer (some ⟨b, 0, none⟩)) (hy : a.eval y = .agg vs) {old : Array Value} (hB : Bx w b 30 old) (hs : old.size = 7) (hv : vs.size = 7)
  (h1 : vs.all (·.oneCell') = true) (h : ∀ W, Bx W b 30 vs → ChS (fun k => k = b) w W → wpList Tryz.prog ops Q rest a W) : wpList Tryz.prog ops Q (o :: rest) a w :=
 wpList_store_row hgd _ x y ho b vs hx hy _ old hB (by rw [Tryz.rszMs, hv]) (by rw [hs, hv]) h1 (by
  rw [hd]
  exact h _ (setRow_heap w b _ _ _ _ hB) ⟨rfl, rfl, rfl, by simp [World.setRow], fun k _ hk => setRow_other w b k _ hk⟩)
theorem wpList_ldM {ops : Array Oper} {rest : List Oper} {o : Oper} {a : Act} {w : World} {Q : Exit → Act → World → Prop} (hgd : o.guard = none) (x : Operand) (ho : o.op = .load 30 x) (b : Nat) (hx : a.eval x = .pointer (some ⟨b, 0, none⟩)) {vs : Array Value} (hB : Bx w b 30 vs) (hs : vs.size = 7)
  (h : wpList Tryz.prog ops Q rest (a.put o.dst (.agg vs)) w) : wpList Tryz.prog ops Q (o :: rest) a w :=
 wpList_load_row hgd _ x ho b hx _ vs (0, 0) _ hB Tryz.underlying30 rfl (by rw [Tryz.rszMs, hs]) h
theorem specMx (a b : Int) (w : World) : Calls Tryz.prog 97 #[.int .i64 a, .int .i64 b] w fun e w' => e = .returned (.int .i64 (max a b)) ∧ w = w' := by
 by_cases h : b < a
 ·
  rw [show max a b = a by omega]
  go_enter Tryz.func97, Tryz.ntmps97
  go_wp2
  go_ret
  exact ⟨rfl, rfl⟩
 ·
  rw [show max a b = b by omega]
  go_enter Tryz.func97, Tryz.ntmps97
  go_wp2
  go_ret
  exact ⟨rfl, rfl⟩
theorem specMn (a b : Int) (w : World) : Calls Tryz.prog 108 #[.int .i64 a, .int .i64 b] w fun e w' => e = .returned (.int .i64 (min a b)) ∧ w = w' := by
 by_cases h : a < b
 ·
  rw [show min a b = a by omega]
  go_enter Tryz.func108, Tryz.ntmps108
  go_wp2
  go_ret
  exact ⟨rfl, rfl⟩
 ·
  rw [show min a b = b by omega]
  go_enter Tryz.func108, Tryz.ntmps108
  go_wp2
  go_ret
  exact ⟨rfl, rfl⟩
theorem cmtM_take (te : List Ms) (k : Nat) (h : k < te.length) : cmtM (te.take (k + 1)) = max (cmtM (te.take k)) te[k].c := by
 unfold cmtM
 rw [List.take_succ_eq_append_getElem h, List.foldl_append]
 rfl
theorem bes_take (te : List Ms) (x : Ms) (k : Nat) (h : k < te.length) : (te.take (k + 1)).foldl betM x = betM ((te.take k).foldl betM x) te[k] := by
 rw [List.take_succ_eq_append_getElem h, List.foldl_append]
 rfl
def mxV (y : Mx) : Array Value := #[.int .i64 y.m.k, .int .i64 y.m.f, .int .i64 y.m.t, .int .i64 y.m.v, .int .i64 y.m.la, .slice y.pl y.m.l.length y.cl, .int .i64 y.m.c]
theorem Sls.take {α : Type} {E : Enc α} {w : World} {a : Option Addr} {n c : Nat} {l : List α} (h : Sls E w (.slice a n c) l) {k : Nat} (hk : k ≤ l.length) : Sls E w (.slice a k c) (l.take k) := by
 obtain ⟨a', cap, hv, h1, h2, h3⟩ := h
 injection hv with e1 e2 e3
 subst e1; subst e3
 refine ⟨_, _, by rw [List.length_take, Nat.min_eq_left hk], by rw [List.length_take]; omega, h2, fun h0 => ?_⟩
 rw [List.length_take] at h0
 obtain ⟨g, o, e, hg, hc⟩ := h3 (by omega)
 refine ⟨g, o, e, hg, fun j u hu => hc j u ?_⟩
 rw [← List.take_append_drop k l, cellsE_append, List.getElem?_append_left (List.getElem?_eq_some_iff.1 hu).1]
 exact hu
open Go.RowKit Go.Sort Go.Shelf

def byI (l1 l2 : Int) (n1 n2 : Nat) : Int := if cmI l1 l2 = 0 then cmI (n1 : Int) (n2 : Int) else cmI l1 l2
def frBy (s t : Nat → Value) : Act := { tmps := #[s 0, s 1, s 2, s 3, s 4, t 5, t 6, t 7, t 8, t 9, t 10, t 11, t 12, t 13, t 14, t 15, t 16, t 17, t 18], defers := [] }
def LBy : List Nat := [5, 6, 7, 8, 9, 10, 11, 12, 13, 14, 15, 16, 17, 18]
def dBy (i : Nat) : Nat := LBy.getD i (i + 5000)
theorem dBy_ne {i j : Nat} (hi : i < 14) (hj : j < 14) (h : j ≠ i) : dBy j ≠ dBy i := slotsNe (L := LBy) (by decide) rfl hi hj h
def GBy (l1 l2 : Int) (p1 p2 : Option Addr) (n1 c1 n2 c2 b lo : Nat) (i : Nat) (x : World) (v : Value) : Prop := match i with
 | 0 => v = .pointer (some ⟨b, 4, none⟩)
 | 1 => v = .int .i64 l1
 | 2 => v = .pointer (some ⟨b + 1, 4, none⟩)
 | 3 => v = .int .i64 l2
 | 4 => v = .int .i64 (cmI l1 l2)
 | 5 => v = .pointer (some ⟨b, 5, none⟩)
 | 6 => v = .slice p1 n1 c1
 | 7 => v = .int .i64 (n1 : Int)
 | 8 => v = .pointer (some ⟨b + 1, 5, none⟩)
 | 9 => v = .slice p2 n2 c2
 | 10 => v = .int .i64 (n2 : Int)
 | 11 => v = .int .i64 (cmI (n1 : Int) (n2 : Int))
 | 12 => ∃ (gb : Nat), v = .slice (some ⟨gb, 0, none⟩) 2 2 ∧ (lo ≤ gb ∧ Bx x gb 3 #[.int .i64 (cmI l1 l2), .int .i64 (cmI (n1 : Int) (n2 : Int))])
 | 13 => v = .int .i64 (byI l1 l2 n1 n2)
 | _ => True
theorem GBy.keep {l1 l2 : Int} {p1 p2 : Option Addr} {n1 c1 n2 c2 b lo : Nat} {x y : World} (hb : Below x.heap.size x y) (j : Nat) (v : Value) (hj : j < 14) (h : GBy l1 l2 p1 p2 n1 c1 n2 c2 b lo j x v) : GBy l1 l2 p1 p2 n1 c1 n2 c2 b lo j y v := by
 iterate 14 rcases ltS hj with hj | rfl
 cases hj
 ·
  exact h
 ·
  exact h
 ·
  exact h
 ·
  exact h
 ·
  exact h
 ·
  exact h
 ·
  exact h
 ·
  exact h
 ·
  exact h
 ·
  exact h
 ·
  exact h
 ·
  exact h
 ·
  obtain ⟨gb, h1, h2⟩ := h; exact ⟨gb, h1, h2.1, h2.2.kept hb⟩
 ·
  exact h
theorem implByLL (k1 f1 t1 v1 l1 d1 k2 f2 t2 v2 l2 d2 : Int) (p1 p2 : Option Addr) (n1 c1 n2 c2 : Nat) (w : World) :
  Calls Tryz.prog 151 #[.agg #[.int .i64 k1, .int .i64 f1, .int .i64 t1, .int .i64 v1, .int .i64 l1, .slice p1 n1 c1, .int .i64 d1], .agg #[.int .i64 k2, .int .i64 f2, .int .i64 t2, .int .i64 v2, .int .i64 l2, .slice p2 n2 c2, .int .i64 d2]] w fun e w' => e = .returned (.int .i64 (byI l1 l2 n1 n2)) ∧ Below w.heap.size w w' := by
 obtain ⟨b, hb⟩ : ∃ b, b = w.heap.size := ⟨_, rfl⟩
 obtain ⟨w1, hw1⟩ : ∃ w1, w1 = (w.alloc (.cells #[.int .i64 k1, .int .i64 f1, .int .i64 t1, .int .i64 v1, .int .i64 l1, .slice p1 n1 c1, .int .i64 d1] 30)).alloc (.cells #[.int .i64 k2, .int .i64 f2, .int .i64 t2, .int .i64 v2, .int .i64 l2, .slice p2 n2 c2, .int .i64 d2] 30) := ⟨_, rfl⟩
 have XA : Hid (Bx w1 b 30 #[.int .i64 k1, .int .i64 f1, .int .i64 t1, .int .i64 v1, .int .i64 l1, .slice p1 n1 c1, .int .i64 d1]) := hH_ (by rw [hw1, hb]; exact (Bx.new _ _ _).alloc _)
 have XB : Hid (Bx w1 (b + 1) 30 #[.int .i64 k2, .int .i64 f2, .int .i64 t2, .int .i64 v2, .int .i64 l2, .slice p2 n2 c2, .int .i64 d2]) := hH_ (by rw [hw1, hb]; exact Bx.at _ _ (by simp))
 have B1 : Hid (Below b w w1) := hH_ (by rw [hw1, hb]; exact ((Below.refl _ w).alloc (Nat.le_refl _) _).alloc (by simp) _)
 have S1 : Hid (w1.heap.size = b + 2) := (show _ = _ by rw [hw1, hb]; simp)
 have HB : Hid (b = w.heap.size) := hb
 go_enter Tryz.func151, Tryz.ntmps151
 go_upto_region 1 with fail
 rw [← hb, ← hw1]
 clear hw1 hb
 have Ca4 := fun x (hS : Below w1.heap.size w1 x) => (show x.cell? ⟨b, 4, none⟩ = some (.int .i64 l1) from (Bx.kept XA.out hS).cell 4)
 have Ca5 := fun x (hS : Below w1.heap.size w1 x) => (show x.cell? ⟨b, 5, none⟩ = some (.slice p1 n1 c1) from (Bx.kept XA.out hS).cell 5)
 have Cb4 := fun x (hS : Below w1.heap.size w1 x) => (show x.cell? ⟨b + 1, 4, none⟩ = some (.int .i64 l2) from (Bx.kept XB.out hS).cell 4)
 have Cb5 := fun x (hS : Below w1.heap.size w1 x) => (show x.cell? ⟨b + 1, 5, none⟩ = some (.slice p2 n2 c2) from (Bx.kept XB.out hS).cell 5)
 have S0 := dwB w1
 obtain ⟨lo, hlo⟩ : ∃ lo, lo = w1.heap.size := ⟨_, rfl⟩
 generalize hA : Act.mk _ _ = A
 obtain ⟨s, hs, s2_, s3_⟩ : ∃ s : Nat → Value, A = frBy s s ∧ s 2 = .pointer (some ⟨b, 0, none⟩) ∧ s 3 = .pointer (some ⟨b + 1, 0, none⟩) := by
  refine ⟨fun i => A.tmps.getD i undef, ?_, ?_, ?_⟩ <;> rw [← hA] <;> rfl
 rw [hs]
 clear hs hA
 refine region_heads 14 mixed (by decide) (by kernel_rfl) (by kernel_rfl) (by kernel_rfl) (by kernel_rfl) (frBy s) dBy (fun x => Below w1.heap.size w1 x) (GBy l1 l2 p1 p2 n1 c1 n2 c2 b lo) (fun i j hi hj h => dBy_ne hi hj h) ?put s rfl S0 ?step ?done
 case put =>
  intro i o hi ho t v
  iterate 14 rcases ltS hi with hi | rfl
  cases hi
  all_goals
   obtain rfl := Option.some.inj ho
   rfl
 case step =>
  intro i o hi ho t x hS hdep K hK
  iterate 14 rcases ltS hi with hi | rfl
  cases hi
  all_goals obtain rfl := Option.some.inj ho
  iterate 4
   ·
    have y0 := (Ca4 x hS)
    have y1 := (Cb4 x hS)
    have h2 := hK _ x hS kI_ rfl
    try simp [Region.binds, GBy, dBy, LBy] at hdep
    unfold frBy at h2 ⊢
    clear hK
    go_simp
    first | simpa [Act.put, hdep, y0, y1, s2_, s3_] using h2 | simpa [Act.put, y0, y1, s2_, s3_] using h2
  ·
   have e1 : t 6 = .int .i64 l1 := hdep ⟨1, .data⟩ (by simp) rfl
   have e3 : t 8 = .int .i64 l2 := hdep ⟨3, .data⟩ (by simp) rfl
   refine callG2 (by rfl) 159 (.tmp 6) (.tmp 8) _ rfl (.int .i64 l1) (.int .i64 l2) e1 e3 (Go.Proofs.enters_of Tryz.func159 (by kernel_rfl) rfl _) (fun v y => (v = .int .i64 (cmI l1 l2)) ∧ Below x.heap.size x y) ((implCm64 l1 l2 x).mono ?_) ?_
   ·
    rintro e0 y0 ⟨h0, h1⟩
    subst h1
    exact ⟨_, h0, rfl, Below.refl _ _⟩
   ·
    rintro v y ⟨h0, hb2⟩
    exact hK v y (hS.trans (hb2.mono hS.size)) (fun j u hj hne h => GBy.keep hb2 j u hj h) h0
  iterate 6
   ·
    have y0 := (Ca5 x hS)
    have y1 := (Cb5 x hS)
    have h2 := hK _ x hS kI_ rfl
    try simp [Region.binds, GBy, dBy, LBy] at hdep
    unfold frBy at h2 ⊢
    clear hK
    go_simp
    first | simpa [Act.put, hdep, y0, y1, s2_, s3_] using h2 | simpa [Act.put, y0, y1, s2_, s3_] using h2
  ·
   have e7 : t 12 = .int .i64 (n1 : Int) := hdep ⟨7, .data⟩ (by simp) rfl
   have e10 : t 15 = .int .i64 (n2 : Int) := hdep ⟨10, .data⟩ (by simp) rfl
   refine callG2 (by rfl) 167 (.tmp 12) (.tmp 15) _ rfl (.int .i64 (n1 : Int)) (.int .i64 (n2 : Int)) e7 e10 (Go.Proofs.enters_of Tryz.func167 (by kernel_rfl) rfl _) (fun v y => (v = .int .i64 (cmI (n1 : Int) (n2 : Int))) ∧ Below x.heap.size x y) ((implCmI (n1 : Int) (n2 : Int) x).mono ?_) ?_
   ·
    rintro e0 y0 ⟨h0, h1⟩
    subst h1
    exact ⟨_, h0, rfl, Below.refl _ _⟩
   ·
    rintro v y ⟨h0, hb2⟩
    exact hK v y (hS.trans (hb2.mono hS.size)) (fun j u hj hne h => GBy.keep hb2 j u hj h) h0
  ·
   have e4 : t 9 = .int .i64 (cmI l1 l2) := hdep ⟨4, .data⟩ (by simp) rfl
   have e11 : t 16 = .int .i64 (cmI (n1 : Int) (n2 : Int)) := hdep ⟨11, .data⟩ (by simp) rfl
   have hba := (Below.refl x.heap.size x).alloc (Nat.le_refl _) (.cells #[.int .i64 (cmI l1 l2), .int .i64 (cmI (n1 : Int) (n2 : Int))] 3)
   have h2 := hK (.slice (some ⟨x.heap.size, 0, none⟩) 2 2) (x.alloc (.cells #[.int .i64 (cmI l1 l2), .int .i64 (cmI (n1 : Int) (n2 : Int))] 3)) (hS.trans (hba.mono hS.size)) (fun j u hj hne h => GBy.keep hba j u hj h) ⟨x.heap.size, rfl, by rw [hlo]; exact hS.size, Bx.new _ _ _⟩
   unfold frBy at h2 ⊢
   clear hK
   go_simp
   simpa [Act.put, e4, e11, s2_, s3_] using h2
  ·
   obtain ⟨gb_12, e12, k12⟩ : ∃ (gb : Nat), t 17 = .slice (some ⟨gb, 0, none⟩) 2 2 ∧ (lo ≤ gb ∧ Bx x gb 3 #[.int .i64 (cmI l1 l2), .int .i64 (cmI (n1 : Int) (n2 : Int))]) := hdep ⟨12, .data⟩ (by simp) rfl
   refine callG1 (by rfl) 166 (.tmp 17) _ rfl (.slice (some ⟨gb_12, 0, none⟩) 2 2) e12 (Go.Proofs.enters_of Tryz.func166 (by kernel_rfl) rfl _) (fun v y => (v = .int .i64 (byI l1 l2 n1 n2)) ∧ Below x.heap.size x y) ((implOrI gb_12 (cmI l1 l2) (cmI (n1 : Int) (n2 : Int)) x (show x.cell? ⟨gb_12, 0, none⟩ = some _ from k12.2.cell 0) (show x.cell? ⟨gb_12, 1, none⟩ = some _ from k12.2.cell 1)).mono ?_) ?_
   ·
    rintro e0 y0 ⟨h0, h1⟩
    subst h1
    exact ⟨_, h0, rfl, Below.refl _ _⟩
   ·
    rintro v y ⟨h0, hb2⟩
    exact hK v y (hS.trans (hb2.mono hS.size)) (fun j u hj hne h => GBy.keep hb2 j u hj h) h0
 case done =>
  intro t w2 hS hG
  have e13 : t 18 = .int .i64 (byI l1 l2 n1 n2) := hG 13 (by decide)
  clear hG Ca4 Ca5 Cb4 Cb5 hlo S0
  show wpList Tryz.prog _ _ [_] _ w2
  unfold frBy
  simp only [e13, s2_, s3_]
  clear e13 s2_ s3_
  have HS : Hid (Below b w w2) := hH_ (B1.out.trans (hS.mono (by have:=S1.out;omega)))
  clear hS
  go_wp2
  go_ret
  exact ⟨rfl, by rw [← HB.out]; exact HS.out⟩
end Go.Proofs.YtdkhdjickkcaiaaGreat.Rl
namespace Go.Proofs.YtdkhdjickkcaiaaGreat
open Go.RowKit Go.Sort

theorem callGV2 {ops : Array Oper} {o : Oper} {a : Act} {w : World} {K : Act → World → Prop} {Q : Exit → Act → World → Prop} {E : Prop} (hw : Region.wanted o (yielded ops a.tmps) = true) (f : FuncId) (x x0 x1 : Operand) (ts : Array TypeId)
  (ho : o.op = .call { callee := .value x, args := #[x0, x1], argTypes := ts }) (hx : a.eval x = .func (.func f) #[] #[]) (v0 v1 : Value) (h0 : a.eval x0 = v0) (h1 : a.eval x1 = v1) (hent : ∀ w, (callFunc f #[v0, v1]).run Tryz.prog w = .ok (.enter f #[v0, v1]) w) (R : Value → World → Prop)
  (hc : Calls Tryz.prog f #[v0, v1] w fun e w' => ∃ v, e = .returned v ∧ R v w') (h : ∀ v w', R v w' → K (a.put o.dst v) w') :
  if Region.wanted o (yielded ops a.tmps) = true then Oper.wp Tryz.prog o a w K Q else E := by
 rw [if_pos hw]
 unfold Oper.wp
 have he : (execOp a.eval o).run Tryz.prog w = .ok (.enter f #[v0, v1]) w := by
  simp [execOp, ho, resolve, invoke, h0, h1, hx, Deferred.ofValue, hent]
 rw [he, Oper.upon_enter]
 refine hc.mono ?_
 rintro e w' ⟨v, rfl, hr⟩
 exact h v w' hr
theorem ldGM {ops : Array Oper} {o : Oper} {a : Act} {w : World} {K : Act → World → Prop} {Q : Exit → Act → World → Prop} {E : Prop} (hw : Region.wanted o (yielded ops a.tmps) = true) (x : Operand) (ho : o.op = .load 30 x) (b : Nat) (hx : a.eval x = .pointer (some ⟨b, 0, none⟩)) {vs : Array Value} (hB : Bx w b 30 vs) (hs : vs.size = 7)
  (h : K (a.put o.dst (.agg vs)) w) : if Region.wanted o (yielded ops a.tmps) = true then Oper.wp Tryz.prog o a w K Q else E := by
 rw [if_pos hw]
 exact wp_load_row _ x ho b hx _ vs (0, 0) _ hB Tryz.underlying30 rfl (by rw [Rl.Tryz.rszMs, hs]) h
end Go.Proofs.YtdkhdjickkcaiaaGreat
namespace Go.Proofs.YtdkhdjickkcaiaaGreat.Rl
open Go.RowKit Go.Sort Go.Shelf

structure SrcAt (l : List Int) (z : Int) (k : Nat) (D : Bool) : Prop where
 le : k ≤ l.length
 lo : ∀ i (h : i < l.length), i < k → l[i] < z
 yes : D = true → ∃ h : k < l.length, l[k] = z
 no : D = false → ∀ h : k < l.length, z < l[k]
theorem implBsf (v : Value) (T : List Mx) (z : Int) (w : World) (h : Sls mxE w v T) (hl : T.length ≤ 1000) (hr : (T.map (·.m.f)).Pairwise (· < ·)) :
  Calls Tryz.prog 157 #[v, .int .i64 z, .func (.func 158) #[] #[]] w fun e w' => ∃ (k : Nat) (D : Bool), e = .returned (.tuple #[.int .i64 (k : Int), .bool D]) ∧ SrcAt (T.map (·.m.f)) z k D ∧ Below w.heap.size w w' := by
 have HS : Hid (Sls mxE w v T) := h
 have MONO : Hid (∀ i j (hi : i < (T.map (·.m.f)).length) (hj : j < (T.map (·.m.f)).length), i < j → (T.map (·.m.f))[i] < (T.map (·.m.f))[j]) := hH_ (fun i j hi hj hij => List.pairwise_iff_getElem.1 hr i j hi hj hij)
 obtain ⟨a, c, rfl, _, _, _⟩ := h
 have B0 : Hid (Below w.heap.size w w) := hH_ (Below.refl _ _)
 have HL : Hid (T.length ≤ 1000) := hl
 clear hr
 go_enter Tryz.func157, Tryz.ntmps157
 go_wp2_with fail
 go_loopw [9, 10] (fun s9 s10 wr => ∃ lo hi : Nat, s9 = .int .i64 (lo : Int) ∧ s10 = .int .i64 (hi : Int) ∧ lo ≤ hi ∧ hi ≤ T.length ∧ Hid ((∀ i (h : i < (T.map (·.m.f)).length), i < lo → (T.map (·.m.f))[i] < z) ∧ (∀ i (h : i < (T.map (·.m.f)).length), hi ≤ i → z ≤ (T.map (·.m.f))[i])) ∧ Hid (Below w.heap.size w wr)) (fun s9 s10 _ => ((intOf s10).toNat - (intOf s9).toNat))
 case atStart => exact ⟨0, T.length, rfl, rfl, Nat.zero_le _, Nat.le_refl _, (show _ ∧ _ from ⟨fun i _ h => absurd h (Nat.not_lt_zero _), fun i h1 h2 => by rw [List.length_map] at h1; omega⟩), B0⟩
 case round =>
  clear B0
  obtain ⟨lo, hi, rfl, rfl, hlh, hin, I, HB⟩ := hrel
  by_cases hlt : lo < hi
  ·
   have hm : (lo + hi) / 2 < T.length := by omega
   have HA := HS.out.kept HB.out
   obtain ⟨g, q, rfl⟩ := mxAt HA (by omega)
   have CK := mxCells HA hm
   have HXK : Hid (∃ h : (lo + hi) / 2 < (T.map (·.m.f)).length, (T.map (·.m.f))[(lo + hi) / 2] = T[(lo + hi) / 2].m.f) := (show ∃ _, _ from ⟨by rw [List.length_map]; exact hm, by simp⟩)
   generalize T[(lo + hi) / 2] = X at CK HXK
   unfold Mx.u at CK
   obtain ⟨y0, y1, y2, y3, y4, y5, y6⟩ := CK
   clear HA
   obtain ⟨cm, hcm⟩ : ∃ cm, cm = cmI X.m.f z := ⟨_, rfl⟩
   have jc := fun x => implPtC X.m.k X.m.f X.m.t X.m.v X.m.la X.m.c z X.pl X.m.l.length X.cl x
   rw [← hcm] at jc
   by_cases hneg : cm < 0
   ·
    have HN : Hid (X.m.f < z) := (show _ < _ by rw [hcm] at hneg; unfold cmI at hneg; split at hneg; assumption; split at hneg <;> omega)
    clear hcm
    go_wp2_with fail
    refine (jc _).mono ?_
    rintro e w3 ⟨rfl, hb3⟩
    go_wp2_with fail
    go_roundw
    case rel => exact ⟨(lo + hi) / 2 + 1, hi, by go_num, rfl, by omega, hin, (show _ ∧ _ from ⟨fun i h hi2 => by
     obtain ⟨h1, h2⟩ := HXK.out
     rw [← h2] at HN
     by_cases e : i = (lo + hi) / 2
     ·
      subst e; exact HN.out
     ·
      exact Int.lt_trans (MONO.out i _ h h1 (by omega)) HN.out, I.out.2⟩), (show Hid _ from HB.out.trans (hb3.mono HB.out.size))⟩
    case measure => simp [intOf]; omega
   ·
    have HN : Hid (z ≤ X.m.f) := (show _ ≤ _ by rw [hcm] at hneg; unfold cmI at hneg; split at hneg; exact absurd (by decide) hneg; split at hneg <;> omega)
    clear hcm
    go_wp2_with fail
    refine (jc _).mono ?_
    rintro e w3 ⟨rfl, hb3⟩
    go_wp2_with fail
    go_roundw
    case rel => exact ⟨lo, (lo + hi) / 2, rfl, by go_num, by omega, by omega, (show _ ∧ _ from ⟨I.out.1, fun i h hi2 => by
     obtain ⟨h1, h2⟩ := HXK.out
     rw [← h2] at HN
     by_cases e : i = (lo + hi) / 2
     ·
      subst e; exact HN.out
     ·
      exact Int.le_of_lt (Int.lt_of_le_of_lt HN.out (MONO.out _ i h1 h (by omega)))⟩), (show Hid _ from HB.out.trans (hb3.mono HB.out.size))⟩
    case measure => simp [intOf]; omega
  ·
   obtain rfl : hi = lo := by omega
   by_cases hn : hi < T.length
   ·
    have HA := HS.out.kept HB.out
    obtain ⟨g, q, rfl⟩ := mxAt HA (by omega)
    have CK := mxCells HA hn
    have HXK : Hid (∃ h : hi < (T.map (·.m.f)).length, (T.map (·.m.f))[hi] = T[hi].m.f) := (show ∃ _, _ from ⟨by rw [List.length_map]; exact hn, by simp⟩)
    generalize T[hi] = X at CK HXK
    unfold Mx.u at CK
    obtain ⟨y0, y1, y2, y3, y4, y5, y6⟩ := CK
    clear HA
    obtain ⟨cm, hcm⟩ : ∃ cm, cm = cmI X.m.f z := ⟨_, rfl⟩
    have jc := fun x => implPtC X.m.k X.m.f X.m.t X.m.v X.m.la X.m.c z X.pl X.m.l.length X.cl x
    rw [← hcm] at jc
    by_cases hz : cm = 0
    ·
     have HN : Hid (X.m.f = z) := (show _ = _ by rw [hcm] at hz; unfold cmI at hz; split at hz; exact absurd hz (by decide); split at hz; exact absurd hz (by decide); omega)
     have bz : (cm == 0) = true := by simp [hz]
     clear hcm
     go_wp2_with fail
     refine (jc _).mono ?_
     rintro e w3 ⟨rfl, hb3⟩
     go_wp2_with fail
     go_ret2
     refine ⟨hi, true, by simp [hz], ⟨by rw [List.length_map]; exact hin, I.out.1, fun _ => ?_, fun h => by cases h⟩, HB.out.trans (hb3.mono HB.out.size)⟩
     obtain ⟨h1, h2⟩ := HXK.out
     exact ⟨h1, by rw [h2]; exact HN.out⟩
    ·
     have HN : Hid (X.m.f ≠ z) := (show _ ≠ _ by rw [hcm] at hz; unfold cmI at hz; intro e; apply hz; rw [e]; simp)
     have bz : (cm == 0) = false := by simp [hz]
     clear hcm
     go_wp2_with fail
     refine (jc _).mono ?_
     rintro e w3 ⟨rfl, hb3⟩
     go_wp2_with fail
     go_ret2
     refine ⟨hi, false, by simp [hz], ⟨by rw [List.length_map]; exact hin, I.out.1, fun h => (by cases h), fun _ h => ?_⟩, HB.out.trans (hb3.mono HB.out.size)⟩
     obtain ⟨h1, h2⟩ := HXK.out
     have h3 := I.out.2 hi h1 (Nat.le_refl _)
     rw [h2] at h3 ⊢
     have := HN.out
     omega
   ·
    go_wp2
    go_ret2
    exact ⟨hi, false, by simp, ⟨by rw [List.length_map]; exact hin, I.out.1, fun h => (by cases h), fun _ h => by rw [List.length_map] at h; omega⟩, HB.out⟩
end Go.Proofs.YtdkhdjickkcaiaaGreat.Rl
