/-
  A new edge, on both sides, and the laws' helpers on edges that hold no rows.
-/
import Derived.Test.YtdkhdjickkcaiaaLiv
import Derived.Below
namespace Go.Proofs.Ytdkhdjickkcaiaa
open Go.RowKit
set_option linter.unusedVariables false
set_option linter.unusedSimpArgs false
namespace Eg

/-- An edge by value. -/
def edV (o l : Value) (n u z : Int) (b : Value) : Value := .agg #[o, l, .int .i64 n, .int .i64 u, .int .i64 z, b]
def momE (n : Int) : Bool := decide (0 ≤ n) && decide (n ≤ 253402300799)

theorem below6 {w W : World} {B b : Nat} (h : Below B w W) (hb : B ≤ b) (v0 v1 v2 v3 v4 v5 : Value) : Below B w ((((((W.setCell ⟨b, 0, none⟩ v0).setCell ⟨b, 1, none⟩ v1).setCell ⟨b, 2, none⟩ v2).setCell ⟨b, 3, none⟩ v3).setCell ⟨b, 4, none⟩ v4).setCell ⟨b, 5, none⟩ v5) :=
  (((((h.setCell hb _).setCell hb _).setCell hb _).setCell hb _).setCell hb _).setCell hb _
theorem eqOb0 (a b : Option Addr) (ca cb : Nat) (w : World) :
    Calls Try.prog 41 #[.slice a 0 ca, .slice b 0 cb] w fun e w' => e = .returned (.bool true) ∧ w = w' := by
  go_enter Try.func41, Try.ntmps41
  go_wp2
  go_loopw [5] (fun i wr => i = .int .i64 0 ∧ w = wr) (fun _ _ => 0)
  case atStart => exact ⟨rfl, rfl⟩
  case round =>
    obtain ⟨rfl, rfl⟩ := hrel
    go_wp2
    go_ret
    exact ⟨rfl, rfl⟩
theorem eqSt0 (a b : Option Addr) (ca cb : Nat) (w : World) :
    Calls Try.prog 42 #[.slice a 0 ca, .slice b 0 cb] w fun e w' => e = .returned (.bool true) ∧ w = w' := by
  go_enter Try.func42, Try.ntmps42
  go_wp2
  go_loopw [5] (fun i wr => i = .int .i64 0 ∧ w = wr) (fun _ _ => 0)
  case atStart => exact ⟨rfl, rfl⟩
  case round =>
    obtain ⟨rfl, rfl⟩ := hrel
    go_wp2
    go_ret
    exact ⟨rfl, rfl⟩
theorem eqIn0 (a b : Option Addr) (ca cb : Nat) (w : World) :
    Calls Try.prog 69 #[.slice a 0 ca, .slice b 0 cb] w fun e w' => e = .returned (.bool true) ∧ w = w' := by
  go_enter Try.func69, Try.ntmps69
  go_wp2
  go_loopw [5] (fun i wr => i = .int .i64 0 ∧ w = wr) (fun _ _ => 0)
  case atStart => exact ⟨rfl, rfl⟩
  case round =>
    obtain ⟨rfl, rfl⟩ := hrel
    go_wp2
    go_ret
    exact ⟨rfl, rfl⟩
theorem mkOb0 (a : Option Addr) (ca : Nat) (w : World) :
    Calls Try.prog 44 #[.slice a 0 ca, .int .i64 1] w fun e w' => e = .returned (.int .i64 1) ∧ w = w' := by
  go_enter Try.func44, Try.ntmps44
  go_wp2
  go_loopw [1, 5] (fun m i wr => m = .int .i64 1 ∧ i = .int .i64 0 ∧ w = wr) (fun _ _ _ => 0)
  case atStart => exact ⟨rfl, rfl, rfl⟩
  case round =>
    obtain ⟨rfl, rfl, rfl⟩ := hrel
    go_wp2
    go_ret
    exact ⟨rfl, rfl⟩
theorem mkSt0 (a : Option Addr) (ca : Nat) (w : World) :
    Calls Try.prog 45 #[.slice a 0 ca, .int .i64 1] w fun e w' => e = .returned (.int .i64 1) ∧ w = w' := by
  go_enter Try.func45, Try.ntmps45
  go_wp2
  go_loopw [1, 5] (fun m i wr => m = .int .i64 1 ∧ i = .int .i64 0 ∧ w = wr) (fun _ _ _ => 0)
  case atStart => exact ⟨rfl, rfl, rfl⟩
  case round =>
    obtain ⟨rfl, rfl, rfl⟩ := hrel
    go_wp2
    go_ret
    exact ⟨rfl, rfl⟩
theorem mkIn0 (a : Option Addr) (ca : Nat) (w : World) :
    Calls Try.prog 65 #[.slice a 0 ca, .int .i64 1] w fun e w' => e = .returned (.int .i64 1) ∧ w = w' := by
  go_enter Try.func65, Try.ntmps65
  go_wp2
  go_loopw [1, 5] (fun m i wr => m = .int .i64 1 ∧ i = .int .i64 0 ∧ w = wr) (fun _ _ _ => 0)
  case atStart => exact ⟨rfl, rfl, rfl⟩
  case round =>
    obtain ⟨rfl, rfl, rfl⟩ := hrel
    go_wp2
    go_ret
    exact ⟨rfl, rfl⟩
theorem heOb0 (a : Option Addr) (ca : Nat) (w : World) :
    Calls Try.prog 47 #[.slice a 0 ca, .int .i64 1] w fun e w' => e = .returned (.int .i64 1) ∧ w = w' := by
  go_enter Try.func47, Try.ntmps47
  go_wp2
  go_loopw [1, 5] (fun m i wr => m = .int .i64 1 ∧ i = .int .i64 0 ∧ w = wr) (fun _ _ _ => 0)
  case atStart => exact ⟨rfl, rfl, rfl⟩
  case round =>
    obtain ⟨rfl, rfl, rfl⟩ := hrel
    go_wp2
    go_ret
    exact ⟨rfl, rfl⟩
theorem heSt0 (a : Option Addr) (ca : Nat) (w : World) :
    Calls Try.prog 48 #[.slice a 0 ca, .int .i64 1] w fun e w' => e = .returned (.int .i64 1) ∧ w = w' := by
  go_enter Try.func48, Try.ntmps48
  go_wp2
  go_loopw [1, 5] (fun m i wr => m = .int .i64 1 ∧ i = .int .i64 0 ∧ w = wr) (fun _ _ _ => 0)
  case atStart => exact ⟨rfl, rfl, rfl⟩
  case round =>
    obtain ⟨rfl, rfl, rfl⟩ := hrel
    go_wp2
    go_ret
    exact ⟨rfl, rfl⟩
theorem heIn0 (a : Option Addr) (ca : Nat) (w : World) :
    Calls Try.prog 66 #[.slice a 0 ca, .int .i64 1] w fun e w' => e = .returned (.int .i64 1) ∧ w = w' := by
  go_enter Try.func66, Try.ntmps66
  go_wp2
  go_loopw [1, 5] (fun m i wr => m = .int .i64 1 ∧ i = .int .i64 0 ∧ w = wr) (fun _ _ _ => 0)
  case atStart => exact ⟨rfl, rfl, rfl⟩
  case round =>
    obtain ⟨rfl, rfl, rfl⟩ := hrel
    go_wp2
    go_ret
    exact ⟨rfl, rfl⟩
theorem eqSk0 (z : Int) (a b : Option Addr) (ca cb : Nat) (w : World) :
    Calls Try.prog 43 #[.agg #[.int .i64 z, .slice a 0 ca], .agg #[.int .i64 z, .slice b 0 cb]] w fun e w' => e = .returned (.bool true) ∧ Below w.heap.size w w' := by
  have B2 : Hid (Below w.heap.size w ((w.alloc (.cells #[.int .i64 z, .slice a 0 ca] 43)).alloc (.cells #[.int .i64 z, .slice b 0 cb] 43))) := ((Below.refl _ w).alloc (Nat.le_refl _) _).alloc (by simp) _
  have hE := fun W => eqIn0 a b ca cb W
  have dq : (z != z) = false := by simp
  go_enter Try.func43, Try.ntmps43
  go_wp2_with fail
  refine (hE _).mono ?_
  rintro e w1 ⟨rfl, rfl⟩
  clear hE
  go_wp2
  go_ret
  exact ⟨rfl, B2.out⟩
theorem mkSk0 (z : Int) (a : Option Addr) (ca : Nat) (w : World) :
    Calls Try.prog 46 #[.agg #[.int .i64 z, .slice a 0 ca], .int .i64 1] w fun e w' => e = .returned (.int .i64 1) ∧ Below w.heap.size w w' := by
  have B2 : Hid (Below w.heap.size w (w.alloc (.cells #[.int .i64 z, .slice a 0 ca] 43))) := (Below.refl _ w).alloc (Nat.le_refl _) _
  have hE := fun W => mkIn0 a ca W
  go_enter Try.func46, Try.ntmps46
  go_wp2_with fail
  refine (hE _).mono ?_
  rintro e w1 ⟨rfl, rfl⟩
  clear hE
  go_wp2
  go_ret
  exact ⟨rfl, B2.out⟩
theorem heSk0 (z : Int) (a : Option Addr) (ca : Nat) (w : World) :
    Calls Try.prog 49 #[.agg #[.int .i64 z, .slice a 0 ca], .int .i64 1] w fun e w' => e = .returned (.int .i64 1) ∧ Below w.heap.size w w' := by
  have B2 : Hid (Below w.heap.size w (w.alloc (.cells #[.int .i64 z, .slice a 0 ca] 43))) := (Below.refl _ w).alloc (Nat.le_refl _) _
  have hE := fun W => heIn0 a ca W
  go_enter Try.func49, Try.ntmps49
  go_wp2_with fail
  refine (hE _).mono ?_
  rintro e w1 ⟨rfl, rfl⟩
  clear hE
  go_wp2
  go_ret
  exact ⟨rfl, B2.out⟩
set_option maxHeartbeats 1000000 in
theorem eqEg0 (n u z : Int) (a b c a' b' c' : Option Addr) (ca cb cc ca' cb' cc' : Nat) (w : World) :
    Calls Try.prog 17 #[edV (.slice a 0 ca) (.slice b 0 cb) n u z (.slice c 0 cc), edV (.slice a' 0 ca') (.slice b' 0 cb') n u z (.slice c' 0 cc')] w fun e w' => e = .returned (.bool true) ∧ Below w.heap.size w w' := by
  have hO := fun W => eqOb0 a a' ca ca' W
  have hS := fun W => eqSt0 b b' cb cb' W
  have hK := fun W => eqSk0 z c c' cc cc' W
  have B2 : Hid (Below w.heap.size w ((w.alloc (.cells #[.slice a 0 ca, .slice b 0 cb, .int .i64 n, .int .i64 u, .int .i64 z, .slice c 0 cc] 45)).alloc (.cells #[.slice a' 0 ca', .slice b' 0 cb', .int .i64 n, .int .i64 u, .int .i64 z, .slice c' 0 cc'] 45))) := ((Below.refl _ w).alloc (Nat.le_refl _) _).alloc (by simp) _
  have dn : (n != n) = false := by simp
  have du : (u != u) = false := by simp
  unfold edV
  go_enter Try.func17, Try.ntmps17
  go_wp2_with (first | (go_at_call 41; refine (hO _).mono ?_; rintro e w1 ⟨rfl, rfl⟩) | (go_at_call 42; refine (hS _).mono ?_; rintro e w1 ⟨rfl, rfl⟩))
  refine (hK _).mono ?_
  rintro e w3 ⟨rfl, hb⟩
  have B3 : Hid (Below w.heap.size w w3) := (show Hid _ from B2.out.trans (hb.mono B2.out.size))
  clear hb hO hS hK
  go_wp2
  go_ret
  exact ⟨rfl, B3.out⟩
set_option maxHeartbeats 1000000 in
theorem mkEg0 (n u z : Int) (a b c : Option Addr) (ca cb cc : Nat) (w : World) :
    Calls Try.prog 18 #[edV (.slice a 0 ca) (.slice b 0 cb) n u z (.slice c 0 cc), .int .i64 1] w fun e w' => e = .returned (.int .i64 1) ∧ Below w.heap.size w w' := by
  have hO := fun W => mkOb0 a ca W
  have hS := fun W => mkSt0 b cb W
  have hK := fun W => mkSk0 z c cc W
  have B2 : Hid (Below w.heap.size w (w.alloc (.cells #[.slice a 0 ca, .slice b 0 cb, .int .i64 n, .int .i64 u, .int .i64 z, .slice c 0 cc] 45))) := (Below.refl _ w).alloc (Nat.le_refl _) _
  unfold edV
  go_enter Try.func18, Try.ntmps18
  go_wp2_with (first | (go_at_call 44; refine (hO _).mono ?_; rintro e w1 ⟨rfl, rfl⟩) | (go_at_call 45; refine (hS _).mono ?_; rintro e w1 ⟨rfl, rfl⟩))
  refine (hK _).mono ?_
  rintro e w3 ⟨rfl, hb⟩
  have B3 : Hid (Below w.heap.size w w3) := (show Hid _ from B2.out.trans (hb.mono B2.out.size))
  clear hb hO hS hK
  go_wp2
  go_ret
  exact ⟨rfl, B3.out⟩
set_option maxHeartbeats 1000000 in
theorem heEg0 (n u z : Int) (a b c : Option Addr) (ca cb cc : Nat) (w : World) :
    Calls Try.prog 19 #[edV (.slice a 0 ca) (.slice b 0 cb) n u z (.slice c 0 cc), .int .i64 1] w fun e w' => e = .returned (.int .i64 1) ∧ Below w.heap.size w w' := by
  have hO := fun W => heOb0 a ca W
  have hS := fun W => heSt0 b cb W
  have hK := fun W => heSk0 z c cc W
  have B2 : Hid (Below w.heap.size w (w.alloc (.cells #[.slice a 0 ca, .slice b 0 cb, .int .i64 n, .int .i64 u, .int .i64 z, .slice c 0 cc] 45))) := (Below.refl _ w).alloc (Nat.le_refl _) _
  unfold edV
  go_enter Try.func19, Try.ntmps19
  go_wp2_with (first | (go_at_call 47; refine (hO _).mono ?_; rintro e w1 ⟨rfl, rfl⟩) | (go_at_call 48; refine (hS _).mono ?_; rintro e w1 ⟨rfl, rfl⟩))
  refine (hK _).mono ?_
  rintro e w3 ⟨rfl, hb⟩
  have B3 : Hid (Below w.heap.size w w3) := (show Hid _ from B2.out.trans (hb.mono B2.out.size))
  clear hb hO hS hK
  go_wp2
  go_ret
  exact ⟨rfl, B3.out⟩
theorem specMomE (n : Int) (w : World) : Calls Try.prog 38 #[.int .i64 n] w fun e w' => e = .returned (.bool (momE n)) ∧ w = w' := by
  have h : ∀ W, Calls Try.prog 24 #[.int .i64 n, .int .i64 0, .int .i64 253402300799] W fun e w' => e = .returned (.bool (momE n)) ∧ W = w' := fun W => by
    unfold momE
    by_cases h0 : 0 ≤ n
    · rw [decide_eq_true h0, Bool.true_and]
      go_enter Try.func24, Try.ntmps24
      go_wp2
      go_ret
      exact ⟨rfl, rfl⟩
    · rw [decide_eq_false h0, Bool.false_and]
      go_enter Try.func24, Try.ntmps24
      go_wp2
      go_ret
      exact ⟨rfl, rfl⟩
  go_enter Try.func38, Try.ntmps38
  go_wp2_with (go_at_call 24; refine (h _).mono ?_; rintro e w1 ⟨rfl, rfl⟩)
  go_ret
  exact ⟨rfl, rfl⟩
theorem implMomE (n : Int) (w : World) : Calls Try.prog 39 #[.int .i64 n] w fun e w' => e = .returned (.bool (momE n)) ∧ w = w' := by
  unfold momE
  by_cases h0 : 0 ≤ n
  · rw [decide_eq_true h0, Bool.true_and]
    go_enter Try.func39, Try.ntmps39
    go_wp2
    go_ret
    exact ⟨rfl, rfl⟩
  · rw [decide_eq_false h0, Bool.false_and]
    go_enter Try.func39, Try.ntmps39
    go_wp2
    go_ret
    exact ⟨rfl, rfl⟩
set_option maxHeartbeats 1000000 in
theorem specNewEg (n : Int) (w : World) :
    Calls Try.prog 15 #[.int .i64 n] w fun e w' => (∃ (a b c : Option Addr) (ca cb cc : Nat), e = .returned (.tuple #[edV (.slice a 0 ca) (.slice b 0 cb) (if momE n = true then n else 0) 0 (if momE n = true then 256 else 0) (.slice c 0 cc), .bool (momE n)])) ∧ Below w.heap.size w w' := by
  have hS := fun W => specMomE n W
  have hX := Bx.new w 45 #[.slice none 0 0, .slice none 0 0, .int .i64 0, .int .i64 0, .int .i64 0, .slice none 0 0]
  have B0 : Hid (Below w.heap.size w (w.alloc (.cells #[.slice none 0 0, .slice none 0 0, .int .i64 0, .int .i64 0, .int .i64 0, .slice none 0 0] 45))) := (Below.refl _ w).alloc (Nat.le_refl _) _
  unfold edV
  cases hsz : momE n with
  | false =>
    rw [hsz] at hS
    go_enter Try.func15, Try.ntmps15
    generalize hwA : w.alloc (.cells #[.slice none 0 0, .slice none 0 0, .int .i64 0, .int .i64 0, .int .i64 0, .slice none 0 0] 45) = wA at B0 hX
    have c0 := hX.cell 0
    have c1 := hX.cell 1
    have c2 := hX.cell 2
    have c3 := hX.cell 3
    have c4 := hX.cell 4
    have c5 := hX.cell 5
    have f0 := hX.free 0
    have f1 := hX.free 1
    have f2 := hX.free 2
    have f3 := hX.free 3
    have f4 := hX.free 4
    have f5 := hX.free 5
    go_wp2_with fail
    refine (hS _).mono ?_
    rintro e w1 ⟨rfl, rfl⟩
    go_wp2
    refine bodyPost_ret (v := .tuple #[.agg #[.slice none 0 0, .slice none 0 0, .int .i64 0, .int .i64 0, .int .i64 0, .slice none 0 0], .bool false]) (by simp [results, Try.results15, go_sem, c0, c1, c2, c3, c4, c5]) rfl ⟨⟨none, none, none, 0, 0, 0, rfl⟩, ?_⟩
    exact below6 B0.out (Nat.le_refl _) _ _ _ _ _ _
  | true =>
    rw [hsz] at hS
    go_enter Try.func15, Try.ntmps15
    generalize hwA : w.alloc (.cells #[.slice none 0 0, .slice none 0 0, .int .i64 0, .int .i64 0, .int .i64 0, .slice none 0 0] 45) = wA at B0 hX
    have c0 := hX.cell 0
    have c1 := hX.cell 1
    have c2 := hX.cell 2
    have c3 := hX.cell 3
    have c4 := hX.cell 4
    have c5 := hX.cell 5
    have f0 := hX.free 0
    have f1 := hX.free 1
    have f2 := hX.free 2
    have f3 := hX.free 3
    have f4 := hX.free 4
    have f5 := hX.free 5
    go_wp2_with fail
    refine (hS _).mono ?_
    rintro e w1 ⟨rfl, rfl⟩
    go_wp2
    refine bodyPost_ret (v := .tuple #[.agg #[.slice none 0 0, .slice none 0 0, .int .i64 n, .int .i64 0, .int .i64 256, .slice none 0 0], .bool true]) (by simp [results, Try.results15, go_sem, c0, c1, c2, c3, c4, c5]) rfl ⟨⟨none, none, none, 0, 0, 0, rfl⟩, ?_⟩
    exact below6 B0.out (Nat.le_refl _) _ _ _ _ _ _
theorem implSz256 (w : World) : Calls Try.prog 67 #[.int .i64 256] w fun e w' => e = .returned (.bool true) ∧ w = w' := by
  go_enter Try.func67, Try.ntmps67
  go_wp2
  go_ret
  exact ⟨rfl, rfl⟩
theorem implSk256 (w : World) :
    Calls Try.prog 40 #[.int .i64 256] w fun e w' => (∃ (c : Option Addr) (cc : Nat), e = .returned (.tuple #[.agg #[.int .i64 256, .slice c 0 cc], .bool true])) ∧ Below w.heap.size w w' := by
  have hS := fun W => implSz256 W
  have hX := Bx.new w 43 #[.int .i64 0, .slice none 0 0]
  have B0 : Hid (Below w.heap.size w (w.alloc (.cells #[.int .i64 0, .slice none 0 0] 43))) := (Below.refl _ w).alloc (Nat.le_refl _) _
  have hz : (w.alloc (.cells #[.int .i64 0, .slice none 0 0] 43)).heap.size = w.heap.size + 1 := by simp
  go_enter Try.func40, Try.ntmps40
  generalize hwA : w.alloc (.cells #[.int .i64 0, .slice none 0 0] 43) = wA at B0 hX hz
  have hY := hX.alloc (.cells #[] 2)
  have B1 : Hid (Below w.heap.size w (wA.alloc (.cells #[] 2))) := (show Hid _ from B0.out.alloc (by omega) _)
  generalize hwB : wA.alloc (.cells #[] 2) = wB at hY B1
  generalize hG : wA.heap.size = G
  have c0 := hY.cell 0
  have c1 := hY.cell 1
  have f0 := hY.free 0
  have f1 := hY.free 1
  clear hz hX
  go_wp2_with (go_at_call 67; refine (hS _).mono ?_; rintro e w1 ⟨rfl, rfl⟩)
  refine bodyPost_ret (v := .tuple #[.agg #[.int .i64 256, .slice (some ⟨G, 0, none⟩) 0 0], .bool true]) (by simp [results, Try.results40, go_sem, c0, c1]) rfl ⟨⟨_, _, rfl⟩, ?_⟩
  exact (B1.out.setCell (Nat.le_refl _) _).setCell (Nat.le_refl _) _
set_option maxHeartbeats 2000000 in
theorem implNewEg (n : Int) (w : World) :
    Calls Try.prog 16 #[.int .i64 n] w fun e w' => (∃ (a b c : Option Addr) (ca cb cc : Nat), e = .returned (.tuple #[edV (.slice a 0 ca) (.slice b 0 cb) (if momE n = true then n else 0) 0 (if momE n = true then 256 else 0) (.slice c 0 cc), .bool (momE n)])) ∧ Below w.heap.size w w' := by
  have hS := fun W => implMomE n W
  have hN := fun W => implSk256 W
  have hX := Bx.new w 45 #[.slice none 0 0, .slice none 0 0, .int .i64 0, .int .i64 0, .int .i64 0, .slice none 0 0]
  have B0 : Hid (Below w.heap.size w (w.alloc (.cells #[.slice none 0 0, .slice none 0 0, .int .i64 0, .int .i64 0, .int .i64 0, .slice none 0 0] 45))) := (Below.refl _ w).alloc (Nat.le_refl _) _
  have hz : (w.alloc (.cells #[.slice none 0 0, .slice none 0 0, .int .i64 0, .int .i64 0, .int .i64 0, .slice none 0 0] 45)).heap.size = w.heap.size + 1 := by simp
  unfold edV
  cases hsz : momE n with
  | false =>
    rw [hsz] at hS
    go_enter Try.func16, Try.ntmps16
    generalize hwA : w.alloc (.cells #[.slice none 0 0, .slice none 0 0, .int .i64 0, .int .i64 0, .int .i64 0, .slice none 0 0] 45) = wA at B0 hX
    have c0 := hX.cell 0
    have c1 := hX.cell 1
    have c2 := hX.cell 2
    have c3 := hX.cell 3
    have c4 := hX.cell 4
    have c5 := hX.cell 5
    have f0 := hX.free 0
    have f1 := hX.free 1
    have f2 := hX.free 2
    have f3 := hX.free 3
    have f4 := hX.free 4
    have f5 := hX.free 5
    go_wp2_with fail
    refine (hS _).mono ?_
    rintro e w1 ⟨rfl, rfl⟩
    go_wp2
    refine bodyPost_ret (v := .tuple #[.agg #[.slice none 0 0, .slice none 0 0, .int .i64 0, .int .i64 0, .int .i64 0, .slice none 0 0], .bool false]) (by simp [results, Try.results16, go_sem, c0, c1, c2, c3, c4, c5]) rfl ⟨⟨none, none, none, 0, 0, 0, rfl⟩, ?_⟩
    exact below6 B0.out (Nat.le_refl _) _ _ _ _ _ _
  | true =>
    rw [hsz] at hS
    go_enter Try.func16, Try.ntmps16
    generalize hwA : w.alloc (.cells #[.slice none 0 0, .slice none 0 0, .int .i64 0, .int .i64 0, .int .i64 0, .slice none 0 0] 45) = wA at B0 hX hz
    go_wp2_with fail
    refine (hS _).mono ?_
    rintro e w1 ⟨rfl, rfl⟩
    go_wp2_with fail
    refine (hN _).mono ?_
    rintro e w2 ⟨⟨c, cc, rfl⟩, hb⟩
    have hX2 := hX.kept hb
    have B2 : Hid (Below w.heap.size w w2) := (show Hid _ from B0.out.trans (hb.mono B0.out.size))
    have hz2 : w.heap.size + 1 ≤ w2.heap.size := by have := hb.size; omega
    clear hb hX hS hN hwA hz B0
    have Y3 := Bx.new w2 43 #[.int .i64 256, .slice c 0 cc]
    have Y4 := (Y3.alloc (.cells #[] 94)).alloc (.cells #[] 9)
    have X5 := (((hX2.alloc (.cells #[.int .i64 256, .slice c 0 cc] 43)).alloc (.cells #[] 94)).alloc (.cells #[] 9))
    have B5 : Hid (Below w.heap.size w (((w2.alloc (.cells #[.int .i64 256, .slice c 0 cc] 43)).alloc (.cells #[] 94)).alloc (.cells #[] 9))) := (show Hid _ from ((B2.out.alloc (by omega) _).alloc (by simp; omega) _).alloc (by simp; omega) _)
    have c0 := X5.cell 0
    have c1 := X5.cell 1
    have c2 := X5.cell 2
    have c3 := X5.cell 3
    have c4 := X5.cell 4
    have c5 := X5.cell 5
    have f0 := X5.free 0
    have f1 := X5.free 1
    have f2 := X5.free 2
    have f3 := X5.free 3
    have f4 := X5.free 4
    have f5 := X5.free 5
    have y0 := Y4.cell 0
    have y1 := Y4.cell 1
    have g0 := Y4.free 0
    have g1 := Y4.free 1
    clear X5 Y4 Y3 hX2 B2 hz2
    go_wp2
    refine bodyPost_ret (v := .tuple #[.agg #[.slice (some ⟨w2.heap.size + 1, 0, none⟩) 0 0, .slice (some ⟨w2.heap.size + 1 + 1, 0, none⟩) 0 0, .int .i64 n, .int .i64 0, .int .i64 256, .slice c 0 cc], .bool true]) (by simp [results, Try.results16, go_sem, c0, c1, c2, c3, c4, c5]) rfl ⟨⟨_, _, _, _, _, _, rfl⟩, ?_⟩
    exact below6 B5.out (Nat.le_refl _) _ _ _ _ _ _
end Eg
end Go.Proofs.Ytdkhdjickkcaiaa
