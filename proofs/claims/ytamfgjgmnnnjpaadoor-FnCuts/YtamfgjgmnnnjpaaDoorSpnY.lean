/-
  The program's ShowSpan by its contract.
-/
import Derived.Test.YtamfgjgmnnnjpaaDoorSpnE
import Derived.Test.YtamfgjgmnnnjpaaDoorSpnT
import Derived.Test.YtamfgjgmnnnjpaaDoorShelfG
import Derived.Lib.SmallJoins
import Derived.Lib.QuietBelow
import Derived.BigQuiet
namespace Go.Proofs.YtamfgjgmnnnjpaaDoor
open Go.RowKit Go.Sort
set_option linter.unusedVariables false

/-- The library's table of powers of ten lies as its text lays it. -/
def TabS (w : World) : Prop := Lib.TabIs Tryd.prog w "internal/strconv.uint64pow10" .u64 Lib.pow10Tab
theorem gPowS : Tryd.prog.globalNamed "internal/strconv.uint64pow10" = some 0 := by kernel_rfl
theorem TabS.low {w w' : World} (h : TabS w) (hb : Below w.heap.size w w') : TabS w' := Go.Joins.tab_stays gPowS h hb (Nat.le_refl _)
theorem low_grow8 (w : World) (k : Nat) (os : Array Obj) : Below w.heap.size w (grow (w.drewN k) os) :=
  ⟨rfl, rfl, rfl, by simp [grow], fun j hj => by simp only [grow]; exact Array.getElem?_append_left hj⟩
theorem fmtS (n : Nat) (hn : n ≤ 9223372036854775807) (w : World) (ht : TabS w) :
    Calls Tryd.prog 40 #[.int .i64 n, .int .i64 10] w fun e w' => e = .returned (.string (itoS n)) ∧ Below w.heap.size w w' := by
  have e : (⟨(Lib.itoa (n : Int)).toArray⟩ : ByteArray) = itoS n := by unfold Lib.itoa itoS; rw [if_neg (by omega), Int.toNat_natCast]
  rw [← e]
  exact (Tryd.formatInt n (by omega) (by omega) w ht).mono fun e w' ⟨h1, k, os, h2⟩ => ⟨h1, by rw [h2]; exact low_grow8 w k os⟩
set_option maxHeartbeats 1000000 in
theorem implShw (x : Sp) (n : Int) (w : World) (ht : TabS w) (hr : InR x) (hn1 : n ≤ 9223372036854775807) :
    Calls Tryd.prog 15 #[spV x, .int .i64 n] w fun e w' => e = .returned (.string (shwS x n)) ∧ Below w.heap.size w w' := by
  have hk := fun W => implSpn x W
  have hn := @shwS_no x n
  have hy := @shwS_yes x n
  have hi := @spB_iff x
  obtain ⟨p, q⟩ := x
  obtain ⟨⟨r1, r2⟩, r3, r4⟩ := hr
  simp only at r1 r2 r3 r4 hi hn hy
  have B0 : Hid (Below w.heap.size w (w.alloc (.cells #[.int .i64 p, .int .i64 q] 30))) := (Below.refl _ w).alloc (Nat.le_refl _) _
  have c0 : Hid (∀ W, Below (w.heap.size + 1) (w.alloc (.cells #[.int .i64 p, .int .i64 q] 30)) W → W.cell? ⟨w.heap.size, 0, Option.none⟩ = some (.int .i64 p) ∧ W.cell? ⟨w.heap.size, 1, Option.none⟩ = some (.int .i64 q)) := fun W hW => by
    constructor
    · exact (hW.cell (p := ⟨w.heap.size, 0, Option.none⟩) (Nat.lt_succ_self _)).trans (World.cell?_alloc_mark _ _ _ _ _)
    · exact (hW.cell (p := ⟨w.heap.size, 1, Option.none⟩) (Nat.lt_succ_self _)).trans (World.cell?_alloc_mark _ _ _ _ _)
  unfold spV at hk ⊢
  generalize shwS (p, q) n = R at hn hy ⊢
  generalize spB (p, q) = ok at hk hn hy hi
  go_enter Tryd.func15, Tryd.ntmps15
  go_wp2_with fail
  refine (hk _).mono ?_
  rintro e w1 ⟨rfl, hg1⟩
  have hb1 := hg1.1
  clear hg1
  have B1 : Hid (Below w.heap.size w w1) := B0.out.trans (hb1.mono (by simp))
  have B1' : Hid (Below (w.heap.size + 1) (w.alloc (.cells #[.int .i64 p, .int .i64 q] 30)) w1) := by have := hb1; simp only [World.size_alloc] at this; exact this
  obtain ⟨d0, d1⟩ := c0.out w1 B1'.out
  have T1 : Hid (∀ d os, TabS (grow (redrawn w1 d) os)) := fun d os => ht.low (B1.out.trans ((below_regrown w1 d os).mono B1.out.size))
  clear hk hb1 ht
  cases ok with
  | false =>
    have HR : Hid (⟨#[]⟩ = R) := (hn (fun h => by cases h.1)).symm
    clear hn hy hi
    go_wp2
    go_ret
    exact ⟨ret_str8 HR.out, B1.out⟩
  | true =>
    have hpq := hi.1 rfl
    by_cases hlt : q < n
    · have HR : Hid (_ = R) := (hy rfl hlt).symm
      have dl : decide (n ≤ q) = false := decide_eq_false (by omega)
      clear hn hy hi
      obtain ⟨p, rfl⟩ := Int.eq_ofNat_of_zero_le hpq.1
      obtain ⟨q, rfl⟩ := Int.eq_ofNat_of_zero_le (show 0 ≤ q by omega)
      obtain ⟨n, rfl⟩ := Int.eq_ofNat_of_zero_le (show 0 ≤ n by omega)
      simp only [Int.toNat_natCast] at HR
      have i1 := fun W hW => fmtS p (by omega) W hW
      have i2 := fun W hW => fmtS q (by omega) W hW
      have i3 := fun W hW => fmtS n (by omega) W hW
      have z1 := itoS_size (n := p) (by omega)
      have z2 := itoS_size (n := q) (by omega)
      have z3 := itoS_size (n := n) (by omega)
      generalize itoS p = s1 at HR i1 z1
      generalize itoS q = s2 at HR i2 z2
      generalize itoS n = s3 at HR i3 z3
      unfold byU at HR
      have y1 : ((⟨#[98, 121, 116, 101, 115, 32]⟩ : ByteArray) ++ s1).size = 6 + s1.size := by rw [ByteArray.size_append]; rfl
      have y2 : ((⟨#[98, 121, 116, 101, 115, 32]⟩ : ByteArray) ++ s1 ++ (⟨#[45]⟩ : ByteArray)).size = 6 + s1.size + 1 := by rw [ByteArray.size_append, y1]; rfl
      have y3 : ((⟨#[98, 121, 116, 101, 115, 32]⟩ : ByteArray) ++ s1 ++ (⟨#[45]⟩ : ByteArray) ++ s2).size = 6 + s1.size + 1 + s2.size := by rw [ByteArray.size_append, y2]
      have y4 : ((⟨#[98, 121, 116, 101, 115, 32]⟩ : ByteArray) ++ s1 ++ (⟨#[45]⟩ : ByteArray) ++ s2 ++ (⟨#[47]⟩ : ByteArray)).size = 6 + s1.size + 1 + s2.size + 1 := by rw [ByteArray.size_append, y3]; rfl
      go_wp2_with fail
      have k0 := cell_regrown d0
      have k1 := cell_regrown d1
      have j1 : ∀ d os, Calls Tryd.prog 40 #[.int .i64 (p : Int), .int .i64 10] (grow (redrawn w1 d) os) fun e w'' => e = .returned (.string s1) ∧ ∃ p : Regrown, w'' = grow (redrawn w1 p.d) p.os := fun d os => Calls.regrown_of (i1 _ (T1.out d os))
      have j2 : ∀ d os, Calls Tryd.prog 40 #[.int .i64 (q : Int), .int .i64 10] (grow (redrawn w1 d) os) fun e w'' => e = .returned (.string s2) ∧ ∃ p : Regrown, w'' = grow (redrawn w1 p.d) p.os := fun d os => Calls.regrown_of (i2 _ (T1.out d os))
      have j3 : ∀ d os, Calls Tryd.prog 40 #[.int .i64 (n : Int), .int .i64 10] (grow (redrawn w1 d) os) fun e w'' => e = .returned (.string s3) ∧ ∃ p : Regrown, w'' = grow (redrawn w1 p.d) p.os := fun d os => Calls.regrown_of (i3 _ (T1.out d os))
      clear i1 i2 i3 c0
      refine wp_region_quiet_below (by kernel_rfl) (by kernel_rfl) ?_
      repeat (go_big_quiet_step (first | (with_reducible exact j1 _ _) | (with_reducible exact j2 _ _) | (with_reducible exact j3 _ _)))
      refine wpQuiet_nil ?_
      intro _ hw'
      obtain ⟨⟨dq, osq⟩, hw''⟩ := hw'
      subst hw''
      go_wp2
      go_ret
      exact ⟨ret_str8 HR.out, B1.out.trans ((below_regrown w1 dq osq).mono B1.out.size)⟩
    · have HR : Hid (⟨#[]⟩ = R) := (hn (fun h => hlt h.2)).symm
      have dl : decide (n ≤ q) = true := decide_eq_true (by omega)
      clear hn hy hi
      go_wp2
      go_ret
      exact ⟨ret_str8 HR.out, B1.out⟩
end Go.Proofs.YtamfgjgmnnnjpaaDoor
