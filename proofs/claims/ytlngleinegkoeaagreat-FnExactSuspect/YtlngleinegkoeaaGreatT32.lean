/-
  The program's messages to all others; what it has, told.
  What a replica has, told: the program's standing.
  The program's spread; both sides' Spread.
-/
import Derived.Test.YtlngleinegkoeaaGreatT31
import Derived.Test.YtlngleinegkoeaaGreatT28
namespace Go.Proofs.YtlngleinegkoeaaGreat.Rl
open Go.RowKit Go.Sort Pg
set_option linter.unusedVariables false
set_option linter.unusedSimpArgs false

set_option maxRecDepth 100000 in
set_option maxHeartbeats 8000000 in
theorem implTo (r : Rp) (u : Rv) (b : Nat) (m : Ms) (um : Value) (w : World) (hB : RpB w b r u) (hp : pOk r.p) (hm : Sls txtE w um m.l) (hl : m.l.length ≤ 1048576) (hs : ∀ x ∈ m.l, x.size ≤ 1048576) (hf : m.f = r.id) :
    Calls Tryz.prog 179 #[.pointer (some ⟨b, 0, none⟩), msA m um] w fun e w' => ∃ v T, e = .returned v ∧ MsOwn w' w.heap.size v T (allM r m) ∧ Below w.heap.size w w' := by
  obtain ⟨a, cap, hv⟩ := Sls.slen0 hm
  subst hv
  have HP : Hid (0 ≤ r.p ∧ r.p ≤ 5) := (show _ ∧ _ by rcases hp with h | h | h <;> omega)
  have HM : Hid (Sls txtE w (.slice a m.l.length cap) m.l) := hm
  obtain ⟨mk, mf, mt, mv, ma, ml, mc⟩ := m
  simp only at HM hl hm hs hf
  subst hf
  have HS : Hid (∀ x ∈ ml, x.size ≤ 1048576) := hs
  unfold msA
  simp only
  have hbl : b < w.heap.size := hB.lt
  obtain ⟨W0, hW0⟩ : ∃ W0, W0 = ((w.alloc (.cells #[.int .i64 mk, .int .i64 r.id, .int .i64 mt, .int .i64 mv, .int .i64 ma, .slice a ml.length cap, .int .i64 mc] 30)).alloc (.cells #[] 30)) := ⟨_, rfl⟩
  have hs0 : W0.heap.size = w.heap.size + 2 := by rw [hW0]; simp
  have XR : Hid (RpB W0 b r u) := (show Hid _ from by rw [hW0]; exact (Bx.alloc hB _).alloc _)
  have XM : Hid (Bx W0 w.heap.size 30 #[.int .i64 mk, .int .i64 r.id, .int .i64 mt, .int .i64 mv, .int .i64 ma, .slice a ml.length cap, .int .i64 mc]) := (show Hid _ from by rw [hW0]; exact (Bx.new _ _ _).alloc _)
  have O0 : Hid (MsOwn W0 (w.heap.size + 1) (.slice (some ⟨w.heap.size + 1, 0, none⟩) 0 0) [] []) := (show MsOwn W0 (w.heap.size + 1) (.slice (some ⟨w.heap.size + 1, 0, none⟩) 0 0) [] [] by
    rw [hW0]
    have := MsOwn.born (w.alloc (.cells #[.int .i64 mk, .int .i64 r.id, .int .i64 mt, .int .i64 mv, .int .i64 ma, .slice a ml.length cap, .int .i64 mc] 30))
    simpa using this)
  have B0 : Hid (Below w.heap.size w W0) := (show Hid _ from by rw [hW0]; exact ((Below.refl _ w).alloc (Nat.le_refl _) _).alloc (by simp) _)
  have S0 : Hid (W0.heap.size = w.heap.size + 2) := hs0
  have y1 := XR.out.cells.2.1
  clear hm hs0 hp hB hs
  go_enter Tryz.func179, Tryz.ntmps179
  go_upto_region 2 with fail
  rw [← hW0]
  clear hW0
  go_wp2_with fail
  clear y1
  go_loopw [5, 13] (fun v i wr => ∃ (k : Nat) (T : List Mx), (k : Int) ≤ r.p ∧ i = .int .i64 k ∧ Hid (MsOwn wr (w.heap.size + 1) v T (allK r ⟨mk, r.id, mt, mv, ma, ml, mc⟩ k)) ∧ Hid (RpB wr b r u) ∧ Hid (Bx wr w.heap.size 30 #[.int .i64 mk, .int .i64 r.id, .int .i64 mt, .int .i64 mv, .int .i64 ma, .slice a ml.length cap, .int .i64 mc]) ∧ Hid (Below w.heap.size w wr) ∧ Hid (w.heap.size + 2 ≤ wr.heap.size)) (fun _ i _ => r.p.toNat - (intOf i).toNat)
  case atStart => exact ⟨0, [], HP.out.1, rfl, O0, XR, XM, B0, (show Hid _ from Nat.le_of_eq S0.out.symm)⟩
  case round =>
    obtain ⟨k, T, hk, rfl, hO, hR, hX, hb, hsz⟩ := hrel
    have hp5 := HP.out
    have r0 := hR.out.cells.1
    by_cases hlt : (k : Int) < r.p
    · by_cases hid : (k : Int) = r.id
      · have hne : ((k : Int) != r.id) = false := by simpa using hid
        have HA : Hid _ := (allK_skip (m := ⟨mk, r.id, mt, mv, ma, ml, mc⟩) hid)
        go_wp2_with fail
        go_roundw
        case rel => exact ⟨k + 1, T, by omega, by go_num, by rw [HA.out]; exact hO, hR, hX, hb, hsz⟩
        case measure => simp [intOf]; omega
      · have hne : ((k : Int) != r.id) = true := by simpa using hid
        have HA : Hid _ := (allK_next (m := ⟨mk, r.id, mt, mv, ma, ml, mc⟩) hid)
        obtain ⟨va, vc, hvv, hvl, _⟩ := hO.out.row.form
        subst hvv
        have j1 := fun W hW => implNms ⟨mk, r.id, mt, mv, ma, ml, mc⟩ (.slice a ml.length cap) W hW hl HS.out
        unfold msA at j1
        simp only at j1
        have x0 := hX.out.cell 0
        have x1 := hX.out.cell 1
        have x2 := hX.out.cell 2
        have x3 := hX.out.cell 3
        have x4 := hX.out.cell 4
        have x5 := hX.out.cell 5
        have x6 := hX.out.cell 6
        have hks : k < 5 := by omega
        go_wp2_with fail
        clear x0 x1 x2 x3 x4 x5 x6 r0
        refine (j1 _ (HM.out.kept hb.out)).mono ?_
        rintro e w2 ⟨u2, rfl, hu, hb2⟩
        obtain ⟨pa, pc, rfl, _⟩ := hu.form
        have HX3 : Hid (Bx w2 w.heap.size 30 #[.int .i64 mk, .int .i64 r.id, .int .i64 mt, .int .i64 mv, .int .i64 ma, .slice a ml.length cap, .int .i64 mc]) := (show Hid _ from hX.out.kept hb2)
        have HR3 : Hid (RpB w2 b r u) := (show Hid _ from hR.out.kept hb2)
        have HO3 : Hid (MsOwn w2 (w.heap.size + 1) (.slice va T.length vc) T (allK r ⟨mk, r.id, mt, mv, ma, ml, mc⟩ k)) := (show Hid _ from hO.out.kept hb2)
        have HB3 : Hid (Below w.heap.size w w2) := (show Hid _ from hb.out.trans (hb2.mono hb.out.size))
        have HU : Hid (OwnsX w2 wr.heap.size (.slice pa ml.length pc) ml) := hu
        have Z1 : Hid (wr.heap.size ≤ w2.heap.size) := (show wr.heap.size ≤ w2.heap.size from hb2.size)
        have HC1 : Hid (∀ y ∈ T, ∀ q, y.u.ownBlock = some q → q < wr.heap.size) := (show ∀ _ _, _ from fun y hy q hq => (hO.out.logs.l y hy).under q hq)
        have HC2 : Hid (∀ q, (Value.slice va T.length vc).ownBlock = some q → q < wr.heap.size) := (show ∀ _, _ from fun q hq => hO.out.row.under q hq)
        have HTL : Hid (T.length ≤ 5) := (show T.length ≤ 5 by
          have := hO.out.len
          unfold allK at this
          rw [List.length_map] at this
          have h2 := List.length_filter_le (fun (q : Nat) => decide ((q : Int) ≠ r.id)) (List.range k)
          rw [List.length_range] at h2
          omega)
        clear hb2 hu hX hR hO hb j1
        obtain ⟨W4, hW4⟩ : ∃ W4, W4 = w2.alloc (.cells #[.int .i64 mk, .int .i64 r.id, .int .i64 (k : Int), .int .i64 mv, .int .i64 ma, .slice pa ml.length pc, .int .i64 mc] 30) := ⟨_, rfl⟩
        have HX5 : Hid (Bx W4 w.heap.size 30 #[.int .i64 mk, .int .i64 r.id, .int .i64 mt, .int .i64 mv, .int .i64 ma, .slice a ml.length cap, .int .i64 mc]) := (show Hid _ from by rw [hW4]; exact HX3.out.alloc _)
        have HR5 : Hid (RpB W4 b r u) := (show Hid _ from by rw [hW4]; exact Bx.alloc HR3.out _)
        have HO5 : Hid (MsOwn W4 (w.heap.size + 1) (.slice va T.length vc) T (allK r ⟨mk, r.id, mt, mv, ma, ml, mc⟩ k)) := (show Hid _ from by rw [hW4]; exact HO3.out.alloc _)
        have HB5 : Hid (Below w.heap.size w W4) := (show Hid _ from by rw [hW4]; exact HB3.out.alloc HB3.out.size _)
        have HU5 : Hid (OwnsX W4 wr.heap.size (.slice pa ml.length pc) ml) := (show Hid _ from by rw [hW4]; exact HU.out.alloc _)
        have Z5 : Hid (W4.heap.size = w2.heap.size + 1) := (show _ = _ by rw [hW4]; simp)
        clear HX3 HR3 HO3 HB3 HU
        have hz1 := Z1.out
        have hz2 := hsz.out
        have hz5 := Z5.out
        have htl := HTL.out
        go_wp2_with (
          at_builtin
          rw [← hW4]
          refine wpList_pushM W4 rfl (.tmp 26) (.tmp 28) rfl (w.heap.size + 1) (.slice va T.length vc) T _ ⟨⟨mk, r.id, (k : Int), mv, ma, ml, mc⟩, pa, pc⟩ (by simp [Act.eval, Act.put]) HO5.out (HU5.out.has.low (by omega)) wr.heap.size HC1.out HC2.out HU5.out.from (by simp [Act.eval, Act.put, hW4]) (by omega) (by omega) ?_
          intro v' w3 ho3 hg3)
        have HX6 : Hid (Bx w3 w.heap.size 30 #[.int .i64 mk, .int .i64 r.id, .int .i64 mt, .int .i64 mv, .int .i64 ma, .slice a ml.length cap, .int .i64 mc]) := (show Hid _ from HX5.out.grown hg3 (fun e => by have := HO5.out.row.from _ e; omega))
        have HR6 : Hid (RpB w3 b r u) := (show Hid _ from Bx.grown HR5.out hg3 (fun e => by have := HO5.out.row.from _ e; omega))
        have HB6 : Hid (Below w.heap.size w w3) := (show Hid _ from HB5.out.grown hg3 HB5.out.size (fun q hq => by have := HO5.out.row.from q hq; omega))
        have HO6 : Hid (MsOwn w3 (w.heap.size + 1) v' (T ++ [⟨⟨mk, r.id, (k : Int), mv, ma, ml, mc⟩, pa, pc⟩]) (allK r ⟨mk, r.id, mt, mv, ma, ml, mc⟩ (k + 1))) := (show Hid _ from by rw [HA.out]; exact ho3)
        have Z6 : Hid (w.heap.size + 2 ≤ w3.heap.size) := (show w.heap.size + 2 ≤ w3.heap.size by have := hg3.size; omega)
        clear ho3 hg3 HX5 HR5 HO5 HB5 hW4
        go_roundw
        case rel => exact ⟨k + 1, _, by omega, by go_num, HO6, HR6, HX6, HB6, Z6⟩
        case measure => simp [intOf]; omega
    · have hkk : k = r.p.toNat := by omega
      subst hkk
      go_wp2
      go_ret
      exact ⟨_, rfl, ⟨T, hO.out.low (by omega)⟩, hb.out⟩
end Go.Proofs.YtlngleinegkoeaaGreat.Rl
namespace Go.Proofs.YtlngleinegkoeaaGreat.Rl
open Go.RowKit Go.Sort Pg
set_option linter.unusedVariables false
set_option linter.unusedSimpArgs false

def frSd (s t : Nat → Value) : Act := { tmps := #[s 0, s 1, s 2, s 3, s 4, t 5, t 6, t 7, t 8, t 9, t 10, t 11, t 12, t 13, t 14, t 15, t 16, t 17, t 18, t 19, t 20, t 21, t 22, t 23, t 24, t 25, t 26, t 27, t 28, t 29, t 30, t 31, t 32, t 33, t 34, t 35, t 36], defers := [] }
def dSd (i : Nat) : Nat := i + 5
def GSd (r : Rp) (kd : Int) (b z lo : Nat) (la : Option Addr) (lc : Nat) (i : Nat) (x : World) (v : Value) : Prop := match i with
  | 0 => v = .int .i64 kd
  | 1 => v = .pointer (some ⟨b, 0, none⟩)
  | 2 => v = .pointer (some ⟨b, 0, none⟩)
  | 3 => v = .pointer (some ⟨b, 0, none⟩)
  | 4 => v = .int .i64 r.id
  | 5 => v = .pointer (some ⟨b, 0, none⟩)
  | 6 => v = .pointer (some ⟨b, 0, none⟩)
  | 7 => v = .pointer (some ⟨b, 2, none⟩)
  | 8 => v = .int .i64 r.v
  | 9 => v = .pointer (some ⟨b, 0, none⟩)
  | 10 => v = .pointer (some ⟨b, 0, none⟩)
  | 11 => v = .pointer (some ⟨b, 1, none⟩)
  | 12 => v = .int .i64 r.p
  | 13 => v = .int .i64 (r.v % r.p)
  | 14 => v = .pointer (some ⟨b, 0, none⟩)
  | 15 => v = .pointer (some ⟨b, 0, none⟩)
  | 16 => v = .pointer (some ⟨b, 2, none⟩)
  | 17 => v = .int .i64 r.v
  | 18 => v = .pointer (some ⟨b, 0, none⟩)
  | 19 => v = .pointer (some ⟨b, 0, none⟩)
  | 20 => v = .pointer (some ⟨b, 4, none⟩)
  | 21 => v = .int .i64 r.la
  | 22 => v = .pointer (some ⟨b, 0, none⟩)
  | 23 => v = .pointer (some ⟨b, 0, none⟩)
  | 24 => v = .pointer (some ⟨b, 5, none⟩)
  | 25 => v = .slice la r.l.length lc
  | 26 => ∃ (p1 : Option Addr) (d1 : Nat), v = .slice p1 r.l.length d1 ∧ OwnsX x lo (.slice p1 r.l.length d1) r.l
  | 27 => v = .pointer (some ⟨b, 0, none⟩)
  | 28 => v = .pointer (some ⟨b, 0, none⟩)
  | 29 => v = .pointer (some ⟨b, 6, none⟩)
  | 30 => v = .int .i64 r.c
  | 31 => ∃ (p1 : Option Addr) (d1 : Nat), v = .agg #[.int .i64 kd, .int .i64 r.id, .int .i64 (r.v % r.p), .int .i64 r.v, .int .i64 r.la, .slice p1 r.l.length d1, .int .i64 r.c] ∧ OwnsX x lo (.slice p1 r.l.length d1) r.l
  | _ => True
theorem GSd.keep {r : Rp} {kd : Int} {b z lo : Nat} {la : Option Addr} {lc : Nat} {x y : World} (hb : Below x.heap.size x y) (j : Nat) (v : Value) (hj : j < 32) (h : GSd r kd b z lo la lc j x v) : GSd r kd b z lo la lc j y v := by
  rcases (show j = 0 ∨ j = 1 ∨ j = 2 ∨ j = 3 ∨ j = 4 ∨ j = 5 ∨ j = 6 ∨ j = 7 ∨ j = 8 ∨ j = 9 ∨ j = 10 ∨ j = 11 ∨ j = 12 ∨ j = 13 ∨ j = 14 ∨ j = 15 ∨ j = 16 ∨ j = 17 ∨ j = 18 ∨ j = 19 ∨ j = 20 ∨ j = 21 ∨ j = 22 ∨ j = 23 ∨ j = 24 ∨ j = 25 ∨ j = 26 ∨ j = 27 ∨ j = 28 ∨ j = 29 ∨ j = 30 ∨ j = 31 by omega) with rfl | rfl | rfl | rfl | rfl | rfl | rfl | rfl | rfl | rfl | rfl | rfl | rfl | rfl | rfl | rfl | rfl | rfl | rfl | rfl | rfl | rfl | rfl | rfl | rfl | rfl | rfl | rfl | rfl | rfl | rfl | rfl
  · exact h
  · exact h
  · exact h
  · exact h
  · exact h
  · exact h
  · exact h
  · exact h
  · exact h
  · exact h
  · exact h
  · exact h
  · exact h
  · exact h
  · exact h
  · exact h
  · exact h
  · exact h
  · exact h
  · exact h
  · exact h
  · exact h
  · exact h
  · exact h
  · exact h
  · exact h
  · obtain ⟨p1, d1, h1, h2⟩ := h; exact ⟨p1, d1, h1, h2.kept hb⟩
  · exact h
  · exact h
  · exact h
  · exact h
  · obtain ⟨p1, d1, h1, h2⟩ := h; exact ⟨p1, d1, h1, h2.kept hb⟩
/-- All that it has, told to the one who leads in its view. -/
def stdM (r : Rp) (kd : Int) : Ms := ⟨kd, r.id, r.v % r.p, r.v, r.la, r.l, r.c⟩
set_option maxRecDepth 100000 in
set_option maxHeartbeats 8000000 in
theorem implStd (r : Rp) (u : Rv) (b : Nat) (kd : Int) (w : World) (hB : RpB w b r u) (hv : 0 ≤ r.v ∧ r.v ≤ 20000) (hp : pOk r.p) (hl : Sls txtE w u.l r.l) (hlen : r.l.length ≤ 1048576) (hs : ∀ x ∈ r.l, x.size ≤ 1048576) :
    Calls Tryz.prog 180 #[.pointer (some ⟨b, 0, none⟩), .int .i64 kd] w fun e w' => ∃ v, e = .returned (msA (stdM r kd) v) ∧ OwnsX w' w.heap.size v r.l ∧ Below w.heap.size w w' := by
  obtain ⟨la, lc, hvl⟩ := Sls.slen0 hl
  obtain ⟨w1, hw1⟩ : ∃ w1, w1 = w.alloc (.cells #[.int .i64 0, .int .i64 0, .int .i64 0, .int .i64 0, .int .i64 0, .slice none 0 0, .int .i64 0] 30) := ⟨_, rfl⟩
  have HB1 : Hid (RpB w1 b r u) := (show Hid _ from by rw [hw1]; exact Bx.alloc hB _)
  have HZ1 : Hid (Bx w1 w.heap.size 30 #[.int .i64 0, .int .i64 0, .int .i64 0, .int .i64 0, .int .i64 0, .slice none 0 0, .int .i64 0]) := (show Hid _ from by rw [hw1]; exact Bx.new _ _ _)
  have B1 : Hid (Below w.heap.size w w1) := (show Hid _ from by rw [hw1]; exact (Below.refl _ w).alloc (Nat.le_refl _) _)
  have SZ : Hid (w1.heap.size = w.heap.size + 1) := (show _ = _ by rw [hw1]; simp)
  have HS1 : Hid (Sls txtE w1 (.slice la r.l.length lc) r.l) := (show Hid _ from by rw [hw1, ← hvl]; exact hl.kept ((Below.refl _ w).alloc (Nat.le_refl _) _))
  have jl := fun x => implLd r.v r.p x hv hp
  have jn := fun x (hS : Below w1.heap.size w1 x) => implNlg (.slice la r.l.length lc) r.l x (HS1.out.kept hS) hlen hs
  have CB := fun x (hS : Below w1.heap.size w1 x) => (show x.cell? ⟨b, 0, none⟩ = some (.int .i64 r.id) ∧ x.cell? ⟨b, 1, none⟩ = some (.int .i64 r.p) ∧ x.cell? ⟨b, 2, none⟩ = some (.int .i64 r.v) ∧ x.cell? ⟨b, 3, none⟩ = some (.bool r.n) ∧ x.cell? ⟨b, 4, none⟩ = some (.int .i64 r.la) ∧ x.cell? ⟨b, 5, none⟩ = some (.slice la r.l.length lc) ∧ x.cell? ⟨b, 6, none⟩ = some (.int .i64 r.c) ∧ True from by
    obtain ⟨c0, c1, c2, c3, c4, c5, c6, _⟩ := (HB1.out.kept hS).cells
    rw [hvl] at c5
    exact ⟨c0, c1, c2, c3, c4, c5, c6, trivial⟩)
  obtain ⟨z, hz⟩ : ∃ z, z = w.heap.size := ⟨_, rfl⟩
  have HZ9 : Hid (z = w.heap.size) := hz
  clear hB hl hvl
  go_enter Tryz.func180, Tryz.ntmps180
  go_upto_region 1 with fail
  rw [← hw1, ← hz]
  clear hw1 hz
  have S0 : Below w1.heap.size w1 w1.drew := ⟨rfl, rfl, rfl, Nat.le_refl _, fun _ _ => rfl⟩
  obtain ⟨lo, hlo⟩ : ∃ lo, lo = w1.heap.size := ⟨_, rfl⟩
  generalize hA : Act.mk _ _ = A
  obtain ⟨s, hs9, s0_, s1_, s4_⟩ : ∃ s : Nat → Value, A = frSd s (fun _ => undef) ∧ s 0 = .pointer (some ⟨b, 0, none⟩) ∧ s 1 = .int .i64 kd ∧ s 4 = .pointer (some ⟨z, 0, none⟩) := by
    refine ⟨fun i => A.tmps.getD i undef, ?_, ?_, ?_, ?_⟩ <;> rw [← hA] <;> rfl
  rw [hs9]
  clear hs9 hA
  refine region_heads 32 mixed (by decide) (by kernel_rfl) (by kernel_rfl) (by kernel_rfl) (by kernel_rfl) (frSd s) dSd (fun x => Below w1.heap.size w1 x) (GSd r kd b z lo la lc) (fun i j hi hj h => by unfold dSd; omega) ?put (fun _ => undef) rfl S0 ?step ?done
  case put =>
    intro i o hi ho t v
    rcases (show i = 0 ∨ i = 1 ∨ i = 2 ∨ i = 3 ∨ i = 4 ∨ i = 5 ∨ i = 6 ∨ i = 7 ∨ i = 8 ∨ i = 9 ∨ i = 10 ∨ i = 11 ∨ i = 12 ∨ i = 13 ∨ i = 14 ∨ i = 15 ∨ i = 16 ∨ i = 17 ∨ i = 18 ∨ i = 19 ∨ i = 20 ∨ i = 21 ∨ i = 22 ∨ i = 23 ∨ i = 24 ∨ i = 25 ∨ i = 26 ∨ i = 27 ∨ i = 28 ∨ i = 29 ∨ i = 30 ∨ i = 31 by omega) with rfl | rfl | rfl | rfl | rfl | rfl | rfl | rfl | rfl | rfl | rfl | rfl | rfl | rfl | rfl | rfl | rfl | rfl | rfl | rfl | rfl | rfl | rfl | rfl | rfl | rfl | rfl | rfl | rfl | rfl | rfl | rfl
    all_goals
      obtain rfl := Option.some.inj ho
      rfl
  case step =>
    intro i o hi ho t x hS hdep K hK
    rcases (show i = 0 ∨ i = 1 ∨ i = 2 ∨ i = 3 ∨ i = 4 ∨ i = 5 ∨ i = 6 ∨ i = 7 ∨ i = 8 ∨ i = 9 ∨ i = 10 ∨ i = 11 ∨ i = 12 ∨ i = 13 ∨ i = 14 ∨ i = 15 ∨ i = 16 ∨ i = 17 ∨ i = 18 ∨ i = 19 ∨ i = 20 ∨ i = 21 ∨ i = 22 ∨ i = 23 ∨ i = 24 ∨ i = 25 ∨ i = 26 ∨ i = 27 ∨ i = 28 ∨ i = 29 ∨ i = 30 ∨ i = 31 by omega) with rfl | rfl | rfl | rfl | rfl | rfl | rfl | rfl | rfl | rfl | rfl | rfl | rfl | rfl | rfl | rfl | rfl | rfl | rfl | rfl | rfl | rfl | rfl | rfl | rfl | rfl | rfl | rfl | rfl | rfl | rfl | rfl
    all_goals obtain rfl := Option.some.inj ho
    · have h2 := hK (.int .i64 kd) x hS (fun j u hj hne h => h) rfl
      unfold frSd at h2 ⊢
      clear hK
      go_simp
      simpa [Act.put, s0_, s1_, s4_] using h2
    · have h2 := hK (.pointer (some ⟨b, 0, none⟩)) x hS (fun j u hj hne h => h) rfl
      unfold frSd at h2 ⊢
      clear hK
      go_simp
      simpa [Act.put, s0_, s1_, s4_] using h2
    · have e1 : t 6 = .pointer (some ⟨b, 0, none⟩) := hdep { on := 1, ground := Ground.data } (by simp) rfl
      have h2 := hK (.pointer (some ⟨b, 0, none⟩)) x hS (fun j u hj hne h => h) rfl
      unfold frSd at h2 ⊢
      clear hK
      go_simp
      simpa [Act.put, e1, s0_, s1_, s4_] using h2
    · have e2 : t 7 = .pointer (some ⟨b, 0, none⟩) := hdep { on := 2, ground := Ground.data } (by simp) rfl
      have h2 := hK (.pointer (some ⟨b, 0, none⟩)) x hS (fun j u hj hne h => h) rfl
      unfold frSd at h2 ⊢
      clear hK
      go_simp
      simpa [Act.put, e2, s0_, s1_, s4_] using h2
    · have e3 : t 8 = .pointer (some ⟨b, 0, none⟩) := hdep { on := 3, ground := Ground.data } (by simp) rfl
      have y0 := (CB x hS).1
      have h2 := hK (.int .i64 r.id) x hS (fun j u hj hne h => h) rfl
      unfold frSd at h2 ⊢
      clear hK
      go_simp
      simpa [Act.put, e3, y0, s0_, s1_, s4_] using h2
    · have h2 := hK (.pointer (some ⟨b, 0, none⟩)) x hS (fun j u hj hne h => h) rfl
      unfold frSd at h2 ⊢
      clear hK
      go_simp
      simpa [Act.put, s0_, s1_, s4_] using h2
    · have e5 : t 10 = .pointer (some ⟨b, 0, none⟩) := hdep { on := 5, ground := Ground.data } (by simp) rfl
      have h2 := hK (.pointer (some ⟨b, 0, none⟩)) x hS (fun j u hj hne h => h) rfl
      unfold frSd at h2 ⊢
      clear hK
      go_simp
      simpa [Act.put, e5, s0_, s1_, s4_] using h2
    · have e6 : t 11 = .pointer (some ⟨b, 0, none⟩) := hdep { on := 6, ground := Ground.data } (by simp) rfl
      have h2 := hK (.pointer (some ⟨b, 2, none⟩)) x hS (fun j u hj hne h => h) rfl
      unfold frSd at h2 ⊢
      clear hK
      go_simp
      simpa [Act.put, e6, s0_, s1_, s4_] using h2
    · have e7 : t 12 = .pointer (some ⟨b, 2, none⟩) := hdep { on := 7, ground := Ground.data } (by simp) rfl
      have y0 := (CB x hS).2.2.1
      have h2 := hK (.int .i64 r.v) x hS (fun j u hj hne h => h) rfl
      unfold frSd at h2 ⊢
      clear hK
      go_simp
      simpa [Act.put, e7, y0, s0_, s1_, s4_] using h2
    · have h2 := hK (.pointer (some ⟨b, 0, none⟩)) x hS (fun j u hj hne h => h) rfl
      unfold frSd at h2 ⊢
      clear hK
      go_simp
      simpa [Act.put, s0_, s1_, s4_] using h2
    · have e9 : t 14 = .pointer (some ⟨b, 0, none⟩) := hdep { on := 9, ground := Ground.data } (by simp) rfl
      have h2 := hK (.pointer (some ⟨b, 0, none⟩)) x hS (fun j u hj hne h => h) rfl
      unfold frSd at h2 ⊢
      clear hK
      go_simp
      simpa [Act.put, e9, s0_, s1_, s4_] using h2
    · have e10 : t 15 = .pointer (some ⟨b, 0, none⟩) := hdep { on := 10, ground := Ground.data } (by simp) rfl
      have h2 := hK (.pointer (some ⟨b, 1, none⟩)) x hS (fun j u hj hne h => h) rfl
      unfold frSd at h2 ⊢
      clear hK
      go_simp
      simpa [Act.put, e10, s0_, s1_, s4_] using h2
    · have e11 : t 16 = .pointer (some ⟨b, 1, none⟩) := hdep { on := 11, ground := Ground.data } (by simp) rfl
      have y0 := (CB x hS).2.1
      have h2 := hK (.int .i64 r.p) x hS (fun j u hj hne h => h) rfl
      unfold frSd at h2 ⊢
      clear hK
      go_simp
      simpa [Act.put, e11, y0, s0_, s1_, s4_] using h2
    · have e8 : t 13 = .int .i64 r.v := hdep { on := 8, ground := Ground.data } (by simp) rfl
      have e12 : t 17 = .int .i64 r.p := hdep { on := 12, ground := Ground.data } (by simp) rfl
      refine callG2 (by rfl) 197 (.tmp 13) (.tmp 17) _ rfl (.int .i64 r.v) (.int .i64 r.p) e8 e12 (Go.Proofs.enters_of Tryz.func197 (by kernel_rfl) rfl _) (fun v y => (v = .int .i64 (r.v % r.p)) ∧ Below x.heap.size x y) ((jl x).mono ?_) ?_
      · rintro e0 y0 ⟨h0, h1⟩
        exact ⟨_, h0, rfl, h1 ▸ Below.refl _ _⟩
      · rintro v y ⟨h0, hb2⟩
        exact hK v y ((show Below w1.heap.size w1 y from hS.trans (hb2.mono hS.size))) (fun j u hj hne h => GSd.keep hb2 j u hj h) h0
    · have h2 := hK (.pointer (some ⟨b, 0, none⟩)) x hS (fun j u hj hne h => h) rfl
      unfold frSd at h2 ⊢
      clear hK
      go_simp
      simpa [Act.put, s0_, s1_, s4_] using h2
    · have e14 : t 19 = .pointer (some ⟨b, 0, none⟩) := hdep { on := 14, ground := Ground.data } (by simp) rfl
      have h2 := hK (.pointer (some ⟨b, 0, none⟩)) x hS (fun j u hj hne h => h) rfl
      unfold frSd at h2 ⊢
      clear hK
      go_simp
      simpa [Act.put, e14, s0_, s1_, s4_] using h2
    · have e15 : t 20 = .pointer (some ⟨b, 0, none⟩) := hdep { on := 15, ground := Ground.data } (by simp) rfl
      have h2 := hK (.pointer (some ⟨b, 2, none⟩)) x hS (fun j u hj hne h => h) rfl
      unfold frSd at h2 ⊢
      clear hK
      go_simp
      simpa [Act.put, e15, s0_, s1_, s4_] using h2
    · have e16 : t 21 = .pointer (some ⟨b, 2, none⟩) := hdep { on := 16, ground := Ground.data } (by simp) rfl
      have y0 := (CB x hS).2.2.1
      have h2 := hK (.int .i64 r.v) x hS (fun j u hj hne h => h) rfl
      unfold frSd at h2 ⊢
      clear hK
      go_simp
      simpa [Act.put, e16, y0, s0_, s1_, s4_] using h2
    · have h2 := hK (.pointer (some ⟨b, 0, none⟩)) x hS (fun j u hj hne h => h) rfl
      unfold frSd at h2 ⊢
      clear hK
      go_simp
      simpa [Act.put, s0_, s1_, s4_] using h2
    · have e18 : t 23 = .pointer (some ⟨b, 0, none⟩) := hdep { on := 18, ground := Ground.data } (by simp) rfl
      have h2 := hK (.pointer (some ⟨b, 0, none⟩)) x hS (fun j u hj hne h => h) rfl
      unfold frSd at h2 ⊢
      clear hK
      go_simp
      simpa [Act.put, e18, s0_, s1_, s4_] using h2
    · have e19 : t 24 = .pointer (some ⟨b, 0, none⟩) := hdep { on := 19, ground := Ground.data } (by simp) rfl
      have h2 := hK (.pointer (some ⟨b, 4, none⟩)) x hS (fun j u hj hne h => h) rfl
      unfold frSd at h2 ⊢
      clear hK
      go_simp
      simpa [Act.put, e19, s0_, s1_, s4_] using h2
    · have e20 : t 25 = .pointer (some ⟨b, 4, none⟩) := hdep { on := 20, ground := Ground.data } (by simp) rfl
      have y0 := (CB x hS).2.2.2.2.1
      have h2 := hK (.int .i64 r.la) x hS (fun j u hj hne h => h) rfl
      unfold frSd at h2 ⊢
      clear hK
      go_simp
      simpa [Act.put, e20, y0, s0_, s1_, s4_] using h2
    · have h2 := hK (.pointer (some ⟨b, 0, none⟩)) x hS (fun j u hj hne h => h) rfl
      unfold frSd at h2 ⊢
      clear hK
      go_simp
      simpa [Act.put, s0_, s1_, s4_] using h2
    · have e22 : t 27 = .pointer (some ⟨b, 0, none⟩) := hdep { on := 22, ground := Ground.data } (by simp) rfl
      have h2 := hK (.pointer (some ⟨b, 0, none⟩)) x hS (fun j u hj hne h => h) rfl
      unfold frSd at h2 ⊢
      clear hK
      go_simp
      simpa [Act.put, e22, s0_, s1_, s4_] using h2
    · have e23 : t 28 = .pointer (some ⟨b, 0, none⟩) := hdep { on := 23, ground := Ground.data } (by simp) rfl
      have h2 := hK (.pointer (some ⟨b, 5, none⟩)) x hS (fun j u hj hne h => h) rfl
      unfold frSd at h2 ⊢
      clear hK
      go_simp
      simpa [Act.put, e23, s0_, s1_, s4_] using h2
    · have e24 : t 29 = .pointer (some ⟨b, 5, none⟩) := hdep { on := 24, ground := Ground.data } (by simp) rfl
      have y0 := (CB x hS).2.2.2.2.2.1
      have h2 := hK (.slice la r.l.length lc) x hS (fun j u hj hne h => h) rfl
      unfold frSd at h2 ⊢
      clear hK
      go_simp
      simpa [Act.put, e24, y0, s0_, s1_, s4_] using h2
    · have e25 : t 30 = .slice la r.l.length lc := hdep { on := 25, ground := Ground.data } (by simp) rfl
      refine callG1 (by rfl) 132 (.tmp 30) _ rfl (.slice la r.l.length lc) e25 (Go.Proofs.enters_of Tryz.func132 (by kernel_rfl) rfl _) (fun v y => (∃ (p1 : Option Addr) (d1 : Nat), v = .slice p1 r.l.length d1 ∧ OwnsX y lo (.slice p1 r.l.length d1) r.l) ∧ Below x.heap.size x y) ((jn x hS).mono ?_) ?_
      · rintro e0 y0 ⟨u0, h0, h1, h2⟩
        obtain ⟨q1, g1, rfl, _⟩ := h1.form
        exact ⟨_, h0, ⟨q1, g1, rfl, h1.low (by rw [hlo]; exact hS.size)⟩, h2⟩
      · rintro v y ⟨h0, hb2⟩
        exact hK v y ((show Below w1.heap.size w1 y from hS.trans (hb2.mono hS.size))) (fun j u hj hne h => GSd.keep hb2 j u hj h) h0
    · have h2 := hK (.pointer (some ⟨b, 0, none⟩)) x hS (fun j u hj hne h => h) rfl
      unfold frSd at h2 ⊢
      clear hK
      go_simp
      simpa [Act.put, s0_, s1_, s4_] using h2
    · have e27 : t 32 = .pointer (some ⟨b, 0, none⟩) := hdep { on := 27, ground := Ground.data } (by simp) rfl
      have h2 := hK (.pointer (some ⟨b, 0, none⟩)) x hS (fun j u hj hne h => h) rfl
      unfold frSd at h2 ⊢
      clear hK
      go_simp
      simpa [Act.put, e27, s0_, s1_, s4_] using h2
    · have e28 : t 33 = .pointer (some ⟨b, 0, none⟩) := hdep { on := 28, ground := Ground.data } (by simp) rfl
      have h2 := hK (.pointer (some ⟨b, 6, none⟩)) x hS (fun j u hj hne h => h) rfl
      unfold frSd at h2 ⊢
      clear hK
      go_simp
      simpa [Act.put, e28, s0_, s1_, s4_] using h2
    · have e29 : t 34 = .pointer (some ⟨b, 6, none⟩) := hdep { on := 29, ground := Ground.data } (by simp) rfl
      have y0 := (CB x hS).2.2.2.2.2.2.1
      have h2 := hK (.int .i64 r.c) x hS (fun j u hj hne h => h) rfl
      unfold frSd at h2 ⊢
      clear hK
      go_simp
      simpa [Act.put, e29, y0, s0_, s1_, s4_] using h2
    · have e0 : t 5 = .int .i64 kd := hdep { on := 0, ground := Ground.data } (by simp) rfl
      have e4 : t 9 = .int .i64 r.id := hdep { on := 4, ground := Ground.data } (by simp) rfl
      have e13 : t 18 = .int .i64 (r.v % r.p) := hdep { on := 13, ground := Ground.data } (by simp) rfl
      have e17 : t 22 = .int .i64 r.v := hdep { on := 17, ground := Ground.data } (by simp) rfl
      have e21 : t 26 = .int .i64 r.la := hdep { on := 21, ground := Ground.data } (by simp) rfl
      obtain ⟨p1_26, d1_26, e26, k26⟩ : ∃ (p1 : Option Addr) (d1 : Nat), t 31 = .slice p1 r.l.length d1 ∧ OwnsX x lo (.slice p1 r.l.length d1) r.l := hdep { on := 26, ground := Ground.data } (by simp) rfl
      have e30 : t 35 = .int .i64 r.c := hdep { on := 30, ground := Ground.data } (by simp) rfl
      have h2 := hK (.agg #[.int .i64 kd, .int .i64 r.id, .int .i64 (r.v % r.p), .int .i64 r.v, .int .i64 r.la, .slice p1_26 r.l.length d1_26, .int .i64 r.c]) x hS (fun j u hj hne h => h) ⟨_, _, rfl, k26⟩
      unfold frSd at h2 ⊢
      clear hK
      go_simp
      simpa [Act.put, e0, e4, e13, e17, e21, e26, e30, s0_, s1_, s4_] using h2
  case done =>
    intro t w2 hS hG
    obtain ⟨p1, d1, eb, kb⟩ : ∃ (p1 : Option Addr) (d1 : Nat), t 36 = .agg #[.int .i64 kd, .int .i64 r.id, .int .i64 (r.v % r.p), .int .i64 r.v, .int .i64 r.la, .slice p1 r.l.length d1, .int .i64 r.c] ∧ OwnsX w2 lo (.slice p1 r.l.length d1) r.l := hG 31 (by decide)
    have HZ2 : Hid (Bx w2 w.heap.size 30 _) := (show Hid _ from HZ1.out.kept hS)
    have B2 : Hid (Below w.heap.size w w2) := (show Hid _ from B1.out.trans (hS.mono B1.out.size))
    have KO : Hid (OwnsX w2 (w.heap.size + 1) (.slice p1 r.l.length d1) r.l) := (show Hid _ from by rw [← SZ.out, ← hlo]; exact kb)
    clear hG hS S0 kb jl jn CB HB1 HZ1 HS1
    show wpList Tryz.prog _ _ [_] _ w2
    unfold frSd
    simp only [eb, s0_, s1_, s4_]
    clear eb s0_ s1_ s4_
    rw [HZ9.out]
    have z0 := HZ2.out.cell 0
    have zf0 := HZ2.out.free 0
    have z1 := HZ2.out.cell 1
    have zf1 := HZ2.out.free 1
    have z2 := HZ2.out.cell 2
    have zf2 := HZ2.out.free 2
    have z3 := HZ2.out.cell 3
    have zf3 := HZ2.out.free 3
    have z4 := HZ2.out.cell 4
    have zf4 := HZ2.out.free 4
    have z5 := HZ2.out.cell 5
    have zf5 := HZ2.out.free 5
    have z6 := HZ2.out.cell 6
    have zf6 := HZ2.out.free 6
    go_wp2
    refine bodyPost_ret (v := .agg #[.int .i64 kd, .int .i64 r.id, .int .i64 (r.v % r.p), .int .i64 r.v, .int .i64 r.la, .slice p1 r.l.length d1, .int .i64 r.c]) (by simp [results, Tryz.results180, go_sem, z0, z1, z2, z3, z4, z5, z6]) rfl ⟨_, rfl, ?_, ?_⟩
    · refine OwnsE.low (B := w.heap.size + 1) ?_ (by omega)
      repeat (refine OwnsE.other ?_ _ _ (fun k h => by have := KO.out.from k h; simp <;> omega))
      exact KO.out
    · repeat (refine Below.setCell ?_ (by simp <;> omega) _)
      exact B2.out
end Go.Proofs.YtlngleinegkoeaaGreat.Rl
namespace Go.Proofs.YtlngleinegkoeaaGreat.Rl
open Go.RowKit Go.Sort Pg
set_option linter.unusedVariables false
set_option linter.unusedSimpArgs false

/-- The first messages of what is spread: that the view changes. -/
def SpOwn (x : World) (lo : Nat) (p1 : Option Addr) (d1 : Nat) (r : Rp) : Prop := ∃ T, MsOwn x lo (.slice p1 (allM r ⟨3, 0, 0, r.v, 0, [], 0⟩).length d1) T (allM r ⟨3, 0, 0, r.v, 0, [], 0⟩)
theorem SpOwn.kept {x y : World} {lo : Nat} {p1 : Option Addr} {d1 : Nat} {r : Rp} (h : SpOwn x lo p1 d1 r) (hb : Below x.heap.size x y) : SpOwn y lo p1 d1 r := by
  obtain ⟨T, h⟩ := h
  exact ⟨T, h.kept hb⟩
theorem SpOwn.of {x : World} {lo : Nat} {p1 : Option Addr} {d1 : Nat} {r : Rp} {T : List Mx} (h : MsOwn x lo (.slice p1 T.length d1) T (allM r ⟨3, 0, 0, r.v, 0, [], 0⟩)) : SpOwn x lo p1 d1 r := ⟨T, by have e := h.len; rw [← e]; exact h⟩
def frSq (s t : Nat → Value) : Act := { tmps := #[s 0, s 1, s 2, s 3, s 4, s 5, s 6, s 7, s 8, s 9, s 10, s 11, s 12, s 13, s 14, t 15, t 16, t 17, t 18, t 19, t 20, t 21, t 22, t 23, t 24, t 25, s 26, s 27, s 28, s 29, s 30, s 31, s 32, s 33, s 34, s 35, s 36, s 37, s 38, s 39, s 40, s 41, s 42, s 43], defers := [] }
def dSq (i : Nat) : Nat := i + 15
def GSq (r : Rp) (b lo : Nat) (i : Nat) (x : World) (v : Value) : Prop := match i with
  | 0 => v = .pointer (some ⟨b, 0, none⟩)
  | 1 => v = .pointer (some ⟨b, 0, none⟩)
  | 2 => v = .pointer (some ⟨b, 0, none⟩)
  | 3 => v = .pointer (some ⟨b, 0, none⟩)
  | 4 => v = .int .i64 r.id
  | 5 => v = .pointer (some ⟨b, 0, none⟩)
  | 6 => v = .pointer (some ⟨b, 0, none⟩)
  | 7 => v = .pointer (some ⟨b, 2, none⟩)
  | 8 => v = .int .i64 r.v
  | 9 => v = .agg #[.int .i64 3, .int .i64 r.id, .int .i64 0, .int .i64 r.v, .int .i64 0, .slice none 0 0, .int .i64 0]
  | 10 => ∃ (p1 : Option Addr) (d1 : Nat), v = .slice p1 (allM r ⟨3, 0, 0, r.v, 0, [], 0⟩).length d1 ∧ SpOwn x lo p1 d1 r
  | _ => True
theorem GSq.keep {r : Rp} {b lo : Nat} {x y : World} (hb : Below x.heap.size x y) (j : Nat) (v : Value) (hj : j < 11) (h : GSq r b lo j x v) : GSq r b lo j y v := by
  rcases (show j = 0 ∨ j = 1 ∨ j = 2 ∨ j = 3 ∨ j = 4 ∨ j = 5 ∨ j = 6 ∨ j = 7 ∨ j = 8 ∨ j = 9 ∨ j = 10 by omega) with rfl | rfl | rfl | rfl | rfl | rfl | rfl | rfl | rfl | rfl | rfl
  · exact h
  · exact h
  · exact h
  · exact h
  · exact h
  · exact h
  · exact h
  · exact h
  · exact h
  · exact h
  · obtain ⟨p1, d1, h1, h2⟩ := h; exact ⟨p1, d1, h1, h2.kept hb⟩
set_option maxRecDepth 100000 in
set_option maxHeartbeats 8000000 in
theorem implSpr (r : Rp) (u : Rv) (b : Nat) (w : World) (hB : RpB w b r u) (hv : 0 ≤ r.v ∧ r.v ≤ 20000) (hp : pOk r.p) (hl : Sls txtE w u.l r.l) (hc : Sls intE w u.ch r.ch) (hlen : r.l.length ≤ 1048576) (hch : r.ch.length ≤ 1048576) (hs : ∀ x ∈ r.l, x.size ≤ 1048576) :
    Calls Tryz.prog 116 #[.pointer (some ⟨b, 0, none⟩)] w fun e w' => ∃ v T, e = .returned v ∧ MsOwn w' w.heap.size v T (sprL r) ∧ Below w.heap.size w w' := by
  obtain ⟨ca, cc, hcv⟩ := Sls.slen0 hc
  have HB : Hid (RpB w b r u) := hB
  have HL : Hid (Sls txtE w u.l r.l) := hl
  have HCV : Hid (u.ch = .slice ca r.ch.length cc) := hcv
  have jL := fun W hW => implLeads r u b W hW hv hp
  have jS := fun kd W hW hl => implStd r u b kd W hW hv hp hl hlen hs
  have jT := fun m um W hW hm hl hs hf => implTo r u b m um W hW hp hm hl hs hf
  have jM := fun W hW => implMaj r.ch.length r u b W hW hch
  have jN := fun W hW => implNx r u b W hW hv hp
  have HP2 : Hid (pOk r.p) := hp
  have HLEN : Hid (r.l.length ≤ 1048576 ∧ ∀ x ∈ r.l, x.size ≤ 1048576) := ⟨hlen, hs⟩
  clear hB hv hp hl hc hlen hch hs hcv
  go_enter Tryz.func116, Tryz.ntmps116
  go_wp2_with fail
  refine (jL _ HB.out).mono ?_
  rintro e w2 ⟨rfl, hb⟩
  have B2 : Hid (Below w.heap.size w w2) := hb
  have Z2 : Hid (w.heap.size ≤ w2.heap.size) := hb.size
  have HB2 : Hid (RpB w2 b r u) := (show Hid _ from Bx.kept HB.out hb)
  have HL2 : Hid (Sls txtE w2 u.l r.l) := (show Hid _ from HL.out.kept hb)
  clear hb HB HL jL
  have c3 := HB2.out.cells.2.2.2.1
  cases hld : dB (leads r) with
  | true =>
    have HS : Hid (sprL r = allM r (stdM r 1)) := (show _ = _ by unfold sprL; rw [if_pos (dB_is hld)]; rfl)
    clear hld jM jN c3
    go_wp2_with fail
    refine (jS 1 _ HB2.out HL2.out).mono ?_
    rintro e w3 ⟨v3, rfl, ho, hb⟩
    have B3 : Hid (Below w.heap.size w w3) := (show Hid _ from B2.out.trans (hb.mono B2.out.size))
    have HO3 : Hid (OwnsX w3 w2.heap.size v3 r.l) := ho
    have HB3 : Hid (RpB w3 b r u) := (show Hid _ from Bx.kept HB2.out hb)
    clear ho hb jS
    have j2 := jT (stdM r 1) v3 w3 HB3.out HO3.out.sls HLEN.out.1 HLEN.out.2 rfl
    unfold msA at j2 ⊢
    clear jT
    go_wp2_with fail
    refine j2.mono ?_
    rintro e w4 ⟨v, T, rfl, ho, hb⟩
    have HO : Hid (MsOwn w4 w.heap.size v T (sprL r)) := (show Hid _ from by rw [HS.out]; exact ho.low B3.out.size)
    have B4 : Hid (Below w.heap.size w w4) := (show Hid _ from B3.out.trans (hb.mono B3.out.size))
    clear ho hb j2
    go_wp2
    go_ret
    exact ⟨_, T, rfl, HO.out, B4.out⟩
  | false =>
  have HNL : Hid (¬ leads r) := dB_not hld
  clear hld
  cases hn : r.n with
  | true =>
    have HS : Hid (sprL r = []) := (show _ = _ by unfold sprL; rw [if_neg HNL.out, if_pos hn])
    rw [hn] at c3
    clear hn jM jN jT jS
    have HO : Hid (MsOwn (w2.alloc (.cells #[] 30)) w.heap.size (.slice (some ⟨w2.heap.size, 0, none⟩) 0 0) [] (sprL r)) := (show Hid _ from by rw [HS.out]; exact (MsOwn.born w2).low B2.out.size)
    have B3 : Hid (Below w.heap.size w (w2.alloc (.cells #[] 30))) := (show Hid _ from B2.out.alloc B2.out.size _)
    go_wp2
    go_ret
    exact ⟨_, [], rfl, HO.out, B3.out⟩
  | false =>
  have HN : Hid (r.n = false) := hn
  rw [hn] at c3
  clear hn
  have HSf : Hid (¬ (maj r.ch.length r.p ∧ ¬ mine r) → sprL r = allM r ⟨3, 0, 0, r.v, 0, [], 0⟩) := (show _ → _ = _ from fun hh => by
    unfold sprL
    rw [if_neg HNL.out, if_neg (by rw [HN.out]; decide), if_neg hh, List.append_nil])
  have HSt : Hid (maj r.ch.length r.p ∧ ¬ mine r → sprL r = allM r ⟨3, 0, 0, r.v, 0, [], 0⟩ ++ [stdM r 4]) := (show _ → _ = _ from fun hh => by
    unfold sprL
    rw [if_neg HNL.out, if_neg (by rw [HN.out]; decide), if_pos hh]
    rfl)
  go_upto_region 5 with fail
  clear c3
  have jt := fun x (hS : Below w2.heap.size w2 x) => jT ⟨3, r.id, 0, r.v, 0, [], 0⟩ (.slice none 0 0) x (Bx.kept HB2.out hS) (Sls.nil (Nat.zero_le _)) (Nat.zero_le _) (fun x hx => nomatch hx) rfl
  have CB := fun x (hS : Below w2.heap.size w2 x) => (show x.cell? ⟨b, 0, none⟩ = some (.int .i64 r.id) ∧ x.cell? ⟨b, 1, none⟩ = some (.int .i64 r.p) ∧ x.cell? ⟨b, 2, none⟩ = some (.int .i64 r.v) ∧ True from by
    have HH := (show RpB x b r u from Bx.kept HB2.out hS).cells
    exact ⟨HH.1, HH.2.1, HH.2.2.1, trivial⟩)
  have S0 : Below w2.heap.size w2 w2.drew := ⟨rfl, rfl, rfl, Nat.le_refl _, fun _ _ => rfl⟩
  obtain ⟨lo, hlo⟩ : ∃ lo, lo = w2.heap.size := ⟨_, rfl⟩
  unfold msA at jt
  generalize hA : Act.mk _ _ = A
  obtain ⟨s, hs9, s0_⟩ : ∃ s : Nat → Value, A = frSq s (fun _ => undef) ∧ s 0 = .pointer (some ⟨b, 0, none⟩) := by
    refine ⟨fun i => A.tmps.getD i undef, ?_, ?_⟩ <;> rw [← hA] <;> rfl
  rw [hs9]
  clear hs9 hA
  refine region_heads 11 mixed (by decide) (by kernel_rfl) (by kernel_rfl) (by kernel_rfl) (by kernel_rfl) (frSq s) dSq (fun x => Below w2.heap.size w2 x) (GSq r b lo) (fun i j hi hj h => by unfold dSq; omega) ?put (fun _ => undef) rfl S0 ?step ?done
  case put =>
    intro i o hi ho t v
    rcases (show i = 0 ∨ i = 1 ∨ i = 2 ∨ i = 3 ∨ i = 4 ∨ i = 5 ∨ i = 6 ∨ i = 7 ∨ i = 8 ∨ i = 9 ∨ i = 10 by omega) with rfl | rfl | rfl | rfl | rfl | rfl | rfl | rfl | rfl | rfl | rfl
    all_goals
      obtain rfl := Option.some.inj ho
      rfl
  case step =>
    intro i o hi ho t x hS hdep K hK
    rcases (show i = 0 ∨ i = 1 ∨ i = 2 ∨ i = 3 ∨ i = 4 ∨ i = 5 ∨ i = 6 ∨ i = 7 ∨ i = 8 ∨ i = 9 ∨ i = 10 by omega) with rfl | rfl | rfl | rfl | rfl | rfl | rfl | rfl | rfl | rfl | rfl
    all_goals obtain rfl := Option.some.inj ho
    · have h2 := hK (.pointer (some ⟨b, 0, none⟩)) x hS (fun j u hj hne h => h) rfl
      unfold frSq at h2 ⊢
      clear hK
      go_simp
      simpa [Act.put, s0_] using h2
    · have h2 := hK (.pointer (some ⟨b, 0, none⟩)) x hS (fun j u hj hne h => h) rfl
      unfold frSq at h2 ⊢
      clear hK
      go_simp
      simpa [Act.put, s0_] using h2
    · have e1 : t 16 = .pointer (some ⟨b, 0, none⟩) := hdep { on := 1, ground := Ground.data } (by simp) rfl
      have h2 := hK (.pointer (some ⟨b, 0, none⟩)) x hS (fun j u hj hne h => h) rfl
      unfold frSq at h2 ⊢
      clear hK
      go_simp
      simpa [Act.put, e1, s0_] using h2
    · have e2 : t 17 = .pointer (some ⟨b, 0, none⟩) := hdep { on := 2, ground := Ground.data } (by simp) rfl
      have h2 := hK (.pointer (some ⟨b, 0, none⟩)) x hS (fun j u hj hne h => h) rfl
      unfold frSq at h2 ⊢
      clear hK
      go_simp
      simpa [Act.put, e2, s0_] using h2
    · have e3 : t 18 = .pointer (some ⟨b, 0, none⟩) := hdep { on := 3, ground := Ground.data } (by simp) rfl
      have y0 := (CB x hS).1
      have h2 := hK (.int .i64 r.id) x hS (fun j u hj hne h => h) rfl
      unfold frSq at h2 ⊢
      clear hK
      go_simp
      simpa [Act.put, e3, y0, s0_] using h2
    · have h2 := hK (.pointer (some ⟨b, 0, none⟩)) x hS (fun j u hj hne h => h) rfl
      unfold frSq at h2 ⊢
      clear hK
      go_simp
      simpa [Act.put, s0_] using h2
    · have e5 : t 20 = .pointer (some ⟨b, 0, none⟩) := hdep { on := 5, ground := Ground.data } (by simp) rfl
      have h2 := hK (.pointer (some ⟨b, 0, none⟩)) x hS (fun j u hj hne h => h) rfl
      unfold frSq at h2 ⊢
      clear hK
      go_simp
      simpa [Act.put, e5, s0_] using h2
    · have e6 : t 21 = .pointer (some ⟨b, 0, none⟩) := hdep { on := 6, ground := Ground.data } (by simp) rfl
      have h2 := hK (.pointer (some ⟨b, 2, none⟩)) x hS (fun j u hj hne h => h) rfl
      unfold frSq at h2 ⊢
      clear hK
      go_simp
      simpa [Act.put, e6, s0_] using h2
    · have e7 : t 22 = .pointer (some ⟨b, 2, none⟩) := hdep { on := 7, ground := Ground.data } (by simp) rfl
      have y0 := (CB x hS).2.2.1
      have h2 := hK (.int .i64 r.v) x hS (fun j u hj hne h => h) rfl
      unfold frSq at h2 ⊢
      clear hK
      go_simp
      simpa [Act.put, e7, y0, s0_] using h2
    · have e4 : t 19 = .int .i64 r.id := hdep { on := 4, ground := Ground.data } (by simp) rfl
      have e8 : t 23 = .int .i64 r.v := hdep { on := 8, ground := Ground.data } (by simp) rfl
      have h2 := hK (.agg #[.int .i64 3, .int .i64 r.id, .int .i64 0, .int .i64 r.v, .int .i64 0, .slice none 0 0, .int .i64 0]) x hS (fun j u hj hne h => h) rfl
      unfold frSq at h2 ⊢
      clear hK
      go_simp
      simpa [Act.put, e4, e8, s0_] using h2
    · have e0 : t 15 = .pointer (some ⟨b, 0, none⟩) := hdep { on := 0, ground := Ground.data } (by simp) rfl
      have e9 : t 24 = .agg #[.int .i64 3, .int .i64 r.id, .int .i64 0, .int .i64 r.v, .int .i64 0, .slice none 0 0, .int .i64 0] := hdep { on := 9, ground := Ground.data } (by simp) rfl
      refine callG2 (by rfl) 179 (.tmp 15) (.tmp 24) _ rfl (.pointer (some ⟨b, 0, none⟩)) (.agg #[.int .i64 3, .int .i64 r.id, .int .i64 0, .int .i64 r.v, .int .i64 0, .slice none 0 0, .int .i64 0]) e0 e9 (Go.Proofs.enters_of Tryz.func179 (by kernel_rfl) rfl _) (fun v y => (∃ (p1 : Option Addr) (d1 : Nat), v = .slice p1 (allM r ⟨3, 0, 0, r.v, 0, [], 0⟩).length d1 ∧ SpOwn y lo p1 d1 r) ∧ Below x.heap.size x y) ((jt x hS).mono ?_) ?_
      · rintro e0 y0 ⟨u0, T0, h0, h1, h2⟩
        obtain ⟨q1, g1, rfl, _⟩ := h1.row.form
        exact ⟨_, h0, ⟨q1, g1, by rw [h1.len]; rfl, SpOwn.of (h1.low (by rw [hlo]; exact hS.size))⟩, h2⟩
      · rintro v y ⟨h0, hb2⟩
        exact hK v y ((show Below w2.heap.size w2 y from hS.trans (hb2.mono hS.size))) (fun j u hj hne h => GSq.keep hb2 j u hj h) h0
  case done =>
    intro t w3 hS hG
    obtain ⟨va, vc, eb, kb⟩ : ∃ (p1 : Option Addr) (d1 : Nat), t 25 = .slice p1 (allM r ⟨3, 0, 0, r.v, 0, [], 0⟩).length d1 ∧ SpOwn w3 lo p1 d1 r := hG 10 (by decide)
    obtain ⟨T, ho⟩ := kb
    have eT := ho.len
    rw [← eT] at ho eb
    have HO : Hid (MsOwn w3 w2.heap.size (.slice va T.length vc) T (allM r ⟨3, 0, 0, r.v, 0, [], 0⟩)) := (show Hid _ from by rw [← hlo]; exact ho)
    have B3 : Hid (Below w.heap.size w w3) := (show Hid _ from B2.out.trans (hS.mono B2.out.size))
    have HB3 : Hid (RpB w3 b r u) := (show Hid _ from Bx.kept HB2.out hS)
    have HL3 : Hid (Sls txtE w3 u.l r.l) := (show Hid _ from HL2.out.kept hS)
    have Z3 : Hid (w2.heap.size ≤ w3.heap.size) := hS.size
    clear hG hS S0 ho eT jt CB hlo jT HB2 HL2
    show wpList Tryz.prog _ _ [_] _ w3
    unfold frSq
    simp only [eb, s0_]
    clear eb s0_
    have c8 := HB3.out.cells.2.2.2.2.2.2.2.2.1
    rw [HCV.out] at c8
    cases hmj : dB (maj r.ch.length r.p) with
    | false =>
      have HO3 : Hid (MsOwn w3 w.heap.size (.slice va T.length vc) T (sprL r)) := (show Hid _ from by rw [HSf.out (fun h => dB_not hmj h.1)]; exact HO.out.low Z2.out)
      go_wp2_with fail
      refine (jM _ HB3.out).mono ?_
      rintro e w4 ⟨rfl, rfl⟩
      go_wp2
      go_ret
      exact ⟨_, T, rfl, HO3.out, B3.out⟩
    | true =>
    go_wp2_with fail
    refine (jM _ HB3.out).mono ?_
    rintro e w4 ⟨rfl, rfl⟩
    clear jM
    cases hmi : dB (mine r) with
    | true =>
      go_wp2_with fail
      refine (jN _ HB3.out).mono ?_
      rintro e w4 ⟨rfl, hb⟩
      have HO3 : Hid (MsOwn w4 w.heap.size (.slice va T.length vc) T (sprL r)) := (show Hid _ from by rw [HSf.out (fun h => h.2 (dB_is hmi))]; exact (HO.out.low Z2.out).kept hb)
      have B4 : Hid (Below w.heap.size w w4) := (show Hid _ from B3.out.trans (hb.mono B3.out.size))
      clear hb
      go_wp2
      go_ret
      exact ⟨_, T, rfl, HO3.out, B4.out⟩
    | false =>
    have HSR : Hid (sprL r = allM r ⟨3, 0, 0, r.v, 0, [], 0⟩ ++ [stdM r 4]) := (show _ = _ from HSt.out ⟨dB_is hmj, dB_not hmi⟩)
    clear HSf HSt
    go_wp2_with fail
    refine (jN _ HB3.out).mono ?_
    rintro e w4 ⟨rfl, hb⟩
    have HB4 : Hid (RpB w4 b r u) := (show Hid _ from Bx.kept HB3.out hb)
    have HL4 : Hid (Sls txtE w4 u.l r.l) := (show Hid _ from HL3.out.kept hb)
    have HO4 : Hid (MsOwn w4 w2.heap.size (.slice va T.length vc) T (allM r ⟨3, 0, 0, r.v, 0, [], 0⟩)) := (show Hid _ from HO.out.kept hb)
    have B4 : Hid (Below w.heap.size w w4) := (show Hid _ from B3.out.trans (hb.mono B3.out.size))
    have Z4 : Hid (w3.heap.size ≤ w4.heap.size) := hb.size
    clear hb HB3 HL3 HO B3 jN c8
    go_wp2_with fail
    refine (jS 4 _ HB4.out HL4.out).mono ?_
    rintro e w5 ⟨v5, rfl, ho, hb⟩
    obtain ⟨pa, pc, rfl, _⟩ := ho.form
    have HU : Hid (OwnsX w5 w4.heap.size (.slice pa r.l.length pc) r.l) := ho
    have HO5 : Hid (MsOwn w5 w2.heap.size (.slice va T.length vc) T (allM r ⟨3, 0, 0, r.v, 0, [], 0⟩)) := (show Hid _ from HO4.out.kept hb)
    have B5 : Hid (Below w.heap.size w w5) := (show Hid _ from B4.out.trans (hb.mono B4.out.size))
    have HTL : Hid (T.length ≤ 5) := (show T.length ≤ 5 from by rw [HO5.out.len]; exact allM_len r _ HP2.out)
    have HC1 : Hid (∀ y ∈ T, ∀ k, y.u.ownBlock = some k → k < w4.heap.size) := (show ∀ _ _, _ from fun y hy k hk => (HO4.out.logs.l y hy).under k hk)
    have HC2 : Hid (∀ k, (Value.slice va T.length vc).ownBlock = some k → k < w4.heap.size) := (show ∀ _, _ from fun k hk => HO4.out.row.under k hk)
    have HZW : Hid (w2.heap.size ≤ w5.heap.size ∧ w2.heap.size ≤ w4.heap.size) := (show _ ∧ _ from by have := hb.size; have := Z4.out; have := Z3.out; omega)
    clear ho hb jS HO4 B4 HB4 HL4
    unfold msA stdM
    simp only
    have htl := HTL.out
    have hzw := HZW.out
    go_wp2_with (
      at_builtin
      refine wpList_pushM w5 rfl (.tmp 38) (.tmp 41) rfl w2.heap.size (.slice va T.length vc) T _ ⟨stdM r 4, pa, pc⟩ (by simp [Act.eval, Act.put]) HO5.out (HU.out.has.low HZW.out.2) w4.heap.size HC1.out HC2.out HU.out.from (by simp [Act.eval, Act.put]) (by omega) (by omega) ?_
      intro v' w6 ho3 hg3)
    have HO6 : Hid (MsOwn w6 w.heap.size v' (T ++ [⟨stdM r 4, pa, pc⟩]) (sprL r)) := (show Hid _ from by rw [HSR.out]; exact ho3.low Z2.out)
    have B6 : Hid (Below w.heap.size w w6) := (show Hid _ from B5.out.grown hg3 B5.out.size (fun q hq => by have := HO5.out.row.from q hq; have := Z2.out; omega))
    clear ho3 hg3
    go_wp2
    go_ret
    exact ⟨_, rfl, ⟨_, HO6.out⟩, B6.out⟩
/-- What both sides' Spread answers. -/
noncomputable def sprA (r : Rp) : List Ms := @ite _ (RpOk r) (Classical.propDecidable _) (sprL r) []
end Go.Proofs.YtlngleinegkoeaaGreat.Rl
