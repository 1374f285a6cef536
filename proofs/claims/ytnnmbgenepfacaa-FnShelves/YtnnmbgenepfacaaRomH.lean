/-
  Drawn traces and rooms: whatever the code, few numbers.
-/
import Derived.Test.YtnnmbgenepfacaaRomA
import Derived.Test.YtnnmbgenepfacaaDrT
namespace Go.Proofs.Ytnnmbgenepfacaa
open Go.RowKit Go.Sort Rom
set_option linter.unusedVariables false
set_option linter.unusedSimpArgs false

theorem OwnsE.bsN {α : Type} {E : Enc α} {ty : TypeId} {w w' : World} {B b : Nat} {v : Value} {l : List α} (h : OwnsE E ty w B v l) (hb : Beside b w w') (hB : b < B) : OwnsE E ty w' B v l := by
  refine ⟨h.1, ?_⟩
  rcases h.2 with h0 | ⟨g, cap, cur, hv, hbg, hg, rest⟩
  · exact .inl h0
  · exact .inr ⟨g, cap, cur, hv, hbg, by rw [hb.2.2.2.2 g (Array.getElem?_eq_some_iff.1 hg).1 (by omega)]; exact hg, rest⟩
theorem Cur.moreN {w : World} {b : Nat} {sa : Option Addr} {sl sc : Nat} (h : Cur w b sa sl sc) (o : Obj) : Cur (w.alloc o) b sa sl sc := h.kept ((Below.refl _ w).alloc (Nat.le_refl _) _) h.2.2.1
theorem Beside.moreN {g : Nat} {a w : World} (h : Beside g a w) (o : Obj) : Beside g a (w.alloc o) := h.below ((Below.refl _ w).alloc (Nat.le_refl _) _)
theorem l1FromN (b : Nat) (sa : Option Addr) (sl sc : Nat) (lo hi : Int) (h1 : -1000 ≤ lo) (h2 : lo ≤ hi) (h3 : hi ≤ 1000) (w : World) (hc : Cur w b sa sl sc) :
    Calls Try.prog 56 #[.pointer (some ⟨b, 0, Option.none⟩), .int .i64 lo, .int .i64 hi] w fun e w' => ∃ x : Int, e = .returned (.int .i64 x) ∧ lo ≤ x ∧ x ≤ hi ∧ Cur w' b sa sl sc ∧ Beside b w w' := by
  have e1 : IntKind.i64.wrap (hi - lo) = hi - lo := by rw [IntKind.wrap_i64]; omega
  have e2 : IntKind.i64.wrap (hi - lo + 1) = hi - lo + 1 := by rw [IntKind.wrap_i64]; omega
  have hB := fun W hW => l1Below b sa sl sc (hi - lo + 1) (by omega) (by omega) W hW
  go_enter Try.func56, Try.ntmps56
  go_wp2_with fail
  refine (hB _ hc).mono ?_
  rintro e w1 ⟨x, rfl, hx0, hx1, hc1, hb1⟩
  have e3 : IntKind.i64.wrap (lo + x) = lo + x := by rw [IntKind.wrap_i64]; omega
  clear hB hc
  go_wp2
  go_ret
  exact ⟨_, rfl, by omega, by omega, hc1, hb1⟩
/-- One more drawn number behind those that there are. -/
theorem drawn_pushN {w w4 w6 : World} {b : Nat} {sa : Option Addr} {sl sc : Nat} {v : Value} {l : List Int} (hc : Cur w4 b sa sl sc) (hb : Beside b w w4) (hbz : b < w.heap.size) (hown : OwnsN w4 w.heap.size v l) (hg : w4.grownBy w6 v.ownBlock) : Cur w6 b sa sl sc ∧ Beside b w w6 := by
  have h1 : Below w.heap.size w4 w6 := belowE (Below.refl _ w4) hg hb.2.2.2.1 hown.from
  exact ⟨hc.kept h1 hbz, hb.grow h1 (Nat.le_refl _)⟩
def isIN (v : Value) : Bool := match v with | .int .i64 z => decide (-9223372036854775808 ≤ z ∧ z ≤ 9223372036854775807) | _ => false
theorem isIN_out {v : Value} (h : isIN v = true) : ∃ z : Int, v = .int .i64 z ∧ -9223372036854775808 ≤ z ∧ z ≤ 9223372036854775807 := by
  unfold isIN at h
  split at h
  · exact ⟨_, rfl, of_decide_eq_true h⟩
  · cases h
theorem tabIN {b : Nat} {w w' : World} {C : Array Value} {t : TypeId} (hb : Beside b (w.alloc (.cells C t)) w') (hne : w.heap.size ≠ b) (y : Nat) (hy : y < C.size) (hall : C.toList.all isIN = true) : ∃ z : Int, w'.cell? ⟨w.heap.size, y, Option.none⟩ = some (.int .i64 z) ∧ -9223372036854775808 ≤ z ∧ z ≤ 9223372036854775807 := by
  have hm : C[y] ∈ C.toList := by simp
  obtain ⟨z, hz, hs⟩ := isIN_out (List.all_eq_true.1 hall _ hm)
  refine ⟨z, besideCell hb hne ?_, hs⟩
  rw [World.cell?_alloc_mark, Array.getElem?_eq_getElem hy, hz]
theorem slN_of {w : World} {B : Nat} {v : Value} {l : List Int} (h : OwnsN w B v l) (hl : 0 < l.length) : ∃ g c, v = .slice (some ⟨g, 0, Option.none⟩) l.length c := by
  obtain ⟨a, c, rfl, h1, h2, h3⟩ := h.form
  rcases h3 with ⟨rfl, rfl⟩ | ⟨g, rfl⟩
  · exfalso
    rcases h.2 with ⟨_, e⟩ | ⟨g, cap, cur, e, _⟩
    · omega
    · cases e
  · exact ⟨g, c, rfl⟩
theorem l12Room (b : Nat) (sa : Option Addr) (sl sc : Nat) (w : World) (hc : Cur w b sa sl sc) :
    Calls Try.prog 52 #[.pointer (some ⟨b, 0, Option.none⟩)] w fun e w' => (∃ r : Int, e = .returned (.int .i64 r) ∧ In64 r) ∧ Cur w' b sa sl sc ∧ Beside b w w' := by
  have hbz : b < w.heap.size := hc.2.2.1
  go_enter Try.func52, Try.ntmps52
  go_wp2_with fail
  refine (l1Once b sa sl sc 14 (by decide) (by decide) _ hc).mono ?_
  rintro e w1 ⟨tt, rfl, hc1, hb1⟩
  have B1 : Hid (Beside b w w1) := hb1
  have C1 : Hid (Cur w1 b sa sl sc) := hc1
  have hz1 : w.heap.size ≤ w1.heap.size := hb1.2.2.2.1
  clear hb1 hc1 hc
  cases tt with
  | false =>
    go_wp2_with fail
    refine (l1Below b sa sl sc 4 (by decide) (by decide) _ C1.out).mono ?_
    rintro e w2 ⟨x, rfl, hx0, hx1, hc2, hb2⟩
    have B2 : Hid (Beside b w w2) := B1.out.trans hb2
    have C2 : Hid (Cur w2 b sa sl sc) := hc2
    have ex : IntKind.i64.wrap (1 + x) = 1 + x := by rw [IntKind.wrap_i64]; omega
    clear hb2 hc2
    go_wp2
    go_ret
    exact ⟨⟨_, rfl, ⟨by omega, by omega⟩⟩, C2.out, B2.out⟩
  | true =>
    go_wp2_with fail
    refine (l1Below b sa sl sc 4 (by decide) (by decide) _ (C1.out.moreN _)).mono ?_
    rintro e w2 ⟨x, rfl, hx0, hx1, hc2, hb2⟩
    obtain ⟨x, rfl⟩ := Int.eq_ofNat_of_zero_le hx0
    obtain ⟨z, hz, hz2, hz3⟩ := tabIN hb2 (by omega) x (by simp; omega) rfl
    have B2 : Hid (Beside b w w2) := (B1.out.moreN _).trans hb2
    have C2 : Hid (Cur w2 b sa sl sc) := hc2
    clear hb2 hc2
    go_wp2
    go_ret
    exact ⟨⟨z, rfl, ⟨hz2, hz3⟩⟩, C2.out, B2.out⟩
set_option maxRecDepth 100000 in
set_option maxHeartbeats 4000000 in
theorem l12Trace (b : Nat) (sa : Option Addr) (sl sc : Nat) (w : World) (hc : Cur w b sa sl sc) :
    Calls Try.prog 51 #[.pointer (some ⟨b, 0, Option.none⟩)] w fun e w' => (∃ u l, e = .returned u ∧ OwnsN w' w.heap.size u l ∧ l.length ≤ 61) ∧ Cur w' b sa sl sc ∧ Beside b w w' := by
  have hbz : b < w.heap.size := hc.2.2.1
  go_enter Try.func51, Try.ntmps51
  go_wp2_with fail
  refine (l1Below b sa sl sc 6 (by decide) (by decide) _ (hc.moreN _)).mono ?_
  rintro e w1 ⟨y, rfl, hy0, hy1, hc1, hb1⟩
  have O1 : Hid (OwnsN w1 w.heap.size (.slice (some ⟨w.heap.size, 0, Option.none⟩) 0 0) []) := (OwnsE.born w).bsN hb1 hbz
  have B1 : Hid (Beside b w w1) := ((Beside.refl b w).moreN _).trans hb1
  have C1 : Hid (Cur w1 b sa sl sc) := hc1
  have ey : IntKind.i64.wrap (2 + y) = 2 + y := by rw [IntKind.wrap_i64]; omega
  clear hb1 hc hc1
  go_wp2_with fail
  refine (l1Below b sa sl sc 20 (by decide) (by decide) _ C1.out).mono ?_
  rintro e w2 ⟨x, rfl, hx0, hx1, hc2, hb2⟩
  obtain ⟨x, rfl⟩ := Int.eq_ofNat_of_zero_le hx0
  have O2 : Hid (OwnsN w2 w.heap.size (.slice (some ⟨w.heap.size, 0, Option.none⟩) 0 0) []) := O1.out.bsN hb2 hbz
  have B2 : Hid (Beside b w w2) := B1.out.trans hb2
  have C2 : Hid (Cur w2 b sa sl sc) := hc2
  clear hb2 hc2 O1 B1 C1
  go_wp2_with fail
  go_loopw [3, 5] (fun u n wr => ∃ (k : Nat) (l : List Int) (g c : Nat), n = .int .i64 k ∧ k ≤ 19 ∧ u = .slice (some ⟨g, 0, Option.none⟩) l.length c ∧ Hid (OwnsN wr w.heap.size (.slice (some ⟨g, 0, Option.none⟩) l.length c) l) ∧ Hid (Cur wr b sa sl sc) ∧ Hid (Beside b w wr) ∧ l.length + k ≤ 19) (fun _ n _ => (intOf n).toNat)
  case atStart => exact ⟨x, [], _, _, rfl, by omega, rfl, O2, C2, B2, by simp <;> omega⟩
  case round =>
    clear O2 B2 C2
    obtain ⟨k, l, g, c, rfl, hk4, rfl, ho, hc, hb, hlk⟩ := hrel
    by_cases hk : 0 < k
    · go_wp2_with fail
      refine (l1Below b sa sl sc (2 + y) (by omega) (by omega) _ hc.out).mono ?_
      rintro e w3 ⟨p, rfl, hp0, hp1, hc3, hb3⟩
      have O3 : Hid (OwnsN w3 w.heap.size (.slice (some ⟨g, 0, Option.none⟩) l.length c) l) := ho.out.bsN hb3 hbz
      have B3 : Hid (Beside b w w3) := hb.out.trans hb3
      have C3 : Hid (Cur w3 b sa sl sc) := hc3
      have hz3 : w.heap.size ≤ w3.heap.size := B3.out.2.2.2.1
      clear hb3 hc3 ho hc hb
      go_wp2_with (at_builtin; refine wpList_pushN _ rfl (.tmp 16) (.tmp 20) rfl w.heap.size _ l p rfl O3.out rfl (by omega) hz3 ?_; intro v4 w4 ho4 hg4; obtain ⟨g4, c4, hv4⟩ := slN_of ho4 (by simp); subst hv4; have O4 : Hid (OwnsN w4 w.heap.size (.slice (some ⟨g4, 0, Option.none⟩) (l ++ [p]).length c4) (l ++ [p])) := ho4; have CB : Hid (Cur w4 b sa sl sc ∧ Beside b w w4) := drawn_pushN C3.out B3.out hbz O3.out hg4; clear ho4 hg4)
      go_roundw
      case rel => exact ⟨k - 1, l ++ [p], g4, c4, by go_num, by omega, by simp, O4, CB.out.1, CB.out.2, by simp; omega⟩
      case measure => simp [intOf]; omega
    · have hl19 : l.length ≤ 19 := by omega
      go_wp2_with fail
      refine (l1Once b sa sl sc 20 (by decide) (by decide) _ hc.out).mono ?_
      rintro e w3 ⟨tt, rfl, hc3, hb3⟩
      have O3 : Hid (OwnsN w3 w.heap.size (.slice (some ⟨g, 0, Option.none⟩) l.length c) l) := ho.out.bsN hb3 hbz
      have B3 : Hid (Beside b w w3) := hb.out.trans hb3
      have C3 : Hid (Cur w3 b sa sl sc) := hc3
      clear hb3 ho hc hb hc3
      cases tt with
      | false =>
        go_wp2
        go_ret
        exact ⟨⟨_, l, rfl, O3.out, by omega⟩, C3.out, B3.out⟩
      | true =>
        go_wp2_with fail
        refine (l1Below b sa sl sc 2 (by decide) (by decide) _ C3.out).mono ?_
        rintro e w4 ⟨z, rfl, hz0, hz1, hc4, hb4⟩
        obtain ⟨z, rfl⟩ := Int.eq_ofNat_of_zero_le hz0
        have O4 : Hid (OwnsN w4 w.heap.size (.slice (some ⟨g, 0, Option.none⟩) l.length c) l) := O3.out.bsN hb4 hbz
        have B4 : Hid (Beside b w w4) := B3.out.trans hb4
        have C4 : Hid (Cur w4 b sa sl sc) := hc4
        clear hb4 hc4 O3 B3 C3
        have hz4 : w.heap.size ≤ w4.heap.size := B4.out.2.2.2.1
        rcases (show z = 0 ∨ z = 1 by omega) with rfl | rfl
        · go_wp2_with fail
          refine (l1Below b sa sl sc 3 (by decide) (by decide) _ (C4.out.moreN _)).mono ?_
          rintro e w5 ⟨q, rfl, hq0, hq1, hc5, hb5⟩
          obtain ⟨q, rfl⟩ := Int.eq_ofNat_of_zero_le hq0
          obtain ⟨p, hp, hp1, hp2⟩ := tabIN hb5 (by omega) q (by simp; omega) rfl
          have O5 : Hid (OwnsN w5 w.heap.size (.slice (some ⟨g, 0, Option.none⟩) l.length c) l) := (O4.out.alloc _).bsN hb5 hbz
          have B5 : Hid (Beside b w w5) := (B4.out.moreN _).trans hb5
          have C5 : Hid (Cur w5 b sa sl sc) := hc5
          have hz5 : w.heap.size ≤ w5.heap.size := B5.out.2.2.2.1
          clear hb5 hc5 O4 B4 C4
          go_wp2_with (at_builtin; refine wpList_pushN _ rfl (.tmp 28) (.tmp 34) rfl w.heap.size _ l p rfl O5.out rfl (by omega) hz5 ?_; intro v6 w6 ho6 hg6; have O6 : Hid (OwnsN w6 w.heap.size v6 (l ++ [p])) := ho6; have CB : Hid (Cur w6 b sa sl sc ∧ Beside b w w6) := drawn_pushN C5.out B5.out hbz O5.out hg6; clear ho6 hg6)
          go_ret
          exact ⟨⟨_, _, rfl, O6.out, by simp; omega⟩, CB.out⟩
        · go_wp2_with fail
          refine (l1Below b sa sl sc 2 (by decide) (by decide) _ C4.out).mono ?_
          rintro e w5 ⟨q, rfl, hq0, hq1, hc5, hb5⟩
          obtain ⟨q, rfl⟩ := Int.eq_ofNat_of_zero_le hq0
          have B5 : Hid (Beside b w w5) := B4.out.trans hb5
          have C5 : Hid (Cur w5 b sa sl sc) := hc5
          have hz5 : w.heap.size ≤ w5.heap.size := B5.out.2.2.2.1
          clear hb5 hc5 O4 B4 C4
          obtain ⟨n, hn⟩ : ∃ n, n = 60 + q := ⟨_, rfl⟩
          have hwn : IntKind.i64.wrap (60 + (q : Int)) = (n : Int) := by rw [IntKind.wrap_i64]; omega
          have hn61 : n ≤ 61 := by omega
          obtain ⟨i0, hi, hi0, hi1, hi2⟩ := info_parts Try.infoN2
          obtain ⟨w6, hrun, hown, hgr⟩ := run_make_full (P := Try.prog) w5 w5.heap.size 24 2 i0 (.int .i64 0) 1 Try.underlying24 hi hi0 hi1 .i64 .i64 n (by rw [hi2]; omega) (by unfold maxLen; omega) (Nat.le_refl _)
          rw [madeN] at hown
          have O6 : Hid (OwnsN w6 w.heap.size (.slice (some ⟨w5.heap.size, 0, Option.none⟩) n n) (List.replicate n 0)) := by
            have : OwnsN w6 w5.heap.size (.slice (some ⟨w5.heap.size, 0, Option.none⟩) n n) (List.replicate n 0) := by
              show w6.ownsRow _ _ 1 _ _ _
              rw [List.length_replicate]
              exact hown
            exact this.low hz5
          have b6 : Below w.heap.size w5 w6 := (Below.refl _ w5).grown hgr hz5 (fun j hj => by cases hj)
          have CB : Hid (Cur w6 b sa sl sc ∧ Beside b w w6) := ⟨C5.out.kept b6 hbz, B5.out.grow b6 (Nat.le_refl _)⟩
          clear hown hgr hi hi0 hi1 hi2 hn b6
          go_wp2
          go_ret
          exact ⟨⟨_, _, rfl, O6.out, by simp; omega⟩, CB.out⟩
end Go.Proofs.Ytnnmbgenepfacaa
