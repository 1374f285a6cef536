/-
  Drawn texts of spans: whatever the code, a short text and a small number.
-/
import Derived.Test.YtamfgjgmnnnjpaaDoorSpnJ
import Derived.Test.YtamfgjgmnnnjpaaDoorIntZ
import Derived.Test.YtamfgjgmnnnjpaaDoorBend
import Derived.Deep.RegionWith
namespace Go.Proofs.YtamfgjgmnnnjpaaDoor
open Go.RowKit Go.Sort
set_option linter.unusedVariables false

theorem tabT8 {b : Nat} {w w' : World} {C : Array Value} {t : TypeId} {N : Nat} (hb : Beside b (w.alloc (.cells C t)) w') (hne : w.heap.size ≠ b) (y : Nat) (hy : y < C.size) (hall : ∀ v ∈ C.toList, ∃ s : ByteArray, v = .string s ∧ s.size ≤ N) : ∃ z : ByteArray, w'.cell? ⟨w.heap.size, y, Option.none⟩ = some (.string z) ∧ z.size ≤ N := by
  have hm : C[y] ∈ C.toList := by simp
  obtain ⟨z, hz, hs⟩ := hall _ hm
  refine ⟨z, besideCell hb hne ?_, hs⟩
  rw [World.cell?_alloc_mark, Array.getElem?_eq_getElem hy, hz]
theorem tabN8 (y : Nat) (hy : y < 8) : ∃ z : Int, (#[.int .i64 0, .int .i64 1, .int .i64 5, .int .i64 10, .int .i64 4000, .int .i64 4001, .int .i64 (-1), .int .i64 8] : Array Value)[y]? = some (.int .i64 z) ∧ -1 ≤ z ∧ z ≤ 4001 := by
  rcases (show y = 0 ∨ y = 1 ∨ y = 2 ∨ y = 3 ∨ y = 4 ∨ y = 5 ∨ y = 6 ∨ y = 7 by omega) with rfl | rfl | rfl | rfl | rfl | rfl | rfl | rfl <;> exact ⟨_, rfl, by decide, by decide⟩
def tenS : ByteArray := ⟨#[98, 121, 116, 101, 115, 61, 48, 45, 44, 48, 45, 44, 48, 45, 44, 48, 45, 44, 48, 45, 44, 48, 45, 44, 48, 45, 44, 48, 45, 44, 48, 45, 44, 48, 45]⟩
theorem finB {w w1 w2 w3 : World} (h1 : Below w.heap.size w w1) (hz : w.heap.size < w1.heap.size) (h2 : Beside w.heap.size w1 w2) (h3 : Beside w.heap.size w2 w3) : Below w.heap.size w w3 :=
  h1.trans ((h2.trans h3).low (Nat.le_refl _) (Nat.le_of_lt hz))
set_option maxRecDepth 100000 in
set_option maxHeartbeats 2000000 in
theorem drawRS (sa : Option Addr) (sl sc : Nat) (w : World) (hc : Code8 w w.heap.size sa sl) (hl : sl ≤ 4096) :
    Calls Tryd.prog 7 #[.slice sa sl sc] w fun e w' => (∃ (s : ByteArray) (n : Int), e = .returned (.tuple #[.string s, .int .i64 n]) ∧ s.size ≤ 200 ∧ -1 ≤ n ∧ n ≤ 4001) ∧ Below w.heap.size w w' := by
  have hN := l1New sa sl sc w hc hl
  clear hc
  go_enter Tryd.func7, Tryd.ntmps7
  go_wp2_with fail
  refine hN.mono ?_
  rintro e w1 ⟨rfl, hc1, hb1⟩
  have hbz : w.heap.size < w1.heap.size := hc1.2.2.1
  have B1 : Hid (Below w.heap.size w w1) := hb1
  clear hN hb1
  go_wp2_with fail
  refine (l1Below w.heap.size sa sl sc 3 (by decide) (by decide) _ hc1).mono ?_
  rintro e w2 ⟨x, rfl, hx0, hx1, hc2, hb2⟩
  obtain ⟨x, rfl⟩ := Int.eq_ofNat_of_zero_le hx0
  have C2 : Hid (Cur w2 w.heap.size sa sl sc) := hc2
  have T2 : Hid (Beside w.heap.size w1 w2) := hb2
  clear hc1 hc2 hb2
  go_wp2
  go_loopw [5, 6] (fun s n wr => ∃ (k : Nat) (t : ByteArray), n = .int .i64 k ∧ k ≤ 3 ∧ s = .string t ∧ t.size + 40 * k ≤ 126 ∧ Hid (Cur wr w.heap.size sa sl sc) ∧ Hid (Beside w.heap.size w1 wr)) (fun _ n _ => (intOf n).toNat)
  case atStart => exact ⟨x + 1, _, by go_num, by omega, rfl, by show 6 + _ ≤ _; omega, C2, T2⟩
  case round =>
    clear C2 T2
    obtain ⟨k, t, rfl, hk3, rfl, htk, hc, hb⟩ := hrel
    by_cases hk : 0 < k
    · go_wp2_with fail
      refine (l1Below w.heap.size sa sl sc 12 (by decide) (by decide) _ hc.out).mono ?_
      rintro e w3 ⟨p, rfl, hp0, hp1, hc3, hb3⟩
      obtain ⟨p, rfl⟩ := Int.eq_ofNat_of_zero_le hp0
      have C3 : Hid (Cur w3 w.heap.size sa sl sc) := hc3
      have T3 : Hid (Beside w.heap.size w1 w3) := hb.out.trans hb3
      clear hc hb hc3 hb3
      go_wp2_with fail
      refine (specIntZ p _ (by omega)).mono ?_
      rintro e w4 ⟨rfl, hb4⟩
      have C4 : Hid (Cur w4 w.heap.size sa sl sc) := C3.out.kept hb4 C3.out.2.2.1
      have T4 : Hid (Beside w.heap.size w1 w4) := T3.out.below hb4
      have z1 := itoS_size (n := p) (by omega)
      generalize itoS p = s1 at z1 ⊢
      clear C3 T3 hb4
      go_wp2_with fail
      refine (l1Below w.heap.size sa sl sc 14 (by decide) (by decide) _ C4.out).mono ?_
      rintro e w5 ⟨q, rfl, hq0, hq1, hc5, hb5⟩
      obtain ⟨q, rfl⟩ := Int.eq_ofNat_of_zero_le hq0
      have C5 : Hid (Cur w5 w.heap.size sa sl sc) := hc5
      have T5 : Hid (Beside w.heap.size w1 w5) := T4.out.trans hb5
      clear C4 T4 hc5 hb5
      go_wp2_with fail
      refine (specIntZ q _ (by omega)).mono ?_
      rintro e w6 ⟨rfl, hb6⟩
      have C6 : Hid (Cur w6 w.heap.size sa sl sc) := C5.out.kept hb6 C5.out.2.2.1
      have T6 : Hid (Beside w.heap.size w1 w6) := T5.out.below hb6
      have z2 := itoS_size (n := q) (by omega)
      generalize itoS q = s2 at z2 ⊢
      clear C5 T5 hb6
      have y1 : (s1 ++ (⟨#[45]⟩ : ByteArray)).size = s1.size + 1 := by rw [ByteArray.size_append]; rfl
      have y2 : (s1 ++ (⟨#[45]⟩ : ByteArray) ++ s2).size = s1.size + 1 + s2.size := by rw [ByteArray.size_append, y1]
      have y3 : ((⟨#[45]⟩ : ByteArray) ++ s2).size = 1 + s2.size := by rw [ByteArray.size_append]; rfl
      go_wp2_with fail
      refine (l1Below w.heap.size sa sl sc 4 (by decide) (by decide) _ (C6.out.more8 _)).mono ?_
      rintro e w7 ⟨r, rfl, hr0, hr1, hc7, hb7⟩
      obtain ⟨r, rfl⟩ := Int.eq_ofNat_of_zero_le hr0
      have hb6z := C6.out.2.2.1
      obtain ⟨t2, ht2, hz2⟩ := tabT8 (N := 39) hb7 (by omega) r (by simp; omega) (by intro v hv; simp at hv; rcases hv with rfl | rfl | rfl | rfl; exact ⟨_, rfl, by omega⟩; exact ⟨_, rfl, by omega⟩; exact ⟨_, rfl, by omega⟩; exact ⟨_, rfl, by omega⟩)
      have C7 : Hid (Cur w7 w.heap.size sa sl sc) := hc7
      have T7 : Hid (Beside w.heap.size w1 w7) := (T6.out.more8 _).trans hb7
      have y4 : (t ++ t2).size = t.size + t2.size := by rw [ByteArray.size_append]
      have y5 : (t ++ t2 ++ (⟨#[44]⟩ : ByteArray)).size = t.size + t2.size + 1 := by rw [ByteArray.size_append, y4]; rfl
      clear C6 T6 hc7 hb7
      go_wp2
      go_roundw
      case rel => exact ⟨k - 1, t ++ t2 ++ (⟨#[44]⟩ : ByteArray), by go_num, by omega, rfl, by omega, C7, T7⟩
      case measure => simp [intOf]; omega
    · have ht126 : t.size ≤ 126 := by omega
      have bent : ∀ (t : ByteArray) (wr : World), t.size ≤ 130 → Cur wr w.heap.size sa sl sc → Beside w.heap.size w1 wr → True := fun _ _ _ _ _ => trivial
      clear bent
      go_wp2_with fail
      refine (l1Once w.heap.size sa sl sc 6 (by decide) (by decide) _ hc.out).mono ?_
      rintro e w3 ⟨tt, rfl, hc3, hb3⟩
      have C3 : Hid (Cur w3 w.heap.size sa sl sc) := hc3
      have T3 : Hid (Beside w.heap.size w1 w3) := hb.out.trans hb3
      clear hc hb hc3 hb3
      cases tt with
      | false =>
        go_wp2_with fail
        refine (l1Once w.heap.size sa sl sc 20 (by decide) (by decide) _ C3.out).mono ?_
        rintro e w4 ⟨ts, rfl, hc4, hb4⟩
        have C4 : Hid (Cur w4 w.heap.size sa sl sc) := hc4
        have T4 : Hid (Beside w.heap.size w1 w4) := T3.out.trans hb4
        clear C3 T3 hc4 hb4
        cases ts with
        | false =>
          go_wp2
          go_region_with (go_at_call 25; refine (l1Below w.heap.size sa sl sc 8 (by decide) (by decide) _ (by first | exact C4.out.more8 _ | exact C4.out)).mono ?_; rintro e w9 ⟨y, rfl, hy0, hy1, hc9, hb9⟩; obtain ⟨y, rfl⟩ := Int.eq_ofNat_of_zero_le hy0; obtain ⟨z, hzC, hz1, hz2⟩ := tabN8 y (by omega); (try (have hzw := besideCell hb9 (g := w4.heap.size) (j := y) (v := .int .i64 z) (by have := C4.out.2.2.1; omega) (by show (w4.alloc _).cell? _ = _; rw [World.cell?_alloc_mark]; exact hzC))); have T9 : Hid (Below w.heap.size w w9) := by first | exact finB B1.out hbz (T4.out.more8 _) hb9 | exact finB B1.out hbz T4.out hb9)
          all_goals
            go_wp2
            go_ret2
            exact ⟨⟨t, z, rfl, by omega, hz1, hz2⟩, by first | exact T9.out | exact T9.out.alloc (by have := T9.out.size; omega) _⟩
        | true =>
          go_wp2_with fail
          refine (l1Below w.heap.size sa sl sc 2 (by decide) (by decide) _ (C4.out.more8 _)).mono ?_
          rintro e w5 ⟨r, rfl, hr0, hr1, hc5, hb5⟩
          obtain ⟨r, rfl⟩ := Int.eq_ofNat_of_zero_le hr0
          have hbk := C4.out.2.2.1
          obtain ⟨t2, ht2, hz2⟩ := tabT8 (N := 3) hb5 (by omega) r (by simp; omega) (by intro v hv; simp at hv; rcases hv with rfl | rfl; exact ⟨_, rfl, by decide⟩; exact ⟨_, rfl, by decide⟩)
          have C5 : Hid (Cur w5 w.heap.size sa sl sc) := hc5
          have T5 : Hid (Beside w.heap.size w1 w5) := (T4.out.more8 _).trans hb5
          clear C4 T4 hc5 hb5
          have ty : (tenS ++ t2).size = 35 + t2.size := by rw [ByteArray.size_append]; rfl
          have ty2 : tenS.size = 35 := rfl
          have ty0 : Hid ((tenS ++ t2).size ≤ 200) := (by omega : (tenS ++ t2).size ≤ 200)
          unfold tenS at ty ty2
          go_wp2
          go_region_with (go_at_call 25; refine (l1Below w.heap.size sa sl sc 8 (by decide) (by decide) _ (by first | exact C5.out.more8 _ | exact C5.out)).mono ?_; rintro e w9 ⟨y, rfl, hy0, hy1, hc9, hb9⟩; obtain ⟨y, rfl⟩ := Int.eq_ofNat_of_zero_le hy0; obtain ⟨z, hzC, hz1, hz2⟩ := tabN8 y (by omega); (try (have hzw := besideCell hb9 (g := w5.heap.size) (j := y) (v := .int .i64 z) (by have := C5.out.2.2.1; omega) (by show (w5.alloc _).cell? _ = _; rw [World.cell?_alloc_mark]; exact hzC))); have T9 : Hid (Below w.heap.size w w9) := by first | exact finB B1.out hbz (T5.out.more8 _) hb9 | exact finB B1.out hbz T5.out hb9)
          all_goals
            go_wp2
            go_ret2
            exact ⟨⟨tenS ++ t2, z, rfl, ty0.out, hz1, hz2⟩, by first | exact T9.out | exact T9.out.alloc (by have := T9.out.size; omega) _⟩
      | true =>
        go_wp2_with fail
        refine (l1Bend w.heap.size sa sl sc t ⟨#[48, 45, 57, 44, 61, 98]⟩ (by omega) (by decide) (by decide) _ C3.out).mono ?_
        rintro e w4 ⟨t4, rfl, ht4, hc4, hb4⟩
        have C4 : Hid (Cur w4 w.heap.size sa sl sc) := hc4
        have T4 : Hid (Beside w.heap.size w1 w4) := T3.out.trans hb4
        clear C3 T3 hc4 hb4
        go_wp2_with fail
        refine (l1Once w.heap.size sa sl sc 20 (by decide) (by decide) _ C4.out).mono ?_
        rintro e w5 ⟨ts, rfl, hc5, hb5⟩
        have C5 : Hid (Cur w5 w.heap.size sa sl sc) := hc5
        have T5 : Hid (Beside w.heap.size w1 w5) := T4.out.trans hb5
        clear C4 T4 hc5 hb5
        cases ts with
        | false =>
          go_wp2
          go_region_with (go_at_call 25; refine (l1Below w.heap.size sa sl sc 8 (by decide) (by decide) _ (by first | exact C5.out.more8 _ | exact C5.out)).mono ?_; rintro e w9 ⟨y, rfl, hy0, hy1, hc9, hb9⟩; obtain ⟨y, rfl⟩ := Int.eq_ofNat_of_zero_le hy0; obtain ⟨z, hzC, hz1, hz2⟩ := tabN8 y (by omega); (try (have hzw := besideCell hb9 (g := w5.heap.size) (j := y) (v := .int .i64 z) (by have := C5.out.2.2.1; omega) (by show (w5.alloc _).cell? _ = _; rw [World.cell?_alloc_mark]; exact hzC))); have T9 : Hid (Below w.heap.size w w9) := by first | exact finB B1.out hbz (T5.out.more8 _) hb9 | exact finB B1.out hbz T5.out hb9)
          all_goals
            go_wp2
            go_ret2
            exact ⟨⟨t4, z, rfl, by omega, hz1, hz2⟩, by first | exact T9.out | exact T9.out.alloc (by have := T9.out.size; omega) _⟩
        | true =>
          go_wp2_with fail
          refine (l1Below w.heap.size sa sl sc 2 (by decide) (by decide) _ (C5.out.more8 _)).mono ?_
          rintro e w6 ⟨r, rfl, hr0, hr1, hc6, hb6⟩
          obtain ⟨r, rfl⟩ := Int.eq_ofNat_of_zero_le hr0
          have hbk := C5.out.2.2.1
          obtain ⟨t2, ht2, hz2⟩ := tabT8 (N := 3) hb6 (by omega) r (by simp; omega) (by intro v hv; simp at hv; rcases hv with rfl | rfl; exact ⟨_, rfl, by decide⟩; exact ⟨_, rfl, by decide⟩)
          have C6 : Hid (Cur w6 w.heap.size sa sl sc) := hc6
          have T6 : Hid (Beside w.heap.size w1 w6) := (T5.out.more8 _).trans hb6
          clear C5 T5 hc6 hb6
          have ty : (tenS ++ t2).size = 35 + t2.size := by rw [ByteArray.size_append]; rfl
          have ty2 : tenS.size = 35 := rfl
          have ty0 : Hid ((tenS ++ t2).size ≤ 200) := (by omega : (tenS ++ t2).size ≤ 200)
          unfold tenS at ty ty2
          go_wp2
          go_region_with (go_at_call 25; refine (l1Below w.heap.size sa sl sc 8 (by decide) (by decide) _ (by first | exact C6.out.more8 _ | exact C6.out)).mono ?_; rintro e w9 ⟨y, rfl, hy0, hy1, hc9, hb9⟩; obtain ⟨y, rfl⟩ := Int.eq_ofNat_of_zero_le hy0; obtain ⟨z, hzC, hz1, hz2⟩ := tabN8 y (by omega); (try (have hzw := besideCell hb9 (g := w6.heap.size) (j := y) (v := .int .i64 z) (by have := C6.out.2.2.1; omega) (by show (w6.alloc _).cell? _ = _; rw [World.cell?_alloc_mark]; exact hzC))); have T9 : Hid (Below w.heap.size w w9) := by first | exact finB B1.out hbz (T6.out.more8 _) hb9 | exact finB B1.out hbz T6.out hb9)
          all_goals
            go_wp2
            go_ret2
            exact ⟨⟨tenS ++ t2, z, rfl, ty0.out, hz1, hz2⟩, by first | exact T9.out | exact T9.out.alloc (by have := T9.out.size; omega) _⟩
end Go.Proofs.YtamfgjgmnnnjpaaDoor
