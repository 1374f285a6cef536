/-
  The drawing functions of dates: whatever the code, some date or moment is drawn.
-/
import Derived.Test.YtfflifhcbfoliaaDoorDraw
import Derived.Test.YtfflifhcbfoliaaDoorAt
namespace Go.Proofs.YtfflifhcbfoliaaDoor
open Go.RowKit Go.Sort

theorem Beside.grow {b B : Nat} {w wr w2 : World} (h : Beside b w wr) (hb : Below B wr w2) (hB : w.heap.size ≤ B) : Beside b w w2 :=
  ⟨hb.os.trans h.1, hb.tape.trans h.2.1, hb.output.trans h.2.2.1, Nat.le_trans h.2.2.2.1 hb.size, fun k hk hg => (hb.block k (by omega)).trans (h.2.2.2.2 k hk hg)⟩
theorem Code8.up {w w' : World} {sa : Option Addr} {sl : Nat} (h : Code8 w w.heap.size sa sl) (hb : Below w.heap.size w w') : Code8 w' w'.heap.size sa sl := by
  intro j hj
  obtain ⟨g, o, z, h1, h2, h3, h4⟩ := h j hj
  exact ⟨g, o, z, h1, Nat.lt_of_lt_of_le h2 hb.size, (hb.cell (p := ⟨g, o + j, none⟩) h2).trans h3, h4⟩
theorem lower {B B' : Nat} {w w' : World} (h : Below B w w') (hb : B' ≤ B) : Below B' w w' := ⟨h.os, h.tape, h.output, h.size, fun k hk => h.block k (by omega)⟩
/-- A block of six numbers, not frozen. -/
def Six (w : World) (g : Nat) : Prop := g < w.heap.size ∧ (∀ j, w.frozen? ⟨g, j, none⟩ = false) ∧ ∀ k, k < 6 → ∃ a : Int, w.cell? ⟨g, k, none⟩ = some (.int .i64 a)
theorem Six.same {w w' : World} {g : Nat} (h : Six w g) (hz : w.heap.size ≤ w'.heap.size) (hb : w'.heap[g]? = w.heap[g]?) : Six w' g := by
  refine ⟨Nat.lt_of_lt_of_le h.1 hz, fun j => ?_, fun k hk => ?_⟩
  · rw [← h.2.1 j]; unfold World.frozen?; rw [show w'.heap[(⟨g, j, none⟩ : Addr).block]? = w.heap[(⟨g, j, none⟩ : Addr).block]? from hb]
  · obtain ⟨a, ha⟩ := h.2.2 k hk
    exact ⟨a, by rw [← ha]; exact World.cell?_of_block (w := w) (a := ⟨g, k, none⟩) hb⟩
theorem Six.beside {w w' : World} {g b : Nat} (h : Six w g) (hb : Beside b w w') (hg : g ≠ b) : Six w' g := h.same hb.2.2.2.1 (hb.2.2.2.2 g h.1 hg)
theorem Six.below {w w' : World} {g B : Nat} (h : Six w g) (hb : Below B w w') (hg : g < B) : Six w' g := h.same hb.size (hb.block g hg)
theorem Six.put {w : World} {g : Nat} (h : Six w g) (j : Nat) (v : Int) : Six (w.setCell ⟨g, j, none⟩ (.int .i64 v)) g := by
  refine ⟨by simpa [World.setCell] using h.1, fun k => by rw [World.frozen?_setCell]; exact h.2.1 k, fun k hk => ?_⟩
  obtain ⟨a, ha⟩ := h.2.2 k hk
  by_cases e : j = k
  · subst e; exact ⟨v, World.cell?_setCell_same _ _ _ ha⟩
  · exact ⟨a, by rw [World.cell?_setCell_other _ _ _ _ (by simp)]; exact ha⟩
theorem Six.other {w : World} {g g' : Nat} (h : Six w g) (hg : g' ≠ g) (j : Nat) (v : Value) : Six (w.setCell ⟨g', j, none⟩ v) g := h.same (by simp [World.setCell]) (Below.heap_setCell _ _ _ _ (Ne.symm hg))
theorem Six.born (w : World) (t : TypeId) (a0 a1 a2 a3 a4 a5 : Int) : Six (w.alloc (.cells #[.int .i64 a0, .int .i64 a1, .int .i64 a2, .int .i64 a3, .int .i64 a4, .int .i64 a5] t)) w.heap.size := by
  refine ⟨by simp, fun j => by rw [World.frozen?_alloc_mark]; simp, fun k hk => ?_⟩
  rcases (show k = 0 ∨ k = 1 ∨ k = 2 ∨ k = 3 ∨ k = 4 ∨ k = 5 from by omega) with rfl | rfl | rfl | rfl | rfl | rfl
  all_goals exact ⟨_, by rw [World.cell?_alloc_mark]; rfl⟩
theorem Six.cells {w : World} {g : Nat} (h : Six w g) : ∃ a0 a1 a2 a3 a4 a5 : Int, w.cell? ⟨g, 0, none⟩ = some (.int .i64 a0) ∧ w.cell? ⟨g, 1, none⟩ = some (.int .i64 a1) ∧ w.cell? ⟨g, 2, none⟩ = some (.int .i64 a2) ∧ w.cell? ⟨g, 3, none⟩ = some (.int .i64 a3) ∧ w.cell? ⟨g, 4, none⟩ = some (.int .i64 a4) ∧ w.cell? ⟨g, 5, none⟩ = some (.int .i64 a5) := by
  obtain ⟨a0, h0⟩ := h.2.2 0 (by decide)
  obtain ⟨a1, h1⟩ := h.2.2 1 (by decide)
  obtain ⟨a2, h2⟩ := h.2.2 2 (by decide)
  obtain ⟨a3, h3⟩ := h.2.2 3 (by decide)
  obtain ⟨a4, h4⟩ := h.2.2 4 (by decide)
  obtain ⟨a5, h5⟩ := h.2.2 5 (by decide)
  exact ⟨a0, a1, a2, a3, a4, a5, h0, h1, h2, h3, h4, h5⟩
theorem Six.free {w : World} {g : Nat} (h : Six w g) : w.frozen? ⟨g, 0, none⟩ = false ∧ w.frozen? ⟨g, 1, none⟩ = false ∧ w.frozen? ⟨g, 2, none⟩ = false ∧ w.frozen? ⟨g, 3, none⟩ = false ∧ w.frozen? ⟨g, 4, none⟩ = false ∧ w.frozen? ⟨g, 5, none⟩ = false := ⟨h.2.1 0, h.2.1 1, h.2.1 2, h.2.1 3, h.2.1 4, h.2.1 5⟩
theorem six_puts (w : World) {B g : Nat} (h : B ≤ g) (v0 v1 v2 v3 v4 v5 : Value) : Below B w ((((((w.setCell ⟨g, 0, none⟩ v0).setCell ⟨g, 1, none⟩ v1).setCell ⟨g, 2, none⟩ v2).setCell ⟨g, 3, none⟩ v3).setCell ⟨g, 4, none⟩ v4).setCell ⟨g, 5, none⟩ v5) :=
  ((((((Below.refl B w).setCell h _).setCell h _).setCell h _).setCell h _).setCell h _).setCell h _
def isI : Value → Bool
  | .int .i64 _ => true
  | _ => false
theorem isI_out : ∀ {v : Value}, isI v = true → ∃ z : Int, v = .int .i64 z
  | .int .i64 z, _ => ⟨z, rfl⟩
/-- A drawn place of a table of numbers. -/
theorem tabAt {b : Nat} {w w' : World} {C : Array Value} {t : TypeId} (hb : Beside b (w.alloc (.cells C t)) w') (hne : w.heap.size ≠ b) (y : Nat) (hy : y < C.size) (hall : C.toList.all isI = true) : ∃ z : Int, w'.cell? ⟨w.heap.size, y, none⟩ = some (.int .i64 z) := by
  have hm : C[y] ∈ C.toList := by simp
  obtain ⟨z, hz⟩ := isI_out (List.all_eq_true.1 hall _ hm)
  refine ⟨z, besideCell hb hne ?_⟩
  rw [World.cell?_alloc_mark, Array.getElem?_eq_getElem hy, hz]

set_option maxHeartbeats 1000000 in
theorem l2Draw (b : Nat) (sa : Option Addr) (sl sc : Nat) (w : World) (hc : Cur w b sa sl sc) :
    Calls Tryd.prog 43 #[.pointer (some ⟨b, 0, none⟩)] w fun e w' => (∃ y m d h i s : Int, e = .returned (.agg #[.int .i64 y, .int .i64 m, .int .i64 d, .int .i64 h, .int .i64 i, .int .i64 s])) ∧ Cur w' b sa sl sc ∧ Beside b w w' := by
  have hbz : b < w.heap.size := hc.2.2.1
  have hal := fun o => (Below.refl w.heap.size w).alloc (Nat.le_refl _) o
  go_enter Tryd.func43, Tryd.ntmps43
  go_wp2_with fail
  refine (l1Once _ sa sl sc _ (by decide) (by decide) _ (hc.kept (hal _) hbz)).mono ?_
  rintro e w1 ⟨t, rfl, hc1, hb1⟩
  have S1 : Six w1 w.heap.size := (Six.born w 25 0 0 0 0 0 0).beside hb1 (by omega)
  have B1 : Beside b w w1 := ((Beside.refl b w).below (hal _)).trans hb1
  clear hb1 hal
  cases t with
  | true =>
    go_wp2_with fail
    refine (l1Below _ sa sl sc _ (by decide) (by decide) _ hc1).mono ?_
    rintro e w2 ⟨x, rfl, hx0, hx1, hc2, hb2⟩
    have S2 := S1.beside hb2 (by omega)
    have B2 := B1.trans hb2
    clear S1 B1 hb2 hc1
    go_wp2_with fail
    refine (specAt_in _ _ (by omega) (by omega)).mono ?_
    rintro e w3 ⟨⟨y, m, d, h, i, s, rfl, _, _⟩, hg3⟩
    have S3 := S2.below hg3.low S2.1
    have B3 := B2.below hg3.low
    have hc3 := hc2.kept hg3.low hc2.2.2.1
    obtain ⟨a0, a1, a2, a3, a4, a5, c0, c1, c2, c3, c4, c5⟩ := S3.cells
    obtain ⟨f0, f1, f2, f3, f4, f5⟩ := S3.free
    clear S2 B2 hg3 hc2 S3
    go_wp2
    refine bodyPost_ret (v := .agg #[.int .i64 y, .int .i64 m, .int .i64 d, .int .i64 h, .int .i64 i, .int .i64 s]) (by simp [results, Tryd.results43, go_sem, c0, c1, c2, c3, c4, c5]) rfl ⟨⟨_, _, _, _, _, _, rfl⟩, hc3.kept (six_puts _ (Nat.le_refl _) _ _ _ _ _ _) hbz, B3.grow (six_puts _ (Nat.le_refl _) _ _ _ _ _ _) (Nat.le_refl _)⟩
  | false =>
    have hal1 := fun o => (Below.refl w1.heap.size w1).alloc (Nat.le_refl _) o
    have hz1 : w.heap.size < w1.heap.size := S1.1
    go_wp2_with fail
    refine (l1Below _ sa sl sc _ (by decide) (by decide) _ (hc1.kept (hal1 _) hc1.2.2.1)).mono ?_
    rintro e w2 ⟨x, rfl, hx0, hx1, hc2, hb2⟩
    obtain ⟨x, rfl⟩ := Int.eq_ofNat_of_zero_le hx0
    obtain ⟨z, hz⟩ := tabAt hb2 (by omega) x (by simp; omega) rfl
    have S2 := (S1.below (hal1 _) hz1).beside hb2 (by omega)
    have B2 := (B1.below (hal1 _)).trans hb2
    clear S1 B1 hb2 hc1 hal1
    go_wp2_with fail
    refine (l1Below _ sa sl sc _ (by decide) (by decide) _ hc2).mono ?_
    rintro e w3 ⟨x3, rfl, hx30, hx31, hc3, hb3⟩
    go_wp2_with fail
    refine (l1Below _ sa sl sc _ (by decide) (by decide) _ hc3).mono ?_
    rintro e w4 ⟨x4, rfl, hx40, hx41, hc4, hb4⟩
    go_wp2_with fail
    refine (l1Below _ sa sl sc _ (by decide) (by decide) _ hc4).mono ?_
    rintro e w5 ⟨x5, rfl, hx50, hx51, hc5, hb5⟩
    go_wp2_with fail
    refine (l1Below _ sa sl sc _ (by decide) (by decide) _ hc5).mono ?_
    rintro e w6 ⟨x6, rfl, hx60, hx61, hc6, hb6⟩
    go_wp2_with fail
    refine (l1Below _ sa sl sc _ (by decide) (by decide) _ hc6).mono ?_
    rintro e w7 ⟨x7, rfl, hx70, hx71, hc7, hb7⟩
    have S7 := ((((S2.beside hb3 (by omega)).beside hb4 (by omega)).beside hb5 (by omega)).beside hb6 (by omega)).beside hb7 (by omega)
    have B7 := ((((B2.trans hb3).trans hb4).trans hb5).trans hb6).trans hb7
    clear S2 B2 hb3 hb4 hb5 hb6 hb7 hc2 hc3 hc4 hc5 hc6 hz
    have hal7 := fun o => (Below.refl w7.heap.size w7).alloc (Nat.le_refl _) o
    have hz7 : w.heap.size < w7.heap.size := S7.1
    go_wp2_with fail
    refine (l1Once _ sa sl sc _ (by decide) (by decide) _ (hc7.kept (hal7 _) hc7.2.2.1)).mono ?_
    rintro e w8 ⟨t, rfl, hc8, hb8⟩
    have D8 : Six w8 w7.heap.size := (Six.born w7 25 _ _ _ _ _ _).beside hb8 (by omega)
    have S8 := (S7.below (hal7 _) hz7).beside hb8 (by omega)
    have B8 := (B7.below (hal7 _)).trans hb8
    clear S7 B7 hb8 hc7 hal7
    cases t with
    | true =>
      obtain ⟨d0, d1, d2, d3, d4, d5, k0, k1, k2, k3, k4, k5⟩ := D8.cells
      obtain ⟨g0, g1, g2, g3, g4, g5⟩ := D8.free
      go_wp2_with fail
      have hp8 : Below w7.heap.size w8 (w8.setCell ⟨w7.heap.size, 1, none⟩ (.int .i64 2)) := (Below.refl w7.heap.size w8).setCell (show w7.heap.size ≤ (⟨w7.heap.size, 1, none⟩ : Addr).block from Nat.le_refl _) _
      refine (l1Below _ sa sl sc _ (by decide) (by decide) _ (hc8.kept hp8 (by omega))).mono ?_
      rintro e w9 ⟨x9, rfl, hx90, hx91, hc9, hb9⟩
      have D9 := (D8.put 1 2).beside hb9 (by omega)
      have S9 := (S8.below hp8 hz7).beside hb9 (by omega)
      have B9 := (B8.grow hp8 (by omega)).trans hb9
      clear D8 S8 B8 hb9 hp8 hc8 k0 k1 k2 k3 k4 k5 g0 g1 g2 g3 g4 g5
      obtain ⟨d0, d1, d2, d3, d4, d5, k0, k1, k2, k3, k4, k5⟩ := D9.cells
      obtain ⟨g0, g1, g2, g3, g4, g5⟩ := D9.free
      obtain ⟨a0, a1, a2, a3, a4, a5, c0, c1, c2, c3, c4, c5⟩ := S9.cells
      obtain ⟨f0, f1, f2, f3, f4, f5⟩ := S9.free
      have hne : w.heap.size ≠ w7.heap.size := by omega
      have hne' : w7.heap.size ≠ w.heap.size := by omega
      clear D9 S9
      go_wp2
      have hq : Below w.heap.size w9 (w9.setCell ⟨w7.heap.size, 2, none⟩ (.int .i64 (28 + x9))) := (Below.refl w.heap.size w9).setCell (show w.heap.size ≤ (⟨w7.heap.size, 2, none⟩ : Addr).block from Nat.le_of_lt hz7) _
      refine bodyPost_ret (v := .agg #[.int .i64 d0, .int .i64 d1, .int .i64 (28 + x9), .int .i64 d3, .int .i64 d4, .int .i64 d5]) (by simp [results, Tryd.results43, go_sem, c0, c1, c2, c3, c4, c5]) rfl ⟨⟨_, _, _, _, _, _, rfl⟩, hc9.kept (hq.trans (six_puts _ (Nat.le_refl _) _ _ _ _ _ _)) hbz, B9.grow (hq.trans (six_puts _ (Nat.le_refl _) _ _ _ _ _ _)) (Nat.le_refl _)⟩
    | false =>
      obtain ⟨d0, d1, d2, d3, d4, d5, k0, k1, k2, k3, k4, k5⟩ := D8.cells
      obtain ⟨a0, a1, a2, a3, a4, a5, c0, c1, c2, c3, c4, c5⟩ := S8.cells
      obtain ⟨f0, f1, f2, f3, f4, f5⟩ := S8.free
      clear D8 S8
      go_wp2
      refine bodyPost_ret (v := .agg #[.int .i64 d0, .int .i64 d1, .int .i64 d2, .int .i64 d3, .int .i64 d4, .int .i64 d5]) (by simp [results, Tryd.results43, go_sem, c0, c1, c2, c3, c4, c5]) rfl ⟨⟨_, _, _, _, _, _, rfl⟩, hc8.kept (six_puts _ (Nat.le_refl _) _ _ _ _ _ _) hbz, B8.grow (six_puts _ (Nat.le_refl _) _ _ _ _ _ _) (Nat.le_refl _)⟩

set_option maxHeartbeats 2000000 in
theorem l2DrawAny (b : Nat) (sa : Option Addr) (sl sc : Nat) (w : World) (hc : Cur w b sa sl sc) :
    Calls Tryd.prog 33 #[.pointer (some ⟨b, 0, none⟩)] w fun e w' => (∃ y m d h i s : Int, e = .returned (.agg #[.int .i64 y, .int .i64 m, .int .i64 d, .int .i64 h, .int .i64 i, .int .i64 s])) ∧ Cur w' b sa sl sc ∧ Beside b w w' := by
  have hbz : b < w.heap.size := hc.2.2.1
  have hal := fun o => (Below.refl w.heap.size w).alloc (Nat.le_refl _) o
  go_enter Tryd.func33, Tryd.ntmps33
  go_wp2_with fail
  refine (l2Draw _ sa sl sc _ (hc.kept (hal _) hbz)).mono ?_
  rintro e w1 ⟨⟨y, m, d, h, i, s, rfl⟩, hc1, hb1⟩
  have S1 : Six w1 w.heap.size := (Six.born w 25 0 0 0 0 0 0).beside hb1 (by omega)
  have B1 : Beside b w w1 := ((Beside.refl b w).below (hal _)).trans hb1
  have hz1 : w.heap.size < w1.heap.size := S1.1
  have hal1 := fun o => (Below.refl w1.heap.size w1).alloc (Nat.le_refl _) o
  clear hb1 hal
  go_wp2_with fail
  refine (l1Once _ sa sl sc _ (by decide) (by decide) _ (hc1.kept (hal1 _) hc1.2.2.1)).mono ?_
  rintro e w2 ⟨t, rfl, hc2, hb2⟩
  have D2 : Six w2 w1.heap.size := (Six.born w1 25 y m d h i s).beside hb2 (by omega)
  have S2 := (S1.below (hal1 _) hz1).beside hb2 (by omega)
  have B2 := (B1.below (hal1 _)).trans hb2
  have hdz : w.heap.size ≤ w1.heap.size := Nat.le_of_lt hz1
  have hne : w1.heap.size ≠ w.heap.size := by omega
  have hzz : w1.heap.size < w2.heap.size := D2.1
  clear hal1 hb2 S1 B1 hc1
  cases t with
  | false =>
    obtain ⟨d0, d1, d2, d3, d4, d5, k0, k1, k2, k3, k4, k5⟩ := D2.cells
    obtain ⟨a0, a1, a2, a3, a4, a5, c0, c1, c2, c3, c4, c5⟩ := S2.cells
    obtain ⟨f0, f1, f2, f3, f4, f5⟩ := S2.free
    clear D2 S2
    go_wp2
    refine bodyPost_ret (v := .agg #[.int .i64 d0, .int .i64 d1, .int .i64 d2, .int .i64 d3, .int .i64 d4, .int .i64 d5]) (by simp [results, Tryd.results33, go_sem, c0, c1, c2, c3, c4, c5]) rfl ⟨⟨_, _, _, _, _, _, rfl⟩, hc2.kept (six_puts _ (Nat.le_refl _) _ _ _ _ _ _) hbz, B2.grow (six_puts _ (Nat.le_refl _) _ _ _ _ _ _) (Nat.le_refl _)⟩
  | true =>
    go_wp2_with fail
    refine (l1Below _ sa sl sc _ (by decide) (by decide) _ hc2).mono ?_
    rintro e w3 ⟨x, rfl, hx0, hx1, hc3, hb3⟩
    have D3 := D2.beside hb3 (by omega)
    have S3 := S2.beside hb3 (by omega)
    have B3 := B2.trans hb3
    have hal3 := fun o => (Below.refl w3.heap.size w3).alloc (Nat.le_refl _) o
    have hz3 : w.heap.size < w3.heap.size := S3.1
    have hz3' : w1.heap.size < w3.heap.size := D3.1
    clear D2 S2 B2 hb3 hc2
    rcases (show x = 0 ∨ x = 1 ∨ x = 2 ∨ x = 3 from by omega) with rfl | rfl | rfl | rfl
    · go_wp2_with fail
      refine (l1Below _ sa sl sc _ (by decide) (by decide) _ (hc3.kept (hal3 _) hc3.2.2.1)).mono ?_
      rintro e w4 ⟨x, rfl, hy0, hy1, hc4, hb4⟩
      obtain ⟨x, rfl⟩ := Int.eq_ofNat_of_zero_le hy0
      obtain ⟨z, hz⟩ := tabAt hb4 (by omega) x (by simp; omega) rfl
      have D4 := (D3.below (hal3 _) hz3').beside hb4 (by omega)
      have S4 := (S3.below (hal3 _) hz3).beside hb4 (by omega)
      have B4 := (B3.below (hal3 _)).trans hb4
      clear D3 S3 B3 hb4 hc3 hal3
      obtain ⟨d0, d1, d2, d3, d4, d5, k0, k1, k2, k3, k4, k5⟩ := D4.cells
      obtain ⟨g0, g1, g2, g3, g4, g5⟩ := D4.free
      obtain ⟨a0, a1, a2, a3, a4, a5, c0, c1, c2, c3, c4, c5⟩ := S4.cells
      obtain ⟨f0, f1, f2, f3, f4, f5⟩ := S4.free
      clear D4 S4
      have hq : Below w.heap.size w4 (w4.setCell ⟨w1.heap.size, 0, none⟩ (.int .i64 z)) := (Below.refl w.heap.size w4).setCell (show w.heap.size ≤ (⟨w1.heap.size, 0, none⟩ : Addr).block from hdz) _
      go_wp2
      refine bodyPost_ret (v := .agg #[.int .i64 z, .int .i64 d1, .int .i64 d2, .int .i64 d3, .int .i64 d4, .int .i64 d5]) (by simp [results, Tryd.results33, go_sem, c0, c1, c2, c3, c4, c5]) rfl ⟨⟨_, _, _, _, _, _, rfl⟩, hc4.kept (hq.trans (six_puts _ (Nat.le_refl _) _ _ _ _ _ _)) hbz, B4.grow (hq.trans (six_puts _ (Nat.le_refl _) _ _ _ _ _ _)) (Nat.le_refl _)⟩
    · go_wp2_with fail
      refine (l1Below _ sa sl sc _ (by decide) (by decide) _ (hc3.kept (hal3 _) hc3.2.2.1)).mono ?_
      rintro e w4 ⟨x, rfl, hy0, hy1, hc4, hb4⟩
      obtain ⟨x, rfl⟩ := Int.eq_ofNat_of_zero_le hy0
      obtain ⟨z, hz⟩ := tabAt hb4 (by omega) x (by simp; omega) rfl
      have D4 := (D3.below (hal3 _) hz3').beside hb4 (by omega)
      have S4 := (S3.below (hal3 _) hz3).beside hb4 (by omega)
      have B4 := (B3.below (hal3 _)).trans hb4
      clear D3 S3 B3 hb4 hc3 hal3
      obtain ⟨d0, d1, d2, d3, d4, d5, k0, k1, k2, k3, k4, k5⟩ := D4.cells
      obtain ⟨g0, g1, g2, g3, g4, g5⟩ := D4.free
      obtain ⟨a0, a1, a2, a3, a4, a5, c0, c1, c2, c3, c4, c5⟩ := S4.cells
      obtain ⟨f0, f1, f2, f3, f4, f5⟩ := S4.free
      clear D4 S4
      have hq : Below w.heap.size w4 (w4.setCell ⟨w1.heap.size, 1, none⟩ (.int .i64 z)) := (Below.refl w.heap.size w4).setCell (show w.heap.size ≤ (⟨w1.heap.size, 1, none⟩ : Addr).block from hdz) _
      go_wp2
      refine bodyPost_ret (v := .agg #[.int .i64 d0, .int .i64 z, .int .i64 d2, .int .i64 d3, .int .i64 d4, .int .i64 d5]) (by simp [results, Tryd.results33, go_sem, c0, c1, c2, c3, c4, c5]) rfl ⟨⟨_, _, _, _, _, _, rfl⟩, hc4.kept (hq.trans (six_puts _ (Nat.le_refl _) _ _ _ _ _ _)) hbz, B4.grow (hq.trans (six_puts _ (Nat.le_refl _) _ _ _ _ _ _)) (Nat.le_refl _)⟩
    · go_wp2_with fail
      refine (l1Below _ sa sl sc _ (by decide) (by decide) _ (hc3.kept (hal3 _) hc3.2.2.1)).mono ?_
      rintro e w4 ⟨x, rfl, hy0, hy1, hc4, hb4⟩
      obtain ⟨x, rfl⟩ := Int.eq_ofNat_of_zero_le hy0
      obtain ⟨z, hz⟩ := tabAt hb4 (by omega) x (by simp; omega) rfl
      have D4 := (D3.below (hal3 _) hz3').beside hb4 (by omega)
      have S4 := (S3.below (hal3 _) hz3).beside hb4 (by omega)
      have B4 := (B3.below (hal3 _)).trans hb4
      clear D3 S3 B3 hb4 hc3 hal3
      obtain ⟨d0, d1, d2, d3, d4, d5, k0, k1, k2, k3, k4, k5⟩ := D4.cells
      obtain ⟨g0, g1, g2, g3, g4, g5⟩ := D4.free
      obtain ⟨a0, a1, a2, a3, a4, a5, c0, c1, c2, c3, c4, c5⟩ := S4.cells
      obtain ⟨f0, f1, f2, f3, f4, f5⟩ := S4.free
      clear D4 S4
      have hq : Below w.heap.size w4 (w4.setCell ⟨w1.heap.size, 2, none⟩ (.int .i64 z)) := (Below.refl w.heap.size w4).setCell (show w.heap.size ≤ (⟨w1.heap.size, 2, none⟩ : Addr).block from hdz) _
      go_wp2
      refine bodyPost_ret (v := .agg #[.int .i64 d0, .int .i64 d1, .int .i64 z, .int .i64 d3, .int .i64 d4, .int .i64 d5]) (by simp [results, Tryd.results33, go_sem, c0, c1, c2, c3, c4, c5]) rfl ⟨⟨_, _, _, _, _, _, rfl⟩, hc4.kept (hq.trans (six_puts _ (Nat.le_refl _) _ _ _ _ _ _)) hbz, B4.grow (hq.trans (six_puts _ (Nat.le_refl _) _ _ _ _ _ _)) (Nat.le_refl _)⟩
    · go_wp2_with fail
      refine (l1Below _ sa sl sc _ (by decide) (by decide) _ (hc3.kept (hal3 _) hc3.2.2.1)).mono ?_
      rintro e w4 ⟨x, rfl, hy0, hy1, hc4, hb4⟩
      obtain ⟨x, rfl⟩ := Int.eq_ofNat_of_zero_le hy0
      obtain ⟨z, hz⟩ := tabAt hb4 (by omega) x (by simp; omega) rfl
      have D4 := (D3.below (hal3 _) hz3').beside hb4 (by omega)
      have S4 := (S3.below (hal3 _) hz3).beside hb4 (by omega)
      have B4 := (B3.below (hal3 _)).trans hb4
      have hz4 : w.heap.size < w4.heap.size := S4.1
      have hz4' : w1.heap.size < w4.heap.size := D4.1
      clear D3 S3 B3 hb4 hc3 hal3
      obtain ⟨d0, d1, d2, d3, d4, d5, k0, k1, k2, k3, k4, k5⟩ := D4.cells
      obtain ⟨g0, g1, g2, g3, g4, g5⟩ := D4.free
      have hq : Below w.heap.size w4 (w4.setCell ⟨w1.heap.size, 3, none⟩ (.int .i64 z)) := (Below.refl w.heap.size w4).setCell (show w.heap.size ≤ (⟨w1.heap.size, 3, none⟩ : Addr).block from hdz) _
      have D5 := D4.put 3 z
      have S5 := S4.other hne 3 (.int .i64 z)
      have B5 := B4.grow hq (Nat.le_refl _)
      have hc5 := hc4.kept hq hbz
      have hal5 := fun o => (Below.refl (w4.setCell ⟨w1.heap.size, 3, none⟩ (.int .i64 z)).heap.size (w4.setCell ⟨w1.heap.size, 3, none⟩ (.int .i64 z))).alloc (Nat.le_refl _) o
      clear D4 S4 B4 hc4 hq
      go_wp2_with fail
      clear k0 k1 k2 k3 k4 k5 g0 g1 g2 g3 g4 g5 hz
      generalize hw5 : w4.setCell ⟨w1.heap.size, 3, none⟩ (.int .i64 z) = w5 at D5 S5 B5 hc5 hal5 ⊢
      have hs5 : w5.heap.size = w4.heap.size := by rw [← hw5]; simp [World.setCell]
      clear hw5
      have hz5 : w.heap.size < w5.heap.size := S5.1
      have hz5' : w1.heap.size < w5.heap.size := D5.1
      refine (l1Below _ sa sl sc _ (by decide) (by decide) _ (hc5.kept (hal5 _) hc5.2.2.1)).mono ?_
      rintro e w6 ⟨x6, rfl, hy60, hy61, hc6, hb6⟩
      obtain ⟨x6, rfl⟩ := Int.eq_ofNat_of_zero_le hy60
      obtain ⟨z6, hz6⟩ := tabAt hb6 (by omega) x6 (by simp; omega) rfl
      rw [hs5] at hz6
      have D6 := (D5.below (hal5 _) hz5').beside hb6 (by omega)
      have S6 := (S5.below (hal5 _) hz5).beside hb6 (by omega)
      have B6 := (B5.below (hal5 _)).trans hb6
      clear D5 S5 B5 hb6 hc5 hal5
      obtain ⟨d0, d1, d2, d3, d4, d5, k0, k1, k2, k3, k4, k5⟩ := D6.cells
      obtain ⟨g0, g1, g2, g3, g4, g5⟩ := D6.free
      obtain ⟨a0, a1, a2, a3, a4, a5, c0, c1, c2, c3, c4, c5⟩ := S6.cells
      obtain ⟨f0, f1, f2, f3, f4, f5⟩ := S6.free
      clear D6 S6
      have hq : Below w.heap.size w6 (w6.setCell ⟨w1.heap.size, 5, none⟩ (.int .i64 z6)) := (Below.refl w.heap.size w6).setCell (show w.heap.size ≤ (⟨w1.heap.size, 5, none⟩ : Addr).block from hdz) _
      go_wp2
      refine bodyPost_ret (v := .agg #[.int .i64 d0, .int .i64 d1, .int .i64 d2, .int .i64 d3, .int .i64 d4, .int .i64 z6]) (by simp [results, Tryd.results33, go_sem, c0, c1, c2, c3, c4, c5]) rfl ⟨⟨_, _, _, _, _, _, rfl⟩, hc6.kept (hq.trans (six_puts _ (Nat.le_refl _) _ _ _ _ _ _)) hbz, B6.grow (hq.trans (six_puts _ (Nat.le_refl _) _ _ _ _ _ _)) (Nat.le_refl _)⟩
end Go.Proofs.YtfflifhcbfoliaaDoor
