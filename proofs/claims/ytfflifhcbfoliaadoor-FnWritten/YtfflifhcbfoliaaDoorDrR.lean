/-
  The drawing functions of shown dates and of texts to be read.
-/
import Derived.Test.YtfflifhcbfoliaaDoorBend
import Derived.Test.YtfflifhcbfoliaaDoorRdi
import Derived.Test.YtfflifhcbfoliaaDoorRds
namespace Go.Proofs.YtfflifhcbfoliaaDoor
open Go.RowKit Go.Sort

set_option maxHeartbeats 1000000 in
theorem drawShowDate (sa : Option Addr) (sl sc : Nat) (w : World) (hc : Code8 w w.heap.size sa sl) (hl : sl ≤ 4096) :
    Calls Tryd.prog 7 #[.slice sa sl sc] w fun e w' => (∃ y m d h i s : Int, e = .returned (.agg #[.int .i64 y, .int .i64 m, .int .i64 d, .int .i64 h, .int .i64 i, .int .i64 s])) ∧ Below w.heap.size w w' := by
  have hal := fun o => (Below.refl w.heap.size w).alloc (Nat.le_refl _) o
  go_enter Tryd.func7, Tryd.ntmps7
  go_wp2_with fail
  refine (drawDateOk sa sl sc _ (hc.up (hal _)) hl).mono ?_
  rintro e w1 ⟨⟨y, m, d, h, i, s, rfl⟩, hb1⟩
  have S2 : Six w1 w.heap.size := (Six.born w 25 0 0 0 0 0 0).below hb1 (by simp)
  have B2 : Below w.heap.size w w1 := (hal _).trans (lower hb1 (by simp))
  clear hb1 hal
  obtain ⟨a0, a1, a2, a3, a4, a5, c0, c1, c2, c3, c4, c5⟩ := S2.cells
  obtain ⟨f0, f1, f2, f3, f4, f5⟩ := S2.free
  clear S2
  go_wp2
  refine bodyPost_ret (v := .agg #[.int .i64 y, .int .i64 m, .int .i64 d, .int .i64 h, .int .i64 i, .int .i64 s]) (by simp [results, Tryd.results7, go_sem, c0, c1, c2, c3, c4, c5]) rfl ⟨⟨_, _, _, _, _, _, rfl⟩, B2.trans (six_puts _ (Nat.le_refl _) _ _ _ _ _ _)⟩

theorem showV_size (y m d h i s : Int) : (showV y m d h i s).size ≤ 29 := by
  unfold showV
  split
  · rw [showA_size]; omega
  · show 0 ≤ 29; omega

set_option maxHeartbeats 1000000 in
theorem drawReadDate (sa : Option Addr) (sl sc : Nat) (w : World) (hc : Code8 w w.heap.size sa sl) (hl : sl ≤ 4096) :
    Calls Tryd.prog 13 #[.slice sa sl sc] w fun e w' => (∃ t : ByteArray, e = .returned (.string t) ∧ t.size ≤ 1000) ∧ Below w.heap.size w w' := by
  go_enter Tryd.func13, Tryd.ntmps13
  go_wp2_with fail
  refine (l1New sa sl sc _ hc hl).mono ?_
  rintro e w1 ⟨rfl, hc1, hb1⟩
  go_wp2_with fail
  refine (l2DrawAny _ sa sl sc _ hc1).mono ?_
  rintro e w2 ⟨⟨y, m, d, h, i, s, rfl⟩, hc2, hb2⟩
  have B2 : Below w.heap.size w w2 := hb1.trans (hb2.low (Nat.le_refl _) hb1.size)
  clear hb1 hb2 hc1
  go_wp2_with fail
  refine (specShow _ _ _ _ _ _ _).mono ?_
  rintro e w3 ⟨rfl, hg3⟩
  have hz3 : w.heap.size < w2.heap.size := hc2.2.2.1
  have hc3 := hc2.kept hg3.low hz3
  have B3 : Below w.heap.size w w3 := B2.trans (lower hg3.low (Nat.le_of_lt hz3))
  have hsz := showV_size y m d h i s
  generalize showV y m d h i s = S at hsz ⊢
  clear hg3 hc2 B2 hz3
  go_wp2_with fail
  refine (l1Once _ sa sl sc _ (by decide) (by decide) _ hc3).mono ?_
  rintro e w4 ⟨t, rfl, hc4, hb4⟩
  have B4 : Below w.heap.size w w4 := B3.trans (hb4.low (Nat.le_refl _) B3.size)
  clear hb4 hc3 B3
  cases t with
  | false =>
    go_wp2
    go_ret
    exact ⟨⟨S, rfl, by omega⟩, B4⟩
  | true =>
    go_wp2_with fail
    refine (l1Bend _ sa sl sc S _ (by omega) (by decide) (by decide) _ hc4).mono ?_
    rintro e w5 ⟨t, rfl, htz, hc5, hb5⟩
    have B5 : Below w.heap.size w w5 := B4.trans (hb5.low (Nat.le_refl _) B4.size)
    clear hb5 hc5 hc4 B4
    go_wp2
    go_ret
    exact ⟨⟨t, rfl, by omega⟩, B5⟩
end Go.Proofs.YtfflifhcbfoliaaDoor
