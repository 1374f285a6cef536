/-
  The walks of the exact laws of spans, given what the program's own functions answer.
-/
import Derived.Test.YtamfgjgmnnnjpaaDoorSpnD
import Derived.Test.YtamfgjgmnnnjpaaDoorSpnE
namespace Go.Proofs.YtamfgjgmnnnjpaaDoor
open Go.RowKit Go.Sort
set_option linter.unusedVariables false

theorem past8 {w w1 w2 : World} (h : Below w.heap.size w w1) (hb : Below w1.heap.size w1 w2) : Below w.heap.size w w2 := h.trans (hb.mono h.size)
theorem txt8 (a : ByteArray) : (a.toList == a.toList) = true := by simp
set_option maxHeartbeats 1000000 in
theorem walkShw (X : World → Prop) (hX : ∀ w w', X w → Below w.heap.size w w' → X w') (hi : ∀ (x : Sp) (n : Int) (w : World), X w → InR x → -9223372036854775808 ≤ n → n ≤ 9223372036854775807 → Calls Tryd.prog 15 #[spV x, .int .i64 n] w fun e w' => e = .returned (.string (shwS x n)) ∧ Below w.heap.size w w')
    (x : Sp) (n : Int) (w : World) (hr : InR x) (hn0 : -9223372036854775808 ≤ n) (hn1 : n ≤ 9223372036854775807) (hx : X w) :
    Calls Tryd.prog 5 #[spV x, .int .i64 n] w fun e w' => e = .returned (.bool true) ∧ Below w.heap.size w w' := by
  have hto := fun W => toSp1 x W
  have B0 : Hid (Below w.heap.size w (w.alloc (.cells #[.int .i64 x.1, .int .i64 x.2] 43))) := (Below.refl _ w).alloc (by simp <;> omega) _
  have c0 : Hid (∀ W, Below w.heap.size.succ (w.alloc (.cells #[.int .i64 x.1, .int .i64 x.2] 43)) W → W.cell? ⟨w.heap.size, 0, Option.none⟩ = some (.int .i64 x.1) ∧ W.cell? ⟨w.heap.size, 1, Option.none⟩ = some (.int .i64 x.2)) := fun W hW =>
    ⟨(hW.cell (p := ⟨w.heap.size, 0, Option.none⟩) (Nat.lt_succ_self _)).trans (World.cell?_alloc_mark _ _ _ _ _), (hW.cell (p := ⟨w.heap.size, 1, Option.none⟩) (Nat.lt_succ_self _)).trans (World.cell?_alloc_mark _ _ _ _ _)⟩
  have hsp := fun W => specShw x n W hr hn1
  have him := fun W hW => hi x n W hW hr hn0 hn1
  generalize shwS x n = r at hsp him
  have dr := txt8 r
  have X0 : Hid (∀ W, Below w.heap.size w W → X W) := fun W hb => hX w W hx hb
  clear hi hX
  unfold spV at hto hsp him ⊢
  go_enter Tryd.func5, Tryd.ntmps5
  go_wp2_with fail
  refine (hto _).mono ?_
  rintro e w1 ⟨rfl, hb1⟩
  have B1 : Hid (Below w.heap.size w w1) := past8 B0.out hb1
  have C1 : Hid (Below w.heap.size.succ (w.alloc (.cells #[.int .i64 x.1, .int .i64 x.2] 43)) w1) := by have := hb1; simp only [World.size_alloc] at this; exact this
  clear hb1
  go_wp2_with fail
  refine (hsp _).mono ?_
  rintro e w2 ⟨rfl, hb2⟩
  have B2 : Hid (Below w.heap.size w w2) := past8 B1.out hb2
  have C2 : Hid (Below w.heap.size.succ (w.alloc (.cells #[.int .i64 x.1, .int .i64 x.2] 43)) w2) := C1.out.trans (hb2.mono (by have := C1.out.size; simp at this; omega))
  obtain ⟨d0, d1⟩ := c0.out w2 C2.out
  clear hb2 B1 C1
  go_wp2_with fail
  refine (hto _).mono ?_
  rintro e w3 ⟨rfl, hb3⟩
  have B3 : Hid (Below w.heap.size w w3) := past8 B2.out hb3
  clear hb3 B2 C2 d0 d1
  go_wp2_with fail
  refine (him _ (X0.out _ B3.out)).mono ?_
  rintro e w4 ⟨rfl, hb4⟩
  have B4 : Hid (Below w.heap.size w w4) := past8 B3.out hb4
  clear hb4 B3
  go_wp2
  go_ret
  exact ⟨rfl, B4.out⟩
end Go.Proofs.YtamfgjgmnnnjpaaDoor
