/-
  A date in a block, and one that a text is the date of.
-/
import Derived.Test.YtfflifhcbfoliaaDoorPrt
import Derived.Test.YtfflifhcbfoliaaDoorAt
namespace Go.Proofs.YtfflifhcbfoliaaDoor
open Go.RowKit Go.Sort

/-- A date in a block. -/
def Dt (w : World) (g : Nat) (y m d h i s : Int) : Prop := g < w.heap.size ∧ w.cell? ⟨g, 0, none⟩ = some (.int .i64 y) ∧ w.cell? ⟨g, 1, none⟩ = some (.int .i64 m) ∧ w.cell? ⟨g, 2, none⟩ = some (.int .i64 d) ∧ w.cell? ⟨g, 3, none⟩ = some (.int .i64 h) ∧ w.cell? ⟨g, 4, none⟩ = some (.int .i64 i) ∧ w.cell? ⟨g, 5, none⟩ = some (.int .i64 s)
theorem Dt.below {w w' : World} {g B : Nat} {y m d h i s : Int} (k : Dt w g y m d h i s) (hb : Below B w w') (hg : g < B) : Dt w' g y m d h i s :=
  ⟨Nat.lt_of_lt_of_le k.1 hb.size, (hb.cell (p := ⟨g, 0, none⟩) hg).trans k.2.1, (hb.cell (p := ⟨g, 1, none⟩) hg).trans k.2.2.1, (hb.cell (p := ⟨g, 2, none⟩) hg).trans k.2.2.2.1, (hb.cell (p := ⟨g, 3, none⟩) hg).trans k.2.2.2.2.1, (hb.cell (p := ⟨g, 4, none⟩) hg).trans k.2.2.2.2.2.1, (hb.cell (p := ⟨g, 5, none⟩) hg).trans k.2.2.2.2.2.2⟩
theorem Dt.grew {w w' : World} {g : Nat} {y m d h i s : Int} (k : Dt w g y m d h i s) (hb : Grew w w') : Dt w' g y m d h i s := k.below hb.1 k.1
theorem Dt.alloc {w : World} {g : Nat} {y m d h i s : Int} (k : Dt w g y m d h i s) (o : Obj) : Dt (w.alloc o) g y m d h i s := k.grew ((Grew.refl w).alloc o)
theorem Dt.born (w : World) (t : TypeId) (y m d h i s : Int) : Dt (w.alloc (.cells #[.int .i64 y, .int .i64 m, .int .i64 d, .int .i64 h, .int .i64 i, .int .i64 s] t)) w.heap.size y m d h i s :=
  ⟨by simp, boxCells (Grew.refl _)⟩

/-- A block of six noughts, not frozen. -/
def Zb (x : World) (g : Nat) : Prop := Dt x g 0 0 0 0 0 0 ∧ ∀ j, x.frozen? ⟨g, j, none⟩ = false
theorem Zb.grew {x x' : World} {g : Nat} (h : Zb x g) (hb : Grew x x') : Zb x' g := ⟨h.1.grew hb, fun j => (hb.1.frozen (p := ⟨g, j, none⟩) h.1.1).trans (h.2 j)⟩
theorem Zb.of {w x : World} {t : TypeId} (hb : Grew (w.alloc (.cells #[.int .i64 0, .int .i64 0, .int .i64 0, .int .i64 0, .int .i64 0, .int .i64 0] t)) x) : Zb x w.heap.size := ⟨(Dt.born w t 0 0 0 0 0 0).grew hb, fun j => boxFree hb j⟩
theorem Zb.puts {x : World} {g : Nat} (z : Zb x g) (v0 v1 v2 v3 v4 v5 : Int) : Dt ((((((x.setCell ⟨g, 0, none⟩ (.int .i64 v0)).setCell ⟨g, 1, none⟩ (.int .i64 v1)).setCell ⟨g, 2, none⟩ (.int .i64 v2)).setCell ⟨g, 3, none⟩ (.int .i64 v3)).setCell ⟨g, 4, none⟩ (.int .i64 v4)).setCell ⟨g, 5, none⟩ (.int .i64 v5)) g v0 v1 v2 v3 v4 v5 := by
  obtain ⟨⟨hz, c0, c1, c2, c3, c4, c5⟩, _⟩ := z
  refine ⟨by simpa [World.setCell] using hz, ?_, ?_, ?_, ?_, ?_, ?_⟩
  all_goals simp [go_sem, c0, c1, c2, c3, c4, c5]
theorem Grew.puts {w x : World} {g : Nat} (h : Grew w x) (hg : w.heap.size ≤ g) (v0 v1 v2 v3 v4 v5 : Value) : Grew w ((((((x.setCell ⟨g, 0, none⟩ v0).setCell ⟨g, 1, none⟩ v1).setCell ⟨g, 2, none⟩ v2).setCell ⟨g, 3, none⟩ v3).setCell ⟨g, 4, none⟩ v4).setCell ⟨g, 5, none⟩ v5) :=
  (((((h.put hg 0 _).put hg 1 _).put hg 2 _).put hg 3 _).put hg 4 _).put hg 5 _
/-- What ReadDate answers: the date that the text is of, or nothing. -/
def ReadIs (t : ByteArray) (v : Value) : Prop := (∃ y m d h i s : Int, okD y m d h i s ∧ showA y m d h i s = t ∧ v = .tuple #[.agg #[.int .i64 y, .int .i64 m, .int .i64 d, .int .i64 h, .int .i64 i, .int .i64 s], .bool true]) ∨ ((∀ y m d h i s : Int, okD y m d h i s → showA y m d h i s ≠ t) ∧ v = .tuple #[.agg #[.int .i64 0, .int .i64 0, .int .i64 0, .int .i64 0, .int .i64 0, .int .i64 0], .bool false])
/-- A text has one date. -/
theorem show_one {y m d h i s y' m' d' h' i' s' : Int} (ok : okD y m d h i s) (ok' : okD y' m' d' h' i' s') {t : ByteArray} (e : showA y m d h i s = t) (e' : showA y' m' d' h' i' s' = t) : y = y' ∧ m = m' ∧ d = d' ∧ h = h' ∧ i = i' ∧ s = s' := by
  obtain ⟨a1, a2, a3, a4, a5, a6, _⟩ := parts_of ok e
  obtain ⟨b1, b2, b3, b4, b5, b6, _⟩ := parts_of ok' e'
  exact ⟨a1.symm.trans b1, a2.symm.trans b2, a3.symm.trans b3, a4.symm.trans b4, a5.symm.trans b5, a6.symm.trans b6⟩
theorem ReadIs.one {t : ByteArray} {v v' : Value} (h : ReadIs t v) (h' : ReadIs t v') : v = v' := by
  rcases h with ⟨y, m, d, hh, i, s, ok, e, rfl⟩ | ⟨no, rfl⟩
  · rcases h' with ⟨y', m', d', hh', i', s', ok', e', rfl⟩ | ⟨no', rfl⟩
    · obtain ⟨rfl, rfl, rfl, rfl, rfl, rfl⟩ := show_one ok ok' e e'
      rfl
    · exact absurd e (no' _ _ _ _ _ _ ok)
  · rcases h' with ⟨y', m', d', hh', i', s', ok', e', rfl⟩ | ⟨no', rfl⟩
    · exact absurd e' (no _ _ _ _ _ _ ok')
    · rfl
theorem showV_full {y m d h i s : Int} {t : ByteArray} (hz : t.size = 29) (e : showV y m d h i s = t) : okD y m d h i s ∧ showA y m d h i s = t := by
  unfold showV at e
  by_cases hok : okB y m d h i s = true
  · rw [if_pos hok] at e
    exact ⟨of_decide_eq_true hok, e⟩
  · rw [if_neg hok] at e
    rw [← e] at hz
    cases hz
theorem showV_of {y m d h i s : Int} (ok : okD y m d h i s) : showV y m d h i s = showA y m d h i s := by
  unfold showV; rw [if_pos (show okB y m d h i s = true from decide_eq_true ok)]
end Go.Proofs.YtfflifhcbfoliaaDoor
