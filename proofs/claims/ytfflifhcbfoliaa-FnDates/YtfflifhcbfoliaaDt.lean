/-
  A date in a block; the moment's date, told; the law FnDates walked.
-/
import Derived.Test.YtfflifhcbfoliaaDrw2
import Derived.Deep.Cut
import Derived.Deep.CutRange
namespace Go.Proofs.Ytfflifhcbfoliaa
open Go.RowKit Go.Sort

/-- A date in a block. -/
def Dt (w : World) (g : Nat) (y m d h i s : Int) : Prop := g < w.heap.size ∧ w.cell? ⟨g, 0, none⟩ = some (.int .i64 y) ∧ w.cell? ⟨g, 1, none⟩ = some (.int .i64 m) ∧ w.cell? ⟨g, 2, none⟩ = some (.int .i64 d) ∧ w.cell? ⟨g, 3, none⟩ = some (.int .i64 h) ∧ w.cell? ⟨g, 4, none⟩ = some (.int .i64 i) ∧ w.cell? ⟨g, 5, none⟩ = some (.int .i64 s)
theorem Dt.below {w w' : World} {g B : Nat} {y m d h i s : Int} (k : Dt w g y m d h i s) (hb : Below B w w') (hg : g < B) : Dt w' g y m d h i s :=
  ⟨Nat.lt_of_lt_of_le k.1 hb.size, (hb.cell (p := ⟨g, 0, none⟩) hg).trans k.2.1, (hb.cell (p := ⟨g, 1, none⟩) hg).trans k.2.2.1, (hb.cell (p := ⟨g, 2, none⟩) hg).trans k.2.2.2.1, (hb.cell (p := ⟨g, 3, none⟩) hg).trans k.2.2.2.2.1, (hb.cell (p := ⟨g, 4, none⟩) hg).trans k.2.2.2.2.2.1, (hb.cell (p := ⟨g, 5, none⟩) hg).trans k.2.2.2.2.2.2⟩
theorem Dt.grew {w w' : World} {g : Nat} {y m d h i s : Int} (k : Dt w g y m d h i s) (hb : Grew w w') : Dt w' g y m d h i s := k.below hb.1 k.1
theorem Dt.alloc {w : World} {g : Nat} {y m d h i s : Int} (k : Dt w g y m d h i s) (o : Obj) : Dt (w.alloc o) g y m d h i s := k.grew ((Grew.refl w).alloc o)
theorem Dt.born (w : World) (t : TypeId) (y m d h i s : Int) : Dt (w.alloc (.cells #[.int .i64 y, .int .i64 m, .int .i64 d, .int .i64 h, .int .i64 i, .int .i64 s] t)) w.heap.size y m d h i s :=
  ⟨by simp, boxCells (Grew.refl _)⟩

theorem implAtIs {y m d h i s n : Int} (ok : okD y m d h i s) (hm : momN y m d h i s = n) (w : World) :
    Calls Try.prog 14 #[.int .i64 n] w fun e w' => e = .returned (.agg #[.int .i64 y, .int .i64 m, .int .i64 d, .int .i64 h, .int .i64 i, .int .i64 s]) ∧ Grew w w' := by
  have hb := day_bd (show dayOk y m d from ⟨ok.1, ok.2.1, ok.2.2.1⟩)
  have hr : 0 ≤ n ∧ n ≤ 253402300799 := by
    obtain ⟨_, _, _, h4, h5, h6⟩ := ok
    unfold momN at hm; omega
  refine (implAt_in n w hr.1 hr.2).mono ?_
  rintro e w' ⟨⟨y', m', d', h', i', s', rfl, ok', hm'⟩, hg⟩
  obtain ⟨rfl, rfl, rfl, rfl, rfl, rfl⟩ := mom_one ok' ok (hm'.trans hm.symm)
  exact ⟨rfl, hg⟩
theorem specAtIs {y m d h i s n : Int} (ok : okD y m d h i s) (hm : momN y m d h i s = n) (w : World) :
    Calls Try.prog 16 #[.int .i64 n] w fun e w' => e = .returned (.agg #[.int .i64 y, .int .i64 m, .int .i64 d, .int .i64 h, .int .i64 i, .int .i64 s]) ∧ Grew w w' := by
  have hb := day_bd (show dayOk y m d from ⟨ok.1, ok.2.1, ok.2.2.1⟩)
  have hr : 0 ≤ n ∧ n ≤ 253402300799 := by
    obtain ⟨_, _, _, h4, h5, h6⟩ := ok
    unfold momN at hm; omega
  refine (specAt_in n w hr.1 hr.2).mono ?_
  rintro e w' ⟨⟨y', m', d', h', i', s', rfl, ok', hm'⟩, hg⟩
  obtain ⟨rfl, rfl, rfl, rfl, rfl, rfl⟩ := mom_one ok' ok (hm'.trans hm.symm)
  exact ⟨rfl, hg⟩
/-- Whatever the moment: the program's answer is the specification's; in range it is the date of that moment. -/
theorem implAtAll (n : Int) (w : World) :
    Calls Try.prog 14 #[.int .i64 n] w fun e w' => (∃ y m d h i s : Int, e = .returned (.agg #[.int .i64 y, .int .i64 m, .int .i64 d, .int .i64 h, .int .i64 i, .int .i64 s]) ∧
      (∀ w, Calls Try.prog 16 #[.int .i64 n] w fun e w' => e = .returned (.agg #[.int .i64 y, .int .i64 m, .int .i64 d, .int .i64 h, .int .i64 i, .int .i64 s]) ∧ Grew w w') ∧
      (0 ≤ n ∧ n ≤ 253402300799 → okD y m d h i s ∧ momN y m d h i s = n)) ∧ Grew w w' := by
  by_cases hr : 0 ≤ n ∧ n ≤ 253402300799
  · refine (implAt_in n w hr.1 hr.2).mono ?_
    rintro e w' ⟨⟨y, m, d, h, i, s, rfl, ok, hm⟩, hg⟩
    exact ⟨⟨y, m, d, h, i, s, rfl, fun w => specAtIs ok hm w, fun _ => ⟨ok, hm⟩⟩, hg⟩
  · refine (implAt_out n w (by omega)).mono ?_
    rintro e w' ⟨rfl, hg⟩
    exact ⟨⟨0, 0, 0, 0, 0, 0, rfl, fun w => specAt_out n w (by omega), fun h => absurd h hr⟩, hg⟩
/-- The cells of a date, in every world that grew. -/
theorem Dt.facts {w : World} {g : Nat} {y m d h i s : Int} (k : Dt w g y m d h i s) : (∀ n os, (grow (w.drewN n) os).cell? ⟨g, 0, none⟩ = some (.int .i64 y)) ∧ (∀ n os, (grow (w.drewN n) os).cell? ⟨g, 1, none⟩ = some (.int .i64 m)) ∧ (∀ n os, (grow (w.drewN n) os).cell? ⟨g, 2, none⟩ = some (.int .i64 d)) ∧ (∀ n os, (grow (w.drewN n) os).cell? ⟨g, 3, none⟩ = some (.int .i64 h)) ∧ (∀ n os, (grow (w.drewN n) os).cell? ⟨g, 4, none⟩ = some (.int .i64 i)) ∧ (∀ n os, (grow (w.drewN n) os).cell? ⟨g, 5, none⟩ = some (.int .i64 s)) := by
  have q := fun n os => k.grew (((Grew.refl w).drewN n).more os)
  exact ⟨fun n os => (q n os).2.1, fun n os => (q n os).2.2.1, fun n os => (q n os).2.2.2.1, fun n os => (q n os).2.2.2.2.1, fun n os => (q n os).2.2.2.2.2.1, fun n os => (q n os).2.2.2.2.2.2⟩
end Go.Proofs.Ytfflifhcbfoliaa
