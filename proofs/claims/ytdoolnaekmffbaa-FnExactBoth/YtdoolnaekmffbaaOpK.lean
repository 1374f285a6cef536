/-
  Sketches that came in, opened.
-/
import Derived.Test.YtdoolnaekmffbaaRomO
import Derived.Test.YtdoolnaekmffbaaSkA
namespace Go.Proofs.Ytdoolnaekmffbaa
open Go.RowKit Go.ChangeShapes Go.WideShapes Go.ChangeAt Go.Joins
set_option linter.unusedVariables false

theorem open_numsV {H : Type} {enc : TypeId × Value → H} {W : World} {base : Nat} {spare : Nat → Bool} {held : Bool} {fuel : Nat} {c : Value} {x : DataW H × List MemPlace}
    (h : DataW.trod enc Try.prog W base spare held fuel 24 [c] = some x) :
    ∃ l : List Int, Sls intE W c l := by
  rcases open_ints Try.underlying24 Try.underlying2 (by kernel_rfl) h with ⟨hcs, _⟩ | ⟨y, l, cc, zs, hcs, _⟩
  · simp at hcs
    subst hcs
    exact open_nums (sa := none) (sl := 0) (sc := 0) (by simpa [Value.cells] using h)
  · simp at hcs
    subst hcs
    exact open_nums (sa := some y) (sl := l) (sc := cc) (by simpa [Value.cells] using h)
theorem array2k {α : Type} {cs : Array α} (h : cs.size = 2) : ∃ c0 c1, cs = #[c0, c1] := by
  obtain ⟨l⟩ := cs
  match l, h with
  | [c0, c1], _ => exact ⟨c0, c1, rfl⟩
set_option maxRecDepth 100000 in
theorem open_sk {H : Type} {enc : TypeId × Value → H} {w : World} {base : Nat} {spare : Nat → Bool} {held : Bool} {r : Reach} {b0 : Nat} {v : Value} {d : DataW H} {p : List MemPlace}
    (hv : Value.okWide Try.prog w r b0 44 v) (h : DataW.Trod enc Try.prog w base spare held 44 v d p) :
    ∃ (q : Int) (u : Value) (l : List Int), v = skV q u ∧ Sls intE w u l := by
  have hs := Try.underlying44
  obtain ⟨cs, rfl, hsz⟩ := okWide_struct hs hv
  obtain ⟨c0, c1, rfl⟩ := array2k (hsz.trans (by kernel_rfl))
  obtain ⟨fuel, hfu⟩ := h
  obtain ⟨xs, n, _, hx, hl, hlen, hfs⟩ := DataW.trod_struct hs hfu
  match xs, hlen with
  | [y0, y1], _ =>
    have g0 : DataW.trod enc Try.prog w base spare held n 2 [c0] = some y0 := by simpa [Value.cells, show Try.prog.cellsOf 2 = 1 by kernel_rfl] using hfs 0 _ rfl
    have g1 : DataW.trod enc Try.prog w base spare held n 24 [c1] = some y1 := by simpa [Value.cells, show Try.prog.cellsOf 24 = 1 by kernel_rfl] using hfs 1 _ rfl
    obtain ⟨a0, e0, rfl, w0⟩ := DataW.trod_int Try.underlying2 g0
    obtain ⟨l, f1⟩ := open_numsV g1
    simp at e0
    subst e0
    exact ⟨a0, c1, l, rfl, f1⟩
end Go.Proofs.Ytdoolnaekmffbaa
