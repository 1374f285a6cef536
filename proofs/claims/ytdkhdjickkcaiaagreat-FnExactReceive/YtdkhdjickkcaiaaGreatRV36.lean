/-
  Messages and replicas that came in, opened.
-/
import Derived.Test.YtdkhdjickkcaiaaGreatRVS
import Derived.Test.YtdkhdjickkcaiaaGreatRV35
import Derived.Test.YtdkhdjickkcaiaaGreatRV14
import Derived.Deep.SlicePairs
set_option linter.unusedVariables false
set_option linter.unusedSimpArgs false
set_option maxRecDepth 100000
set_option maxHeartbeats 64000000
namespace Go.Proofs.YtdkhdjickkcaiaaGreat.Rl
open Go.RowKit Go.ChangeShapes Go.WideShapes Go.ChangeAt Go.Joins Go.Deep Go.Sort

theorem open_txsR {H : Type} {enc : TypeId × Value → H} {W : World} {base : Nat} {spare : Nat → Bool} {held : Bool} {fuel : Nat} {c : Value} {x : DataW H × List MemPlace}
  (h : DataW.trod enc Tryz.prog W base spare held fuel 24 [c] = some x) :
  ∃ l : List ByteArray, Sls txtE W c l ∧ ∀ p ∈ l, p.size ≤ maxLen := by
 rcases open_strings Tryz.underlying24 Tryz.underlying9 (by kernel_rfl) h with ⟨hcs, _⟩ | ⟨a, len, cap, ss, hcs, _⟩
 ·
  simp at hcs
  subst hcs
  exact open_txs (sa := none) (sl := 0) (sc := 0) (by simpa [Value.cells] using h)
 ·
  simp at hcs
  subst hcs
  exact open_txs (sa := some a) (sl := len) (sc := cap) (by simpa [Value.cells] using h)
theorem open_numsR {H : Type} {enc : TypeId × Value → H} {W : World} {base : Nat} {spare : Nat → Bool} {held : Bool} {fuel : Nat} {c : Value} {x : DataW H × List MemPlace}
  (h : DataW.trod enc Tryz.prog W base spare held fuel 25 [c] = some x) :
  ∃ l : List Int, Sls intE W c l := by
 rcases open_ints Tryz.underlying25 Tryz.underlying2 (by kernel_rfl) h with ⟨hcs, _⟩ | ⟨y, l, cc, zs, hcs, _⟩
 ·
  simp at hcs
  subst hcs
  exact open_nums (sa := none) (sl := 0) (sc := 0) (by simpa [Value.cells] using h)
 ·
  simp at hcs
  subst hcs
  exact open_nums (sa := some y) (sl := l) (sc := cc) (by simpa [Value.cells] using h)
theorem open_ms7 {H : Type} {enc : TypeId × Value → H} {W : World} {base : Nat} {spare : Nat → Bool} {held : Bool} {fuel : Nat} {cs : List Value} {x : DataW H × List MemPlace}
  (h : DataW.trod enc Tryz.prog W base spare held fuel 54 cs = some x) :
  ∃ (m : Ms) (u : Value), cs = [.int .i64 m.k, .int .i64 m.f, .int .i64 m.t, .int .i64 m.v, .int .i64 m.la, u, .int .i64 m.c] ∧ Sls txtE W u m.l ∧ ∀ p ∈ m.l, p.size ≤ maxLen := by
 obtain ⟨xs, n, _, hx, hl, hlen, hfs⟩ := DataW.trod_struct Tryz.underlying54 h
 have hl : cs.length = 7 := hl.trans (by kernel_rfl)
 match xs, hlen, cs, hl with
 | [y0, y1, y2, y3, y4, y5, y6], _, [c0, c1, c2, c3, c4, c5, c6], _ =>
  have g0 : DataW.trod enc Tryz.prog W base spare held n 2 [c0] = some y0 := by simpa [show Tryz.prog.cellsOf 2 = 1 by kernel_rfl] using hfs 0 _ rfl
  have g1 : DataW.trod enc Tryz.prog W base spare held n 2 [c1] = some y1 := by simpa [show Tryz.prog.cellsOf 2 = 1 by kernel_rfl] using hfs 1 _ rfl
  have g2 : DataW.trod enc Tryz.prog W base spare held n 2 [c2] = some y2 := by simpa [show Tryz.prog.cellsOf 2 = 1 by kernel_rfl] using hfs 2 _ rfl
  have g3 : DataW.trod enc Tryz.prog W base spare held n 2 [c3] = some y3 := by simpa [show Tryz.prog.cellsOf 2 = 1 by kernel_rfl] using hfs 3 _ rfl
  have g4 : DataW.trod enc Tryz.prog W base spare held n 2 [c4] = some y4 := by simpa [show Tryz.prog.cellsOf 2 = 1 by kernel_rfl] using hfs 4 _ rfl
  have g5 : DataW.trod enc Tryz.prog W base spare held n 24 [c5] = some y5 := by simpa [show Tryz.prog.cellsOf 24 = 1 by kernel_rfl] using hfs 5 _ rfl
  have g6 : DataW.trod enc Tryz.prog W base spare held n 2 [c6] = some y6 := by simpa [show Tryz.prog.cellsOf 2 = 1 by kernel_rfl] using hfs 6 _ rfl
  obtain ⟨a0, e0, _, w0⟩ := DataW.trod_int Tryz.underlying2 g0
  obtain ⟨a1, e1, _, w1⟩ := DataW.trod_int Tryz.underlying2 g1
  obtain ⟨a2, e2, _, w2⟩ := DataW.trod_int Tryz.underlying2 g2
  obtain ⟨a3, e3, _, w3⟩ := DataW.trod_int Tryz.underlying2 g3
  obtain ⟨a4, e4, _, w4⟩ := DataW.trod_int Tryz.underlying2 g4
  obtain ⟨a6, e6, _, w6⟩ := DataW.trod_int Tryz.underlying2 g6
  obtain ⟨l, f5, z5⟩ := open_txsR g5
  simp at e0 e1 e2 e3 e4 e6
  subst e0 e1 e2 e3 e4 e6
  exact ⟨⟨a0, a1, a2, a3, a4, l, a6⟩, c5, rfl, f5, z5⟩
theorem open_mss {H : Type} {enc : TypeId × Value → H} {W : World} {base : Nat} {spare : Nat → Bool} {held : Bool} {fuel : Nat} {c : Value} {x : DataW H × List MemPlace}
  (h : DataW.trod enc Tryz.prog W base spare held fuel 51 [c] = some x) :
  ∃ L : List Mx, TeGot W c L ∧ (∀ x ∈ L, x.m.l.length ≤ maxLen ∧ ∀ p ∈ x.m.l, p.size ≤ maxLen) ∧ L.length ≤ maxLen := by
 rcases Deep.open_slice Tryz.underlying51 h with ⟨hcs, _⟩ | ⟨a, len, cap, m, n, D, Pl, hcs, hb, hl, hm, hmm, _, hx⟩
 ·
  simp at hcs
  subst hcs
  exact ⟨[], ⟨Sls.nil (Nat.zero_le _), fun x hx => (by cases hx)⟩, fun x hx => (by cases hx), Nat.zero_le _⟩
 ·
  simp at hcs
  subst hcs
  have hlm : len ≤ m := by rw [hmm]; split <;> omega
  have each : ∀ i, i < len → ∃ y : Mx, (∀ j, j < 7 → W.cell? (a.add (i * 7 + j)) = (mxC y)[j]?) ∧ Sls txtE W y.u y.m.l ∧ y.m.l.length ≤ maxLen ∧ ∀ p ∈ y.m.l, p.size ≤ maxLen := by
   intro i hi
   obtain ⟨cs', h1, h2⟩ := hx i (by omega)
   obtain ⟨ms, u, rfl, hs, hz⟩ := open_ms7 h2
   obtain ⟨_, hlen, hcell⟩ := World.cells?_some h1
   obtain ⟨la, lc, hv⟩ := Sls.slen hs
   have hlen2 : ms.l.length ≤ maxLen := by obtain ⟨_, _, _, q1, q2, _⟩ := hs; omega
   subst hv
   have hk : Tryz.prog.cellsOf 54 = 7 := by kernel_rfl
   rw [hk] at hcell
   refine ⟨⟨ms, la, lc⟩, fun j hj => ?_, hs, hlen2, hz⟩
   have := hcell j hj
   rw [Deep.add_add] at this
   exact this
  haveI : Inhabited Mx := ⟨⟨⟨0, 0, 0, 0, 0, [], 0⟩, none, 0⟩⟩
  obtain ⟨f, hf⟩ := Deep.choose_lt (α := Mx) (p := fun i y => (∀ j, j < 7 → W.cell? (a.add (i * 7 + j)) = (mxC y)[j]?) ∧ Sls txtE W y.u y.m.l ∧ y.m.l.length ≤ maxLen ∧ ∀ p ∈ y.m.l, p.size ≤ maxLen) each
  refine ⟨(List.range len).map f, ⟨⟨some a, cap, by simp, by simpa using hl, hm, fun h0 => ?_⟩, fun x hx => ?_⟩, fun x hx => ?_, by simp; omega⟩
  ·
   have h0' : 0 < len := by simpa using h0
   have c0 := (hf 0 h0').1 0 (by decide)
   obtain ⟨b, o, sp⟩ := a
   have c0 : W.cell? ((⟨b, o, sp⟩ : Addr).add 0) = some (.int .i64 (f 0).m.k) := by simpa [mxC] using c0
   have hsp : sp = Option.none := by
    have : W.cell? ⟨b, o, sp⟩ = some (.int .i64 (f 0).m.k) := by simpa [Addr.add] using c0
    exact Go.Proofs.cell_spot this
   subst hsp
   have hlt : b < W.heap.size := by
    rw [addr_add] at c0
    exact cell_ltO c0
   refine ⟨b, o, rfl, hlt, fun j u hu => ?_⟩
   have hj2 : j < len * 7 := by
    have := (List.getElem?_eq_some_iff.1 hu).1
    rw [cellsE_length, List.length_map, List.length_range] at this
    exact this
   have c1 := (hf (j / 7) (by omega)).1 (j % 7) (Nat.mod_lt _ (by decide))
   have q := cellsE_at mxE ((List.range len).map f) (j / 7) (by simp; omega) (j % 7) (Nat.mod_lt _ (by decide))
   rw [show j / 7 * mxE.k + j % 7 = j from by show j / 7 * 7 + j % 7 = j; omega] at q
   rw [q] at hu
   rw [addr_add, show j / 7 * 7 + j % 7 = j by omega] at c1
   rw [c1]
   simpa [mxE] using hu
  ·
   obtain ⟨i, hi, rfl⟩ := List.mem_map.1 hx
   exact (hf i (by simpa using hi)).2.1
  ·
   obtain ⟨i, hi, rfl⟩ := List.mem_map.1 hx
   exact (hf i (by simpa using hi)).2.2
theorem array10 {α : Type} {cs : Array α} (h : cs.size = 10) : ∃ c0 c1 c2 c3 c4 c5 c6 c7 c8 c9, cs = #[c0, c1, c2, c3, c4, c5, c6, c7, c8, c9] := by
 obtain ⟨l⟩ := cs
 match l, h with
 | [c0, c1, c2, c3, c4, c5, c6, c7, c8, c9], _ => exact ⟨c0, c1, c2, c3, c4, c5, c6, c7, c8, c9, rfl⟩
theorem array7r {α : Type} {cs : Array α} (h : cs.size = 7) : ∃ c0 c1 c2 c3 c4 c5 c6, cs = #[c0, c1, c2, c3, c4, c5, c6] := by
 obtain ⟨l⟩ := cs
 match l, h with
 | [c0, c1, c2, c3, c4, c5, c6], _ => exact ⟨c0, c1, c2, c3, c4, c5, c6, rfl⟩
theorem open_rp {H : Type} {enc : TypeId × Value → H} {w : World} {base : Nat} {spare : Nat → Bool} {held : Bool} {r : Reach} {b0 : Nat} {v : Value} {d : DataW H} {p : List MemPlace}
  (hv : Value.okWide Tryz.prog w r b0 53 v) (h : DataW.Trod enc Tryz.prog w base spare held 53 v d p) :
  ∃ (q : Rp) (u : Rv), v = rpA q u ∧ RpGot w u q ∧ Lens q := by
 have hs := Tryz.underlying53
 obtain ⟨cs, rfl, hsz⟩ := okWide_struct hs hv
 obtain ⟨c0, c1, c2, c3, c4, c5, c6, c7, c8, c9, rfl⟩ := array10 (hsz.trans (by kernel_rfl))
 obtain ⟨fuel, hfu⟩ := h
 obtain ⟨xs, n, _, hx, hl, hlen, hfs⟩ := DataW.trod_struct hs hfu
 match xs, hlen with
 | [y0, y1, y2, y3, y4, y5, y6, y7, y8, y9], _ =>
  have g0 : DataW.trod enc Tryz.prog w base spare held n 2 [c0] = some y0 := by simpa [Value.cells, show Tryz.prog.cellsOf 2 = 1 by kernel_rfl] using hfs 0 _ rfl
  have g1 : DataW.trod enc Tryz.prog w base spare held n 2 [c1] = some y1 := by simpa [Value.cells, show Tryz.prog.cellsOf 2 = 1 by kernel_rfl] using hfs 1 _ rfl
  have g2 : DataW.trod enc Tryz.prog w base spare held n 2 [c2] = some y2 := by simpa [Value.cells, show Tryz.prog.cellsOf 2 = 1 by kernel_rfl] using hfs 2 _ rfl
  have g3 : DataW.trod enc Tryz.prog w base spare held n 4 [c3] = some y3 := by simpa [Value.cells, show Tryz.prog.cellsOf 4 = 1 by kernel_rfl] using hfs 3 _ rfl
  have g4 : DataW.trod enc Tryz.prog w base spare held n 2 [c4] = some y4 := by simpa [Value.cells, show Tryz.prog.cellsOf 2 = 1 by kernel_rfl] using hfs 4 _ rfl
  have g5 : DataW.trod enc Tryz.prog w base spare held n 24 [c5] = some y5 := by simpa [Value.cells, show Tryz.prog.cellsOf 24 = 1 by kernel_rfl] using hfs 5 _ rfl
  have g6 : DataW.trod enc Tryz.prog w base spare held n 2 [c6] = some y6 := by simpa [Value.cells, show Tryz.prog.cellsOf 2 = 1 by kernel_rfl] using hfs 6 _ rfl
  have g7 : DataW.trod enc Tryz.prog w base spare held n 25 [c7] = some y7 := by simpa [Value.cells, show Tryz.prog.cellsOf 25 = 1 by kernel_rfl] using hfs 7 _ rfl
  have g8 : DataW.trod enc Tryz.prog w base spare held n 25 [c8] = some y8 := by simpa [Value.cells, show Tryz.prog.cellsOf 25 = 1 by kernel_rfl] using hfs 8 _ rfl
  have g9 : DataW.trod enc Tryz.prog w base spare held n 51 [c9] = some y9 := by simpa [Value.cells, show Tryz.prog.cellsOf 51 = 1 by kernel_rfl] using hfs 9 _ rfl
  obtain ⟨a0, e0, _, w0⟩ := DataW.trod_int Tryz.underlying2 g0
  obtain ⟨a1, e1, _, w1⟩ := DataW.trod_int Tryz.underlying2 g1
  obtain ⟨a2, e2, _, w2⟩ := DataW.trod_int Tryz.underlying2 g2
  obtain ⟨a4, e4, _, w4⟩ := DataW.trod_int Tryz.underlying2 g4
  obtain ⟨a6, e6, _, w6⟩ := DataW.trod_int Tryz.underlying2 g6
  obtain ⟨a3, e3, _⟩ := DataW.trod_bool Tryz.underlying4 g3
  obtain ⟨l, f5, z5⟩ := open_txsR g5
  obtain ⟨ok, f7⟩ := open_numsR g7
  obtain ⟨ch, f8⟩ := open_numsR g8
  obtain ⟨T, f9, z9, n9⟩ := open_mss g9
  simp at e0 e1 e2 e3 e4 e6
  subst e0 e1 e2 e3 e4 e6
  have n5 : l.length ≤ maxLen := by obtain ⟨_, _, _, q1, q2, _⟩ := f5; omega
  have n7 : ok.length ≤ maxLen := by obtain ⟨_, _, _, q1, q2, _⟩ := f7; omega
  have n8 : ch.length ≤ maxLen := by obtain ⟨_, _, _, q1, q2, _⟩ := f8; omega
  refine ⟨⟨a0, a1, a2, a3, a4, l, a6, ok, ch, T.map (·.m)⟩, ⟨c5, c7, c8, c9, T⟩, rfl, ⟨f5, f7, f8, rfl, f9⟩, ⟨⟨n5, z5⟩, n7, n8, by simpa using n9, fun m hm => ?_⟩⟩
  obtain ⟨x, hx, rfl⟩ := List.mem_map.1 hm
  exact z9 x hx
theorem open_ms {H : Type} {enc : TypeId × Value → H} {w : World} {base : Nat} {spare : Nat → Bool} {held : Bool} {r : Reach} {b0 : Nat} {v : Value} {d : DataW H} {p : List MemPlace}
  (hv : Value.okWide Tryz.prog w r b0 54 v) (h : DataW.Trod enc Tryz.prog w base spare held 54 v d p) :
  ∃ (m : Ms) (u : Value), v = msA m u ∧ Sls txtE w u m.l ∧ m.l.length ≤ maxLen ∧ ∀ p ∈ m.l, p.size ≤ maxLen := by
 have hs := Tryz.underlying54
 obtain ⟨cs, rfl, hsz⟩ := okWide_struct hs hv
 obtain ⟨c0, c1, c2, c3, c4, c5, c6, rfl⟩ := array7r (hsz.trans (by kernel_rfl))
 obtain ⟨fuel, hfu⟩ := h
 obtain ⟨m, u, hc, hs2, hz⟩ := open_ms7 hfu
 simp [Value.cells] at hc
 obtain ⟨rfl, rfl, rfl, rfl, rfl, rfl, rfl⟩ := hc
 have n5 : m.l.length ≤ maxLen := by obtain ⟨_, _, _, q1, q2, _⟩ := hs2; omega
 exact ⟨m, c5, rfl, hs2, n5, hz⟩
end Go.Proofs.YtdkhdjickkcaiaaGreat.Rl
