/-
  Messages and replicas that came in, opened.
  The laws' helpers on replicas: turned, marked, held.
  Rows of replicas in memory.
-/
import Derived.Test.YtdkhdjickkcaiaaRK06
import Derived.Test.YtdkhdjickkcaiaaRK09
import Derived.Test.YtdkhdjickkcaiaaRK17
import Derived.Deep.SlicePairs
namespace Go.Proofs.Ytdkhdjickkcaiaa.Rl
open Go.RowKit Go.ChangeShapes Go.WideShapes Go.ChangeAt Go.Joins Go.Deep Go.Sort
set_option linter.unusedVariables false

theorem open_txsR {H : Type} {enc : TypeId × Value → H} {W : World} {base : Nat} {spare : Nat → Bool} {held : Bool} {fuel : Nat} {c : Value} {x : DataW H × List MemPlace}
    (h : DataW.trod enc Try.prog W base spare held fuel 40 [c] = some x) :
    ∃ l : List ByteArray, Sls txtE W c l ∧ ∀ p ∈ l, p.size ≤ maxLen := by
  rcases open_strings Try.underlying40 Try.underlying9 (by kernel_rfl) h with ⟨hcs, _⟩ | ⟨a, len, cap, ss, hcs, _⟩
  · simp at hcs
    subst hcs
    exact open_txs (sa := none) (sl := 0) (sc := 0) (by simpa [Value.cells] using h)
  · simp at hcs
    subst hcs
    exact open_txs (sa := some a) (sl := len) (sc := cap) (by simpa [Value.cells] using h)
theorem open_numsR {H : Type} {enc : TypeId × Value → H} {W : World} {base : Nat} {spare : Nat → Bool} {held : Bool} {fuel : Nat} {c : Value} {x : DataW H × List MemPlace}
    (h : DataW.trod enc Try.prog W base spare held fuel 41 [c] = some x) :
    ∃ l : List Int, Sls intE W c l := by
  rcases open_ints Try.underlying41 Try.underlying2 (by kernel_rfl) h with ⟨hcs, _⟩ | ⟨y, l, cc, zs, hcs, _⟩
  · simp at hcs
    subst hcs
    exact open_nums (sa := none) (sl := 0) (sc := 0) (by simpa [Value.cells] using h)
  · simp at hcs
    subst hcs
    exact open_nums (sa := some y) (sl := l) (sc := cc) (by simpa [Value.cells] using h)
set_option maxRecDepth 100000 in
/-- One message, by its seven cells. -/
theorem open_ms7 {H : Type} {enc : TypeId × Value → H} {W : World} {base : Nat} {spare : Nat → Bool} {held : Bool} {fuel : Nat} {cs : List Value} {x : DataW H × List MemPlace}
    (h : DataW.trod enc Try.prog W base spare held fuel 79 cs = some x) :
    ∃ (m : Ms) (u : Value), cs = [.int .i64 m.k, .int .i64 m.f, .int .i64 m.t, .int .i64 m.v, .int .i64 m.la, u, .int .i64 m.c] ∧ Sls txtE W u m.l ∧ ∀ p ∈ m.l, p.size ≤ maxLen := by
  obtain ⟨xs, n, _, hx, hl, hlen, hfs⟩ := DataW.trod_struct Try.underlying79 h
  have hl : cs.length = 7 := hl.trans (by kernel_rfl)
  match xs, hlen, cs, hl with
  | [y0, y1, y2, y3, y4, y5, y6], _, [c0, c1, c2, c3, c4, c5, c6], _ =>
    have g0 : DataW.trod enc Try.prog W base spare held n 2 [c0] = some y0 := by simpa [show Try.prog.cellsOf 2 = 1 by kernel_rfl] using hfs 0 _ rfl
    have g1 : DataW.trod enc Try.prog W base spare held n 2 [c1] = some y1 := by simpa [show Try.prog.cellsOf 2 = 1 by kernel_rfl] using hfs 1 _ rfl
    have g2 : DataW.trod enc Try.prog W base spare held n 2 [c2] = some y2 := by simpa [show Try.prog.cellsOf 2 = 1 by kernel_rfl] using hfs 2 _ rfl
    have g3 : DataW.trod enc Try.prog W base spare held n 2 [c3] = some y3 := by simpa [show Try.prog.cellsOf 2 = 1 by kernel_rfl] using hfs 3 _ rfl
    have g4 : DataW.trod enc Try.prog W base spare held n 2 [c4] = some y4 := by simpa [show Try.prog.cellsOf 2 = 1 by kernel_rfl] using hfs 4 _ rfl
    have g5 : DataW.trod enc Try.prog W base spare held n 40 [c5] = some y5 := by simpa [show Try.prog.cellsOf 40 = 1 by kernel_rfl] using hfs 5 _ rfl
    have g6 : DataW.trod enc Try.prog W base spare held n 2 [c6] = some y6 := by simpa [show Try.prog.cellsOf 2 = 1 by kernel_rfl] using hfs 6 _ rfl
    obtain ⟨a0, e0, _, w0⟩ := DataW.trod_int Try.underlying2 g0
    obtain ⟨a1, e1, _, w1⟩ := DataW.trod_int Try.underlying2 g1
    obtain ⟨a2, e2, _, w2⟩ := DataW.trod_int Try.underlying2 g2
    obtain ⟨a3, e3, _, w3⟩ := DataW.trod_int Try.underlying2 g3
    obtain ⟨a4, e4, _, w4⟩ := DataW.trod_int Try.underlying2 g4
    obtain ⟨a6, e6, _, w6⟩ := DataW.trod_int Try.underlying2 g6
    obtain ⟨l, f5, z5⟩ := open_txsR g5
    simp at e0 e1 e2 e3 e4 e6
    subst e0 e1 e2 e3 e4 e6
    exact ⟨⟨a0, a1, a2, a3, a4, l, a6⟩, c5, rfl, f5, z5⟩
theorem open_mss {H : Type} {enc : TypeId × Value → H} {W : World} {base : Nat} {spare : Nat → Bool} {held : Bool} {fuel : Nat} {c : Value} {x : DataW H × List MemPlace}
    (h : DataW.trod enc Try.prog W base spare held fuel 23 [c] = some x) :
    ∃ L : List Mx, TeGot W c L ∧ (∀ x ∈ L, x.m.l.length ≤ maxLen ∧ ∀ p ∈ x.m.l, p.size ≤ maxLen) ∧ L.length ≤ maxLen := by
  rcases Deep.open_slice Try.underlying23 h with ⟨hcs, _⟩ | ⟨a, len, cap, m, n, D, Pl, hcs, hb, hl, hm, hmm, _, hx⟩
  · simp at hcs
    subst hcs
    exact ⟨[], ⟨Sls.nil (Nat.zero_le _), fun x hx => (by cases hx)⟩, fun x hx => (by cases hx), Nat.zero_le _⟩
  · simp at hcs
    subst hcs
    have hlm : len ≤ m := by rw [hmm]; split <;> omega
    have each : ∀ i, i < len → ∃ y : Mx, (∀ j, j < 7 → W.cell? (a.add (i * 7 + j)) = (mxC y)[j]?) ∧ Sls txtE W y.u y.m.l ∧ y.m.l.length ≤ maxLen ∧ ∀ p ∈ y.m.l, p.size ≤ maxLen := by
      intro i hi
      obtain ⟨cs', h1, h2⟩ := hx i (by omega)
      obtain ⟨ms, u, rfl, hs, hz⟩ := open_ms7 h2
      obtain ⟨_, hlen, hcell⟩ := World.cells?_some h1
      obtain ⟨la, lc, hv⟩ := Sls.slen hs
      have hlen2 : ms.l.length ≤ maxLen := by obtain ⟨_, _, _, q1, q2, _⟩ := hs; omega
      subst hv
      have hk : Try.prog.cellsOf 79 = 7 := by kernel_rfl
      rw [hk] at hcell
      refine ⟨⟨ms, la, lc⟩, fun j hj => ?_, hs, hlen2, hz⟩
      have := hcell j hj
      rw [Deep.add_add] at this
      exact this
    haveI : Inhabited Mx := ⟨⟨⟨0, 0, 0, 0, 0, [], 0⟩, none, 0⟩⟩
    obtain ⟨f, hf⟩ := Deep.choose_lt (α := Mx) (p := fun i y => (∀ j, j < 7 → W.cell? (a.add (i * 7 + j)) = (mxC y)[j]?) ∧ Sls txtE W y.u y.m.l ∧ y.m.l.length ≤ maxLen ∧ ∀ p ∈ y.m.l, p.size ≤ maxLen) each
    refine ⟨(List.range len).map f, ⟨⟨some a, cap, by simp, by simpa using hl, hm, fun h0 => ?_⟩, fun x hx => ?_⟩, fun x hx => ?_, by simp; omega⟩
    · have h0' : 0 < len := by simpa using h0
      have c0 := (hf 0 h0').1 0 (by decide)
      obtain ⟨b, o, sp⟩ := a
      have c0 : W.cell? ((⟨b, o, sp⟩ : Addr).add 0) = some (.int .i64 (f 0).m.k) := by simpa [mxC] using c0
      have hsp : sp = Option.none := by
        have : W.cell? ⟨b, o, sp⟩ = some (.int .i64 (f 0).m.k) := by simpa [Addr.add] using c0
        exact Go.Proofs.cell_spot this
      subst hsp
      have hlt : b < W.heap.size := by
        rw [addr_add] at c0
        exact cell_ltO c0
      refine ⟨b, o, rfl, hlt, fun j u hu => ?_⟩
      have hj2 : j < len * 7 := by
        have := (List.getElem?_eq_some_iff.1 hu).1
        rw [cellsE_length, List.length_map, List.length_range] at this
        exact this
      have c1 := (hf (j / 7) (by omega)).1 (j % 7) (Nat.mod_lt _ (by decide))
      have q := cellsE_at mxE ((List.range len).map f) (j / 7) (by simp; omega) (j % 7) (Nat.mod_lt _ (by decide))
      rw [show j / 7 * mxE.k + j % 7 = j from by show j / 7 * 7 + j % 7 = j; omega] at q
      rw [q] at hu
      rw [addr_add, show j / 7 * 7 + j % 7 = j by omega] at c1
      rw [c1]
      simpa [mxE] using hu
    · obtain ⟨i, hi, rfl⟩ := List.mem_map.1 hx
      exact (hf i (by simpa using hi)).2.1
    · obtain ⟨i, hi, rfl⟩ := List.mem_map.1 hx
      exact (hf i (by simpa using hi)).2.2
end Go.Proofs.Ytdkhdjickkcaiaa.Rl
namespace Go.Proofs.Ytdkhdjickkcaiaa.Rl
open Go.RowKit Go.Sort
set_option linter.unusedVariables false
set_option linter.unusedSimpArgs false

def RpAp (u : Rv) : Prop := u.rows.Pairwise ap
theorem apI {v v' : Value} {C : Nat} (h1 : ∀ k, v.ownBlock = some k → k < C) (h2 : ∀ k, v'.ownBlock = some k → C ≤ k) : ap v v' := fun k h h' => by have := h1 k h; have := h2 k h'; omega
set_option maxRecDepth 100000 in
set_option maxHeartbeats 8000000 in
theorem toRp (r : Rp) (u : Rv) (w : World) (h : RpGot w u r) (hf : Fit r) :
    Calls Try.prog 55 #[rpA r u] w fun e w' => ∃ u', e = .returned (rpA r u') ∧ RpHas w' w.heap.size u' r ∧ RpAp u' ∧ Below w.heap.size w w' := by
  obtain ⟨aa, ac, ba, bc, ca, cc, da, dc, T, rfl⟩ := h.form
  have j1 := fun W (hW : Below w.heap.size w W) => toTxt (.slice aa r.l.length ac) r.l W (h.l.kept hW) hf.l.1
  have j2 := fun W (hW : Below w.heap.size w W) => toNum (.slice ba r.ok.length bc) r.ok W (h.ok.kept hW) hf.ok
  have j3 := fun W (hW : Below w.heap.size w W) => toNum (.slice ca r.ch.length cc) r.ch W (h.ch.kept hW) hf.ch
  have htl : T.length = r.te.length := h.tlen
  have HT : Hid (T.map (·.m) = r.te) := h.t
  have j4 := fun W (hW : Below w.heap.size w W) => toMsS (.slice da r.te.length dc) T W (h.te.kept hW) (fun x hx => (hf.te.2 _ (by rw [← h.t]; exact List.mem_map_of_mem hx)).1) (by rw [htl]; exact hf.te.1)
  unfold rpA
  simp only at j1 j2 j3 j4 ⊢
  have HTL : Hid (T.length = r.te.length) := htl
  clear h hf htl
  go_enter Try.func55, Try.ntmps55
  go_wp2_with fail
  refine (j1 _ (by repeat (first | exact Below.refl _ _ | refine Below.alloc ?_ (by simp <;> omega) _ | refine Below.setCell ?_ (by simp <;> omega) _))).mono ?_
  rintro e w1 ⟨u1, rfl, ho, hb⟩
  obtain ⟨a1, c1, rfl, _⟩ := ho.form
  simp [go_sem] at hb ho
  have BZ : Hid (Bx w1 (w.heap.size + 1 + 1) 53 #[.int .i64 r.id, .int .i64 r.p, .int .i64 r.v, .bool r.n, .int .i64 r.la, .slice none 0 0, .int .i64 0, .slice none 0 0, .slice none 0 0, .slice none 0 0]) := (show Hid _ from Bx.low (Bx.at _ _ (by simp)) hb (by omega))
  have BY : Hid (Bx w1 (w.heap.size + 1) 53 #[.int .i64 0, .int .i64 0, .int .i64 0, .bool false, .int .i64 0, .slice none 0 0, .int .i64 0, .slice none 0 0, .slice none 0 0, .slice none 0 0]) := (show Hid _ from Bx.low ((Bx.at _ _ (by simp)).alloc _) hb (by omega))
  have BX : Hid (Bx w1 w.heap.size 77 #[.int .i64 r.id, .int .i64 r.p, .int .i64 r.v, .bool r.n, .int .i64 r.la, .slice aa r.l.length ac, .int .i64 r.c, .slice ba r.ok.length bc, .slice ca r.ch.length cc, .slice da r.te.length dc]) := (show Hid _ from Bx.low (((Bx.at _ _ rfl).alloc _).alloc _) hb (by omega))
  have BB : Hid (Below w.heap.size w w1) := (show Hid _ from ((((Below.refl _ w).alloc (by simp <;> omega) _).alloc (by simp <;> omega) _).alloc (by simp <;> omega) _).trans (hb.mono (by omega)))
  have O1 : Hid (OwnsX w1 (w.heap.size + 3) (.slice a1 r.l.length c1) r.l) := ho
  have S1 : Hid (w.heap.size + 3 ≤ w1.heap.size) := (show w.heap.size + 3 ≤ w1.heap.size by have := hb.size; simp at this; omega)
  have UU1 : Hid (∀ k, (Value.slice a1 r.l.length c1).ownBlock = some k → k < w1.heap.size) := (show ∀ _, _ from OwnsE.under O1.out)
  clear hb ho j1
  have z5 := BZ.out.cell 5
  have zf5 := BZ.out.free 5
  have z6 := BZ.out.cell 6
  have zf6 := BZ.out.free 6
  have x6 := BX.out.cell 6
  have x7 := BX.out.cell 7
  go_wp2_with fail
  clear z5 zf5 z6 zf6 x6 x7
  refine (j2 _ (((BB.out).setCell (p := ⟨w.heap.size + 1 + 1, 5, none⟩) (by simp <;> omega) _).setCell (p := ⟨w.heap.size + 1 + 1, 6, none⟩) (by simp <;> omega) _)).mono ?_
  rintro e w2 ⟨u2, rfl, ho, hb⟩
  obtain ⟨a2, c2, rfl, _⟩ := ho.form
  replace BZ : Hid (Bx w2 (w.heap.size + 1 + 1) 53 #[.int .i64 r.id, .int .i64 r.p, .int .i64 r.v, .bool r.n, .int .i64 r.la, .slice a1 r.l.length c1, .int .i64 r.c, .slice none 0 0, .slice none 0 0, .slice none 0 0]) := (show Hid _ from Bx.kept (Bx.put (Bx.put (BZ.out) 5 _) 6 _) hb)
  replace BY : Hid (Bx w2 (w.heap.size + 1) 53 #[.int .i64 0, .int .i64 0, .int .i64 0, .bool false, .int .i64 0, .slice none 0 0, .int .i64 0, .slice none 0 0, .slice none 0 0, .slice none 0 0]) := (show Hid _ from Bx.kept (Bx.other (Bx.other (BY.out) 5 _ (by omega)) 6 _ (by omega)) hb)
  replace BX : Hid (Bx w2 w.heap.size 77 #[.int .i64 r.id, .int .i64 r.p, .int .i64 r.v, .bool r.n, .int .i64 r.la, .slice aa r.l.length ac, .int .i64 r.c, .slice ba r.ok.length bc, .slice ca r.ch.length cc, .slice da r.te.length dc]) := (show Hid _ from Bx.kept (Bx.other (Bx.other (BX.out) 5 _ (by omega)) 6 _ (by omega)) hb)
  have UO1 : ∀ k, (Value.slice a1 r.l.length c1).ownBlock = some k → w.heap.size + 3 ≤ k ∧ k < w1.heap.size := fun k hk => ⟨by have := OwnsE.from O1.out k hk; have := S1.out; omega, OwnsE.under O1.out k hk⟩
  replace O1 : Hid (OwnsX w2 (w.heap.size + 3) (.slice a1 r.l.length c1) r.l) := (show Hid _ from OwnsE.kept (OwnsE.other (OwnsE.other (O1.out) _ _ (fun k hk => by have := UO1 k hk; simp <;> omega)) _ _ (fun k hk => by have := UO1 k hk; simp <;> omega)) hb)
  clear UO1
  have hs : ∀ k, w.heap.size + 3 ≤ k → True := fun _ _ => trivial
  have S2 : Hid (w1.heap.size ≤ w2.heap.size) := by have := hb.size; simp at this; exact (show Hid _ from this)
  replace BB : Hid (Below w.heap.size w w2) := (show Hid _ from (((BB.out).setCell (p := ⟨w.heap.size + 1 + 1, 5, none⟩) (by simp <;> omega) _).setCell (p := ⟨w.heap.size + 1 + 1, 6, none⟩) (by simp <;> omega) _).trans (hb.mono (by have := S1.out; have := BB.out.size; simp <;> omega)))
  have O2 : Hid (OwnsN w2 w1.heap.size (.slice a2 r.ok.length c2) r.ok) := by simp at ho; exact (show Hid _ from ho)
  have UU2 : Hid (∀ k, (Value.slice a2 r.ok.length c2).ownBlock = some k → k < w2.heap.size) := (show ∀ _, _ from OwnsE.under O2.out)
  clear hb ho hs j2
  have z7 := BZ.out.cell 7
  have zf7 := BZ.out.free 7
  have x8 := BX.out.cell 8
  go_wp2_with fail
  clear z7 zf7 x8
  refine (j3 _ ((BB.out).setCell (p := ⟨w.heap.size + 1 + 1, 7, none⟩) (by simp <;> omega) _)).mono ?_
  rintro e w3 ⟨u3, rfl, ho, hb⟩
  obtain ⟨a3, c3, rfl, _⟩ := ho.form
  replace BZ : Hid (Bx w3 (w.heap.size + 1 + 1) 53 #[.int .i64 r.id, .int .i64 r.p, .int .i64 r.v, .bool r.n, .int .i64 r.la, .slice a1 r.l.length c1, .int .i64 r.c, .slice a2 r.ok.length c2, .slice none 0 0, .slice none 0 0]) := (show Hid _ from Bx.kept (Bx.put (BZ.out) 7 _) hb)
  replace BY : Hid (Bx w3 (w.heap.size + 1) 53 #[.int .i64 0, .int .i64 0, .int .i64 0, .bool false, .int .i64 0, .slice none 0 0, .int .i64 0, .slice none 0 0, .slice none 0 0, .slice none 0 0]) := (show Hid _ from Bx.kept (Bx.other (BY.out) 7 _ (by omega)) hb)
  replace BX : Hid (Bx w3 w.heap.size 77 #[.int .i64 r.id, .int .i64 r.p, .int .i64 r.v, .bool r.n, .int .i64 r.la, .slice aa r.l.length ac, .int .i64 r.c, .slice ba r.ok.length bc, .slice ca r.ch.length cc, .slice da r.te.length dc]) := (show Hid _ from Bx.kept (Bx.other (BX.out) 7 _ (by omega)) hb)
  have UO1 : ∀ k, (Value.slice a1 r.l.length c1).ownBlock = some k → w.heap.size + 3 ≤ k ∧ k < w2.heap.size := fun k hk => ⟨by have := OwnsE.from O1.out k hk; have := S1.out; have := S2.out; omega, OwnsE.under O1.out k hk⟩
  replace O1 : Hid (OwnsX w3 (w.heap.size + 3) (.slice a1 r.l.length c1) r.l) := (show Hid _ from OwnsE.kept (OwnsE.other (O1.out) _ _ (fun k hk => by have := UO1 k hk; simp <;> omega)) hb)
  clear UO1
  have UO2 : ∀ k, (Value.slice a2 r.ok.length c2).ownBlock = some k → w.heap.size + 3 ≤ k ∧ k < w2.heap.size := fun k hk => ⟨by have := OwnsE.from O2.out k hk; have := S1.out; have := S2.out; omega, OwnsE.under O2.out k hk⟩
  replace O2 : Hid (OwnsN w3 (w1.heap.size) (.slice a2 r.ok.length c2) r.ok) := (show Hid _ from OwnsE.kept (OwnsE.other (O2.out) _ _ (fun k hk => by have := UO2 k hk; simp <;> omega)) hb)
  clear UO2
  have hs : ∀ k, w.heap.size + 3 ≤ k → True := fun _ _ => trivial
  have S3 : Hid (w2.heap.size ≤ w3.heap.size) := by have := hb.size; simp at this; exact (show Hid _ from this)
  replace BB : Hid (Below w.heap.size w w3) := (show Hid _ from ((BB.out).setCell (p := ⟨w.heap.size + 1 + 1, 7, none⟩) (by simp <;> omega) _).trans (hb.mono (by have := S1.out; have := BB.out.size; simp <;> omega)))
  have O3 : Hid (OwnsN w3 w2.heap.size (.slice a3 r.ch.length c3) r.ch) := by simp at ho; exact (show Hid _ from ho)
  have UU3 : Hid (∀ k, (Value.slice a3 r.ch.length c3).ownBlock = some k → k < w3.heap.size) := (show ∀ _, _ from OwnsE.under O3.out)
  clear hb ho hs j3
  have z8 := BZ.out.cell 8
  have zf8 := BZ.out.free 8
  have x9 := BX.out.cell 9
  go_wp2_with fail
  clear z8 zf8 x9
  refine (j4 _ ((BB.out).setCell (p := ⟨w.heap.size + 1 + 1, 8, none⟩) (by simp <;> omega) _)).mono ?_
  rintro e w4 ⟨u4, M, rfl, ho, hsm, hlg, h4k, hb⟩
  obtain ⟨a4, c4, rfl, _⟩ := ho.form
  replace BZ : Hid (Bx w4 (w.heap.size + 1 + 1) 53 #[.int .i64 r.id, .int .i64 r.p, .int .i64 r.v, .bool r.n, .int .i64 r.la, .slice a1 r.l.length c1, .int .i64 r.c, .slice a2 r.ok.length c2, .slice a3 r.ch.length c3, .slice none 0 0]) := (show Hid _ from Bx.kept (Bx.put (BZ.out) 8 _) hb)
  replace BY : Hid (Bx w4 (w.heap.size + 1) 53 #[.int .i64 0, .int .i64 0, .int .i64 0, .bool false, .int .i64 0, .slice none 0 0, .int .i64 0, .slice none 0 0, .slice none 0 0, .slice none 0 0]) := (show Hid _ from Bx.kept (Bx.other (BY.out) 8 _ (by omega)) hb)
  replace BX : Hid (Bx w4 w.heap.size 77 #[.int .i64 r.id, .int .i64 r.p, .int .i64 r.v, .bool r.n, .int .i64 r.la, .slice aa r.l.length ac, .int .i64 r.c, .slice ba r.ok.length bc, .slice ca r.ch.length cc, .slice da r.te.length dc]) := (show Hid _ from Bx.kept (Bx.other (BX.out) 8 _ (by omega)) hb)
  have UO1 : ∀ k, (Value.slice a1 r.l.length c1).ownBlock = some k → w.heap.size + 3 ≤ k ∧ k < w3.heap.size := fun k hk => ⟨by have := OwnsE.from O1.out k hk; have := S1.out; have := S2.out; have := S3.out; omega, OwnsE.under O1.out k hk⟩
  replace O1 : Hid (OwnsX w4 (w.heap.size + 3) (.slice a1 r.l.length c1) r.l) := (show Hid _ from OwnsE.kept (OwnsE.other (O1.out) _ _ (fun k hk => by have := UO1 k hk; simp <;> omega)) hb)
  clear UO1
  have UO2 : ∀ k, (Value.slice a2 r.ok.length c2).ownBlock = some k → w.heap.size + 3 ≤ k ∧ k < w3.heap.size := fun k hk => ⟨by have := OwnsE.from O2.out k hk; have := S1.out; have := S2.out; have := S3.out; omega, OwnsE.under O2.out k hk⟩
  replace O2 : Hid (OwnsN w4 (w1.heap.size) (.slice a2 r.ok.length c2) r.ok) := (show Hid _ from OwnsE.kept (OwnsE.other (O2.out) _ _ (fun k hk => by have := UO2 k hk; simp <;> omega)) hb)
  clear UO2
  have UO3 : ∀ k, (Value.slice a3 r.ch.length c3).ownBlock = some k → w.heap.size + 3 ≤ k ∧ k < w3.heap.size := fun k hk => ⟨by have := OwnsE.from O3.out k hk; have := S1.out; have := S2.out; have := S3.out; omega, OwnsE.under O3.out k hk⟩
  replace O3 : Hid (OwnsN w4 (w2.heap.size) (.slice a3 r.ch.length c3) r.ch) := (show Hid _ from OwnsE.kept (OwnsE.other (O3.out) _ _ (fun k hk => by have := UO3 k hk; simp <;> omega)) hb)
  clear UO3
  have hs : ∀ k, w.heap.size + 3 ≤ k → True := fun _ _ => trivial
  have S4 : Hid (w3.heap.size ≤ w4.heap.size) := by have := hb.size; simp at this; exact (show Hid _ from this)
  replace BB : Hid (Below w.heap.size w w4) := (show Hid _ from ((BB.out).setCell (p := ⟨w.heap.size + 1 + 1, 8, none⟩) (by simp <;> omega) _).trans (hb.mono (by have := S1.out; have := BB.out.size; simp <;> omega)))
  simp at ho hlg h4k
  have hML : M.length = r.te.length := by rw [hsm.len]; exact HTL.out
  have O4 : Hid (HasM w4 w3.heap.size (.slice a4 M.length c4) M) := ho
  have L4 : Hid (Logs w4 (w3.heap.size + 1) M) := hlg
  have K4 : Hid (∀ k, (Value.slice a4 M.length c4).ownBlock = some k → k = w3.heap.size) := h4k
  have HM : Hid (M.map (·.m) = r.te) := (show _ = _ from (show M.map (·.m) = T.map (·.m) from hsm).trans HT.out)
  have HML : Hid (M.length = r.te.length) := hML
  clear hb ho hs hlg h4k hsm hML j4
  have z0 := BZ.out.cell 0
  have y0 := BY.out.cell 0
  have yf0 := BY.out.free 0
  have z1 := BZ.out.cell 1
  have y1 := BY.out.cell 1
  have yf1 := BY.out.free 1
  have z2 := BZ.out.cell 2
  have y2 := BY.out.cell 2
  have yf2 := BY.out.free 2
  have z3 := BZ.out.cell 3
  have y3 := BY.out.cell 3
  have yf3 := BY.out.free 3
  have z4 := BZ.out.cell 4
  have y4 := BY.out.cell 4
  have yf4 := BY.out.free 4
  have z5 := BZ.out.cell 5
  have y5 := BY.out.cell 5
  have yf5 := BY.out.free 5
  have z6 := BZ.out.cell 6
  have y6 := BY.out.cell 6
  have yf6 := BY.out.free 6
  have z7 := BZ.out.cell 7
  have y7 := BY.out.cell 7
  have yf7 := BY.out.free 7
  have z8 := BZ.out.cell 8
  have y8 := BY.out.cell 8
  have yf8 := BY.out.free 8
  have z9 := BZ.out.cell 9
  have y9 := BY.out.cell 9
  have yf9 := BY.out.free 9
  have zf9 := BZ.out.free 9
  clear BX BY BZ
  go_wp2
  have s1 := S1.out
  have s2 := S2.out
  have s3 := S3.out
  have s4 := S4.out
  have F1 := OwnsE.from O1.out
  have F2 := OwnsE.from O2.out
  have F3 := OwnsE.from O3.out
  have F4 := HasE.from O4.out
  refine bodyPost_ret (v := .agg #[.int .i64 r.id, .int .i64 r.p, .int .i64 r.v, .bool r.n, .int .i64 r.la, .slice a1 r.l.length c1, .int .i64 r.c, .slice a2 r.ok.length c2, .slice a3 r.ch.length c3, .slice a4 M.length c4]) (by simp [results, Try.results55, go_sem, y0, y1, y2, y3, y4, y5, y6, y7, y8, y9]) rfl ⟨⟨.slice a1 r.l.length c1, .slice a2 r.ok.length c2, .slice a3 r.ch.length c3, .slice a4 M.length c4, M⟩, rfl, ?_, ?_, ?_⟩
  · refine RpHas.off (w := w4) ⟨O1.out.has.low (by omega), O2.out.has.low (by have := BB.out.size; omega), O3.out.has.low (by have := BB.out.size; omega), HM.out, O4.out.low (by have := BB.out.size; omega), fun x hx => (L4.out.l x hx).low (by have := BB.out.size; omega)⟩ ?_
    intro v hv k hk
    have hk3 : w.heap.size + 3 ≤ k := by
      simp only [Rv.rows, List.mem_cons, List.mem_map] at hv
      rcases hv with rfl | rfl | rfl | rfl | ⟨x, hx, rfl⟩
      · exact F1 k hk
      · have := F2 k hk; omega
      · have := F3 k hk; omega
      · have := F4 k hk; omega
      · have := (L4.out.l x hx).from k hk; omega
    repeat (refine (Below.heap_setCell _ _ _ _ (by simp <;> omega)).trans ?_)
    rfl
  · have U1 := fun (C : Nat) (hC : w1.heap.size ≤ C) k hk => Nat.lt_of_lt_of_le (UU1.out k hk) hC
    have U2 := UU2.out
    have U3 := UU3.out
    have U4 := K4.out
    show List.Pairwise ap (_ :: _ :: _ :: _ :: M.map Mx.u)
    have hM : ∀ v ∈ M.map Mx.u, ∀ k, v.ownBlock = some k → w3.heap.size + 1 ≤ k := fun v hv k hk => by
      obtain ⟨x, hx, rfl⟩ := List.mem_map.1 hv
      exact (L4.out.l x hx).from k hk
    refine List.Pairwise.cons (fun v hv => ?_) (List.Pairwise.cons (fun v hv => ?_) (List.Pairwise.cons (fun v hv => ?_) (List.Pairwise.cons (fun v hv => ?_) L4.out.ap)))
    · simp only [List.mem_cons] at hv
      rcases hv with rfl | rfl | rfl | hv
      · exact apI UU1.out F2
      · exact apI UU1.out (fun k hk => by have := F3 k hk; omega)
      · exact apI UU1.out (fun k hk => by have := F4 k hk; omega)
      · exact apI UU1.out (fun k hk => by have := hM v hv k hk; omega)
    · simp only [List.mem_cons] at hv
      rcases hv with rfl | rfl | hv
      · exact apI U2 F3
      · exact apI U2 (fun k hk => by have := F4 k hk; omega)
      · exact apI U2 (fun k hk => by have := hM v hv k hk; omega)
    · simp only [List.mem_cons] at hv
      rcases hv with rfl | hv
      · exact apI U3 F4
      · exact apI U3 (fun k hk => by have := hM v hv k hk; omega)
    · exact apI (C := w3.heap.size + 1) (fun k hk => by have := U4 k hk; omega) (fun k hk => hM v hv k hk)
  · repeat (refine Below.setCell ?_ (by simp <;> omega) _)
    exact BB.out

end Go.Proofs.Ytdkhdjickkcaiaa.Rl
namespace Go.Proofs.Ytdkhdjickkcaiaa.Rl
open Go.RowKit Go.Sort Go.ChangeShapes Go.WideShapes Go.ChangeAt Go.Joins Go.Deep
set_option linter.unusedVariables false
set_option linter.unusedSimpArgs false

/-- A replica and where its four slices lie. -/
structure Rx where
  r : Rp
  la : Option Addr
  lc : Nat
  oa : Option Addr
  oc : Nat
  ca : Option Addr
  cc : Nat
  ta : Option Addr
  tc : Nat
  T : List Mx
def Rx.u (x : Rx) : Rv := ⟨.slice x.la x.r.l.length x.lc, .slice x.oa x.r.ok.length x.oc, .slice x.ca x.r.ch.length x.cc, .slice x.ta x.r.te.length x.tc, x.T⟩
def rxC (x : Rx) : List Value := [.int .i64 x.r.id, .int .i64 x.r.p, .int .i64 x.r.v, .bool x.r.n, .int .i64 x.r.la, .slice x.la x.r.l.length x.lc, .int .i64 x.r.c, .slice x.oa x.r.ok.length x.oc, .slice x.ca x.r.ch.length x.cc, .slice x.ta x.r.te.length x.tc]
def rxE : Enc Rx where
  k := 10
  pos := by decide
  c := rxC
  len := fun _ => rfl
  one := fun x u hu => by
    simp only [rxC, List.mem_cons, List.not_mem_nil, or_false] at hu
    rcases hu with rfl | rfl | rfl | rfl | rfl | rfl | rfl | rfl | rfl | rfl <;> rfl
theorem rpA_rx (x : Rx) : rpA x.r x.u = .agg #[.int .i64 x.r.id, .int .i64 x.r.p, .int .i64 x.r.v, .bool x.r.n, .int .i64 x.r.la, .slice x.la x.r.l.length x.lc, .int .i64 x.r.c, .slice x.oa x.r.ok.length x.oc, .slice x.ca x.r.ch.length x.cc, .slice x.ta x.r.te.length x.tc] := rfl
theorem RpGot.rx {w : World} {u : Rv} {r : Rp} (h : RpGot w u r) : ∃ x : Rx, x.r = r ∧ x.u = u := by
  obtain ⟨la, lc, oa, oc, ca, cc, ta, tc, T, rfl⟩ := h.form
  exact ⟨⟨r, la, lc, oa, oc, ca, cc, ta, tc, T⟩, rfl, rfl⟩
/-- The cells of the j-th replica of a row. -/
structure RxAt (w : World) (g o : Nat) (x : Rx) : Prop where
  c0 : w.cell? ⟨g, o, none⟩ = some (.int .i64 x.r.id)
  c1 : w.cell? ⟨g, o + 1, none⟩ = some (.int .i64 x.r.p)
  c2 : w.cell? ⟨g, o + 2, none⟩ = some (.int .i64 x.r.v)
  c3 : w.cell? ⟨g, o + 3, none⟩ = some (.bool x.r.n)
  c4 : w.cell? ⟨g, o + 4, none⟩ = some (.int .i64 x.r.la)
  c5 : w.cell? ⟨g, o + 5, none⟩ = some (.slice x.la x.r.l.length x.lc)
  c6 : w.cell? ⟨g, o + 6, none⟩ = some (.int .i64 x.r.c)
  c7 : w.cell? ⟨g, o + 7, none⟩ = some (.slice x.oa x.r.ok.length x.oc)
  c8 : w.cell? ⟨g, o + 8, none⟩ = some (.slice x.ca x.r.ch.length x.cc)
  c9 : w.cell? ⟨g, o + 9, none⟩ = some (.slice x.ta x.r.te.length x.tc)
theorem rxCells {w : World} {g q n cap : Nat} {L : List Rx} (h : Sls rxE w (.slice (some ⟨g, q, none⟩) n cap) L) {j : Nat} (hj : j < L.length) : RxAt w g (q + j * 10) L[j] := by
  obtain ⟨a, cap', hv, h1, h2, h3⟩ := h
  obtain ⟨g', q', ha, hg, hc⟩ := h3 (by omega)
  cases hv
  cases ha
  have k : ∀ i (hi : i < 10) u, (rxC L[j])[i]? = some u → w.cell? ⟨g, q + j * 10 + i, none⟩ = some u := fun i hi u hu => by
    have := hc (j * 10 + i) u ((cellsE_at rxE L j hj i hi).trans hu)
    rw [← Nat.add_assoc] at this
    exact this
  exact ⟨k 0 (by decide) _ rfl, k 1 (by decide) _ rfl, k 2 (by decide) _ rfl, k 3 (by decide) _ rfl, k 4 (by decide) _ rfl, k 5 (by decide) _ rfl, k 6 (by decide) _ rfl, k 7 (by decide) _ rfl, k 8 (by decide) _ rfl, k 9 (by decide) _ rfl⟩
theorem rxAt {w : World} {a : Option Addr} {n cap : Nat} {L : List Rx} (h : Sls rxE w (.slice a n cap) L) (hl : 0 < L.length) : ∃ g q, a = some ⟨g, q, none⟩ := by
  obtain ⟨a', cap', hv, _, _, h3⟩ := h
  obtain ⟨g, q, ha, _⟩ := h3 hl
  cases hv
  exact ⟨g, q, ha⟩
/-- A row of replicas at v. -/
def RsGot (w : World) (v : Value) (L : List Rx) : Prop := Sls rxE w v L ∧ ∀ x ∈ L, RpGot w x.u x.r
theorem RsGot.kept {w w' : World} {v : Value} {L : List Rx} (h : RsGot w v L) (hb : Below w.heap.size w w') : RsGot w' v L := ⟨h.1.kept hb, fun x hx => (h.2 x hx).kept hb⟩
/-- The same replicas. -/
def SameR (L M : List Rx) : Prop := M.map (·.r) = L.map (·.r)
theorem SameR.len {L M : List Rx} (h : SameR L M) : M.length = L.length := by have := congrArg List.length h; simpa using this
theorem SameR.at {L M : List Rx} (h : SameR L M) {j : Nat} (h1 : j < M.length) (h2 : j < L.length) : M[j].r = L[j].r := by
  have := congrArg (fun l => l[j]?) h
  simpa [h1, h2] using this
/-- What a replica takes of the measure. -/
def nR (r : Rp) : Nat := r.l.length + r.ok.length + r.ch.length + (r.te.length + (r.te.map fun m => m.l.length).sum)
def nRs (L : List Rx) : Nat := (L.map fun x => nR x.r).sum
theorem nRs_next {T : List Rx} {k : Nat} (h : k < T.length) : nRs (T.take (k + 1)) = nRs (T.take k) + nR T[k].r := by
  unfold nRs
  rw [List.take_succ_eq_append_getElem h, List.map_append, List.sum_append]
  simp
set_option maxRecDepth 100000 in
set_option maxHeartbeats 4000000 in
theorem szRps (v : Value) (L : List Rx) (left : Int) (h0 : 0 ≤ left) (h1 : left ≤ 1048576) (w : World) (h : RsGot w v L) (hz : ∀ x ∈ L, Lens x.r) (hn : L.length ≤ maxLen) :
    Calls Try.prog 20 #[v, .int .i64 left] w fun e w' => Mea left (L.length + nRs L) (L.length ≤ 1048576 ∧ ∀ x ∈ L, Fit x.r) e ∧ Below w.heap.size w w' := by
  have HL : Hid (RsGot w v L) := h
  obtain ⟨⟨a, cap, rfl, _⟩, _⟩ := id h
  have HZ : Hid (∀ x ∈ L, Lens x.r) := hz
  unfold maxLen at hn
  have ew : IntKind.i64.wrap (left - (L.length : Int)) = left - (L.length : Int) := by rw [IntKind.wrap_i64]; omega
  clear h hz
  by_cases hlen : left < (L.length : Int)
  · have hneg : left - (L.length : Int) < 0 := by omega
    go_enter Try.func20, Try.ntmps20
    go_wp2
    go_ret
    exact ⟨⟨_, rfl, by omega, fun _ => rfl, fun h => by omega⟩, Below.refl _ _⟩
  have hpos : ¬ left - (L.length : Int) < 0 := by omega
  go_enter Try.func20, Try.ntmps20
  go_wp2_with fail
  go_loopw [1, 5] (fun r i wr => ∃ (k : Nat) (y : Int), k ≤ L.length ∧ i = .int .i64 k ∧ r = .int .i64 y ∧ 0 ≤ y ∧ y ≤ left - (L.length : Int) - (nRs (L.take k) : Int) ∧ Hid (∀ x ∈ L.take k, Fit x.r) ∧ Hid (Below w.heap.size w wr)) (fun _ i _ => L.length - (intOf i).toNat)
  case atStart => exact ⟨0, left - (L.length : Int), Nat.zero_le _, rfl, rfl, by omega, by simp [nRs], (fun x hx => by cases hx), Below.refl _ _⟩
  case round =>
    obtain ⟨k, y, hk, rfl, rfl, hy0, hy1, hsm, hb⟩ := hrel
    by_cases hlt : k < L.length
    · have HL2 := HL.out.kept hb.out
      obtain ⟨g, q, rfl⟩ := rxAt HL2.1 (by omega)
      have CK := rxCells HL2.1 hlt
      have hob := HL2.2 L[k] (List.getElem_mem hlt)
      have hzk := HZ.out L[k] (List.getElem_mem hlt)
      have hsz := szRp L[k].r L[k].u y hy0 (by omega) wr hob hzk
      rw [rpA_rx] at hsz
      have HT : Hid (∀ x ∈ L.take (k + 1), x ∈ L.take k ∨ x = L[k]) := fun x hx => by
        rw [← List.take_append_getElem hlt] at hx
        rcases List.mem_append.1 hx with h | h
        · exact .inl h
        · exact .inr (List.mem_singleton.1 h)
      have HCN : Hid ((nRs (L.take (k + 1)) : Int) = (nRs (L.take k) : Int) + (nR L[k].r : Int)) := by show _ = _; rw [nRs_next hlt]; omega
      have hki : (k : Int) < (L.length : Int) := by omega
      generalize L[k] = x at CK hsz HT HCN
      obtain ⟨⟨xi, xp, xv, xn, xla, xl, xc, xok, xch, xte⟩, la, lc, oa, oc, ca, cc, ta, tc, T⟩ := x
      obtain ⟨c0, c1, c2, c3, c4, c5, c6, c7, c8, c9⟩ := CK
      simp only at c0 c1 c2 c3 c4 c5 c6 c7 c8 c9 hsz
      clear HL2 hob hzk
      go_wp2_with fail
      refine hsz.mono ?_
      rintro e w2 ⟨⟨z, rfl, z1, z2, z3⟩, hb2⟩
      have B2 : Hid (Below w.heap.size w w2) := hb.out.trans (hb2.mono hb.out.size)
      have Z3 : Hid (0 ≤ z → Fit ⟨xi, xp, xv, xn, xla, xl, xc, xok, xch, xte⟩ ∧ (nR ⟨xi, xp, xv, xn, xla, xl, xc, xok, xch, xte⟩ : Int) + z ≤ y) := z3
      clear hb2 hb c0 c1 c2 c3 c4 c5 c6 c7 c8 c9 hsz z3
      by_cases hneg : z < 0
      · go_wp2
        go_ret
        exact ⟨⟨_, rfl, by omega, fun _ => rfl, fun h => by omega⟩, B2.out⟩
      · have HS : Hid (∀ t ∈ L.take (k + 1), Fit t.r) := fun t ht => by
          rcases HT.out t ht with h | h
          · exact hsm.out t h
          · rw [h]; exact (Z3.out (by omega)).1
        have hcn : (nRs (L.take (k + 1)) : Int) = (nRs (L.take k) : Int) + (nR ⟨xi, xp, xv, xn, xla, xl, xc, xok, xch, xte⟩ : Int) := HCN.out
        have hzl := (Z3.out (by omega)).2
        generalize (nR ⟨xi, xp, xv, xn, xla, xl, xc, xok, xch, xte⟩ : Int) = nr at hcn hzl
        clear HT hsm HCN Z3
        go_wp2_with fail
        go_roundw
        case rel => exact ⟨k + 1, z, by omega, by go_num, rfl, by omega, by omega, HS, B2⟩
        case measure => simp [intOf]; omega
    · have hcl : L.take k = L := List.take_of_length_le (by omega)
      rw [hcl] at hy1
      have HS : Hid (L.length ≤ 1048576 ∧ ∀ x ∈ L, Fit x.r) := ⟨by omega, fun t ht => hsm.out t (by rw [List.take_of_length_le (by omega)]; exact ht)⟩
      go_wp2
      go_ret
      exact ⟨⟨y, rfl, by omega, fun h => by omega, fun _ => ⟨HS.out, by omega⟩⟩, hb.out⟩
set_option maxRecDepth 100000 in
set_option maxHeartbeats 4000000 in
theorem eqRps (va vb : Value) (L M : List Rx) (w : World) (ha : RsGot w va L) (hb : RsGot w vb M) (hs : SameR L M) (hsm : ∀ x ∈ L, Fit x.r) (hn : L.length ≤ 1048576) :
    Calls Try.prog 30 #[va, vb] w fun e w' => e = .returned (.bool true) ∧ Below w.heap.size w w' := by
  have hml := hs.len
  have HA : Hid (RsGot w va L) := ha
  have HB : Hid (RsGot w vb M) := hb
  obtain ⟨⟨a, ca, rfl, _⟩, _⟩ := ha
  obtain ⟨⟨b, cb, rfl, _⟩, _⟩ := hb
  have HS : Hid (SameR L M) := hs
  have HSM : Hid (∀ x ∈ L, Fit x.r) := hsm
  have dl : ((L.length : Int) != (M.length : Int)) = false := by rw [hml]; simp
  have HML : Hid (M.length = L.length) := hml
  clear hs hsm hml
  go_enter Try.func30, Try.ntmps30
  go_wp2_with fail
  go_loopw [5] (fun i wr => ∃ (k : Nat), k ≤ L.length ∧ i = .int .i64 k ∧ Hid (Below w.heap.size w wr)) (fun i _ => L.length - (intOf i).toNat)
  case atStart => exact ⟨0, Nat.zero_le _, rfl, Below.refl _ _⟩
  case round =>
    obtain ⟨k, hk, rfl, hb⟩ := hrel
    by_cases hlt : k < L.length
    · have hltM : k < M.length := by rw [HML.out]; exact hlt
      have HA2 := HA.out.kept hb.out
      have HB2 := HB.out.kept hb.out
      obtain ⟨g, q, rfl⟩ := rxAt HA2.1 (by omega)
      obtain ⟨g', q', rfl⟩ := rxAt HB2.1 (by omega)
      have CK := rxCells HA2.1 hlt
      have CM := rxCells HB2.1 hltM
      have hxo := HS.out.at hltM hlt
      have rx := HA2.2 L[k] (List.getElem_mem hlt)
      have ry := HB2.2 M[k] (List.getElem_mem hltM)
      have sx := HSM.out L[k] (List.getElem_mem hlt)
      generalize L[k] = x at CK hxo rx sx
      generalize M[k] = y at CM hxo ry
      obtain ⟨mr, la', lc', oa', oc', ca', cc', ta', tc', T'⟩ := y
      simp only at hxo
      subst hxo
      have hE := fun W (hW : Below wr.heap.size wr W) => eqRp x.r x.u (Rx.u ⟨x.r, la', lc', oa', oc', ca', cc', ta', tc', T'⟩) W (rx.kept hW) (RpGot.kept ry hW) sx
      unfold rpA Rx.u at hE
      simp only at hE
      obtain ⟨⟨xi, xp, xv, xn, xla, xl, xc, xok, xch, xte⟩, la, lc, oa, oc, ca, cc, ta, tc, T⟩ := x
      obtain ⟨c0, c1, c2, c3, c4, c5, c6, c7, c8, c9⟩ := CK
      obtain ⟨m0, m1, m2, m3, m4, m5, m6, m7, m8, m9⟩ := CM
      simp only at c0 c1 c2 c3 c4 c5 c6 c7 c8 c9 m0 m1 m2 m3 m4 m5 m6 m7 m8 m9 hE
      generalize xl.length = e1 at c5 m5 hE
      generalize xok.length = e2 at c7 m7 hE
      generalize xch.length = e3 at c8 m8 hE
      generalize xte.length = e4 at c9 m9 hE
      have cE : ∀ d os, Calls Try.prog 62 #[.agg #[.int .i64 xi, .int .i64 xp, .int .i64 xv, .bool xn, .int .i64 xla, .slice la e1 lc, .int .i64 xc, .slice oa e2 oc, .slice ca e3 cc, .slice ta e4 tc], .agg #[.int .i64 xi, .int .i64 xp, .int .i64 xv, .bool xn, .int .i64 xla, .slice la' e1 lc', .int .i64 xc, .slice oa' e2 oc', .slice ca' e3 cc', .slice ta' e4 tc']] (grow (redrawn wr d) os) fun e w'' => e = .returned (.bool true) ∧ ∃ p : Regrown, w'' = grow (redrawn wr p.d) p.os := fun d os => Calls.regrown_of (hE _ (below_regrown wr d os))
      have k0 := cell_regrown c0
      have k1 := cell_regrown c1
      have k2 := cell_regrown c2
      have k3 := cell_regrown c3
      have k4 := cell_regrown c4
      have k5 := cell_regrown c5
      have k6 := cell_regrown c6
      have k7 := cell_regrown c7
      have k8 := cell_regrown c8
      have k9 := cell_regrown c9
      have n0 := cell_regrown m0
      have n1 := cell_regrown m1
      have n2 := cell_regrown m2
      have n3 := cell_regrown m3
      have n4 := cell_regrown m4
      have n5 := cell_regrown m5
      have n6 := cell_regrown m6
      have n7 := cell_regrown m7
      have n8 := cell_regrown m8
      have n9 := cell_regrown m9
      clear c0 c1 c2 c3 c4 c5 c6 c7 c8 c9 m0 m1 m2 m3 m4 m5 m6 m7 m8 m9 hE rx ry sx HA2 HB2
      go_upto_region 6 with fail
      refine wp_region_quiet_below (by kernel_rfl) (by kernel_rfl) ?_
      repeat (go_big_quiet_step (first | (with_reducible exact cE _ _)))
      refine wpQuiet_nil ?_
      intro _ hw'
      obtain ⟨⟨dq, osq⟩, hw''⟩ := hw'
      subst hw''
      have B6 : Hid (Below w.heap.size w (grow (redrawn wr dq) osq)) := hb.out.trans ((below_regrown wr dq osq).mono hb.out.size)
      generalize grow (redrawn wr dq) osq = w6 at B6 ⊢
      clear k0 k1 k2 k3 k4 k5 k6 k7 k8 k9 n0 n1 n2 n3 n4 n5 n6 n7 n8 n9 cE hb
      go_wp2_with fail
      go_roundw
      case rel => exact ⟨k + 1, by omega, by go_num, B6⟩
      case measure => simp [intOf]; omega
    · go_wp2
      go_ret
      exact ⟨rfl, hb.out⟩
end Go.Proofs.Ytdkhdjickkcaiaa.Rl
