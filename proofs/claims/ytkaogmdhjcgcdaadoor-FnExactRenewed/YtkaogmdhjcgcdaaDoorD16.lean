/-
  Requests and responses that came in, opened; the laws' own helpers for them, by their contracts.
  Objects that came in, opened; how large they are, by the laws' own measure.
  The laws' own copies and comparisons of requests and responses, by their contracts.
  The laws' own copies and comparisons of objects, by their contracts.
-/
import Derived.Test.YtkaogmdhjcgcdaaDoorD12
import Derived.Test.YtkaogmdhjcgcdaaDoorD15
import Derived.ProofKit
import Derived.OpenShut
import Derived.ShutString
import Derived.Lib.SmallJoins
namespace Go.Proofs.YtkaogmdhjcgcdaaDoor
open Go.RowKit Go.Sort Go.ChangeShapes Go.WideShapes Go.ChangeAt Go.Joins Go.Deep
set_option linter.unusedVariables false

set_option maxHeartbeats 400000 in
theorem szN (v : Value) (l : List Fl) (x : Int) (w : World) (hx0 : 0 ≤ x) (hx1 : x ≤ 1048576) (h : Fls w v l) (hz : ∀ f ∈ l, f.1.size ≤ maxLen ∧ f.2.size ≤ maxLen) :
    Calls Tryd.prog 18 #[v, .int .i64 x] w fun e w' => (∃ r : Int, e = .returned (.int .i64 r) ∧ (r = -1 ∨ (0 ≤ r ∧ r + (l.length : Int) + (szL l : Int) = x))) ∧ Below w.heap.size w w' := by
  obtain ⟨a, cap, rfl, h1, h2, h3⟩ := h
  unfold maxLen at h2
  by_cases hbig : x < (l.length : Int)
  · have hneg : x - (l.length : Int) < 0 := by omega
    go_enter Tryd.func18, Tryd.ntmps18
    go_wp2
    go_ret
    exact ⟨⟨-1, rfl, Or.inl rfl⟩, Below.refl _ _⟩
  · have hneg : ¬ x - (l.length : Int) < 0 := by omega
    go_enter Tryd.func18, Tryd.ntmps18
    go_wp2
    go_loopw [1, 5] (fun y i wr => ∃ (k r : Nat), k ≤ l.length ∧ i = .int .i64 k ∧ y = .int .i64 r ∧ (r : Int) + (l.length : Int) + (szL (l.take k) : Int) = x ∧ Below w.heap.size w wr) (fun _ i _ => l.length - (intOf i).toNat)
    case atStart => exact ⟨0, (x - (l.length : Int)).toNat, Nat.zero_le _, rfl, by rw [Int.toNat_of_nonneg (by omega)], by show _ + _ + ((0 : Nat) : Int) = x; rw [Int.toNat_of_nonneg (by omega)]; omega, Below.refl _ _⟩
    case round =>
      obtain ⟨k, r, hk, rfl, rfl, hr, hb⟩ := hrel
      by_cases hlt : k < l.length
      · obtain ⟨g, o, rfl, hg, hc⟩ := h3 (by omega)
        have c1 := (hb.cell (p := ⟨g, o + k * 2, none⟩) hg).trans (hc k hlt).1
        have c2 := (hb.cell (p := ⟨g, o + k * 2 + 1, none⟩) hg).trans (hc k hlt).2
        have hsz := hz l[k] (List.getElem_mem hlt)
        have hnx := szL_next hlt
        generalize l[k] = f at c1 c2 hsz hnx
        clear hc h3 hz
        go_wp2_with (go_at_call 37; refine (szF1 f r (by omega) hsz.1 hsz.2 _).mono ?_; rintro e w1 ⟨⟨r', rfl, hr'⟩, hb1⟩)
        · go_ret
          exact ⟨⟨-1, rfl, Or.inl rfl⟩, hb.trans (hb1.mono hb.size)⟩
        · have hr2 : 0 ≤ r' ∧ r' + f.1.size + f.2.size = r := by omega
          go_roundw
          case rel => exact ⟨k + 1, r'.toNat, by omega, by go_num, by rw [Int.toNat_of_nonneg hr2.1], by omega, hb.trans (hb1.mono hb.size)⟩
          case measure => simp [intOf]; omega
      · obtain rfl : k = l.length := by omega
        rw [List.take_length] at hr
        go_wp2
        go_ret
        exact ⟨⟨_, rfl, Or.inr ⟨by omega, by omega⟩⟩, hb⟩


/-! ### Opening -/
theorem array3m {α : Type} {cs : Array α} (h : cs.size = 3) : ∃ c0 c1 c2, cs = #[c0, c1, c2] := by
  obtain ⟨l⟩ := cs
  match l, h with
  | [c0, c1, c2], _ => exact ⟨c0, c1, c2, rfl⟩
theorem open_fldsV {H : Type} {enc : TypeId × Value → H} {W : World} {base : Nat} {spare : Nat → Bool} {held : Bool} {fuel : Nat} {c : Value} {x : DataW H × List MemPlace}
    (h : DataW.trod enc Tryd.prog W base spare held fuel 22 [c] = some x) :
    ∃ fs : List Fl, Fls W c fs ∧ (∀ f ∈ fs, f.1.size ≤ maxLen ∧ f.2.size ≤ maxLen) ∧ Solid c := by
  rcases Deep.open_slice_pairs Tryd.underlying22 Tryd.underlying62 (by kernel_rfl) rfl rfl (by kernel_rfl) (by kernel_rfl) h with ⟨hcs, _⟩ | ⟨a, len, cap, m, n, V0, V1, D0, D1, P0, P1, hcs, _⟩
  · simp at hcs
    subst hcs
    obtain ⟨fs, h1, h2⟩ := open_flds (sa := none) (sl := 0) (sc := 0) (by simpa [Value.cells] using h)
    exact ⟨fs, h1, h2, fun n c e => by injection e with _ _ e; exact e.symm⟩
  · simp at hcs
    subst hcs
    obtain ⟨fs, h1, h2⟩ := open_flds (sa := some a) (sl := len) (sc := cap) (by simpa [Value.cells] using h)
    exact ⟨fs, h1, h2, fun n c e => by injection e with e _ _; cases e⟩
def RsGot (w : World) (u : Value) (r : Rs) : Prop := Fls w u r.l ∧ (∀ f ∈ r.l, f.1.size ≤ maxLen ∧ f.2.size ≤ maxLen) ∧ Solid u ∧ r.b.size ≤ maxLen
set_option maxRecDepth 100000 in
theorem open_rs {H : Type} {enc : TypeId × Value → H} {w : World} {base : Nat} {spare : Nat → Bool} {held : Bool} {r : Reach} {b0 : Nat} {v : Value} {d : DataW H} {p : List MemPlace}
    (hv : Value.okWide Tryd.prog w r b0 24 v) (h : DataW.Trod enc Tryd.prog w base spare held 24 v d p) :
    ∃ (q : Rs) (u : Value), v = rsV q u ∧ RsGot w u q ∧ (Lit.int .i64 q.s).wf = true := by
  have hs := Tryd.underlying24
  obtain ⟨cs, rfl, hsz⟩ := okWide_struct hs hv
  obtain ⟨c0, c1, c2, rfl⟩ := array3m (hsz.trans (by kernel_rfl))
  obtain ⟨fuel, hfu⟩ := h
  obtain ⟨xs, n, _, hx, hl, hlen, hfs⟩ := DataW.trod_struct hs hfu
  match xs, hlen with
  | [y0, y1, y2], _ =>
    have g0 : DataW.trod enc Tryd.prog w base spare held n 2 [c0] = some y0 := by simpa [Value.cells, show Tryd.prog.cellsOf 2 = 1 by kernel_rfl] using hfs 0 _ rfl
    have g1 : DataW.trod enc Tryd.prog w base spare held n 22 [c1] = some y1 := by simpa [Value.cells, show Tryd.prog.cellsOf 22 = 1 by kernel_rfl] using hfs 1 _ rfl
    have g2 : DataW.trod enc Tryd.prog w base spare held n 9 [c2] = some y2 := by simpa [Value.cells, show Tryd.prog.cellsOf 9 = 1 by kernel_rfl] using hfs 2 _ rfl
    obtain ⟨a0, e0, rfl, w0⟩ := DataW.trod_int Tryd.underlying2 g0
    obtain ⟨a2, e2, rfl, w2⟩ := DataW.trod_string Tryd.underlying9 g2
    obtain ⟨fs, f1, f2, f3⟩ := open_fldsV g1
    simp at e0 e2
    subst e0 e2
    exact ⟨⟨a0, fs, a2⟩, c1, rfl, ⟨f1, f2, f3, w2⟩, w0⟩

/-! ### The laws' helpers -/
end Go.Proofs.YtkaogmdhjcgcdaaDoor
namespace Go.Proofs.YtkaogmdhjcgcdaaDoor
open Go.RowKit Go.Sort Go.ChangeShapes Go.WideShapes Go.ChangeAt Go.Joins Go.Deep
set_option linter.unusedVariables false

/-- What a law is told of an object that came in. -/
def ObGot (w : World) (v u : Value) (o : Ob) : Prop := Fls w v o.l ∧ (∀ f ∈ o.l, f.1.size ≤ maxLen ∧ f.2.size ≤ maxLen) ∧ Solid v ∧ RsGot w u o.r ∧ o.k.size ≤ maxLen
theorem array8m {α : Type} {cs : Array α} (h : cs.size = 8) : ∃ c0 c1 c2 c3 c4 c5 c6 c7, cs = #[c0, c1, c2, c3, c4, c5, c6, c7] := by
  obtain ⟨l⟩ := cs
  match l, h with
  | [c0, c1, c2, c3, c4, c5, c6, c7], _ => exact ⟨c0, c1, c2, c3, c4, c5, c6, c7, rfl⟩
set_option maxRecDepth 100000 in
theorem open_rs3 {H : Type} {enc : TypeId × Value → H} {w : World} {base : Nat} {spare : Nat → Bool} {held : Bool} {fuel : Nat} {c0 c1 c2 : Value} {x : DataW H × List MemPlace}
    (h : DataW.trod enc Tryd.prog w base spare held fuel 24 [c0, c1, c2] = some x) :
    ∃ (q : Rs), c0 = .int .i64 q.s ∧ c2 = .string q.b ∧ RsGot w c1 q ∧ (Lit.int .i64 q.s).wf = true := by
  have hs := Tryd.underlying24
  obtain ⟨xs, n, _, hx, hl, hlen, hfs⟩ := DataW.trod_struct hs h
  match xs, hlen with
  | [y0, y1, y2], _ =>
    have g0 : DataW.trod enc Tryd.prog w base spare held n 2 [c0] = some y0 := by simpa [Value.cells, show Tryd.prog.cellsOf 2 = 1 by kernel_rfl] using hfs 0 _ rfl
    have g1 : DataW.trod enc Tryd.prog w base spare held n 22 [c1] = some y1 := by simpa [Value.cells, show Tryd.prog.cellsOf 22 = 1 by kernel_rfl] using hfs 1 _ rfl
    have g2 : DataW.trod enc Tryd.prog w base spare held n 9 [c2] = some y2 := by simpa [Value.cells, show Tryd.prog.cellsOf 9 = 1 by kernel_rfl] using hfs 2 _ rfl
    obtain ⟨a0, e0, rfl, w0⟩ := DataW.trod_int Tryd.underlying2 g0
    obtain ⟨a2, e2, rfl, w2⟩ := DataW.trod_string Tryd.underlying9 g2
    obtain ⟨fs, f1, f2, f3⟩ := open_fldsV g1
    simp at e0 e2
    subst e0 e2
    exact ⟨⟨a0, fs, a2⟩, rfl, rfl, ⟨f1, f2, f3, w2⟩, w0⟩
set_option maxRecDepth 100000 in
theorem open_ob {H : Type} {enc : TypeId × Value → H} {w : World} {base : Nat} {spare : Nat → Bool} {held : Bool} {r : Reach} {b0 : Nat} {v : Value} {d : DataW H} {p : List MemPlace}
    (hv : Value.okWide Tryd.prog w r b0 26 v) (h : DataW.Trod enc Tryd.prog w base spare held 26 v d p) :
    ∃ (o : Ob) (x u : Value), v = obV o x u ∧ ObGot w x u o ∧ (Lit.int .i64 o.r.s).wf = true ∧ (Lit.int .i64 o.asked).wf = true ∧ (Lit.int .i64 o.got).wf = true ∧ (Lit.int .i64 o.ep).wf = true := by
  have hs := Tryd.underlying26
  obtain ⟨cs, rfl, hsz⟩ := okWide_struct hs hv
  obtain ⟨c0, c1, c2, c3, c4, c5, c6, c7, rfl⟩ := array8m (hsz.trans (by kernel_rfl))
  obtain ⟨fuel, hfu⟩ := h
  obtain ⟨xs, n, _, hx, hl, hlen, hfs⟩ := DataW.trod_struct hs hfu
  match xs, hlen with
  | [y0, y1, y2, y3, y4, y5], _ =>
    have g0 : DataW.trod enc Tryd.prog w base spare held n 9 [c0] = some y0 := by simpa [Value.cells, show Tryd.prog.cellsOf 9 = 1 by kernel_rfl] using hfs 0 _ rfl
    have g1 : DataW.trod enc Tryd.prog w base spare held n 22 [c1] = some y1 := by simpa [Value.cells, show Tryd.prog.cellsOf 22 = 1 by kernel_rfl] using hfs 1 _ rfl
    have g2 : DataW.trod enc Tryd.prog w base spare held n 24 [c2, c3, c4] = some y2 := by simpa [Value.cells, show Tryd.prog.cellsOf 24 = 3 by kernel_rfl] using hfs 2 _ rfl
    have g3 : DataW.trod enc Tryd.prog w base spare held n 2 [c5] = some y3 := by simpa [Value.cells, show Tryd.prog.cellsOf 2 = 1 by kernel_rfl] using hfs 3 _ rfl
    have g4 : DataW.trod enc Tryd.prog w base spare held n 2 [c6] = some y4 := by simpa [Value.cells, show Tryd.prog.cellsOf 2 = 1 by kernel_rfl] using hfs 4 _ rfl
    have g5 : DataW.trod enc Tryd.prog w base spare held n 2 [c7] = some y5 := by simpa [Value.cells, show Tryd.prog.cellsOf 2 = 1 by kernel_rfl] using hfs 5 _ rfl
    obtain ⟨a0, e0, rfl, w0⟩ := DataW.trod_string Tryd.underlying9 g0
    obtain ⟨fs, f1, f2, f3⟩ := open_fldsV g1
    obtain ⟨q, r0, r2, rg, rw⟩ := open_rs3 g2
    obtain ⟨a3, e3, rfl, w3⟩ := DataW.trod_int Tryd.underlying2 g3
    obtain ⟨a4, e4, rfl, w4⟩ := DataW.trod_int Tryd.underlying2 g4
    obtain ⟨a5, e5, rfl, w5⟩ := DataW.trod_int Tryd.underlying2 g5
    simp at e0 e3 e4 e5
    subst e0 e3 e4 e5 r0 r2
    exact ⟨⟨a0, fs, q, a3, a4, a5⟩, c1, c3, rfl, ⟨f1, f2, f3, rg, w0⟩, rw, w3, w4, w5⟩
set_option maxHeartbeats 1000000 in
theorem lawSzRsX (r : Rs) (v : Value) (y : Int) (w : World) (hy0 : 0 ≤ y) (hy1 : y ≤ 1048576) (h : RsGot w v r) :
    Calls Tryd.prog 10 #[rsV r v, .int .i64 y] w fun e w' => (∃ x : Int, e = .returned (.int .i64 x) ∧ (x = -1 ∨ (0 ≤ x ∧ x + ((r.l.length : Int) + (szL r.l : Int)) + (r.b.size : Int) = y))) ∧ Below w.heap.size w w' := by
  obtain ⟨hf, hfz, hsol, z3⟩ := h
  have hfs := hf
  obtain ⟨a, cap, rfl, hcap⟩ := hfs
  clear hcap
  unfold rsV
  unfold maxLen at z3
  have F0 : Hid (Fls (w.alloc (.cells #[.int .i64 r.s, .slice a r.l.length cap, .string r.b] 24)) (.slice a r.l.length cap) r.l) := hf.kept ((Below.refl _ w).alloc (Nat.le_refl _) _)
  have Q0 : Hid (RsB (w.alloc (.cells #[.int .i64 r.s, .slice a r.l.length cap, .string r.b] 24)) w.heap.size r (.slice a r.l.length cap)) := RsB.new w r _ _
  have B0 : Hid (Below w.heap.size w (w.alloc (.cells #[.int .i64 r.s, .slice a r.l.length cap, .string r.b] 24))) := (Below.refl _ w).alloc (Nat.le_refl _) _
  have HZ : Hid (∀ f ∈ r.l, f.1.size ≤ maxLen ∧ f.2.size ≤ maxLen) := hfz
  clear hf hfz hsol
  go_enter Tryd.func10, Tryd.ntmps10
  go_wp2_with fail
  refine (szN _ r.l _ _ (by omega) (by omega) F0.out HZ.out).mono ?_
  rintro e w1 ⟨⟨x, rfl, hx⟩, hb1⟩
  have Q1 : Hid (RsB w1 w.heap.size r (.slice a r.l.length cap)) := Q0.out.next hb1
  have B1 : Hid (Below w.heap.size w w1) := past6 B0.out hb1
  have a2 := Q1.out.c2
  clear Q0 B0 hb1 F0
  rcases hx with rfl | ⟨hx0, hx1⟩
  · go_wp2
    go_ret
    exact ⟨⟨_, rfl, .inl rfl⟩, B1.out⟩
  · have d3 : ¬ x < 0 := by omega
    have hx2 : x ≤ 1048576 := by omega
    by_cases h4 : x < (r.b.size : Int)
    · have d4 : x - (r.b.size : Int) < 0 := by omega
      go_wp2
      go_ret
      exact ⟨⟨_, rfl, .inl rfl⟩, B1.out⟩
    · have d4 : ¬ x - (r.b.size : Int) < 0 := by omega
      have HX : Hid (x - (r.b.size : Int) + ((r.l.length : Int) + (szL r.l : Int)) + (r.b.size : Int) = y) := by show _ = _; omega
      clear hx1
      go_wp2
      go_ret
      exact ⟨⟨_, rfl, .inr ⟨by omega, HX.out⟩⟩, B1.out⟩
set_option maxHeartbeats 1000000 in
theorem lawSzObX (o : Ob) (v u : Value) (y0 : Int) (w : World) (hy0 : 0 ≤ y0) (hy1 : y0 ≤ 1048576) (h : ObGot w v u o) :
    Calls Tryd.prog 5 #[obV o v u, .int .i64 y0] w fun e w' => (∃ x : Int, e = .returned (.int .i64 x) ∧ (x = -1 ∨ (0 ≤ x ∧ x + (o.k.size : Int) + ((o.l.length : Int) + (szL o.l : Int)) + (((o.r.l.length : Int) + (szL o.r.l : Int)) + (o.r.b.size : Int)) = y0))) ∧ Below w.heap.size w w' := by
  obtain ⟨hf, hfz, hsol, hr, z1⟩ := h
  have hfs := hf
  obtain ⟨va, vc, rfl, hcap⟩ := hfs
  clear hcap
  have hrs := hr.1
  obtain ⟨ua, uc, rfl, hcap⟩ := hrs
  clear hcap
  unfold maxLen at z1
  have B0 : Hid (Below w.heap.size w (w.alloc (.cells #[.string o.k, .slice va o.l.length vc, .int .i64 o.r.s, .slice ua o.r.l.length uc, .string o.r.b, .int .i64 o.asked, .int .i64 o.got, .int .i64 o.ep] 26))) := (Below.refl _ w).alloc (Nat.le_refl _) _
  have F0 : Hid (Fls (w.alloc (.cells #[.string o.k, .slice va o.l.length vc, .int .i64 o.r.s, .slice ua o.r.l.length uc, .string o.r.b, .int .i64 o.asked, .int .i64 o.got, .int .i64 o.ep] 26)) (.slice va o.l.length vc) o.l) := hf.kept B0.out
  have G0 : Hid (RsGot (w.alloc (.cells #[.string o.k, .slice va o.l.length vc, .int .i64 o.r.s, .slice ua o.r.l.length uc, .string o.r.b, .int .i64 o.asked, .int .i64 o.got, .int .i64 o.ep] 26)) (.slice ua o.r.l.length uc) o.r) := ⟨hr.1.kept B0.out, hr.2⟩
  have Q0 : Hid (ObB (w.alloc (.cells #[.string o.k, .slice va o.l.length vc, .int .i64 o.r.s, .slice ua o.r.l.length uc, .string o.r.b, .int .i64 o.asked, .int .i64 o.got, .int .i64 o.ep] 26)) w.heap.size o (.slice va o.l.length vc) (.slice ua o.r.l.length uc)) := ObB.new w o _ _ _
  have HZ : Hid (∀ f ∈ o.l, f.1.size ≤ maxLen ∧ f.2.size ≤ maxLen) := hfz
  have j2 := fun y W h0 h1 hW => lawSzRsX o.r (.slice ua o.r.l.length uc) y W h0 h1 hW
  clear hf hfz hsol hr
  unfold obV
  unfold rsV at j2
  by_cases h1 : y0 < (o.k.size : Int)
  · have d1 : y0 - (o.k.size : Int) < 0 := by omega
    go_enter Tryd.func5, Tryd.ntmps5
    go_wp2
    go_ret
    exact ⟨⟨_, rfl, .inl rfl⟩, B0.out⟩
  · have d1 : ¬ y0 - (o.k.size : Int) < 0 := by omega
    go_enter Tryd.func5, Tryd.ntmps5
    go_wp2_with fail
    refine (szN _ o.l _ _ (by omega) (by omega) F0.out HZ.out).mono ?_
    rintro e w1 ⟨⟨x, rfl, hx⟩, hb1⟩
    have Q1 : Hid (ObB w1 w.heap.size o (.slice va o.l.length vc) (.slice ua o.r.l.length uc)) := Q0.out.next hb1
    have B1 : Hid (Below w.heap.size w w1) := past6 B0.out hb1
    have G1 : Hid (RsGot w1 (.slice ua o.r.l.length uc) o.r) := ⟨G0.out.1.kept hb1, G0.out.2⟩
    clear Q0 B0 hb1 F0 G0
    rcases hx with rfl | ⟨hx0, hx1⟩
    · go_wp2
      go_ret
      exact ⟨⟨_, rfl, .inl rfl⟩, B1.out⟩
    · have d3 : ¬ x < 0 := by omega
      have hx2 : x ≤ 1048576 := by omega
      have q2 := Q1.out.c2
      have q3 := Q1.out.c3
      have q4 := Q1.out.c4
      go_wp2_with fail
      refine (j2 x _ hx0 hx2 G1.out).mono ?_
      rintro e w2 ⟨⟨y, rfl, hy⟩, hb2⟩
      have B2 : Hid (Below w.heap.size w w2) := past6 B1.out hb2
      clear hb2 B1 Q1 G1 q2 q3 q4 j2
      rcases hy with rfl | ⟨hz0, hz1⟩
      · go_wp2
        go_ret
        exact ⟨⟨_, rfl, .inl rfl⟩, B2.out⟩
      · have d4 : ¬ y < 0 := by omega
        have HX : Hid (y + (o.k.size : Int) + ((o.l.length : Int) + (szL o.l : Int)) + (((o.r.l.length : Int) + (szL o.r.l : Int)) + (o.r.b.size : Int)) = y0) := by show _ = _; omega
        clear hx1 hz1
        go_wp2
        go_ret
        exact ⟨⟨_, rfl, .inr ⟨hz0, HX.out⟩⟩, B2.out⟩
theorem lawSzOb (o : Ob) (v u : Value) (w : World) (h : ObGot w v u o) :
    Calls Tryd.prog 5 #[obV o v u, .int .i64 1048576] w fun e w' => (∃ x : Int, e = .returned (.int .i64 x) ∧ (x = -1 ∨ (0 ≤ x ∧ x + (o.k.size : Int) + ((o.l.length : Int) + (szL o.l : Int)) + (((o.r.l.length : Int) + (szL o.r.l : Int)) + (o.r.b.size : Int)) = 1048576))) ∧ Below w.heap.size w w' := lawSzObX o v u 1048576 w (by decide) (by decide) h
end Go.Proofs.YtkaogmdhjcgcdaaDoor
namespace Go.Proofs.YtkaogmdhjcgcdaaDoor
open Go.RowKit Go.Sort
set_option linter.unusedVariables false

theorem OwnsF.far {w : World} {B b k : Nat} {v : Value} {l : List Fl} (h : OwnsF w B v l) (hb : b < B) (x : Value) : OwnsF (w.setCell ⟨b, k, none⟩ x) B v l := by
  refine ⟨h.1, ?_⟩
  rcases h.2 with h0 | ⟨g, cap, cur, hv, hbg, hg, rest⟩
  · exact .inl h0
  · exact .inr ⟨g, cap, cur, hv, hbg, by rw [Below.heap_setCell _ _ _ _ (by show g ≠ b; omega)]; exact hg, rest⟩
def outS (r : Rs) : Rs := ⟨r.s, [], ⟨#[]⟩⟩
theorem three_rs (w : World) (r : Rs) (v : Value) :
    RsB (((w.alloc (.cells #[.int .i64 r.s, v, .string r.b] 24)).alloc (.cells #[.int .i64 0, .slice none 0 0, .string ⟨#[]⟩] 31)).alloc (.cells #[.int .i64 r.s, .slice none 0 0, .string ⟨#[]⟩] 31)) w.heap.size r v ∧
    RsB (((w.alloc (.cells #[.int .i64 r.s, v, .string r.b] 24)).alloc (.cells #[.int .i64 0, .slice none 0 0, .string ⟨#[]⟩] 31)).alloc (.cells #[.int .i64 r.s, .slice none 0 0, .string ⟨#[]⟩] 31)) (w.heap.size + 1) noS (.slice none 0 0) ∧
    RsB (((w.alloc (.cells #[.int .i64 r.s, v, .string r.b] 24)).alloc (.cells #[.int .i64 0, .slice none 0 0, .string ⟨#[]⟩] 31)).alloc (.cells #[.int .i64 r.s, .slice none 0 0, .string ⟨#[]⟩] 31)) (w.heap.size + 1 + 1) (outS r) (.slice none 0 0) ∧
    Below w.heap.size w (((w.alloc (.cells #[.int .i64 r.s, v, .string r.b] 24)).alloc (.cells #[.int .i64 0, .slice none 0 0, .string ⟨#[]⟩] 31)).alloc (.cells #[.int .i64 r.s, .slice none 0 0, .string ⟨#[]⟩] 31)) ∧
    (((w.alloc (.cells #[.int .i64 r.s, v, .string r.b] 24)).alloc (.cells #[.int .i64 0, .slice none 0 0, .string ⟨#[]⟩] 31)).alloc (.cells #[.int .i64 r.s, .slice none 0 0, .string ⟨#[]⟩] 31)).heap.size = w.heap.size + 3 := by
  refine ⟨((RsB.new w r v _).alloc _).alloc _, ?_, ?_, ?_, by simp⟩
  · have := RsB.new (w.alloc (.cells #[.int .i64 r.s, v, .string r.b] 24)) noS (.slice none 0 0) 31
    rw [show (w.alloc (.cells #[.int .i64 r.s, v, .string r.b] 24)).heap.size = w.heap.size + 1 by simp] at this
    exact this.alloc _
  · have := RsB.new ((w.alloc (.cells #[.int .i64 r.s, v, .string r.b] 24)).alloc (.cells #[.int .i64 0, .slice none 0 0, .string ⟨#[]⟩] 31)) (outS r) (.slice none 0 0) 31
    rw [show ((w.alloc (.cells #[.int .i64 r.s, v, .string r.b] 24)).alloc (.cells #[.int .i64 0, .slice none 0 0, .string ⟨#[]⟩] 31)).heap.size = w.heap.size + 1 + 1 by simp] at this
    exact this
  · exact (((Below.refl _ w).alloc (Nat.le_refl _) _).alloc (by simp) _).alloc (by simp; omega) _
set_option maxHeartbeats 1000000 in
theorem lawToRs (r : Rs) (v : Value) (w : World) (h : Fls w v r.l) (hl : r.l.length ≤ 1048576) :
    Calls Tryd.prog 12 #[rsV r v] w fun e w' => ∃ u, e = .returned (rsV r u) ∧ OwnsF w' w.heap.size u r.l ∧ Below w.heap.size w w' := by
  have hfs := h
  obtain ⟨a, cap, rfl, hcap⟩ := hfs
  clear hcap
  unfold rsV
  obtain ⟨q0, q1, q2, q3, q4⟩ := three_rs w r (.slice a r.l.length cap)
  have HC := toFS _ r.l _ (h.kept q3) hl
  have Q0 : Hid _ := q0
  have Q1 : Hid _ := q1
  have Q2 : Hid _ := q2
  have Q3 : Hid _ := q3
  have Q4 : Hid _ := q4
  clear h q0 q1 q2 q3 q4
  go_enter Tryd.func12, Tryd.ntmps12
  go_wp2_with fail
  refine HC.mono ?_
  rintro e w4 ⟨u, rfl, ho, hb4⟩
  have B4 : Hid (Below w.heap.size w w4) := past6 Q3.out hb4
  have s0 : Hid (RsB w4 w.heap.size r (.slice a r.l.length cap)) := Q0.out.next hb4
  have s1 : Hid (RsB w4 (w.heap.size + 1) noS (.slice none 0 0)) := Q1.out.next hb4
  have s2 : Hid (RsB w4 (w.heap.size + 1 + 1) (outS r) (.slice none 0 0)) := Q2.out.next hb4
  rw [Q4.out] at ho
  obtain ⟨A2, cap2, rfl, hcl, hcm⟩ := ho.form
  have HO : Hid (OwnsF w4 (w.heap.size + 3) (.slice A2 r.l.length cap2) r.l) := ho
  clear ho HC Q0 Q1 Q2 Q3 Q4 hb4
  have a2 := s0.out.c2
  have z0 := s1.out.c0
  have z1 := s1.out.c1
  have z2 := s1.out.c2
  have zf := s1.out.fz
  have o0 : w4.cell? ⟨w.heap.size + 1 + 1, 0, none⟩ = some (.int .i64 r.s) := s2.out.c0
  have o1 := s2.out.c1
  have o2 := s2.out.c2
  have of := s2.out.fz
  clear s0 s1 s2
  go_wp2
  refine bodyPost_ret (v := .agg #[.int .i64 r.s, .slice A2 r.l.length cap2, .string r.b]) (by simp [results, Tryd.results12, go_sem, z0, z1, z2]) rfl ⟨_, rfl, ?_, ?_⟩
  · refine OwnsF.low (B := w.heap.size + 3) ?_ (by omega)
    repeat (refine OwnsF.far ?_ (by omega) _)
    exact HO.out
  · repeat (refine Below.setCell ?_ (by simp <;> omega) _)
    exact B4.out
set_option maxHeartbeats 1000000 in
theorem lawEqRs (r : Rs) (va vb : Value) (w : World) (ha : Fls w va r.l) (hb : Fls w vb r.l) (hl : r.l.length ≤ 1048576) :
    Calls Tryd.prog 14 #[rsV r va, rsV r vb] w fun e w' => e = .returned (.bool true) ∧ Below w.heap.size w w' := by
  have hfa := ha
  have hfb := hb
  obtain ⟨a, ca, rfl, _⟩ := hfa
  obtain ⟨b, cb, rfl, _⟩ := hfb
  unfold rsV
  have B0 : Below w.heap.size w ((w.alloc (.cells #[.int .i64 r.s, .slice a r.l.length ca, .string r.b] 31)).alloc (.cells #[.int .i64 r.s, .slice b r.l.length cb, .string r.b] 31)) := ((Below.refl _ w).alloc (Nat.le_refl _) _).alloc (by simp) _
  have hq := eqFS _ _ r.l _ (ha.kept B0) (hb.kept B0) hl
  have P0 : Hid (RsB ((w.alloc (.cells #[.int .i64 r.s, .slice a r.l.length ca, .string r.b] 31)).alloc (.cells #[.int .i64 r.s, .slice b r.l.length cb, .string r.b] 31)) w.heap.size r (.slice a r.l.length ca)) := (RsB.new w r _ _).alloc _
  have P1 : Hid (RsB ((w.alloc (.cells #[.int .i64 r.s, .slice a r.l.length ca, .string r.b] 31)).alloc (.cells #[.int .i64 r.s, .slice b r.l.length cb, .string r.b] 31)) (w.heap.size + 1) r (.slice b r.l.length cb)) := by
    have := RsB.new (w.alloc (.cells #[.int .i64 r.s, .slice a r.l.length ca, .string r.b] 31)) r (.slice b r.l.length cb) 31
    rw [show (w.alloc (.cells #[.int .i64 r.s, .slice a r.l.length ca, .string r.b] 31)).heap.size = w.heap.size + 1 by simp] at this
    exact this
  have HB : Hid _ := B0
  clear ha hb B0
  go_enter Tryd.func14, Tryd.ntmps14
  go_wp2_with fail
  refine hq.mono ?_
  rintro e w1 ⟨rfl, hg⟩
  have S0 : Hid (RsB w1 w.heap.size r (.slice a r.l.length ca)) := P0.out.next hg.low
  have S1 : Hid (RsB w1 (w.heap.size + 1) r (.slice b r.l.length cb)) := P1.out.next hg.low
  have B1 : Hid (Below w.heap.size w w1) := past6 HB.out hg.low
  have a2 := S0.out.c2
  have b2 := S1.out.c2
  clear P0 P1 HB hg hq S0 S1
  go_wp2
  go_ret
  exact ⟨rfl, B1.out⟩
end Go.Proofs.YtkaogmdhjcgcdaaDoor
namespace Go.Proofs.YtkaogmdhjcgcdaaDoor
open Go.RowKit Go.Sort
set_option linter.unusedVariables false

def noO : Ob := ⟨⟨#[]⟩, [], noS, 0, 0, 0⟩
def outO (o : Ob) : Ob := ⟨o.k, [], noS, 0, 0, 0⟩
theorem ObB.alloc {w : World} {b : Nat} {o : Ob} {v u : Value} (h : ObB w b o v u) (x : Obj) : ObB (w.alloc x) b o v u := h.next ((Below.refl _ w).alloc (Nat.le_refl _) _)
theorem ObB.put1 {w : World} {b : Nat} {o : Ob} {v u : Value} (h : ObB w b o v u) (x : Value) : ObB (w.setCell ⟨b, 1, none⟩ x) b o x u where
  c0 := by rw [World.cell?_setCell_other _ _ _ _ (by simp)]; exact h.c0
  c1 := World.cell?_setCell_same _ _ _ h.c1
  c2 := by rw [World.cell?_setCell_other _ _ _ _ (by simp)]; exact h.c2
  c3 := by rw [World.cell?_setCell_other _ _ _ _ (by simp)]; exact h.c3
  c4 := by rw [World.cell?_setCell_other _ _ _ _ (by simp)]; exact h.c4
  c5 := by rw [World.cell?_setCell_other _ _ _ _ (by simp)]; exact h.c5
  c6 := by rw [World.cell?_setCell_other _ _ _ _ (by simp)]; exact h.c6
  c7 := by rw [World.cell?_setCell_other _ _ _ _ (by simp)]; exact h.c7
  fz := fun k => by rw [World.frozen?_setCell]; exact h.fz k
  hi := by rw [World.size_setCell]; exact h.hi
theorem ObB.far {w : World} {b c k : Nat} {o : Ob} {v u : Value} (h : ObB w b o v u) (hc : c ≠ b) (x : Value) : ObB (w.setCell ⟨c, k, none⟩ x) b o v u := by
  have e : ∀ j, (w.setCell ⟨c, k, none⟩ x).cell? ⟨b, j, none⟩ = w.cell? ⟨b, j, none⟩ := fun j => World.cell?_setCell_other _ _ _ _ (fun e => hc (by injection e))
  exact ⟨(e 0).trans h.c0, (e 1).trans h.c1, (e 2).trans h.c2, (e 3).trans h.c3, (e 4).trans h.c4, (e 5).trans h.c5, (e 6).trans h.c6, (e 7).trans h.c7, fun j => by rw [World.frozen?_setCell]; exact h.fz j, by rw [World.size_setCell]; exact h.hi⟩
abbrev wOb (w : World) (o : Ob) (v u : Value) : World := ((w.alloc (.cells #[.string o.k, v, .int .i64 o.r.s, u, .string o.r.b, .int .i64 o.asked, .int .i64 o.got, .int .i64 o.ep] 26)).alloc (.cells #[.string ⟨#[]⟩, .slice none 0 0, .int .i64 0, .slice none 0 0, .string ⟨#[]⟩, .int .i64 0, .int .i64 0, .int .i64 0] 33)).alloc (.cells #[.string o.k, .slice none 0 0, .int .i64 0, .slice none 0 0, .string ⟨#[]⟩, .int .i64 0, .int .i64 0, .int .i64 0] 33)
theorem three_ob (w : World) (o : Ob) (v u : Value) :
    ObB (wOb w o v u) w.heap.size o v u ∧ ObB (wOb w o v u) (w.heap.size + 1) noO (.slice none 0 0) (.slice none 0 0) ∧ ObB (wOb w o v u) (w.heap.size + 1 + 1) (outO o) (.slice none 0 0) (.slice none 0 0) ∧ Below w.heap.size w (wOb w o v u) ∧ (wOb w o v u).heap.size = w.heap.size + 3 := by
  refine ⟨((ObB.new w o v u _).alloc _).alloc _, ?_, ?_, ?_, by simp⟩
  · have := ObB.new (w.alloc (.cells #[.string o.k, v, .int .i64 o.r.s, u, .string o.r.b, .int .i64 o.asked, .int .i64 o.got, .int .i64 o.ep] 26)) noO (.slice none 0 0) (.slice none 0 0) 33
    rw [show (w.alloc (.cells #[.string o.k, v, .int .i64 o.r.s, u, .string o.r.b, .int .i64 o.asked, .int .i64 o.got, .int .i64 o.ep] 26)).heap.size = w.heap.size + 1 by simp] at this
    exact this.alloc _
  · have := ObB.new ((w.alloc (.cells #[.string o.k, v, .int .i64 o.r.s, u, .string o.r.b, .int .i64 o.asked, .int .i64 o.got, .int .i64 o.ep] 26)).alloc (.cells #[.string ⟨#[]⟩, .slice none 0 0, .int .i64 0, .slice none 0 0, .string ⟨#[]⟩, .int .i64 0, .int .i64 0, .int .i64 0] 33)) (outO o) (.slice none 0 0) (.slice none 0 0) 33
    rw [show ((w.alloc (.cells #[.string o.k, v, .int .i64 o.r.s, u, .string o.r.b, .int .i64 o.asked, .int .i64 o.got, .int .i64 o.ep] 26)).alloc (.cells #[.string ⟨#[]⟩, .slice none 0 0, .int .i64 0, .slice none 0 0, .string ⟨#[]⟩, .int .i64 0, .int .i64 0, .int .i64 0] 33)).heap.size = w.heap.size + 1 + 1 by simp] at this
    exact this
  · exact (((Below.refl _ w).alloc (Nat.le_refl _) _).alloc (by simp) _).alloc (by simp; omega) _
set_option maxHeartbeats 4000000 in
theorem lawToOb (o : Ob) (v u : Value) (w : World) (h : Fls w v o.l) (hr : Fls w u o.r.l) (hl : o.l.length ≤ 1048576) (hl2 : o.r.l.length ≤ 1048576) :
    Calls Tryd.prog 7 #[obV o v u] w fun e w' => ∃ v2 u2, e = .returned (obV o v2 u2) ∧ OwnsF w' w.heap.size v2 o.l ∧ OwnsF w' w.heap.size u2 o.r.l ∧ (∀ g, v2.ownBlock = some g → u2.ownBlock ≠ some g) ∧ Below w.heap.size w w' := by
  have hfs := h
  obtain ⟨va, vc, rfl, hcap⟩ := hfs
  clear hcap
  have hrs := hr
  obtain ⟨ua, uc, rfl, hcap⟩ := hrs
  clear hcap
  unfold obV
  obtain ⟨q0, q1, q2, q3, q4⟩ := three_ob w o (.slice va o.l.length vc) (.slice ua o.r.l.length uc)
  have HC := toFS _ o.l _ (h.kept q3) hl
  have HR : Hid (Fls w (.slice ua o.r.l.length uc) o.r.l) := hr
  have j2 := fun W hW => lawToRs o.r (.slice ua o.r.l.length uc) W hW hl2
  unfold rsV at j2
  have Q0 : Hid _ := q0
  have Q1 : Hid _ := q1
  have Q2 : Hid _ := q2
  have Q3 : Hid _ := q3
  have Q4 : Hid _ := q4
  clear h hr q0 q1 q2 q3 q4
  go_enter Tryd.func7, Tryd.ntmps7
  go_wp2_with fail
  refine HC.mono ?_
  rintro e w4 ⟨v2, rfl, ho, hb4⟩
  have B4 : Hid (Below w.heap.size w w4) := past6 Q3.out hb4
  have s0 : Hid (ObB w4 w.heap.size o (.slice va o.l.length vc) (.slice ua o.r.l.length uc)) := Q0.out.next hb4
  have s1 : Hid (ObB w4 (w.heap.size + 1) noO (.slice none 0 0) (.slice none 0 0)) := Q1.out.next hb4
  have s2 : Hid (ObB w4 (w.heap.size + 1 + 1) (outO o) (.slice none 0 0) (.slice none 0 0)) := Q2.out.next hb4
  rw [Q4.out] at ho
  have hsz : w.heap.size + 3 ≤ w4.heap.size := by have := hb4.size; rw [Q4.out] at this; exact this
  obtain ⟨A2, cap2, rfl, hcl, hcm⟩ := ho.form
  have HO : Hid (OwnsF w4 (w.heap.size + 3) (.slice A2 o.l.length cap2) o.l) := ho
  clear ho HC Q0 Q1 Q2 Q3 Q4 hb4
  have B5 : Hid (Below w.heap.size w (w4.setCell ⟨w.heap.size + 1 + 1, 1, none⟩ (.slice A2 o.l.length cap2))) := B4.out.setCell (by simp <;> omega) _
  have t0 : Hid (ObB (w4.setCell ⟨w.heap.size + 1 + 1, 1, none⟩ (.slice A2 o.l.length cap2)) w.heap.size o (.slice va o.l.length vc) (.slice ua o.r.l.length uc)) := s0.out.far (by omega) _
  have t1 : Hid (ObB (w4.setCell ⟨w.heap.size + 1 + 1, 1, none⟩ (.slice A2 o.l.length cap2)) (w.heap.size + 1) noO (.slice none 0 0) (.slice none 0 0)) := s1.out.far (by omega) _
  have t2 : Hid (ObB (w4.setCell ⟨w.heap.size + 1 + 1, 1, none⟩ (.slice A2 o.l.length cap2)) (w.heap.size + 1 + 1) (outO o) (.slice A2 o.l.length cap2) (.slice none 0 0)) := s2.out.put1 _
  have HO5 : Hid (OwnsF (w4.setCell ⟨w.heap.size + 1 + 1, 1, none⟩ (.slice A2 o.l.length cap2)) (w.heap.size + 3) (.slice A2 o.l.length cap2) o.l) := HO.out.far (by omega) _
  have hs5 : Hid ((w4.setCell ⟨w.heap.size + 1 + 1, 1, none⟩ (.slice A2 o.l.length cap2)).heap.size = w4.heap.size) := World.size_setCell ..
  have a2 := s0.out.c2
  have a3 := s0.out.c3
  have a4 := s0.out.c4
  have o1 := s2.out.c1
  have of := s2.out.fz
  go_wp2_with fail
  refine (j2 _ (HR.out.kept B5.out)).mono ?_
  rintro e w6 ⟨u2, rfl, ho2, hb6⟩
  have B6 : Hid (Below w.heap.size w w6) := past6 B5.out hb6
  have r0 : Hid (ObB w6 w.heap.size o (.slice va o.l.length vc) (.slice ua o.r.l.length uc)) := t0.out.next hb6
  have r1 : Hid (ObB w6 (w.heap.size + 1) noO (.slice none 0 0) (.slice none 0 0)) := t1.out.next hb6
  have r2 : Hid (ObB w6 (w.heap.size + 1 + 1) (outO o) (.slice A2 o.l.length cap2) (.slice none 0 0)) := t2.out.next hb6
  have HO6 : Hid (OwnsF w6 (w.heap.size + 3) (.slice A2 o.l.length cap2) o.l) := HO5.out.kept hb6
  rw [hs5.out] at ho2
  have hne : Hid (∀ g, (Value.slice A2 o.l.length cap2).ownBlock = some g → u2.ownBlock ≠ some g) := fun g h1 h2 => by
    have h3 := HO.out.under g h1
    have h4 := ho2.from g h2
    omega
  obtain ⟨A3, cap3, rfl, hcl3, hcm3⟩ := ho2.form
  have HU6 : Hid (OwnsF w6 (w.heap.size + 3) (.slice A3 o.r.l.length cap3) o.r.l) := ho2.low hsz
  clear ho2 hb6 B4 B5 s0 s1 s2 t0 t1 t2 HO HO5 hs5 a2 a3 a4 o1 of j2 HR
  have a5 := r0.out.c5
  have a6 := r0.out.c6
  have a7 := r0.out.c7
  have z0 := r1.out.c0
  have z1 := r1.out.c1
  have z2 := r1.out.c2
  have z3 := r1.out.c3
  have z4 := r1.out.c4
  have z5 := r1.out.c5
  have z6 := r1.out.c6
  have z7 := r1.out.c7
  have zf := r1.out.fz
  have o0 : w6.cell? ⟨w.heap.size + 1 + 1, 0, none⟩ = some (.string o.k) := r2.out.c0
  have o1 := r2.out.c1
  have o2 := r2.out.c2
  have o3 := r2.out.c3
  have o4 := r2.out.c4
  have o5 := r2.out.c5
  have o6 := r2.out.c6
  have o7 := r2.out.c7
  have of := r2.out.fz
  clear r0 r1 r2
  go_wp2
  refine bodyPost_ret (v := .agg #[.string o.k, .slice A2 o.l.length cap2, .int .i64 o.r.s, .slice A3 o.r.l.length cap3, .string o.r.b, .int .i64 o.asked, .int .i64 o.got, .int .i64 o.ep]) (by simp [results, Tryd.results7, go_sem, z0, z1, z2, z3, z4, z5, z6, z7]) rfl ⟨_, _, rfl, ?_, ?_, hne.out, ?_⟩
  · refine OwnsF.low (B := w.heap.size + 3) ?_ (by omega)
    repeat (refine OwnsF.far ?_ (by omega) _)
    exact HO6.out
  · refine OwnsF.low (B := w.heap.size + 3) ?_ (by omega)
    repeat (refine OwnsF.far ?_ (by omega) _)
    exact HU6.out
  · repeat (refine Below.setCell ?_ (by simp <;> omega) _)
    exact B6.out
set_option maxHeartbeats 4000000 in
theorem lawEqOb (o : Ob) (va vb ua ub : Value) (w : World) (ha : Fls w va o.l) (hb : Fls w vb o.l) (ra : Fls w ua o.r.l) (rb : Fls w ub o.r.l) (hl : o.l.length ≤ 1048576) (hl2 : o.r.l.length ≤ 1048576) (hk : o.k.size ≤ 1048576) :
    Calls Tryd.prog 9 #[obV o va ua, obV o vb ub] w fun e w' => e = .returned (.bool true) ∧ Below w.heap.size w w' := by
  have hfa := ha
  have hfb := hb
  have hga := ra
  have hgb := rb
  obtain ⟨a, ca, rfl, _⟩ := hfa
  obtain ⟨b, cb, rfl, _⟩ := hfb
  obtain ⟨c, cc, rfl, _⟩ := hga
  obtain ⟨d, cd, rfl, _⟩ := hgb
  unfold obV
  have B0 : Below w.heap.size w ((w.alloc (.cells #[.string o.k, .slice a o.l.length ca, .int .i64 o.r.s, .slice c o.r.l.length cc, .string o.r.b, .int .i64 o.asked, .int .i64 o.got, .int .i64 o.ep] 33)).alloc (.cells #[.string o.k, .slice b o.l.length cb, .int .i64 o.r.s, .slice d o.r.l.length cd, .string o.r.b, .int .i64 o.asked, .int .i64 o.got, .int .i64 o.ep] 33)) := ((Below.refl _ w).alloc (Nat.le_refl _) _).alloc (by simp) _
  have hq := eqFS _ _ o.l _ (ha.kept B0) (hb.kept B0) hl
  have j2 := fun W h1 h2 => lawEqRs o.r (.slice c o.r.l.length cc) (.slice d o.r.l.length cd) W h1 h2 hl2
  unfold rsV at j2
  have RA : Hid (Fls w (.slice c o.r.l.length cc) o.r.l) := ra
  have RB : Hid (Fls w (.slice d o.r.l.length cd) o.r.l) := rb
  have P0 : Hid (ObB ((w.alloc (.cells #[.string o.k, .slice a o.l.length ca, .int .i64 o.r.s, .slice c o.r.l.length cc, .string o.r.b, .int .i64 o.asked, .int .i64 o.got, .int .i64 o.ep] 33)).alloc (.cells #[.string o.k, .slice b o.l.length cb, .int .i64 o.r.s, .slice d o.r.l.length cd, .string o.r.b, .int .i64 o.asked, .int .i64 o.got, .int .i64 o.ep] 33)) w.heap.size o (.slice a o.l.length ca) (.slice c o.r.l.length cc)) := (ObB.new w o _ _ _).alloc _
  have P1 : Hid (ObB ((w.alloc (.cells #[.string o.k, .slice a o.l.length ca, .int .i64 o.r.s, .slice c o.r.l.length cc, .string o.r.b, .int .i64 o.asked, .int .i64 o.got, .int .i64 o.ep] 33)).alloc (.cells #[.string o.k, .slice b o.l.length cb, .int .i64 o.r.s, .slice d o.r.l.length cd, .string o.r.b, .int .i64 o.asked, .int .i64 o.got, .int .i64 o.ep] 33)) (w.heap.size + 1) o (.slice b o.l.length cb) (.slice d o.r.l.length cd)) := by
    have := ObB.new (w.alloc (.cells #[.string o.k, .slice a o.l.length ca, .int .i64 o.r.s, .slice c o.r.l.length cc, .string o.r.b, .int .i64 o.asked, .int .i64 o.got, .int .i64 o.ep] 33)) o (.slice b o.l.length cb) (.slice d o.r.l.length cd) 33
    rw [show (w.alloc (.cells #[.string o.k, .slice a o.l.length ca, .int .i64 o.r.s, .slice c o.r.l.length cc, .string o.r.b, .int .i64 o.asked, .int .i64 o.got, .int .i64 o.ep] 33)).heap.size = w.heap.size + 1 by simp] at this
    exact this
  have HB : Hid _ := B0
  clear ha hb ra rb B0
  go_enter Tryd.func9, Tryd.ntmps9
  go_wp2_with fail
  refine hq.mono ?_
  rintro e w1 ⟨rfl, hg⟩
  have S0 : Hid (ObB w1 w.heap.size o (.slice a o.l.length ca) (.slice c o.r.l.length cc)) := P0.out.next hg.low
  have S1 : Hid (ObB w1 (w.heap.size + 1) o (.slice b o.l.length cb) (.slice d o.r.l.length cd)) := P1.out.next hg.low
  have B1 : Hid (Below w.heap.size w w1) := past6 HB.out hg.low
  clear P0 P1 HB hg hq
  have a2 := S0.out.c2
  have a3 := S0.out.c3
  have a4 := S0.out.c4
  have b2 := S1.out.c2
  have b3 := S1.out.c3
  have b4 := S1.out.c4
  go_wp2_with fail
  refine (j2 _ (RA.out.kept B1.out) (RB.out.kept B1.out)).mono ?_
  rintro e w2 ⟨rfl, hb2⟩
  have T0 : Hid (ObB w2 w.heap.size o (.slice a o.l.length ca) (.slice c o.r.l.length cc)) := S0.out.next hb2
  have T1 : Hid (ObB w2 (w.heap.size + 1) o (.slice b o.l.length cb) (.slice d o.r.l.length cd)) := S1.out.next hb2
  have B2 : Hid (Below w.heap.size w w2) := past6 B1.out hb2
  clear hb2 B1 S0 S1 a2 a3 a4 b2 b3 b4 RA RB j2
  have a5 := T0.out.c5
  have a6 := T0.out.c6
  have a7 := T0.out.c7
  have b5 := T1.out.c5
  have b6 := T1.out.c6
  have b7 := T1.out.c7
  clear T0 T1
  go_wp2
  go_ret
  exact ⟨rfl, B2.out⟩
end Go.Proofs.YtkaogmdhjcgcdaaDoor
