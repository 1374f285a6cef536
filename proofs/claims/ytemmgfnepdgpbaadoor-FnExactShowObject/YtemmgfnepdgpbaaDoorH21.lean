/-
  A slice of fields that came in, opened.
  Requests and responses that came in, opened; the laws' own helpers for them, by their contracts.
  Objects that came in, opened; how large they are, by the laws' own measure.
-/
import Derived.Test.YtemmgfnepdgpbaaDoorH04
import Derived.Deep.SlicePairs
import Derived.ChangeArms
import Derived.Lib.LaidU8
import Derived.Test.YtemmgfnepdgpbaaDoorH15
import Derived.ProofKit
import Derived.OpenShut
import Derived.ShutString
import Derived.Lib.SmallJoins
import Derived.Test.YtemmgfnepdgpbaaDoorH18
namespace Go.Proofs.YtemmgfnepdgpbaaDoor
open Go.RowKit Go.ChangeShapes Go.WideShapes

theorem cell_lt {w : World} {b o : Nat} {v : Value} (h : w.cell? ⟨b, o, none⟩ = some v) : b < w.heap.size := by
  cases e : w.heap[b]? with
  | none => simp [World.cell?, e] at h
  | some x => exact (Array.getElem?_eq_some_iff.1 e).1
def strOf : Value → ByteArray
  | .string s => s
  | _ => ⟨#[]⟩
theorem open_flds {H : Type} {enc : TypeId × Value → H} {W : World} {base : Nat} {spare : Nat → Bool} {held : Bool} {fuel : Nat} {sa : Option Addr} {sl sc : Nat} {x : DataW H × List MemPlace}
    (h : DataW.trod enc Tryd.prog W base spare held fuel 22 (Value.cells (.slice sa sl sc)).toList = some x) :
    ∃ fs : List Fl, Fls W (.slice sa sl sc) fs ∧ ∀ f ∈ fs, f.1.size ≤ maxLen ∧ f.2.size ≤ maxLen := by
  rcases Deep.open_slice_pairs Tryd.underlying22 Tryd.underlying52 (by kernel_rfl) rfl rfl (by kernel_rfl) (by kernel_rfl) h with ⟨hcs, _⟩ | ⟨a, len, cap, m, n, V0, V1, D0, D1, P0, P1, hcs, hb, hl, hm, hmm, _, hx⟩
  · simp [Value.cells] at hcs
    obtain ⟨rfl, rfl, rfl⟩ := hcs
    exact ⟨[], ⟨none, 0, rfl, Nat.le_refl _, Nat.zero_le _, fun h => absurd h (by simp)⟩, fun f hf => by cases hf⟩
  · simp [Value.cells] at hcs
    obtain ⟨rfl, rfl, rfl⟩ := hcs
    have hlm : sl ≤ m := by rw [hmm]; split <;> omega
    have each : ∀ i, i < sl → ∃ s t : ByteArray, V0 i = .string s ∧ V1 i = .string t ∧ s.size ≤ maxLen ∧ t.size ≤ maxLen := by
      intro i hi
      obtain ⟨_, _, t0, t1⟩ := hx i (by omega)
      obtain ⟨s, e0, _, z0⟩ := DataW.trod_string Tryd.underlying9 t0
      obtain ⟨t, e1, _, z1⟩ := DataW.trod_string Tryd.underlying9 t1
      exact ⟨s, t, by simpa using e0, by simpa using e1, z0, z1⟩
    refine ⟨(List.range sl).map fun i => (strOf (V0 i), strOf (V1 i)), ⟨some a, sc, by simp, by simpa using hl, hm, fun h0 => ?_⟩, fun f hf => ?_⟩
    · have h0' : 0 < sl := by simpa using h0
      obtain ⟨c0, _⟩ := hx 0 (by omega)
      obtain ⟨b, o, sp⟩ := a
      have hsp : sp = none := by
        have : W.cell? ⟨b, o, sp⟩ = some (V0 0) := by simpa [Addr.add] using c0
        exact Go.Proofs.cell_spot this
      subst hsp
      have hlt : b < W.heap.size := by
        rw [addr_add] at c0
        exact cell_lt c0
      refine ⟨b, o, rfl, hlt, fun j hj => ?_⟩
      have hj' : j < sl := by simpa using hj
      obtain ⟨c1, c2, _⟩ := hx j (by omega)
      obtain ⟨s, t, e0, e1, _⟩ := each j hj'
      rw [addr_add] at c1 c2
      rw [e0] at c1
      rw [e1] at c2
      refine ⟨?_, ?_⟩
      · rw [c1]; simp [e0, strOf]
      · rw [show o + j * 2 + 1 = o + (j * 2 + 1) from by omega, c2]; simp [e1, strOf]
    · obtain ⟨i, hi, rfl⟩ := List.mem_map.1 hf
      obtain ⟨s, t, e0, e1, z0, z1⟩ := each i (by simpa using hi)
      simp only [e0, e1, strOf]
      exact ⟨z0, z1⟩
end Go.Proofs.YtemmgfnepdgpbaaDoor
namespace Go.Proofs.YtemmgfnepdgpbaaDoor
open Go.RowKit Go.Sort Go.ChangeShapes Go.WideShapes Go.ChangeAt Go.Joins Go.Deep
set_option linter.unusedVariables false

set_option maxHeartbeats 400000 in
theorem szN (v : Value) (l : List Fl) (x : Int) (w : World) (hx0 : 0 ≤ x) (hx1 : x ≤ 1048576) (h : Fls w v l) (hz : ∀ f ∈ l, f.1.size ≤ maxLen ∧ f.2.size ≤ maxLen) :
    Calls Tryd.prog 12 #[v, .int .i64 x] w fun e w' => (∃ r : Int, e = .returned (.int .i64 r) ∧ (r = -1 ∨ (0 ≤ r ∧ r + (l.length : Int) + (szL l : Int) = x))) ∧ Below w.heap.size w w' := by
  obtain ⟨a, cap, rfl, h1, h2, h3⟩ := h
  unfold maxLen at h2
  by_cases hbig : x < (l.length : Int)
  · have hneg : x - (l.length : Int) < 0 := by omega
    go_enter Tryd.func12, Tryd.ntmps12
    go_wp2
    go_ret
    exact ⟨⟨-1, rfl, Or.inl rfl⟩, Below.refl _ _⟩
  · have hneg : ¬ x - (l.length : Int) < 0 := by omega
    go_enter Tryd.func12, Tryd.ntmps12
    go_wp2
    go_loopw [1, 5] (fun y i wr => ∃ (k r : Nat), k ≤ l.length ∧ i = .int .i64 k ∧ y = .int .i64 r ∧ (r : Int) + (l.length : Int) + (szL (l.take k) : Int) = x ∧ Below w.heap.size w wr) (fun _ i _ => l.length - (intOf i).toNat)
    case atStart => exact ⟨0, (x - (l.length : Int)).toNat, Nat.zero_le _, rfl, by rw [Int.toNat_of_nonneg (by omega)], by show _ + _ + ((0 : Nat) : Int) = x; rw [Int.toNat_of_nonneg (by omega)]; omega, Below.refl _ _⟩
    case round =>
      obtain ⟨k, r, hk, rfl, rfl, hr, hb⟩ := hrel
      by_cases hlt : k < l.length
      · obtain ⟨g, o, rfl, hg, hc⟩ := h3 (by omega)
        have c1 := (hb.cell (p := ⟨g, o + k * 2, none⟩) hg).trans (hc k hlt).1
        have c2 := (hb.cell (p := ⟨g, o + k * 2 + 1, none⟩) hg).trans (hc k hlt).2
        have hsz := hz l[k] (List.getElem_mem hlt)
        have hnx := szL_next hlt
        generalize l[k] = f at c1 c2 hsz hnx
        clear hc h3 hz
        go_wp2_with (go_at_call 26; refine (szF1 f r (by omega) hsz.1 hsz.2 _).mono ?_; rintro e w1 ⟨⟨r', rfl, hr'⟩, hb1⟩)
        · go_ret
          exact ⟨⟨-1, rfl, Or.inl rfl⟩, hb.trans (hb1.mono hb.size)⟩
        · have hr2 : 0 ≤ r' ∧ r' + f.1.size + f.2.size = r := by omega
          go_roundw
          case rel => exact ⟨k + 1, r'.toNat, by omega, by go_num, by rw [Int.toNat_of_nonneg hr2.1], by omega, hb.trans (hb1.mono hb.size)⟩
          case measure => simp [intOf]; omega
      · obtain rfl : k = l.length := by omega
        rw [List.take_length] at hr
        go_wp2
        go_ret
        exact ⟨⟨_, rfl, Or.inr ⟨by omega, by omega⟩⟩, hb⟩


/-! ### Opening -/
theorem open_fldsV {H : Type} {enc : TypeId × Value → H} {W : World} {base : Nat} {spare : Nat → Bool} {held : Bool} {fuel : Nat} {c : Value} {x : DataW H × List MemPlace}
    (h : DataW.trod enc Tryd.prog W base spare held fuel 22 [c] = some x) :
    ∃ fs : List Fl, Fls W c fs ∧ (∀ f ∈ fs, f.1.size ≤ maxLen ∧ f.2.size ≤ maxLen) ∧ Solid c := by
  rcases Deep.open_slice_pairs Tryd.underlying22 Tryd.underlying52 (by kernel_rfl) rfl rfl (by kernel_rfl) (by kernel_rfl) h with ⟨hcs, _⟩ | ⟨a, len, cap, m, n, V0, V1, D0, D1, P0, P1, hcs, _⟩
  · simp at hcs
    subst hcs
    obtain ⟨fs, h1, h2⟩ := open_flds (sa := none) (sl := 0) (sc := 0) (by simpa [Value.cells] using h)
    exact ⟨fs, h1, h2, fun n c e => by injection e with _ _ e; exact e.symm⟩
  · simp at hcs
    subst hcs
    obtain ⟨fs, h1, h2⟩ := open_flds (sa := some a) (sl := len) (sc := cap) (by simpa [Value.cells] using h)
    exact ⟨fs, h1, h2, fun n c e => by injection e with e _ _; cases e⟩
def RsGot (w : World) (u : Value) (r : Rs) : Prop := Fls w u r.l ∧ (∀ f ∈ r.l, f.1.size ≤ maxLen ∧ f.2.size ≤ maxLen) ∧ Solid u ∧ r.b.size ≤ maxLen
/-! ### The laws' helpers -/
end Go.Proofs.YtemmgfnepdgpbaaDoor
namespace Go.Proofs.YtemmgfnepdgpbaaDoor
open Go.RowKit Go.Sort Go.ChangeShapes Go.WideShapes Go.ChangeAt Go.Joins Go.Deep
set_option linter.unusedVariables false

/-- What a law is told of an object that came in. -/
def ObGot (w : World) (v u : Value) (o : Ob) : Prop := Fls w v o.l ∧ (∀ f ∈ o.l, f.1.size ≤ maxLen ∧ f.2.size ≤ maxLen) ∧ Solid v ∧ RsGot w u o.r ∧ o.k.size ≤ maxLen
theorem array8m {α : Type} {cs : Array α} (h : cs.size = 8) : ∃ c0 c1 c2 c3 c4 c5 c6 c7, cs = #[c0, c1, c2, c3, c4, c5, c6, c7] := by
  obtain ⟨l⟩ := cs
  match l, h with
  | [c0, c1, c2, c3, c4, c5, c6, c7], _ => exact ⟨c0, c1, c2, c3, c4, c5, c6, c7, rfl⟩
set_option maxRecDepth 100000 in
theorem open_rs3 {H : Type} {enc : TypeId × Value → H} {w : World} {base : Nat} {spare : Nat → Bool} {held : Bool} {fuel : Nat} {c0 c1 c2 : Value} {x : DataW H × List MemPlace}
    (h : DataW.trod enc Tryd.prog w base spare held fuel 24 [c0, c1, c2] = some x) :
    ∃ (q : Rs), c0 = .int .i64 q.s ∧ c2 = .string q.b ∧ RsGot w c1 q ∧ (Lit.int .i64 q.s).wf = true := by
  have hs := Tryd.underlying24
  obtain ⟨xs, n, _, hx, hl, hlen, hfs⟩ := DataW.trod_struct hs h
  match xs, hlen with
  | [y0, y1, y2], _ =>
    have g0 : DataW.trod enc Tryd.prog w base spare held n 2 [c0] = some y0 := by simpa [Value.cells, show Tryd.prog.cellsOf 2 = 1 by kernel_rfl] using hfs 0 _ rfl
    have g1 : DataW.trod enc Tryd.prog w base spare held n 22 [c1] = some y1 := by simpa [Value.cells, show Tryd.prog.cellsOf 22 = 1 by kernel_rfl] using hfs 1 _ rfl
    have g2 : DataW.trod enc Tryd.prog w base spare held n 9 [c2] = some y2 := by simpa [Value.cells, show Tryd.prog.cellsOf 9 = 1 by kernel_rfl] using hfs 2 _ rfl
    obtain ⟨a0, e0, rfl, w0⟩ := DataW.trod_int Tryd.underlying2 g0
    obtain ⟨a2, e2, rfl, w2⟩ := DataW.trod_string Tryd.underlying9 g2
    obtain ⟨fs, f1, f2, f3⟩ := open_fldsV g1
    simp at e0 e2
    subst e0 e2
    exact ⟨⟨a0, fs, a2⟩, rfl, rfl, ⟨f1, f2, f3, w2⟩, w0⟩
set_option maxRecDepth 100000 in
theorem open_ob {H : Type} {enc : TypeId × Value → H} {w : World} {base : Nat} {spare : Nat → Bool} {held : Bool} {r : Reach} {b0 : Nat} {v : Value} {d : DataW H} {p : List MemPlace}
    (hv : Value.okWide Tryd.prog w r b0 26 v) (h : DataW.Trod enc Tryd.prog w base spare held 26 v d p) :
    ∃ (o : Ob) (x u : Value), v = obV o x u ∧ ObGot w x u o ∧ (Lit.int .i64 o.r.s).wf = true ∧ (Lit.int .i64 o.asked).wf = true ∧ (Lit.int .i64 o.got).wf = true ∧ (Lit.int .i64 o.ep).wf = true := by
  have hs := Tryd.underlying26
  obtain ⟨cs, rfl, hsz⟩ := okWide_struct hs hv
  obtain ⟨c0, c1, c2, c3, c4, c5, c6, c7, rfl⟩ := array8m (hsz.trans (by kernel_rfl))
  obtain ⟨fuel, hfu⟩ := h
  obtain ⟨xs, n, _, hx, hl, hlen, hfs⟩ := DataW.trod_struct hs hfu
  match xs, hlen with
  | [y0, y1, y2, y3, y4, y5], _ =>
    have g0 : DataW.trod enc Tryd.prog w base spare held n 9 [c0] = some y0 := by simpa [Value.cells, show Tryd.prog.cellsOf 9 = 1 by kernel_rfl] using hfs 0 _ rfl
    have g1 : DataW.trod enc Tryd.prog w base spare held n 22 [c1] = some y1 := by simpa [Value.cells, show Tryd.prog.cellsOf 22 = 1 by kernel_rfl] using hfs 1 _ rfl
    have g2 : DataW.trod enc Tryd.prog w base spare held n 24 [c2, c3, c4] = some y2 := by simpa [Value.cells, show Tryd.prog.cellsOf 24 = 3 by kernel_rfl] using hfs 2 _ rfl
    have g3 : DataW.trod enc Tryd.prog w base spare held n 2 [c5] = some y3 := by simpa [Value.cells, show Tryd.prog.cellsOf 2 = 1 by kernel_rfl] using hfs 3 _ rfl
    have g4 : DataW.trod enc Tryd.prog w base spare held n 2 [c6] = some y4 := by simpa [Value.cells, show Tryd.prog.cellsOf 2 = 1 by kernel_rfl] using hfs 4 _ rfl
    have g5 : DataW.trod enc Tryd.prog w base spare held n 2 [c7] = some y5 := by simpa [Value.cells, show Tryd.prog.cellsOf 2 = 1 by kernel_rfl] using hfs 5 _ rfl
    obtain ⟨a0, e0, rfl, w0⟩ := DataW.trod_string Tryd.underlying9 g0
    obtain ⟨fs, f1, f2, f3⟩ := open_fldsV g1
    obtain ⟨q, r0, r2, rg, rw⟩ := open_rs3 g2
    obtain ⟨a3, e3, rfl, w3⟩ := DataW.trod_int Tryd.underlying2 g3
    obtain ⟨a4, e4, rfl, w4⟩ := DataW.trod_int Tryd.underlying2 g4
    obtain ⟨a5, e5, rfl, w5⟩ := DataW.trod_int Tryd.underlying2 g5
    simp at e0 e3 e4 e5
    subst e0 e3 e4 e5 r0 r2
    exact ⟨⟨a0, fs, q, a3, a4, a5⟩, c1, c3, rfl, ⟨f1, f2, f3, rg, w0⟩, rw, w3, w4, w5⟩
set_option maxHeartbeats 1000000 in
theorem lawSzRsX (r : Rs) (v : Value) (y : Int) (w : World) (hy0 : 0 ≤ y) (hy1 : y ≤ 1048576) (h : RsGot w v r) :
    Calls Tryd.prog 13 #[rsV r v, .int .i64 y] w fun e w' => (∃ x : Int, e = .returned (.int .i64 x) ∧ (x = -1 ∨ (0 ≤ x ∧ x + ((r.l.length : Int) + (szL r.l : Int)) + (r.b.size : Int) = y))) ∧ Below w.heap.size w w' := by
  obtain ⟨hf, hfz, hsol, z3⟩ := h
  have hfs := hf
  obtain ⟨a, cap, rfl, hcap⟩ := hfs
  clear hcap
  unfold rsV
  unfold maxLen at z3
  have F0 : Hid (Fls (w.alloc (.cells #[.int .i64 r.s, .slice a r.l.length cap, .string r.b] 24)) (.slice a r.l.length cap) r.l) := hf.kept ((Below.refl _ w).alloc (Nat.le_refl _) _)
  have Q0 : Hid (RsB (w.alloc (.cells #[.int .i64 r.s, .slice a r.l.length cap, .string r.b] 24)) w.heap.size r (.slice a r.l.length cap)) := RsB.new w r _ _
  have B0 : Hid (Below w.heap.size w (w.alloc (.cells #[.int .i64 r.s, .slice a r.l.length cap, .string r.b] 24))) := (Below.refl _ w).alloc (Nat.le_refl _) _
  have HZ : Hid (∀ f ∈ r.l, f.1.size ≤ maxLen ∧ f.2.size ≤ maxLen) := hfz
  clear hf hfz hsol
  go_enter Tryd.func13, Tryd.ntmps13
  go_wp2_with fail
  refine (szN _ r.l _ _ (by omega) (by omega) F0.out HZ.out).mono ?_
  rintro e w1 ⟨⟨x, rfl, hx⟩, hb1⟩
  have Q1 : Hid (RsB w1 w.heap.size r (.slice a r.l.length cap)) := Q0.out.next hb1
  have B1 : Hid (Below w.heap.size w w1) := past6 B0.out hb1
  have a2 := Q1.out.c2
  clear Q0 B0 hb1 F0
  rcases hx with rfl | ⟨hx0, hx1⟩
  · go_wp2
    go_ret
    exact ⟨⟨_, rfl, .inl rfl⟩, B1.out⟩
  · have d3 : ¬ x < 0 := by omega
    have hx2 : x ≤ 1048576 := by omega
    by_cases h4 : x < (r.b.size : Int)
    · have d4 : x - (r.b.size : Int) < 0 := by omega
      go_wp2
      go_ret
      exact ⟨⟨_, rfl, .inl rfl⟩, B1.out⟩
    · have d4 : ¬ x - (r.b.size : Int) < 0 := by omega
      have HX : Hid (x - (r.b.size : Int) + ((r.l.length : Int) + (szL r.l : Int)) + (r.b.size : Int) = y) := by show _ = _; omega
      clear hx1
      go_wp2
      go_ret
      exact ⟨⟨_, rfl, .inr ⟨by omega, HX.out⟩⟩, B1.out⟩
set_option maxHeartbeats 1000000 in
theorem lawSzObX (o : Ob) (v u : Value) (y0 : Int) (w : World) (hy0 : 0 ≤ y0) (hy1 : y0 ≤ 1048576) (h : ObGot w v u o) :
    Calls Tryd.prog 5 #[obV o v u, .int .i64 y0] w fun e w' => (∃ x : Int, e = .returned (.int .i64 x) ∧ (x = -1 ∨ (0 ≤ x ∧ x + (o.k.size : Int) + ((o.l.length : Int) + (szL o.l : Int)) + (((o.r.l.length : Int) + (szL o.r.l : Int)) + (o.r.b.size : Int)) = y0))) ∧ Below w.heap.size w w' := by
  obtain ⟨hf, hfz, hsol, hr, z1⟩ := h
  have hfs := hf
  obtain ⟨va, vc, rfl, hcap⟩ := hfs
  clear hcap
  have hrs := hr.1
  obtain ⟨ua, uc, rfl, hcap⟩ := hrs
  clear hcap
  unfold maxLen at z1
  have B0 : Hid (Below w.heap.size w (w.alloc (.cells #[.string o.k, .slice va o.l.length vc, .int .i64 o.r.s, .slice ua o.r.l.length uc, .string o.r.b, .int .i64 o.asked, .int .i64 o.got, .int .i64 o.ep] 26))) := (Below.refl _ w).alloc (Nat.le_refl _) _
  have F0 : Hid (Fls (w.alloc (.cells #[.string o.k, .slice va o.l.length vc, .int .i64 o.r.s, .slice ua o.r.l.length uc, .string o.r.b, .int .i64 o.asked, .int .i64 o.got, .int .i64 o.ep] 26)) (.slice va o.l.length vc) o.l) := hf.kept B0.out
  have G0 : Hid (RsGot (w.alloc (.cells #[.string o.k, .slice va o.l.length vc, .int .i64 o.r.s, .slice ua o.r.l.length uc, .string o.r.b, .int .i64 o.asked, .int .i64 o.got, .int .i64 o.ep] 26)) (.slice ua o.r.l.length uc) o.r) := ⟨hr.1.kept B0.out, hr.2⟩
  have Q0 : Hid (ObB (w.alloc (.cells #[.string o.k, .slice va o.l.length vc, .int .i64 o.r.s, .slice ua o.r.l.length uc, .string o.r.b, .int .i64 o.asked, .int .i64 o.got, .int .i64 o.ep] 26)) w.heap.size o (.slice va o.l.length vc) (.slice ua o.r.l.length uc)) := ObB.new w o _ _ _
  have HZ : Hid (∀ f ∈ o.l, f.1.size ≤ maxLen ∧ f.2.size ≤ maxLen) := hfz
  have j2 := fun y W h0 h1 hW => lawSzRsX o.r (.slice ua o.r.l.length uc) y W h0 h1 hW
  clear hf hfz hsol hr
  unfold obV
  unfold rsV at j2
  by_cases h1 : y0 < (o.k.size : Int)
  · have d1 : y0 - (o.k.size : Int) < 0 := by omega
    go_enter Tryd.func5, Tryd.ntmps5
    go_wp2
    go_ret
    exact ⟨⟨_, rfl, .inl rfl⟩, B0.out⟩
  · have d1 : ¬ y0 - (o.k.size : Int) < 0 := by omega
    go_enter Tryd.func5, Tryd.ntmps5
    go_wp2_with fail
    refine (szN _ o.l _ _ (by omega) (by omega) F0.out HZ.out).mono ?_
    rintro e w1 ⟨⟨x, rfl, hx⟩, hb1⟩
    have Q1 : Hid (ObB w1 w.heap.size o (.slice va o.l.length vc) (.slice ua o.r.l.length uc)) := Q0.out.next hb1
    have B1 : Hid (Below w.heap.size w w1) := past6 B0.out hb1
    have G1 : Hid (RsGot w1 (.slice ua o.r.l.length uc) o.r) := ⟨G0.out.1.kept hb1, G0.out.2⟩
    clear Q0 B0 hb1 F0 G0
    rcases hx with rfl | ⟨hx0, hx1⟩
    · go_wp2
      go_ret
      exact ⟨⟨_, rfl, .inl rfl⟩, B1.out⟩
    · have d3 : ¬ x < 0 := by omega
      have hx2 : x ≤ 1048576 := by omega
      have q2 := Q1.out.c2
      have q3 := Q1.out.c3
      have q4 := Q1.out.c4
      go_wp2_with fail
      refine (j2 x _ hx0 hx2 G1.out).mono ?_
      rintro e w2 ⟨⟨y, rfl, hy⟩, hb2⟩
      have B2 : Hid (Below w.heap.size w w2) := past6 B1.out hb2
      clear hb2 B1 Q1 G1 q2 q3 q4 j2
      rcases hy with rfl | ⟨hz0, hz1⟩
      · go_wp2
        go_ret
        exact ⟨⟨_, rfl, .inl rfl⟩, B2.out⟩
      · have d4 : ¬ y < 0 := by omega
        have HX : Hid (y + (o.k.size : Int) + ((o.l.length : Int) + (szL o.l : Int)) + (((o.r.l.length : Int) + (szL o.r.l : Int)) + (o.r.b.size : Int)) = y0) := by show _ = _; omega
        clear hx1 hz1
        go_wp2
        go_ret
        exact ⟨⟨_, rfl, .inr ⟨hz0, HX.out⟩⟩, B2.out⟩
theorem lawSzOb (o : Ob) (v u : Value) (w : World) (h : ObGot w v u o) :
    Calls Tryd.prog 5 #[obV o v u, .int .i64 1048576] w fun e w' => (∃ x : Int, e = .returned (.int .i64 x) ∧ (x = -1 ∨ (0 ≤ x ∧ x + (o.k.size : Int) + ((o.l.length : Int) + (szL o.l : Int)) + (((o.r.l.length : Int) + (szL o.r.l : Int)) + (o.r.b.size : Int)) = 1048576))) ∧ Below w.heap.size w w' := lawSzObX o v u 1048576 w (by decide) (by decide) h
end Go.Proofs.YtemmgfnepdgpbaaDoor
