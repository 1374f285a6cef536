/-
  Requests and responses that came in, opened; the laws' own helpers for them, by their contracts.
-/
import Derived.Test.YtmgmphkncgochaaDoorMsgB
import Derived.Test.YtmgmphkncgochaaDoorFldA
import Derived.ProofKit
import Derived.OpenShut
import Derived.ShutString
import Derived.Lib.SmallJoins
namespace Go.Proofs.YtmgmphkncgochaaDoor
open Go.RowKit Go.Sort Go.ChangeShapes Go.WideShapes Go.ChangeAt Go.Joins Go.Deep
set_option linter.unusedVariables false

set_option maxHeartbeats 400000 in
theorem szN (v : Value) (l : List Fl) (x : Int) (w : World) (hx0 : 0 ≤ x) (hx1 : x ≤ 1048576) (h : Fls w v l) (hz : ∀ f ∈ l, f.1.size ≤ maxLen ∧ f.2.size ≤ maxLen) :
    Calls Tryd.prog 18 #[v, .int .i64 x] w fun e w' => (∃ r : Int, e = .returned (.int .i64 r) ∧ (r = -1 ∨ (0 ≤ r ∧ r + (l.length : Int) + (szL l : Int) = x))) ∧ Below w.heap.size w w' := by
  obtain ⟨a, cap, rfl, h1, h2, h3⟩ := h
  unfold maxLen at h2
  by_cases hbig : x < (l.length : Int)
  · have hneg : x - (l.length : Int) < 0 := by omega
    go_enter Tryd.func18, Tryd.ntmps18
    go_wp2
    go_ret
    exact ⟨⟨-1, rfl, Or.inl rfl⟩, Below.refl _ _⟩
  · have hneg : ¬ x - (l.length : Int) < 0 := by omega
    go_enter Tryd.func18, Tryd.ntmps18
    go_wp2
    go_loopw [1, 5] (fun y i wr => ∃ (k r : Nat), k ≤ l.length ∧ i = .int .i64 k ∧ y = .int .i64 r ∧ (r : Int) + (l.length : Int) + (szL (l.take k) : Int) = x ∧ Below w.heap.size w wr) (fun _ i _ => l.length - (intOf i).toNat)
    case atStart => exact ⟨0, (x - (l.length : Int)).toNat, Nat.zero_le _, rfl, by rw [Int.toNat_of_nonneg (by omega)], by show _ + _ + ((0 : Nat) : Int) = x; rw [Int.toNat_of_nonneg (by omega)]; omega, Below.refl _ _⟩
    case round =>
      obtain ⟨k, r, hk, rfl, rfl, hr, hb⟩ := hrel
      by_cases hlt : k < l.length
      · obtain ⟨g, o, rfl, hg, hc⟩ := h3 (by omega)
        have c1 := (hb.cell (p := ⟨g, o + k * 2, none⟩) hg).trans (hc k hlt).1
        have c2 := (hb.cell (p := ⟨g, o + k * 2 + 1, none⟩) hg).trans (hc k hlt).2
        have hsz := hz l[k] (List.getElem_mem hlt)
        have hnx := szL_next hlt
        generalize l[k] = f at c1 c2 hsz hnx
        clear hc h3 hz
        go_wp2_with (go_at_call 37; refine (szF1 f r (by omega) hsz.1 hsz.2 _).mono ?_; rintro e w1 ⟨⟨r', rfl, hr'⟩, hb1⟩)
        · go_ret
          exact ⟨⟨-1, rfl, Or.inl rfl⟩, hb.trans (hb1.mono hb.size)⟩
        · have hr2 : 0 ≤ r' ∧ r' + f.1.size + f.2.size = r := by omega
          go_roundw
          case rel => exact ⟨k + 1, r'.toNat, by omega, by go_num, by rw [Int.toNat_of_nonneg hr2.1], by omega, hb.trans (hb1.mono hb.size)⟩
          case measure => simp [intOf]; omega
      · obtain rfl : k = l.length := by omega
        rw [List.take_length] at hr
        go_wp2
        go_ret
        exact ⟨⟨_, rfl, Or.inr ⟨by omega, by omega⟩⟩, hb⟩


/-! ### Opening -/
theorem array4m {α : Type} {cs : Array α} (h : cs.size = 4) : ∃ c0 c1 c2 c3, cs = #[c0, c1, c2, c3] := by
  obtain ⟨l⟩ := cs
  match l, h with
  | [c0, c1, c2, c3], _ => exact ⟨c0, c1, c2, c3, rfl⟩
theorem array3m {α : Type} {cs : Array α} (h : cs.size = 3) : ∃ c0 c1 c2, cs = #[c0, c1, c2] := by
  obtain ⟨l⟩ := cs
  match l, h with
  | [c0, c1, c2], _ => exact ⟨c0, c1, c2, rfl⟩
theorem open_fldsV {H : Type} {enc : TypeId × Value → H} {W : World} {base : Nat} {spare : Nat → Bool} {held : Bool} {fuel : Nat} {c : Value} {x : DataW H × List MemPlace}
    (h : DataW.trod enc Tryd.prog W base spare held fuel 22 [c] = some x) :
    ∃ fs : List Fl, Fls W c fs ∧ (∀ f ∈ fs, f.1.size ≤ maxLen ∧ f.2.size ≤ maxLen) ∧ Solid c := by
  rcases Deep.open_slice_pairs Tryd.underlying22 Tryd.underlying56 (by kernel_rfl) rfl rfl (by kernel_rfl) (by kernel_rfl) h with ⟨hcs, _⟩ | ⟨a, len, cap, m, n, V0, V1, D0, D1, P0, P1, hcs, _⟩
  · simp at hcs
    subst hcs
    obtain ⟨fs, h1, h2⟩ := open_flds (sa := none) (sl := 0) (sc := 0) (by simpa [Value.cells] using h)
    exact ⟨fs, h1, h2, fun n c e => by injection e with _ _ e; exact e.symm⟩
  · simp at hcs
    subst hcs
    obtain ⟨fs, h1, h2⟩ := open_flds (sa := some a) (sl := len) (sc := cap) (by simpa [Value.cells] using h)
    exact ⟨fs, h1, h2, fun n c e => by injection e with e _ _; cases e⟩
/-- What a law is told of a request that came in. -/
def RqGot (w : World) (u : Value) (r : Rq) : Prop := Fls w u r.l ∧ (∀ f ∈ r.l, f.1.size ≤ maxLen ∧ f.2.size ≤ maxLen) ∧ Solid u ∧ r.m.size ≤ maxLen ∧ r.t.size ≤ maxLen ∧ r.b.size ≤ maxLen
def RsGot (w : World) (u : Value) (r : Rs) : Prop := Fls w u r.l ∧ (∀ f ∈ r.l, f.1.size ≤ maxLen ∧ f.2.size ≤ maxLen) ∧ Solid u ∧ r.b.size ≤ maxLen
set_option maxRecDepth 100000 in
theorem open_rq {H : Type} {enc : TypeId × Value → H} {w : World} {base : Nat} {spare : Nat → Bool} {held : Bool} {r : Reach} {b0 : Nat} {v : Value} {d : DataW H} {p : List MemPlace}
    (hv : Value.okWide Tryd.prog w r b0 24 v) (h : DataW.Trod enc Tryd.prog w base spare held 24 v d p) :
    ∃ (q : Rq) (u : Value), v = rqV q u ∧ RqGot w u q := by
  have hs := Tryd.underlying24
  obtain ⟨cs, rfl, hsz⟩ := okWide_struct hs hv
  obtain ⟨c0, c1, c2, c3, rfl⟩ := array4m (hsz.trans (by kernel_rfl))
  obtain ⟨fuel, hfu⟩ := h
  obtain ⟨xs, n, _, hx, hl, hlen, hfs⟩ := DataW.trod_struct hs hfu
  match xs, hlen with
  | [y0, y1, y2, y3], _ =>
    have g0 : DataW.trod enc Tryd.prog w base spare held n 9 [c0] = some y0 := by simpa [Value.cells, show Tryd.prog.cellsOf 9 = 1 by kernel_rfl] using hfs 0 _ rfl
    have g1 : DataW.trod enc Tryd.prog w base spare held n 9 [c1] = some y1 := by simpa [Value.cells, show Tryd.prog.cellsOf 9 = 1 by kernel_rfl] using hfs 1 _ rfl
    have g2 : DataW.trod enc Tryd.prog w base spare held n 22 [c2] = some y2 := by simpa [Value.cells, show Tryd.prog.cellsOf 22 = 1 by kernel_rfl] using hfs 2 _ rfl
    have g3 : DataW.trod enc Tryd.prog w base spare held n 9 [c3] = some y3 := by simpa [Value.cells, show Tryd.prog.cellsOf 9 = 1 by kernel_rfl] using hfs 3 _ rfl
    obtain ⟨a0, e0, rfl, w0⟩ := DataW.trod_string Tryd.underlying9 g0
    obtain ⟨a1, e1, rfl, w1⟩ := DataW.trod_string Tryd.underlying9 g1
    obtain ⟨a3, e3, rfl, w3⟩ := DataW.trod_string Tryd.underlying9 g3
    obtain ⟨fs, f1, f2, f3⟩ := open_fldsV g2
    simp at e0 e1 e3
    subst e0 e1 e3
    exact ⟨⟨a0, a1, fs, a3⟩, c2, rfl, f1, f2, f3, w0, w1, w3⟩
set_option maxRecDepth 100000 in
theorem open_rs {H : Type} {enc : TypeId × Value → H} {w : World} {base : Nat} {spare : Nat → Bool} {held : Bool} {r : Reach} {b0 : Nat} {v : Value} {d : DataW H} {p : List MemPlace}
    (hv : Value.okWide Tryd.prog w r b0 34 v) (h : DataW.Trod enc Tryd.prog w base spare held 34 v d p) :
    ∃ (q : Rs) (u : Value), v = rsV q u ∧ RsGot w u q ∧ (Lit.int .i64 q.s).wf = true := by
  have hs := Tryd.underlying34
  obtain ⟨cs, rfl, hsz⟩ := okWide_struct hs hv
  obtain ⟨c0, c1, c2, rfl⟩ := array3m (hsz.trans (by kernel_rfl))
  obtain ⟨fuel, hfu⟩ := h
  obtain ⟨xs, n, _, hx, hl, hlen, hfs⟩ := DataW.trod_struct hs hfu
  match xs, hlen with
  | [y0, y1, y2], _ =>
    have g0 : DataW.trod enc Tryd.prog w base spare held n 2 [c0] = some y0 := by simpa [Value.cells, show Tryd.prog.cellsOf 2 = 1 by kernel_rfl] using hfs 0 _ rfl
    have g1 : DataW.trod enc Tryd.prog w base spare held n 22 [c1] = some y1 := by simpa [Value.cells, show Tryd.prog.cellsOf 22 = 1 by kernel_rfl] using hfs 1 _ rfl
    have g2 : DataW.trod enc Tryd.prog w base spare held n 9 [c2] = some y2 := by simpa [Value.cells, show Tryd.prog.cellsOf 9 = 1 by kernel_rfl] using hfs 2 _ rfl
    obtain ⟨a0, e0, rfl, w0⟩ := DataW.trod_int Tryd.underlying2 g0
    obtain ⟨a2, e2, rfl, w2⟩ := DataW.trod_string Tryd.underlying9 g2
    obtain ⟨fs, f1, f2, f3⟩ := open_fldsV g1
    simp at e0 e2
    subst e0 e2
    exact ⟨⟨a0, fs, a2⟩, c1, rfl, ⟨f1, f2, f3, w2⟩, w0⟩

/-! ### The laws' helpers -/
set_option maxHeartbeats 1000000 in
theorem lawSzRq (r : Rq) (v : Value) (w : World) (h : RqGot w v r) :
    Calls Tryd.prog 8 #[rqV r v, .int .i64 1048576] w fun e w' => (∃ x : Int, e = .returned (.int .i64 x) ∧ (x = -1 ∨ (0 ≤ x ∧ r.m.size + r.t.size + (r.l.length + szL r.l) + r.b.size ≤ 1048576))) ∧ Below w.heap.size w w' := by
  obtain ⟨hf, hfz, hsol, z1, z2, z3⟩ := h
  have hfs := hf
  obtain ⟨a, cap, rfl, hcap⟩ := hfs
  clear hcap
  unfold rqV
  unfold maxLen at z1 z2 z3
  have F0 : Hid (Fls (w.alloc (.cells #[.string r.m, .string r.t, .slice a r.l.length cap, .string r.b] 24)) (.slice a r.l.length cap) r.l) := hf.kept ((Below.refl _ w).alloc (Nat.le_refl _) _)
  have Q0 : Hid (RqB (w.alloc (.cells #[.string r.m, .string r.t, .slice a r.l.length cap, .string r.b] 24)) w.heap.size r (.slice a r.l.length cap)) := RqB.new w r _ _
  have B0 : Hid (Below w.heap.size w (w.alloc (.cells #[.string r.m, .string r.t, .slice a r.l.length cap, .string r.b] 24))) := (Below.refl _ w).alloc (Nat.le_refl _) _
  have HZ : Hid (∀ f ∈ r.l, f.1.size ≤ maxLen ∧ f.2.size ≤ maxLen) := hfz
  clear hf hfz hsol
  by_cases h1 : 1048576 < r.m.size
  · have d1 : (1048576 : Int) - (r.m.size : Int) < 0 := by omega
    go_enter Tryd.func8, Tryd.ntmps8
    go_wp2
    go_ret
    exact ⟨⟨_, rfl, .inl rfl⟩, B0.out⟩
  · have d1 : ¬ (1048576 : Int) - (r.m.size : Int) < 0 := by omega
    by_cases h2 : 1048576 < r.m.size + r.t.size
    · have d2 : (1048576 : Int) - (r.m.size : Int) - (r.t.size : Int) < 0 := by omega
      go_enter Tryd.func8, Tryd.ntmps8
      go_wp2
      go_ret
      exact ⟨⟨_, rfl, .inl rfl⟩, B0.out⟩
    · have d2 : ¬ (1048576 : Int) - (r.m.size : Int) - (r.t.size : Int) < 0 := by omega
      go_enter Tryd.func8, Tryd.ntmps8
      go_wp2_with fail
      refine (szN _ r.l _ _ (by omega) (by omega) F0.out HZ.out).mono ?_
      rintro e w1 ⟨⟨x, rfl, hx⟩, hb1⟩
      have Q1 : Hid (RqB w1 w.heap.size r (.slice a r.l.length cap)) := Q0.out.next hb1
      have B1 : Hid (Below w.heap.size w w1) := past6 B0.out hb1
      have a3 := Q1.out.c3
      clear Q0 B0 hb1 F0
      rcases hx with rfl | ⟨hx0, hx1⟩
      · go_wp2
        go_ret
        exact ⟨⟨_, rfl, .inl rfl⟩, B1.out⟩
      · have d3 : ¬ x < 0 := by omega
        have hx2 : x ≤ 1048576 := by omega
        by_cases h4 : x < (r.b.size : Int)
        · have d4 : x - (r.b.size : Int) < 0 := by omega
          go_wp2
          go_ret
          exact ⟨⟨_, rfl, .inl rfl⟩, B1.out⟩
        · have d4 : ¬ x - (r.b.size : Int) < 0 := by omega
          have HX : Hid (r.m.size + r.t.size + (r.l.length + szL r.l) + r.b.size ≤ 1048576) := by show _ ≤ _; omega
          clear hx1
          go_wp2
          go_ret
          exact ⟨⟨_, rfl, .inr ⟨by omega, HX.out⟩⟩, B1.out⟩
set_option maxHeartbeats 1000000 in
theorem lawSzRs (r : Rs) (v : Value) (w : World) (h : RsGot w v r) :
    Calls Tryd.prog 13 #[rsV r v, .int .i64 1048576] w fun e w' => (∃ x : Int, e = .returned (.int .i64 x) ∧ (x = -1 ∨ (0 ≤ x ∧ (r.l.length + szL r.l) + r.b.size ≤ 1048576))) ∧ Below w.heap.size w w' := by
  obtain ⟨hf, hfz, hsol, z3⟩ := h
  have hfs := hf
  obtain ⟨a, cap, rfl, hcap⟩ := hfs
  clear hcap
  unfold rsV
  unfold maxLen at z3
  have F0 : Hid (Fls (w.alloc (.cells #[.int .i64 r.s, .slice a r.l.length cap, .string r.b] 34)) (.slice a r.l.length cap) r.l) := hf.kept ((Below.refl _ w).alloc (Nat.le_refl _) _)
  have Q0 : Hid (RsB (w.alloc (.cells #[.int .i64 r.s, .slice a r.l.length cap, .string r.b] 34)) w.heap.size r (.slice a r.l.length cap)) := RsB.new w r _ _
  have B0 : Hid (Below w.heap.size w (w.alloc (.cells #[.int .i64 r.s, .slice a r.l.length cap, .string r.b] 34))) := (Below.refl _ w).alloc (Nat.le_refl _) _
  have HZ : Hid (∀ f ∈ r.l, f.1.size ≤ maxLen ∧ f.2.size ≤ maxLen) := hfz
  clear hf hfz hsol
  go_enter Tryd.func13, Tryd.ntmps13
  go_wp2_with fail
  refine (szN _ r.l _ _ (by omega) (by omega) F0.out HZ.out).mono ?_
  rintro e w1 ⟨⟨x, rfl, hx⟩, hb1⟩
  have Q1 : Hid (RsB w1 w.heap.size r (.slice a r.l.length cap)) := Q0.out.next hb1
  have B1 : Hid (Below w.heap.size w w1) := past6 B0.out hb1
  have a2 := Q1.out.c2
  clear Q0 B0 hb1 F0
  rcases hx with rfl | ⟨hx0, hx1⟩
  · go_wp2
    go_ret
    exact ⟨⟨_, rfl, .inl rfl⟩, B1.out⟩
  · have d3 : ¬ x < 0 := by omega
    have hx2 : x ≤ 1048576 := by omega
    by_cases h4 : x < (r.b.size : Int)
    · have d4 : x - (r.b.size : Int) < 0 := by omega
      go_wp2
      go_ret
      exact ⟨⟨_, rfl, .inl rfl⟩, B1.out⟩
    · have d4 : ¬ x - (r.b.size : Int) < 0 := by omega
      have HX : Hid ((r.l.length + szL r.l) + r.b.size ≤ 1048576) := by show _ ≤ _; omega
      clear hx1
      go_wp2
      go_ret
      exact ⟨⟨_, rfl, .inr ⟨by omega, HX.out⟩⟩, B1.out⟩
end Go.Proofs.YtmgmphkncgochaaDoor
