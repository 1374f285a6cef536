/-
  The program's Used.
  The program's Place, whatever it is asked.
-/
import Derived.Test.YtnnmbgenepfacaaRpK
import Derived.Test.YtnnmbgenepfacaaRpR
namespace Go.Proofs.Ytnnmbgenepfacaa
open Go.RowKit Go.Sort Rom
set_option linter.unusedVariables false
set_option linter.unusedSimpArgs false

set_option maxRecDepth 100000 in
set_option maxHeartbeats 4000000 in
theorem implUsd (q : Int) (v : Value) (l : List It) (key : ByteArray) (w : World) (h : Sls itE w v l) (hlen : l.length ≤ 1048576) (hs : ∀ x ∈ l, x.1.size ≤ maxLen) :
    Calls Try.prog 31 #[shV q v, .string key] w fun e w' => ∃ u, e = .returned (shV (usdQ q l) u) ∧ HasI8 w' w.heap.size u (usdL q l key) ∧ Below w.heap.size w w' := by
  have H0 : Hid (Sls itE w v l) := h
  obtain ⟨a, cap, rfl, _⟩ := h.itm
  have T0 := TwoB.new w (.int .i64 q) (.slice a l.length cap) 34
  have BA : Below w.heap.size w (w.alloc (.cells #[.int .i64 q, .slice a l.length cap] 34)) := (Below.refl _ w).alloc (Nat.le_refl _) _
  have hzA : (w.alloc (.cells #[.int .i64 q, .slice a l.length cap] 34)).heap.size = w.heap.size + 1 := by simp
  have T1 := TwoB.new (w.alloc (.cells #[.int .i64 q, .slice a l.length cap] 34)) (.int .i64 0) (.slice none 0 0) 34
  rw [hzA] at T1
  have BB : Below (w.heap.size + 1) (w.alloc (.cells #[.int .i64 q, .slice a l.length cap] 34)) ((w.alloc (.cells #[.int .i64 q, .slice a l.length cap] 34)).alloc (.cells #[.int .i64 0, .slice none 0 0] 34)) := (Below.refl _ _).alloc (by rw [hzA]; exact Nat.le_refl _) _
  have T0B := T0.kept BB (Nat.lt_succ_self _)
  have BW : Below w.heap.size w ((w.alloc (.cells #[.int .i64 q, .slice a l.length cap] 34)).alloc (.cells #[.int .i64 0, .slice none 0 0] 34)) := BA.trans (BB.mono (Nat.le_succ _))
  have hzB : ((w.alloc (.cells #[.int .i64 q, .slice a l.length cap] 34)).alloc (.cells #[.int .i64 0, .slice none 0 0] 34)).heap.size = w.heap.size + 1 + 1 := by simp
  unfold shV
  have hsk := fun W (hW : Below w.heap.size w W) => implSok q (.slice a l.length cap) l W (H0.out.kept hW) hlen hs
  unfold shV at hsk
  clear h T0 BA BB hzA
  go_enter Try.func31, Try.ntmps31
  generalize hwB : (w.alloc (.cells #[.int .i64 q, .slice a l.length cap] 34)).alloc (.cells #[.int .i64 0, .slice none 0 0] 34) = wB at T1 T0B BW hzB
  obtain ⟨x0, x1, _, _, xl⟩ := T0B
  go_wp2_with fail
  refine (hsk _ BW).mono ?_
  rintro e w1 ⟨rfl, hb1⟩
  have hz1 := hb1.size
  rw [hzB] at hz1
  have T1' : Hid (TwoB w1 (w.heap.size + 1) (.int .i64 0) (.slice none 0 0)) := T1.kept hb1 (by omega)
  have B1 : Hid (Below w.heap.size w w1) := (show Hid _ from BW.trans (hb1.mono BW.size))
  have c0 := (hb1.cell (p := ⟨w.heap.size, 0, none⟩) xl).trans x0
  have c1 := (hb1.cell (p := ⟨w.heap.size, 1, none⟩) xl).trans x1
  clear hb1 T1 BW hwB hzB x0 x1 xl hsk
  cases hok : shOk q l with
  | false =>
    have HQ : Hid (usdQ q l = 0 ∧ usdL q l key = []) := by
      show _ ∧ _
      unfold usdQ usdL
      rw [hok]
      exact ⟨rfl, rfl⟩
    obtain ⟨y0, y1, f0, f1, yl⟩ := T1'.out
    go_wp2
    refine bodyPost_ret (v := .agg #[.int .i64 0, .slice none 0 0]) (by simp [results, Try.results31, go_sem, y0, y1]) rfl ⟨_, by rw [HQ.out.1], by rw [HQ.out.2]; exact .inl ⟨rfl, rfl⟩, (B1.out.setCell (Nat.le_succ _) _).setCell (Nat.le_succ _) _⟩
  | true =>
    have ho := shOk_iff.1 hok
    have hl5 := ho.len
    have HQ : Hid (usdQ q l = q ∧ usdL q l key = usdI key l) := by
      show _ ∧ _
      unfold usdQ usdL
      rw [hok]
      exact ⟨rfl, rfl⟩
    have hpl := fun W (hW : Below w.heap.size w W) => implPlc (.slice a l.length cap) l key W (H0.out.kept hW)
    have HIT : Hid (∀ x ∈ l, x.1.size ≤ 500) := (show ∀ _, _ from fun x hx => (ho.it x hx).1)
    have hso := fun W u m (hW : Sls itE W u m) (hm : m.Perm l) => implShOf q u m W hW (by rw [hm.length_eq]; omega) (fun x hx => HIT.out x (hm.mem_iff.1 hx))
    unfold shV at hso
    rcases plA_some (l := l) (key := key) with ⟨k, hk, e, ek⟩ | ⟨e, en⟩
    · have hfr := fun W (hW : Below w.heap.size w W) => frontI_at l[k] (.slice a l.length cap) l k W (H0.out.kept hW) hk (by omega)
      rw [usd_at ho.keys hk ek] at hfr
      obtain ⟨a', cap', ea, hcap, hmx, h3⟩ := H0.out.itm
      injection ea with ea1 _ ea3
      subst ea1; subst ea3
      obtain ⟨g, o, rfl, hg, hc⟩ := h3 (by omega)
      obtain ⟨d1, d2⟩ := hc k hk
      have HD : Hid (∀ W, Below w.heap.size w W → W.cell? ⟨g, o + k * 2, none⟩ = some (.string l[k].1) ∧ W.cell? ⟨g, o + k * 2 + 1, none⟩ = some (.int .i64 l[k].2)) := (show ∀ _, _ from fun W hW => ⟨(hW.cell (p := ⟨g, o + k * 2, none⟩) hg).trans d1, (hW.cell (p := ⟨g, o + k * 2 + 1, none⟩) hg).trans d2⟩)
      rw [e] at hpl
      unfold itV at hfr
      have hki : (k : Int) < (l.length : Int) := by omega
      generalize l[k] = x at hfr HD
      obtain ⟨x1, x2⟩ := x
      dsimp only at hfr HD
      have HUP : Hid ((usdI key l).Perm l) := usdI_perm key l
      generalize usdI key l = m at hfr HQ HUP
      clear h3 hc d1 d2 e ek ho hok
      go_wp2_with fail
      refine (hpl _ B1.out).mono ?_
      rintro e w2 ⟨rfl, hb2⟩
      have B2 : Hid (Below w.heap.size w w2) := (show Hid _ from B1.out.trans (hb2.mono B1.out.size))
      have T2 : Hid (TwoB w2 (w.heap.size + 1) (.int .i64 0) (.slice none 0 0)) := T1'.out.kept hb2 (by omega)
      have c0' := (hb2.cell (p := ⟨w.heap.size, 0, none⟩) (show w.heap.size < w1.heap.size by omega)).trans c0
      have hz2 := hb2.size
      obtain ⟨d1, d2⟩ := HD.out w2 B2.out
      clear hb2 T1' B1 c0 c1 hpl
      go_wp2_with fail
      refine (hfr _ B2.out).mono ?_
      rintro e w3 ⟨u, rfl, ho3, hb3⟩
      have B3 : Hid (Below w.heap.size w w3) := (show Hid _ from B2.out.trans (hb3.mono B2.out.size))
      have T3 : Hid (TwoB w3 (w.heap.size + 1) (.int .i64 0) (.slice none 0 0)) := T2.out.kept hb3 (by omega)
      have c0'' := (hb3.cell (p := ⟨w.heap.size, 0, none⟩) (show w.heap.size < w2.heap.size by omega)).trans c0'
      have hz3 := hb3.size
      have hsf := hso w3 u m ho3.sls HUP.out
      obtain ⟨au, cu, rfl, _⟩ := ho3.form
      clear hb3 ho3 T2 B2 c0' d1 d2 hfr hso
      go_wp2_with fail
      refine hsf.mono ?_
      rintro e w4 ⟨u4, rfl, ho4, hb4⟩
      have B4 : Hid (Below w.heap.size w w4) := (show Hid _ from B3.out.trans (hb4.mono B3.out.size))
      have T4 : TwoB w4 (w.heap.size + 1) (.int .i64 0) (.slice none 0 0) := T3.out.kept hb4 (by omega)
      have HO4 : Hid (OwnsI8 w4 (w.heap.size + 1 + 1) u4 m) := ho4.low (by omega)
      obtain ⟨a4, c4, rfl, _⟩ := ho4.form
      obtain ⟨y0, y1, f0, f1, yl⟩ := T4
      have HNE : Hid (∀ k, (Value.slice a4 m.length c4).ownBlock = some k → k ≠ w.heap.size + 1) := (show ∀ _, _ from fun k hk => by have := HO4.out.from k hk; omega)
      clear ho4 hb4 B3 T3 c0'' hsf
      go_wp2
      refine bodyPost_ret (v := .agg #[.int .i64 q, .slice a4 m.length c4]) (by simp [results, Try.results31, go_sem, y0, y1]) rfl ⟨_, by rw [HQ.out.1], by rw [HQ.out.2]; exact ((HO4.out.two HNE.out _ _).low (by omega)).has, (B4.out.setCell (Nat.le_succ _) _).setCell (Nat.le_succ _) _⟩
    · rw [e] at hpl
      have HU : Hid (usdI key l = l) := (usd_no (plO_none en)).symm
      have hsf := fun W (hW : Below w.heap.size w W) => hso W (.slice a l.length cap) l (H0.out.kept hW) (List.Perm.refl _)
      clear e en ho hok hso
      go_wp2_with fail
      refine (hpl _ B1.out).mono ?_
      rintro e w2 ⟨rfl, hb2⟩
      have B2 : Hid (Below w.heap.size w w2) := (show Hid _ from B1.out.trans (hb2.mono B1.out.size))
      have T2 : Hid (TwoB w2 (w.heap.size + 1) (.int .i64 0) (.slice none 0 0)) := T1'.out.kept hb2 (by omega)
      have c0' := (hb2.cell (p := ⟨w.heap.size, 0, none⟩) (show w.heap.size < w1.heap.size by omega)).trans c0
      have hz2 := hb2.size
      clear hb2 T1' B1 c0 c1 hpl
      go_wp2_with fail
      refine (hsf _ B2.out).mono ?_
      rintro e w4 ⟨u4, rfl, ho4, hb4⟩
      have B4 : Hid (Below w.heap.size w w4) := (show Hid _ from B2.out.trans (hb4.mono B2.out.size))
      have T4 : TwoB w4 (w.heap.size + 1) (.int .i64 0) (.slice none 0 0) := T2.out.kept hb4 (by omega)
      have HO4 : Hid (OwnsI8 w4 (w.heap.size + 1 + 1) u4 l) := ho4.low (by omega)
      obtain ⟨a4, c4, rfl, _⟩ := ho4.form
      obtain ⟨y0, y1, f0, f1, yl⟩ := T4
      have HNE : Hid (∀ k, (Value.slice a4 l.length c4).ownBlock = some k → k ≠ w.heap.size + 1) := (show ∀ _, _ from fun k hk => by have := HO4.out.from k hk; omega)
      clear ho4 hb4 B2 T2 c0' hsf
      go_wp2
      refine bodyPost_ret (v := .agg #[.int .i64 q, .slice a4 l.length c4]) (by simp [results, Try.results31, go_sem, y0, y1]) rfl ⟨_, by rw [HQ.out.1], by rw [HQ.out.2, HU.out]; exact ((HO4.out.two HNE.out _ _).low (by omega)).has, (B4.out.setCell (Nat.le_succ _) _).setCell (Nat.le_succ _) _⟩
end Go.Proofs.Ytnnmbgenepfacaa
namespace Go.Proofs.Ytnnmbgenepfacaa
open Go.RowKit Rom

theorem implPla (q : Int) (v : Value) (l : List It) (key : ByteArray) (n : Int) (w : World) (h : Sls itE w v l) (hlen : l.length ≤ 1048576) (hs : ∀ x ∈ l, x.1.size ≤ maxLen) (hks : key.size ≤ maxLen) :
    Calls Try.prog 29 #[shV q v, .string key, .int .i64 n] w fun e w' => ∃ u g, e = .returned (.tuple #[shV (usdQ q l) u, g]) ∧ HasI8 w' w.heap.size u (plaL q l key n) ∧ HasX w' w.heap.size g (plaG q l key n) ∧ Below w.heap.size w w' := by
  cases hok : shOk q l with
  | false => exact implPla0 q v l key n w h hlen hs hks hok
  | true =>
    by_cases hn1 : n < 1
    · exact implPla1 q v l key n w h hlen hs hks hok hn1
    · by_cases hn2 : q < n
      · exact implPla2 q v l key n w h hlen hs hks hok hn1 hn2
      · by_cases hk5 : key.size ≤ 500
        · exact implPla4 q v l key n w h hlen hs hks hok hn1 hn2 hk5
        · exact implPla3 q v l key n w h hlen hs hks hok hn1 hn2 hk5
end Go.Proofs.Ytnnmbgenepfacaa
