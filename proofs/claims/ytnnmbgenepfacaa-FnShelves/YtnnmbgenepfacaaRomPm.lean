/-
  The specification's Place where it places nothing.
-/
import Derived.Test.YtnnmbgenepfacaaRomPl
namespace Go.Proofs.Ytnnmbgenepfacaa
open Go.RowKit Go.Sort Rom
set_option linter.unusedVariables false
set_option linter.unusedSimpArgs false

set_option maxRecDepth 100000 in
set_option maxHeartbeats 8000000 in
theorem specPlaB (q : Int) (v : Value) (l : List It) (key : ByteArray) (n : Int) (w : World) (h : Sls itE w v l) (hlen : l.length ≤ 1048576) (hs : ∀ x ∈ l, x.1.size ≤ maxLen) (hks : key.size ≤ maxLen) (hok : shOk q l = true) (hio : itOk q (key, n) = false) :
    Calls Try.prog 32 #[shV q v, .string key, .int .i64 n] w fun e w' => ∃ u g, e = .returned (.tuple #[shV (usdQ q l) u, g]) ∧ OwnsI8 w' w.heap.size u (plaL q l key n) ∧ OwnsX w' w.heap.size g (plaG q l key n) ∧ Below w.heap.size w w' := by
  have H0 : Hid (Sls itE w v l) := h
  obtain ⟨a, cap, rfl, hcl, hcm, _⟩ := h.itm
  have T0 := TwoB.new w (.int .i64 q) (.slice a l.length cap) 34
  have BA : Below w.heap.size w (w.alloc (.cells #[.int .i64 q, .slice a l.length cap] 34)) := (Below.refl _ w).alloc (Nat.le_refl _) _
  have hzA : (w.alloc (.cells #[.int .i64 q, .slice a l.length cap] 34)).heap.size = w.heap.size + 1 := by simp
  have T1 := TwoB.new (w.alloc (.cells #[.int .i64 q, .slice a l.length cap] 34)) (.int .i64 0) (.slice none 0 0) 34
  rw [hzA] at T1
  have BB : Below (w.heap.size + 1) (w.alloc (.cells #[.int .i64 q, .slice a l.length cap] 34)) ((w.alloc (.cells #[.int .i64 q, .slice a l.length cap] 34)).alloc (.cells #[.int .i64 0, .slice none 0 0] 34)) := (Below.refl _ _).alloc (by rw [hzA]; exact Nat.le_refl _) _
  have hzB : ((w.alloc (.cells #[.int .i64 q, .slice a l.length cap] 34)).alloc (.cells #[.int .i64 0, .slice none 0 0] 34)).heap.size = w.heap.size + 1 + 1 := by simp
  have BC : Below (w.heap.size + 1 + 1) ((w.alloc (.cells #[.int .i64 q, .slice a l.length cap] 34)).alloc (.cells #[.int .i64 0, .slice none 0 0] 34)) (((w.alloc (.cells #[.int .i64 q, .slice a l.length cap] 34)).alloc (.cells #[.int .i64 0, .slice none 0 0] 34)).alloc (.cells #[] 9)) := (Below.refl _ _).alloc (by rw [hzB]; exact Nat.le_refl _) _
  have S3 := (T0.kept BB (Nat.lt_succ_self _)).kept BC (by omega)
  have S6 := T1.kept BC (by omega)
  have XG := OwnsE.born (E := txtE) (ty := 9) ((w.alloc (.cells #[.int .i64 q, .slice a l.length cap] 34)).alloc (.cells #[.int .i64 0, .slice none 0 0] 34))
  rw [hzB] at XG
  have BW : Below w.heap.size w (((w.alloc (.cells #[.int .i64 q, .slice a l.length cap] 34)).alloc (.cells #[.int .i64 0, .slice none 0 0] 34)).alloc (.cells #[] 9)) := (BA.trans (BB.mono (Nat.le_succ _))).trans (BC.mono (by omega))
  have hzC : (((w.alloc (.cells #[.int .i64 q, .slice a l.length cap] 34)).alloc (.cells #[.int .i64 0, .slice none 0 0] 34)).alloc (.cells #[] 9)).heap.size = w.heap.size + 3 := by simp
  have hsk := fun W (hW : Below w.heap.size w W) => specSok q (.slice a l.length cap) l W (H0.out.kept hW) hs
  have hit := fun W => specItem (key, n) q W hks
  unfold shV at *
  unfold itV at hit
  clear h T0 T1 BA BB BC hzA hzB
  go_enter Try.func32, Try.ntmps32
  generalize hwB : ((w.alloc (.cells #[.int .i64 q, .slice a l.length cap] 34)).alloc (.cells #[.int .i64 0, .slice none 0 0] 34)).alloc (.cells #[] 9) = wB at S3 S6 XG BW hzC
  have x0 := S3.c0
  have x1 := S3.c1
  go_wp2_with fail
  refine (hsk _ BW).mono ?_
  rintro e w1 ⟨rfl, hb1⟩
  have hz1 := hb1.size
  rw [hzC] at hz1
  have T3 : Hid (TwoB w1 w.heap.size (.int .i64 q) (.slice a l.length cap)) := S3.kept hb1 S3.lt
  have T6 : Hid (TwoB w1 (w.heap.size + 1) (.int .i64 0) (.slice none 0 0)) := S6.kept hb1 S6.lt
  have XO : Hid (OwnsX w1 (w.heap.size + 2) (.slice (some ⟨w.heap.size + 1 + 1, 0, none⟩) 0 0) []) := (show Hid _ from OwnsE.kept XG hb1)
  have B1 : Hid (Below w.heap.size w w1) := (show Hid _ from BW.trans (hb1.mono BW.size))
  clear hb1 S3 S6 XG BW hzC hwB x0 x1 hsk
  rw [hok]
  have ho := shOk_iff.1 hok
  have hl5 := ho.len
  have hqq := ho.quo
  have s0 := T3.out.c0
  have s1 := T3.out.c1
  have hlt3 := T3.out.lt
  have bA : Below w1.heap.size w1 (w1.alloc (.cells #[.string key, .int .i64 n] 47)) := (Below.refl _ w1).alloc (Nat.le_refl _) _
  have A3 : Hid (TwoB (w1.alloc (.cells #[.string key, .int .i64 n] 47)) w.heap.size (.int .i64 q) (.slice a l.length cap)) := T3.out.kept bA T3.out.lt
  have A6 : Hid (TwoB (w1.alloc (.cells #[.string key, .int .i64 n] 47)) (w.heap.size + 1) (.int .i64 0) (.slice none 0 0)) := T6.out.kept bA T6.out.lt
  have A9 : Hid (TwoB (w1.alloc (.cells #[.string key, .int .i64 n] 47)) w1.heap.size (.string key) (.int .i64 n)) := TwoB.new _ _ _ _
  have AX : Hid (OwnsX (w1.alloc (.cells #[.string key, .int .i64 n] 47)) (w.heap.size + 2) (.slice (some ⟨w.heap.size + 1 + 1, 0, none⟩) 0 0) []) := (show Hid _ from XO.out.alloc _)
  have AB : Hid (Below w.heap.size w (w1.alloc (.cells #[.string key, .int .i64 n] 47))) := (show Hid _ from B1.out.alloc B1.out.size _)
  have hzw : (w1.alloc (.cells #[.string key, .int .i64 n] 47)).heap.size = w1.heap.size + 1 := by simp
  clear bA T3 T6 XO B1
  go_wp2_with fail
  generalize w1.alloc (.cells #[.string key, .int .i64 n] 47) = wA at A3 A6 A9 AX AB hzw ⊢
  clear s0 s1
  refine (hit _).mono ?_
  rintro e w2 ⟨rfl, hb2⟩
  have T3 : Hid (TwoB w2 w.heap.size (.int .i64 q) (.slice a l.length cap)) := A3.out.kept hb2 A3.out.lt
  have T6 : Hid (TwoB w2 (w.heap.size + 1) (.int .i64 0) (.slice none 0 0)) := A6.out.kept hb2 A6.out.lt
  have T9 : Hid (TwoB w2 w1.heap.size (.string key) (.int .i64 n)) := A9.out.kept hb2 A9.out.lt
  have XO : Hid (OwnsX w2 (w.heap.size + 2) (.slice (some ⟨w.heap.size + 1 + 1, 0, none⟩) 0 0) []) := (show Hid _ from OwnsE.kept AX.out hb2)
  have B2 : Hid (Below w.heap.size w w2) := (show Hid _ from AB.out.trans (hb2.mono AB.out.size))
  have hz2 := hb2.size
  clear hb2 A3 A6 A9 AX AB hit
  rw [hio]
  have HQ : Hid (usdQ q l = q ∧ plaL q l key n = l ∧ plaG q l key n = []) := by
    show _ ∧ _
    unfold usdQ plaL plaG
    rw [hok, if_pos rfl, if_pos rfl, if_pos rfl, hio, if_neg (by decide), if_neg (by decide)]
    exact ⟨rfl, rfl, rfl⟩
  have s0 := T3.out.c0
  have s1 := T3.out.c1
  obtain ⟨r0, r1, f0, f1, rl⟩ := T6.out
  have hz : w.heap.size + 2 ≤ w2.heap.size := by omega
  have bA : Below w2.heap.size w2 (w2.alloc (.cells #[] 47)) := (Below.refl _ w2).alloc (Nat.le_refl _) _
  have BA : Hid (Below w2.heap.size w2 (w2.alloc (.cells #[] 47))) := bA
  have XA : Hid (OwnsX (w2.alloc (.cells #[] 47)) (w.heap.size + 2) (.slice (some ⟨w.heap.size + 1 + 1, 0, none⟩) 0 0) []) := (show Hid _ from XO.out.alloc _)
  have hlt3 := T3.out.lt
  unfold maxLen at hcm
  clear bA ho hok hio
  cases a with
  | none =>
    obtain rfl : l = [] := by
      rcases l with _ | ⟨y, l⟩
      · rfl
      · obtain ⟨_, _, e, _, _, h3⟩ := H0.out.itm
        obtain ⟨_, _, e3, _⟩ := h3 (by simp)
        injection e with e
        rw [← e] at e3
        cases e3
    go_wp2_with fail
    go_region_law (refine step_noneI rfl (.tmp 30) (.tmp 32) rfl w2.heap.size (.slice (some ⟨w2.heap.size, 0, none⟩) 0 0) [] (by simp [Act.eval, Act.put]) (by exact OwnsE.born w2) cap (by simp [Act.eval, Act.put]) ?_)
    all_goals
      have hzs : ((w2.setCell ⟨w.heap.size + 1, 0, none⟩ (.int .i64 q)).setCell ⟨w.heap.size + 1, 1, none⟩ (.slice (some ⟨w2.heap.size, 0, none⟩) 0 0)).heap.size = w2.heap.size := by simp [World.setCell]
      have O4 := OwnsE.born (E := itE) (ty := 47) ((w2.setCell ⟨w.heap.size + 1, 0, none⟩ (.int .i64 q)).setCell ⟨w.heap.size + 1, 1, none⟩ (.slice (some ⟨w2.heap.size, 0, none⟩) 0 0))
      rw [hzs] at O4
      have X4 : OwnsX (((w2.setCell ⟨w.heap.size + 1, 0, none⟩ (.int .i64 q)).setCell ⟨w.heap.size + 1, 1, none⟩ (.slice (some ⟨w2.heap.size, 0, none⟩) 0 0)).alloc (.cells #[] 47)) w.heap.size (.slice (some ⟨w.heap.size + 1 + 1, 0, none⟩) 0 0) [] := ((XO.out.two (b := w.heap.size + 1) (fun k hk => by have := XO.out.from k hk; omega) _ _).alloc _).low (by omega)
      have B4 := ((B2.out.setCell (p := ⟨w.heap.size + 1, 0, none⟩) (Nat.le_succ _) (.int .i64 q)).setCell (p := ⟨w.heap.size + 1, 1, none⟩) (Nat.le_succ _) (.slice (some ⟨w2.heap.size, 0, none⟩) 0 0)).alloc (by rw [hzs]; omega) (.cells #[] 47)
      have TF : TwoB ((w2.setCell ⟨w.heap.size + 1, 0, none⟩ (.int .i64 q)).setCell ⟨w.heap.size + 1, 1, none⟩ (.slice (some ⟨w2.heap.size, 0, none⟩) 0 0)) (w.heap.size + 1) (.int .i64 q) (.slice (some ⟨w2.heap.size, 0, none⟩) 0 0) := ⟨by simp [go_sem, r0, r1], by simp [go_sem, r0, r1], by simp [go_sem, f0, f1], by simp [go_sem, f0, f1], by rw [hzs]; exact rl⟩
      have TG := TF.kept ((Below.refl _ _).alloc (Nat.le_refl _) (.cells #[] 47)) TF.lt
      have n0 := TG.c0
      have n1 := TG.c1
      have HO4 : Hid (OwnsI8 (((w2.setCell ⟨w.heap.size + 1, 0, none⟩ (.int .i64 q)).setCell ⟨w.heap.size + 1, 1, none⟩ (.slice (some ⟨w2.heap.size, 0, none⟩) 0 0)).alloc (.cells #[] 47)) w.heap.size (.slice (some ⟨w2.heap.size, 0, none⟩) 0 0) ([] : List It)) := (show Hid _ from OwnsE.low O4 (by omega))
      have HX4 : Hid (OwnsX (((w2.setCell ⟨w.heap.size + 1, 0, none⟩ (.int .i64 q)).setCell ⟨w.heap.size + 1, 1, none⟩ (.slice (some ⟨w2.heap.size, 0, none⟩) 0 0)).alloc (.cells #[] 47)) w.heap.size (.slice (some ⟨w.heap.size + 1 + 1, 0, none⟩) 0 0) []) := X4
      have HB4 : Hid (Below w.heap.size w (((w2.setCell ⟨w.heap.size + 1, 0, none⟩ (.int .i64 q)).setCell ⟨w.heap.size + 1, 1, none⟩ (.slice (some ⟨w2.heap.size, 0, none⟩) 0 0)).alloc (.cells #[] 47))) := B4
      clear O4 X4 B4 hzs TF TG
      generalize ((w2.setCell ⟨w.heap.size + 1, 0, none⟩ (.int .i64 q)).setCell ⟨w.heap.size + 1, 1, none⟩ (.slice (some ⟨w2.heap.size, 0, none⟩) 0 0)).alloc (.cells #[] 47) = WF at HO4 HX4 HB4 n0 n1 ⊢
      go_wp2
      refine bodyPost_ret (v := .tuple #[.agg #[.int .i64 q, .slice (some ⟨w2.heap.size, 0, none⟩) 0 0], .slice (some ⟨w.heap.size + 1 + 1, 0, none⟩) 0 0]) (by simp [results, Try.results32, go_sem, n0, n1]) rfl ⟨_, _, by rw [HQ.out.1], by rw [HQ.out.2.1]; exact OwnsE.drew HO4.out, by rw [HQ.out.2.2]; exact OwnsE.drew HX4.out, ⟨HB4.out.os, HB4.out.tape, HB4.out.output, HB4.out.size, HB4.out.block⟩⟩
  | some ad =>
    have HC : Hid (∀ j u, (cellsE itE l)[j]? = some u → w2.cell? (ad.add j) = some u) := by
      intro j u hu
      obtain ⟨a', c', e, _, _, h3⟩ := H0.out.kept B2.out
      injection e with e _ _
      by_cases h0 : 0 < l.length
      · obtain ⟨g, o, e3, _, hc⟩ := h3 h0
        rw [← e] at e3
        injection e3 with e3
        rw [e3, addr_add]
        exact hc j u hu
      · have : l = [] := List.eq_nil_of_length_eq_zero (by omega)
        rw [this] at hu
        simp [cellsE] at hu
    have HCA : Hid (∀ j u, (cellsE itE l)[j]? = some u → (w2.alloc (.cells #[] 47)).cell? (ad.add j) = some u) := (show ∀ _, _ from fun j u hu => by
      have hlt : (ad.add j).block < w2.heap.size := by
        have := HC.out j u hu
        cases e : w2.heap[(ad.add j).block]? with
        | none => simp [World.cell?, e] at this
        | some x => exact (Array.getElem?_eq_some_iff.1 e).1
      exact (BA.out.cell (p := ad.add j) hlt).trans (HC.out j u hu))
    go_wp2_with fail
    go_region_law (refine step_rowE (E := itE) rfl (.tmp 30) (.tmp 32) 32 47 (.agg #[.string ⟨#[]⟩, .int .i64 0]) 24 Try.underlying32 Try.infoIT rfl rfl w2.heap.size (.slice (some ⟨w2.heap.size, 0, none⟩) 0 0) [] (by simp [Act.eval, Act.put]) (by exact OwnsE.born w2) ad cap l (by simp [Act.eval, Act.put]) (by exact HCA.out) (by simp only [List.length_nil]; unfold maxLen; omega) (by simp only [List.length_nil]; omega) (by simp) ?_; intro v4 w4 ho4 hg4 hn4; have hb24 : Below w2.heap.size w2 w4 := belowE (w1 := w2.alloc (.cells #[] 47)) BA.out (by exact ⟨hg4.os, hg4.tape, hg4.output, hg4.size, hg4.block⟩) (by simp) (fun k hk => by simp [Value.ownBlock] at hk; omega); obtain ⟨z0, z1, g0, g1, zl⟩ := T6.out.kept hb24 (by omega); have zq := (hb24.cell (p := ⟨w.heap.size, 0, none⟩) hlt3).trans s0; have ho5 : OwnsI8 w4 w2.heap.size v4 l := (by simpa using ho4); have HO4 : Hid (OwnsI8 w4 w2.heap.size v4 l) := ho5; clear ho5; have HB4 : Hid (Below w2.heap.size w2 w4) := hb24; obtain ⟨a4, c4, hv4, _⟩ := HO4.out.form; subst hv4; clear ho4 hg4 hb24)
    all_goals
      have HNE : Hid (∀ k, (Value.slice a4 l.length c4).ownBlock = some k → k ≠ w.heap.size + 1) := (show ∀ _, _ from fun k hk => by have := HO4.out.from k hk; omega)
      have HOF : Hid (OwnsI8 ((w4.setCell ⟨w.heap.size + 1, 0, none⟩ (.int .i64 q)).setCell ⟨w.heap.size + 1, 1, none⟩ (.slice a4 l.length c4)) w.heap.size (.slice a4 l.length c4) l) := (HO4.out.two HNE.out _ _).low (by omega)
      have HXF : Hid (OwnsX ((w4.setCell ⟨w.heap.size + 1, 0, none⟩ (.int .i64 q)).setCell ⟨w.heap.size + 1, 1, none⟩ (.slice a4 l.length c4)) w.heap.size (.slice (some ⟨w.heap.size + 1 + 1, 0, none⟩) 0 0) []) := ((OwnsE.kept XO.out HB4.out).two (b := w.heap.size + 1) (fun k hk => by have := XO.out.from k hk; omega) _ _).low (by omega)
      have HBF : Hid (Below w.heap.size w ((w4.setCell ⟨w.heap.size + 1, 0, none⟩ (.int .i64 q)).setCell ⟨w.heap.size + 1, 1, none⟩ (.slice a4 l.length c4))) := (show Hid _ from ((B2.out.trans (HB4.out.mono B2.out.size)).setCell (p := ⟨w.heap.size + 1, 0, none⟩) (Nat.le_succ _) _).setCell (p := ⟨w.heap.size + 1, 1, none⟩) (Nat.le_succ _) _)
      go_wp2
      refine bodyPost_ret (v := .tuple #[.agg #[.int .i64 q, .slice a4 l.length c4], .slice (some ⟨w.heap.size + 1 + 1, 0, none⟩) 0 0]) (by simp [results, Try.results32, go_sem, z0, z1]) rfl ⟨_, _, by rw [HQ.out.1], by rw [HQ.out.2.1]; exact HOF.out, by rw [HQ.out.2.2]; exact HXF.out, HBF.out⟩
end Go.Proofs.Ytnnmbgenepfacaa
