/-
  The specification's Place where it places.
-/
import Derived.Test.YtnnmbgenepfacaaRomPl
namespace Go.Proofs.Ytnnmbgenepfacaa
open Go.RowKit Go.Sort Rom
set_option linter.unusedVariables false
set_option linter.unusedSimpArgs false

set_option maxRecDepth 100000 in
set_option maxHeartbeats 8000000 in
theorem specPlaC (q : Int) (v : Value) (l : List It) (key : ByteArray) (n : Int) (w : World) (h : Sls itE w v l) (hlen : l.length ≤ 1048576) (hs : ∀ x ∈ l, x.1.size ≤ maxLen) (hks : key.size ≤ maxLen) (hok : shOk q l = true) (hio : itOk q (key, n) = true) :
    Calls Try.prog 32 #[shV q v, .string key, .int .i64 n] w fun e w' => ∃ u g, e = .returned (.tuple #[shV (usdQ q l) u, g]) ∧ OwnsI8 w' w.heap.size u (plaL q l key n) ∧ OwnsX w' w.heap.size g (plaG q l key n) ∧ Below w.heap.size w w' := by
  have H0 : Hid (Sls itE w v l) := h
  obtain ⟨a, cap, rfl, hcl, hcm, _⟩ := h.itm
  have T0 := TwoB.new w (.int .i64 q) (.slice a l.length cap) 34
  have BA : Below w.heap.size w (w.alloc (.cells #[.int .i64 q, .slice a l.length cap] 34)) := (Below.refl _ w).alloc (Nat.le_refl _) _
  have hzA : (w.alloc (.cells #[.int .i64 q, .slice a l.length cap] 34)).heap.size = w.heap.size + 1 := by simp
  have T1 := TwoB.new (w.alloc (.cells #[.int .i64 q, .slice a l.length cap] 34)) (.int .i64 0) (.slice none 0 0) 34
  rw [hzA] at T1
  have BB : Below (w.heap.size + 1) (w.alloc (.cells #[.int .i64 q, .slice a l.length cap] 34)) ((w.alloc (.cells #[.int .i64 q, .slice a l.length cap] 34)).alloc (.cells #[.int .i64 0, .slice none 0 0] 34)) := (Below.refl _ _).alloc (by rw [hzA]; exact Nat.le_refl _) _
  have hzB : ((w.alloc (.cells #[.int .i64 q, .slice a l.length cap] 34)).alloc (.cells #[.int .i64 0, .slice none 0 0] 34)).heap.size = w.heap.size + 1 + 1 := by simp
  have BC : Below (w.heap.size + 1 + 1) ((w.alloc (.cells #[.int .i64 q, .slice a l.length cap] 34)).alloc (.cells #[.int .i64 0, .slice none 0 0] 34)) (((w.alloc (.cells #[.int .i64 q, .slice a l.length cap] 34)).alloc (.cells #[.int .i64 0, .slice none 0 0] 34)).alloc (.cells #[] 9)) := (Below.refl _ _).alloc (by rw [hzB]; exact Nat.le_refl _) _
  have S3 := (T0.kept BB (Nat.lt_succ_self _)).kept BC (by omega)
  have S6 := T1.kept BC (by omega)
  have XG := OwnsE.born (E := txtE) (ty := 9) ((w.alloc (.cells #[.int .i64 q, .slice a l.length cap] 34)).alloc (.cells #[.int .i64 0, .slice none 0 0] 34))
  rw [hzB] at XG
  have BW : Below w.heap.size w (((w.alloc (.cells #[.int .i64 q, .slice a l.length cap] 34)).alloc (.cells #[.int .i64 0, .slice none 0 0] 34)).alloc (.cells #[] 9)) := (BA.trans (BB.mono (Nat.le_succ _))).trans (BC.mono (by omega))
  have hzC : (((w.alloc (.cells #[.int .i64 q, .slice a l.length cap] 34)).alloc (.cells #[.int .i64 0, .slice none 0 0] 34)).alloc (.cells #[] 9)).heap.size = w.heap.size + 3 := by simp
  have hsk := fun W (hW : Below w.heap.size w W) => specSok q (.slice a l.length cap) l W (H0.out.kept hW) hs
  have hit := fun W => specItem (key, n) q W hks
  unfold shV at *
  unfold itV at hit
  clear h T0 T1 BA BB BC hzA hzB
  go_enter Try.func32, Try.ntmps32
  generalize hwB : ((w.alloc (.cells #[.int .i64 q, .slice a l.length cap] 34)).alloc (.cells #[.int .i64 0, .slice none 0 0] 34)).alloc (.cells #[] 9) = wB at S3 S6 XG BW hzC
  have x0 := S3.c0
  have x1 := S3.c1
  go_wp2_with fail
  refine (hsk _ BW).mono ?_
  rintro e w1 ⟨rfl, hb1⟩
  have hz1 := hb1.size
  rw [hzC] at hz1
  have T3 : Hid (TwoB w1 w.heap.size (.int .i64 q) (.slice a l.length cap)) := S3.kept hb1 S3.lt
  have T6 : Hid (TwoB w1 (w.heap.size + 1) (.int .i64 0) (.slice none 0 0)) := S6.kept hb1 S6.lt
  have XO : Hid (OwnsX w1 (w.heap.size + 2) (.slice (some ⟨w.heap.size + 1 + 1, 0, none⟩) 0 0) []) := (show Hid _ from OwnsE.kept XG hb1)
  have B1 : Hid (Below w.heap.size w w1) := (show Hid _ from BW.trans (hb1.mono BW.size))
  clear hb1 S3 S6 XG BW hzC hwB x0 x1 hsk
  rw [hok]
  have ho := shOk_iff.1 hok
  have hl5 := ho.len
  have hqq := ho.quo
  have s0 := T3.out.c0
  have s1 := T3.out.c1
  have hlt3 := T3.out.lt
  have bA : Below w1.heap.size w1 (w1.alloc (.cells #[.string key, .int .i64 n] 47)) := (Below.refl _ w1).alloc (Nat.le_refl _) _
  have A3 : Hid (TwoB (w1.alloc (.cells #[.string key, .int .i64 n] 47)) w.heap.size (.int .i64 q) (.slice a l.length cap)) := T3.out.kept bA T3.out.lt
  have A6 : Hid (TwoB (w1.alloc (.cells #[.string key, .int .i64 n] 47)) (w.heap.size + 1) (.int .i64 0) (.slice none 0 0)) := T6.out.kept bA T6.out.lt
  have A9 : Hid (TwoB (w1.alloc (.cells #[.string key, .int .i64 n] 47)) w1.heap.size (.string key) (.int .i64 n)) := TwoB.new _ _ _ _
  have AX : Hid (OwnsX (w1.alloc (.cells #[.string key, .int .i64 n] 47)) (w.heap.size + 2) (.slice (some ⟨w.heap.size + 1 + 1, 0, none⟩) 0 0) []) := (show Hid _ from XO.out.alloc _)
  have AB : Hid (Below w.heap.size w (w1.alloc (.cells #[.string key, .int .i64 n] 47))) := (show Hid _ from B1.out.alloc B1.out.size _)
  have hzw : (w1.alloc (.cells #[.string key, .int .i64 n] 47)).heap.size = w1.heap.size + 1 := by simp
  clear bA T3 T6 XO B1
  go_wp2_with fail
  generalize w1.alloc (.cells #[.string key, .int .i64 n] 47) = wA at A3 A6 A9 AX AB hzw ⊢
  clear s0 s1
  refine (hit _).mono ?_
  rintro e w2 ⟨rfl, hb2⟩
  have T3 : Hid (TwoB w2 w.heap.size (.int .i64 q) (.slice a l.length cap)) := A3.out.kept hb2 A3.out.lt
  have T6 : Hid (TwoB w2 (w.heap.size + 1) (.int .i64 0) (.slice none 0 0)) := A6.out.kept hb2 A6.out.lt
  have T9 : Hid (TwoB w2 w1.heap.size (.string key) (.int .i64 n)) := A9.out.kept hb2 A9.out.lt
  have XO : Hid (OwnsX w2 (w.heap.size + 2) (.slice (some ⟨w.heap.size + 1 + 1, 0, none⟩) 0 0) []) := (show Hid _ from OwnsE.kept AX.out hb2)
  have B2 : Hid (Below w.heap.size w w2) := (show Hid _ from AB.out.trans (hb2.mono AB.out.size))
  have hz2 := hb2.size
  clear hb2 A3 A6 A9 AX AB hit
  rw [hio]
  have HQ : Hid (usdQ q l = q ∧ plaL q l key n = kept q (allI key n l) ∧ plaG q l key n = goneI (allI key n l) (keepN q (allI key n l) (allI key n l).length)) := by
    show _ ∧ _
    unfold usdQ plaL plaG
    rw [hok, if_pos rfl, if_pos rfl, if_pos rfl, if_pos hio, if_pos hio]
    exact ⟨rfl, rfl, rfl⟩
  have hnn := itOk_iff.1 hio
  have hn1 : 1 ≤ n := hnn.2.1
  have hn2 : n ≤ q := hnn.2.2
  have HIT : Hid (∀ x ∈ l, 1 ≤ x.2 ∧ x.2 ≤ 100000) := (show ∀ _, _ from fun x hx => ⟨(ho.it x hx).2.1, by have := (ho.it x hx).2.2; omega⟩)
  have HL : Hid (∀ (k : Nat) (hk : k < l.length) W, Below w.heap.size w W → ∃ g o, a = some ⟨g, o, Option.none⟩ ∧ W.cell? ⟨g, o + k * 2, Option.none⟩ = some (.string l[k].1) ∧ W.cell? ⟨g, o + k * 2 + 1, Option.none⟩ = some (.int .i64 l[k].2)) := (show ∀ _, _ from fun k hk W hW => by
    obtain ⟨a', cap', ea, hcap, hmx, h3⟩ := H0.out.itm
    injection ea with ea1 _ ea3
    subst ea1; subst ea3
    obtain ⟨g, o, ha, hg, hc⟩ := h3 (by omega)
    exact ⟨g, o, ha, (hW.cell (p := ⟨g, o + k * 2, none⟩) hg).trans (hc k hk).1, (hW.cell (p := ⟨g, o + k * 2 + 1, none⟩) hg).trans (hc k hk).2⟩)
  have HSB : Hid (∀ k, k ≤ l.length → 0 ≤ sumI ((l.take k).filter (neK key)) ∧ sumI ((l.take k).filter (neK key)) ≤ 100000 * (k : Int)) := (show ∀ _, _ from fun k hk => by
    have h1 := sum_in (q := 100000) (l := (l.take k).filter (neK key)) (fun x hx => itOk_iff.2 ⟨(ho.it x (List.mem_of_mem_take (List.mem_filter.1 hx).1)).1, HIT.out x (List.mem_of_mem_take (List.mem_filter.1 hx).1)⟩) (Int.le_refl _)
    have h2 : ((l.take k).filter (neK key)).length ≤ k := Nat.le_trans (List.length_filter_le _ _) (List.length_take_le _ _)
    omega)
  have t0 := T9.out.c0
  have t1 := T9.out.c1
  have oA : Hid (OwnsI8 (w2.alloc (.cells #[.string key, .int .i64 n] 47)) (w.heap.size + 2) (.slice (some ⟨w2.heap.size, 0, none⟩) 1 1) [(key, n)]) := (show Hid _ from OwnsE.low (show OwnsI8 (w2.alloc (.cells #[.string key, .int .i64 n] 47)) w2.heap.size (.slice (some ⟨w2.heap.size, 0, none⟩) 1 1) [(key, n)] from World.ownsRow_lit w2 #[.string key, .int .i64 n] 1 (Nat.le_refl _) (by unfold maxLen; decide) rfl) (by omega))
  have bA : Below w2.heap.size w2 (w2.alloc (.cells #[.string key, .int .i64 n] 47)) := (Below.refl _ w2).alloc (Nat.le_refl _) _
  have A3 : Hid (TwoB (w2.alloc (.cells #[.string key, .int .i64 n] 47)) w.heap.size (.int .i64 q) (.slice a l.length cap)) := T3.out.kept bA T3.out.lt
  have A6 : Hid (TwoB (w2.alloc (.cells #[.string key, .int .i64 n] 47)) (w.heap.size + 1) (.int .i64 0) (.slice none 0 0)) := T6.out.kept bA T6.out.lt
  have AX : Hid (OwnsX (w2.alloc (.cells #[.string key, .int .i64 n] 47)) (w.heap.size + 2) (.slice (some ⟨w.heap.size + 1 + 1, 0, none⟩) 0 0) []) := (show Hid _ from XO.out.alloc _)
  have AB : Hid (Below w.heap.size w (w2.alloc (.cells #[.string key, .int .i64 n] 47))) := (show Hid _ from B2.out.alloc B2.out.size _)
  have htl := T9.out.lt
  clear bA T3 T6 XO B2 T9 ho hok hio hnn hs
  go_wp2_with fail
  clear t0 t1
  generalize w2.alloc (.cells #[.string key, .int .i64 n] 47) = wC at oA A3 A6 AX AB ⊢
  go_loopw [10, 11, 12] (fun av sv i wr => ∃ (k ga ca : Nat), k ≤ l.length ∧ i = .int .i64 k ∧ av = .slice (some ⟨ga, 0, none⟩) ((key, n) :: (l.take k).filter (neK key)).length ca ∧ sv = .int .i64 (n + sumI ((l.take k).filter (neK key))) ∧ Hid (OwnsI8 wr (w.heap.size + 2) (.slice (some ⟨ga, 0, none⟩) ((key, n) :: (l.take k).filter (neK key)).length ca) ((key, n) :: (l.take k).filter (neK key))) ∧ Hid (TwoB wr (w.heap.size + 1) (.int .i64 0) (.slice none 0 0)) ∧ Hid (TwoB wr w.heap.size (.int .i64 q) (.slice a l.length cap)) ∧ Hid (OwnsX wr (w.heap.size + 2) (.slice (some ⟨w.heap.size + 1 + 1, 0, none⟩) 0 0) []) ∧ Hid (Below w.heap.size w wr)) (fun _ _ i _ => l.length - (intOf i).toNat)
  case atStart => exact ⟨0, _, _, Nat.zero_le _, rfl, rfl, by simp [sumI], oA, A6, A3, AX, AB⟩
  case round =>
    clear oA A3 A6 AX AB
    obtain ⟨k, ga, ca, hk, rfl, rfl, rfl, hA, hT, hS, hX, hb⟩ := hrel
    have s0 := hS.out.c0
    have s1 := hS.out.c1
    by_cases hlt : k < l.length
    · obtain ⟨g, o, rfl, c1, c2⟩ := HL.out k hlt wr hb.out
      have hki : (k : Int) < (l.length : Int) := by omega
      have HR : Hid ((l.take (k + 1)).filter (neK key) = (l.take k).filter (neK key) ++ (if neK key l[k] = true then [l[k]] else [])) := filtI_next hlt
      have hrl : ((l.take k).filter (neK key)).length ≤ k := Nat.le_trans (List.length_filter_le _ _) (List.length_take_le _ _)
      have hsb := HSB.out k hk
      have hxz := HIT.out _ (List.getElem_mem hlt)
      generalize l[k] = x at c1 c2 HR hxz
      generalize (l.take k).filter (neK key) = R at hA HR hrl hsb
      obtain ⟨x1, x2⟩ := x
      dsimp only at c1 c2 hxz
      have hz : w.heap.size + 2 ≤ wr.heap.size := by have := hT.out.lt; omega
      have hgA := hA.out.from ga rfl
      by_cases e : x1 = key
      · have q1 := key_eq e
        have HR2 : Hid ((l.take (k + 1)).filter (neK key) = R) := (show _ = _ from by rw [HR.out, if_neg (show ¬ neK key (x1, x2) = true from by unfold neK; rw [decide_eq_true (show (x1, x2).1 = key from e)]; decide), List.append_nil])
        clear e HR
        go_wp2
        go_roundw
        case rel => exact ⟨k + 1, ga, ca, by omega, by go_num, by rw [HR2.out], by rw [HR2.out], by rw [HR2.out]; exact hA, hT, hS, hX, hb⟩
        case measure => simp [intOf]; omega
      · have q1 := key_ne e
        have HR2 : Hid ((l.take (k + 1)).filter (neK key) = R ++ [(x1, x2)]) := (show _ = _ from by rw [HR.out, if_pos (show neK key (x1, x2) = true from by unfold neK; rw [decide_eq_false (show ¬ (x1, x2).1 = key from e)]; rfl)])
        have HSS : Hid (sumI (R ++ [(x1, x2)]) = sumI R + x2) := (show _ = _ from by rw [sumI_append]; congr 1; show sumI [(x1, x2)] = x2; rw [sumI_cons]; show x2 + 0 = x2; omega)
        obtain ⟨S0, hS0⟩ : ∃ z, z = sumI R := ⟨_, rfl⟩
        rw [← hS0] at HSS hsb ⊢
        have hcell : Hid (∀ W, Below w.heap.size w W → W.cell? ⟨g, o + k * 2 + 1, none⟩ = some (.int .i64 x2)) := (show ∀ _, _ from fun W hW => by
          obtain ⟨g', o', e3, _, d2⟩ := HL.out k hlt W hW
          injection e3 with e3
          injection e3 with e4 e5
          subst e4; subst e5
          obtain ⟨g'', o'', e6, _, d3⟩ := HL.out k hlt wr hb.out
          injection e6 with e6
          injection e6 with e7 e8
          subst e7; subst e8
          rw [d2, ← d3]; exact c2)
        clear e HR hS0
        go_wp2_with (at_builtin; refine wpList_pushI _ rfl (.tmp 54) (.tmp 60) rfl (w.heap.size + 2) ga _ ca ((key, n) :: R) (x1, x2) rfl hA.out rfl (by simp; omega) hz ?_; intro g4 c4 w4 ho4 hg4 hat4; have hb24 : Below (w.heap.size + 2) wr w4 := belowE (Below.refl _ wr) hg4 hz (fun k hk => by injection hk with hk; omega); have HB4 : Hid (Below w.heap.size w w4) := (show Hid _ from hb.out.trans (hb24.mono (by omega))); have hT4 : Hid (TwoB w4 (w.heap.size + 1) (.int .i64 0) (.slice none 0 0)) := hT.out.kept hb24 (by omega); have hS4 : Hid (TwoB w4 w.heap.size (.int .i64 q) (.slice (some ⟨g, o, none⟩) l.length cap)) := hS.out.kept hb24 (by omega); have hX4 : Hid (OwnsX w4 (w.heap.size + 2) (.slice (some ⟨w.heap.size + 1 + 1, 0, none⟩) 0 0) []) := (show Hid _ from hX.out.grown hg4 (fun k hk e => by injection e with e; obtain ⟨cu1, hc1⟩ := hX.out.ty hk; obtain ⟨cu2, hc2⟩ := hA.out.ty (k := ga) rfl; rw [← e] at hc1; exact absurd (block_ty hc1 hc2) (by decide))); have HO4 : Hid _ := ho4; have u1 := hS4.out.c1; have u2 := hcell.out w4 HB4.out; clear ho4 hg4 hb24)
        go_roundw
        case rel => exact ⟨k + 1, g4, c4, by omega, by go_num, by rw [HR2.out]; simp, by rw [HR2.out, HSS.out]; go_num, by rw [HR2.out]; exact HO4, hT4, hS4, hX4, HB4⟩
        case measure => simp [intOf]; omega
    · obtain rfl : k = l.length := by omega
      rw [List.take_of_length_le (Nat.le_refl _)] at hA ⊢
      have hal : Hid (allI key n l = (key, n) :: l.filter (neK key)) := rfl
      have hsa : Hid (n + sumI (l.filter (neK key)) = sumI (allI key n l)) := (show _ = _ from by rw [hal.out, sumI_cons])
      have hll : ((key, n) :: l.filter (neK key)).length ≤ 51 := by rw [List.length_cons]; have := List.length_filter_le (neK key) l; omega
      have HSM : Hid (∀ x ∈ allI key n l, 1 ≤ x.2 ∧ x.2 ≤ 100000) := (show ∀ _, _ from fun x hx => by
        rw [hal.out] at hx
        rcases List.mem_cons.1 hx with e | e
        · rw [e]; exact ⟨hn1, by show n ≤ 100000; omega⟩
        · exact HIT.out x (List.mem_filter.1 e).1)
      rw [hsa.out, ← hal.out]
      rw [← hal.out] at hA hll
      clear hal hsa HSB HL HIT
      generalize allI key n l = AL at hA hll HSM HQ ⊢
      have HM : Hid (∀ m, m ≤ AL.length → 0 ≤ sumI (AL.take m) ∧ sumI (AL.take m) ≤ 100000 * (m : Int)) := (show ∀ _, _ from fun m hm => by
        have h1 := sum_mono (fun x hx => (HSM.out x hx).1) (k := 0) m (Nat.zero_le _) hm
        have h2 : sumI (AL.take 0) = 0 := rfl
        have h3 : ∀ (L : List It), (∀ x ∈ L, x.2 ≤ 100000) → sumI L ≤ 100000 * (L.length : Int) := by
          intro L
          induction L with
          | nil => intro _; exact Int.le_refl _
          | cons x L ih =>
            intro hx
            rw [sumI_cons, List.length_cons]
            have e1 := hx x (List.mem_cons_self ..)
            have e2 := ih (fun y hy => hx y (List.mem_cons_of_mem _ hy))
            omega
        have h4 := h3 (AL.take m) (fun x hx => (HSM.out x (List.mem_of_mem_take hx)).2)
        rw [List.length_take] at h4
        omega)
      have hA2 : Hid (OwnsI8 wr (w.heap.size + 2) (.slice (some ⟨ga, 0, none⟩) AL.length ca) (AL.take AL.length)) := (show Hid _ from by rw [List.take_of_length_le (Nat.le_refl _)]; exact hA.out)
      have eS : sumI AL = sumI (AL.take AL.length) := by rw [List.take_of_length_le (Nat.le_refl _)]
      rw [eS]
      clear hA eS
      go_wp2_with fail
      go_loopw [8, 10, 11] (fun gv av sv wr => ∃ (m ga ca cg : Nat) (gx : Option Addr), m ≤ AL.length ∧ av = .slice (some ⟨ga, 0, none⟩) m ca ∧ sv = .int .i64 (sumI (AL.take m)) ∧ gv = .slice gx (goneI AL m).length cg ∧ Hid (keepN q AL m = keepN q AL AL.length) ∧ Hid (OwnsI8 wr (w.heap.size + 2) (.slice (some ⟨ga, 0, none⟩) m ca) (AL.take m)) ∧ Hid (TwoB wr (w.heap.size + 1) (.int .i64 0) (.slice none 0 0)) ∧ Hid (TwoB wr w.heap.size (.int .i64 q) (.slice a l.length cap)) ∧ Hid (OwnsX wr (w.heap.size + 2) (.slice gx (goneI AL m).length cg) (goneI AL m)) ∧ Hid (Below w.heap.size w wr)) (fun _ av _ _ => lenV av)
      case atStart => exact ⟨AL.length, ga, ca, 0, some ⟨w.heap.size + 1 + 1, 0, none⟩, Nat.le_refl _, rfl, rfl, by rw [goneI_none]; rfl, (show Hid _ from rfl), hA2, hT, hS, by rw [goneI_none]; exact hX, hb⟩
      case round =>
        clear hA2 hT hS hX hb s0 s1
        obtain ⟨m, ga, ca, cg, gx, hm, rfl, rfl, rfl, hkp, hA, hT, hS, hX, hb⟩ := hrel
        have s0 := hS.out.c0
        have s1 := hS.out.c1
        have hmb := HM.out m hm
        have hz : w.heap.size + 2 ≤ wr.heap.size := by have := hT.out.lt; omega
        by_cases hgo : sumI (AL.take m) ≤ q ∧ m ≤ 50
        · have hK : Hid (keepN q AL AL.length = m) := (show _ = _ from by rw [← hkp.out]; exact keepN_stop hgo)
          have HQ2 : Hid (usdQ q l = q ∧ plaL q l key n = AL.take m ∧ plaG q l key n = goneI AL m) := (show _ ∧ _ from ⟨HQ.out.1, by rw [HQ.out.2.1]; unfold kept; rw [hK.out], by rw [HQ.out.2.2, hK.out]⟩)
          have d1 : decide (q < sumI (AL.take m)) = false := decide_eq_false (by omega)
          have d2 : decide (50 < (m : Int)) = false := decide_eq_false (by omega)
          obtain ⟨y0, y1, f0, f1, yl⟩ := hT.out
          have hlt6 : (AL.take m).length = m := by rw [List.length_take]; omega
          have HOF : Hid (OwnsI8 ((wr.setCell ⟨w.heap.size + 1, 0, none⟩ (.int .i64 q)).setCell ⟨w.heap.size + 1, 1, none⟩ (.slice (some ⟨ga, 0, none⟩) m ca)) w.heap.size (.slice (some ⟨ga, 0, none⟩) m ca) (AL.take m)) := (hA.out.two (fun k hk => by have := hA.out.from k hk; omega) _ _).low (by omega)
          have HXF : Hid (OwnsX ((wr.setCell ⟨w.heap.size + 1, 0, none⟩ (.int .i64 q)).setCell ⟨w.heap.size + 1, 1, none⟩ (.slice (some ⟨ga, 0, none⟩) m ca)) w.heap.size (.slice gx (goneI AL m).length cg) (goneI AL m)) := (hX.out.two (b := w.heap.size + 1) (fun k hk => by have := hX.out.from k hk; omega) _ _).low (by omega)
          have HBF : Hid (Below w.heap.size w ((wr.setCell ⟨w.heap.size + 1, 0, none⟩ (.int .i64 q)).setCell ⟨w.heap.size + 1, 1, none⟩ (.slice (some ⟨ga, 0, none⟩) m ca))) := (show Hid _ from (hb.out.setCell (p := ⟨w.heap.size + 1, 0, none⟩) (Nat.le_succ _) _).setCell (p := ⟨w.heap.size + 1, 1, none⟩) (Nat.le_succ _) _)
          generalize goneI AL m = GG at HXF HQ2 hX
          generalize sumI (AL.take m) = SM at d1
          clear hlt6 hkp hgo HQ hmb
          go_wp2
          refine bodyPost_ret (v := .tuple #[.agg #[.int .i64 q, .slice (some ⟨ga, 0, none⟩) m ca], .slice gx GG.length cg]) (by simp [results, Try.results32, go_sem, y0, y1]) rfl ⟨_, _, by rw [HQ2.out.1], by rw [HQ2.out.2.1]; exact HOF.out, by rw [HQ2.out.2.2]; exact HXF.out, HBF.out⟩
        · obtain ⟨j, rfl⟩ : ∃ j, m = j + 1 := ⟨m - 1, by
            rcases m with _ | m
            · exact absurd ⟨by rw [List.take_zero]; show (0 : Int) ≤ q; omega, by omega⟩ hgo
            · omega⟩
          have HKP : Hid (keepN q AL j = keepN q AL AL.length) := (show _ = _ from by rw [← hkp.out, keepN_on hgo])
          have hjl : j < AL.length := by omega
          have HGN : Hid (goneI AL j = goneI AL (j + 1) ++ [AL[j].1]) := goneI_next hjl
          have HSN : Hid (sumI (AL.take (j + 1)) = sumI (AL.take j) + AL[j].2) := sumI_take hjl
          have hjt : j < (AL.take (j + 1)).length := by rw [List.length_take]; omega
          obtain ⟨c1, c2⟩ := ownsI_at hA.out j hjt
          rw [List.getElem_take] at c1 c2
          have HT1 : Hid (AL.take j = (AL.take (j + 1)).take j) := (show _ = _ from by rw [List.take_take]; congr 1; omega)
          have hjb := HM.out j (by omega)
          have hxz := HSM.out _ (List.getElem_mem hjl)
          have hgl : (goneI AL (j + 1)).length ≤ 51 := by unfold goneI; rw [List.length_reverse, List.length_map, List.length_drop]; omega
          have hgA := hA.out.from ga rfl
          have huA := hA.out.under ga rfl
          have hcc : j + 1 ≤ ca := by obtain ⟨_, _, e, hh, _⟩ := hA.out.form; injection e with _ e2 e3; rw [List.length_take] at e2; omega
          have HLE : Hid ((AL.take (j + 1)).length = j + 1) := (show _ = _ from by rw [List.length_take]; omega)
          have ew : IntKind.i64.wrap (((j + 1 : Nat) : Int) - 1) = (j : Int) := by rw [IntKind.wrap_i64]; omega
          have hgd : (q < sumI (AL.take (j + 1)) ∧ decide (q < sumI (AL.take (j + 1))) = true) ∨ (decide (q < sumI (AL.take (j + 1))) = false ∧ decide (50 < (j : Int) + 1) = true) := by
            by_cases e : q < sumI (AL.take (j + 1))
            · exact .inl ⟨e, decide_eq_true e⟩
            · exact .inr ⟨decide_eq_false e, decide_eq_true (by omega)⟩
          generalize AL[j] = x at HGN HSN c1 c2 hxz
          obtain ⟨x1, x2⟩ := x
          dsimp only at HGN HSN c1 c2 hxz
          have hA4 : Hid (∀ w4, wr.grownBy w4 (Value.slice gx (goneI AL (j + 1)).length cg).ownBlock → OwnsI8 w4 (w.heap.size + 2) (.slice (some ⟨ga, 0, none⟩) (j + 1) ca) (AL.take (j + 1))) := (show ∀ _, _ from fun w4 hg4 => hA.out.grown hg4 (fun k hk e => by
            obtain ⟨cu1, hc1⟩ := hX.out.ty e
            obtain ⟨cu2, hc2⟩ := hA.out.ty hk
            exact absurd (block_ty hc1 hc2) (by decide)))
          have HC2 : Hid (∀ w4, wr.grownBy w4 (Value.slice gx (goneI AL (j + 1)).length cg).ownBlock → w4.cell? ⟨ga, j * 2 + 1, none⟩ = some (.int .i64 x2)) := (show ∀ _, _ from fun w4 hg4 => by
            have e := hg4.block ga huA (fun e => by
              obtain ⟨cu1, hc1⟩ := hX.out.ty e.symm
              obtain ⟨cu2, hc2⟩ := hA.out.ty (k := ga) rfl
              exact absurd (block_ty hc1 hc2) (by decide))
            exact (World.cell?_of_block (a := ⟨ga, j * 2 + 1, none⟩) e).trans c2)
          obtain ⟨S1, hS1⟩ : ∃ z, z = sumI (AL.take (j + 1)) := ⟨_, rfl⟩
          rw [← hS1] at HSN hmb hgd ⊢
          have HS1 : Hid (S1 = sumI (AL.take (j + 1))) := hS1
          have ews : IntKind.i64.wrap (S1 - x2) = sumI (AL.take j) := by rw [IntKind.wrap_i64, HSN.out]; omega
          obtain ⟨S0, hS0⟩ : ∃ z, z = sumI (AL.take j) := ⟨_, rfl⟩
          have HS0 : Hid (S0 = sumI (AL.take j)) := hS0
          rw [← hS0] at ews
          obtain ⟨G1, hG1⟩ : ∃ z, z = goneI AL (j + 1) := ⟨_, rfl⟩
          rw [← hG1] at HGN hgl hA4 HC2 hX ⊢
          clear hS1 hS0 hG1 hgo hkp HLE
          rcases hgd with ⟨e1, e2⟩ | ⟨e1, e2⟩
          all_goals
            go_wp2_with (at_builtin; refine wpList_pushX _ rfl (.tmp 82) (.tmp 88) rfl (w.heap.size + 2) _ G1 x1 rfl hX.out rfl (by omega) hz ?_; intro v4 w4 ho4 hg4; have hb24 : Below (w.heap.size + 2) wr w4 := belowE (Below.refl _ wr) hg4 hz (fun k hk => OwnsE.from hX.out k hk); have HB4 : Hid (Below w.heap.size w w4) := (show Hid _ from hb.out.trans (hb24.mono (by omega))); have hT4 : Hid (TwoB w4 (w.heap.size + 1) (.int .i64 0) (.slice none 0 0)) := hT.out.kept hb24 (by omega); have hS4 : Hid (TwoB w4 w.heap.size (.int .i64 q) (.slice a l.length cap)) := hS.out.kept hb24 (by omega); have hAA : Hid (OwnsI8 w4 (w.heap.size + 2) (.slice (some ⟨ga, 0, none⟩) (j + 1) ca) (AL.take (j + 1))) := hA4.out w4 hg4; have u2 := HC2.out w4 hg4; have HO4 : Hid (OwnsX w4 (w.heap.size + 2) v4 (G1 ++ [x1])) := ho4; obtain ⟨a4, c4, hv4, _⟩ := ho4.form; subst hv4; clear ho4 hg4 hb24)
            have hAJ : Hid (OwnsI8 w4 (w.heap.size + 2) (.slice (some ⟨ga, 0, none⟩) j ca) (AL.take j)) := by
              have := OwnsE.less (m := j) (by rw [List.length_take]; omega) hAA.out (by rw [List.length_take]; omega)
              rw [← HT1.out] at this
              exact this
            go_roundw
            case rel => exact ⟨j, ga, ca, c4, a4, by omega, rfl, by rw [← HS0.out], by rw [HGN.out]; simp, HKP, hAJ, hT4, hS4, by rw [HGN.out]; exact HO4, HB4⟩
            case measure => simp [lenV]
end Go.Proofs.Ytnnmbgenepfacaa
