/-
  The program's ShelfOk.
-/
import Derived.Test.YtnnmbgenepfacaaRpH
import Derived.Test.YtnnmbgenepfacaaRomX
namespace Go.Proofs.Ytnnmbgenepfacaa
open Go.RowKit Go.Sort Rom
set_option linter.unusedVariables false
set_option linter.unusedSimpArgs false

theorem sum_tail {q : Int} {l : List It} {k : Nat} (h : ∀ x ∈ l, x.1.size ≤ 500 ∧ 1 ≤ x.2 ∧ x.2 ≤ q) : sumI (l.take k) ≤ sumI l := by
  have e : sumI l = sumI (l.take k) + sumI (l.drop k) := by rw [← sumI_append, List.take_append_drop]
  have hd : ∀ (m : List It), (∀ x ∈ m, 1 ≤ x.2) → 0 ≤ sumI m := by
    intro m
    induction m with
    | nil => intro _; exact Int.le_refl _
    | cons x m ih =>
      intro hx
      rw [sumI_cons]
      have h1 := hx x (List.mem_cons_self ..)
      have h2 := ih (fun y hy => hx y (List.mem_cons_of_mem _ hy))
      omega
  have := hd (l.drop k) (fun x hx => (h x (List.mem_of_mem_drop hx)).2.1)
  omega
theorem shOk_over {q : Int} {l : List It} {k : Nat} (hk : k < l.length) (h : q - sumI (l.take k) < l[k].2) : shOk q l = false := by
  rw [Bool.eq_false_iff]
  intro hh
  have ho := shOk_iff.1 hh
  have h1 := sum_tail (k := k + 1) ho.it
  rw [sumI_take hk] at h1
  have := ho.sum
  omega
theorem plA_have {l : List It} {k : Nat} (hk : k < l.length) (h : 0 ≤ plA (l.take k) l[k].1) : ¬ (l.map (·.1)).Nodup := by
  rcases plA_some (l := l.take k) (key := l[k].1) with ⟨j, hj, _, e⟩ | ⟨e, _⟩
  · rw [List.length_take] at hj
    rw [List.getElem_take] at e
    exact keys_bad (by omega) hk e
  · omega
theorem plA_lack {l : List It} {k : Nat} (hk : k < l.length) (hn : ((l.take k).map (·.1)).Nodup) (h : ¬ 0 ≤ plA (l.take k) l[k].1) : ((l.take (k + 1)).map (·.1)).Nodup := by
  rcases plA_some (l := l.take k) (key := l[k].1) with ⟨j, hj, e, _⟩ | ⟨_, e⟩
  · omega
  · have hno := plO_none e
    refine keys_next hk hn (fun j hj e2 => hno ?_)
    refine List.mem_map.2 ⟨l[j]'(by omega), ?_, e2⟩
    exact List.mem_iff_getElem.2 ⟨j, by rw [List.length_take]; omega, by rw [List.getElem_take]⟩
set_option maxRecDepth 100000 in
set_option maxHeartbeats 8000000 in
theorem implSok (q : Int) (v : Value) (l : List It) (w : World) (h : Sls itE w v l) (hlen : l.length ≤ 1048576) (hs : ∀ x ∈ l, x.1.size ≤ maxLen) :
    Calls Try.prog 36 #[shV q v] w fun e w' => e = .returned (.bool (shOk q l)) ∧ Below w.heap.size w w' := by
  have HS0 : Hid (Sls itE w v l) := h
  obtain ⟨a, cap, rfl, h1, h2, h3⟩ := h.itm
  unfold shV
  have H2 : Hid (cap ≤ maxLen) := h2
  unfold maxLen at h2
  have hz0 : (w.alloc (.cells #[.int .i64 q, .slice a l.length cap] 34)).heap.size = w.heap.size + 1 := by simp
  have B0 : Hid (Below w.heap.size w (w.alloc (.cells #[.int .i64 q, .slice a l.length cap] 34))) := (Below.refl _ w).alloc (Nat.le_refl _) _
  have b0 : (w.alloc (.cells #[.int .i64 q, .slice a l.length cap] 34)).cell? ⟨w.heap.size, 0, none⟩ = some (.int .i64 q) := by rw [World.cell?_alloc_mark]; rfl
  have b1 : (w.alloc (.cells #[.int .i64 q, .slice a l.length cap] 34)).cell? ⟨w.heap.size, 1, none⟩ = some (.slice a l.length cap) := by rw [World.cell?_alloc_mark]; rfl
  have BX : Hid (∀ W, Below (w.heap.size + 1) (w.alloc (.cells #[.int .i64 q, .slice a l.length cap] 34)) W → W.cell? ⟨w.heap.size, 0, none⟩ = some (.int .i64 q) ∧ W.cell? ⟨w.heap.size, 1, none⟩ = some (.slice a l.length cap)) := fun W hW => ⟨(hW.cell (p := ⟨w.heap.size, 0, none⟩) (Nat.lt_succ_self _)).trans b0, (hW.cell (p := ⟨w.heap.size, 1, none⟩) (Nat.lt_succ_self _)).trans b1⟩
  clear h b0 b1
  by_cases hq1 : q < 1
  · rw [shOk_quo (decide_eq_false (by omega))]
    go_enter Try.func36, Try.ntmps36
    go_wp2
    go_ret
    exact ⟨rfl, B0.out⟩
  · by_cases hq2 : 100000 < q
    · rw [shOk_quo (decide_eq_false (by omega))]
      go_enter Try.func36, Try.ntmps36
      go_wp2
      go_ret
      exact ⟨rfl, B0.out⟩
    · have hq : inM q 1 100000 = true := decide_eq_true (by omega)
      by_cases hl5 : l.length ≤ 50
      · have hl5i : ¬ (50 < (l.length : Int)) := by omega
        have HQ : Hid (inM q 1 100000 = true) := hq
        have hL0 : Hid (∀ (k : Nat) (hk : k < l.length), ∃ g o, a = some ⟨g, o, Option.none⟩ ∧ g < w.heap.size ∧ w.cell? ⟨g, o + k * 2, Option.none⟩ = some (.string l[k].1) ∧ w.cell? ⟨g, o + k * 2 + 1, Option.none⟩ = some (.int .i64 l[k].2)) := fun k hk => by
          obtain ⟨g, o, ha, hg, hc⟩ := h3 (by omega)
          exact ⟨g, o, ha, hg, (hc k hk).1, (hc k hk).2⟩
        have HSZ : Hid (∀ x ∈ l, x.1.size ≤ maxLen) := hs
        clear h3 hq hs
        go_enter Try.func36, Try.ntmps36
        generalize hw0 : w.alloc (.cells #[.int .i64 q, .slice a l.length cap] 34) = w0 at BX B0 hz0
        have cq := (BX.out w0 (Below.refl _ _)).1
        have cs := (BX.out w0 (Below.refl _ _)).2
        go_wp2_with fail
        clear cq cs hw0
        try rw [decide_eq_false (show ¬ (q < 1) by omega)]
        try rw [decide_eq_false (show ¬ (100000 < q) by omega)]
        go_loopw [3, 25] (fun lv i wr => ∃ k : Nat, k ≤ l.length ∧ i = .int .i64 k ∧ lv = .int .i64 (q - sumI (l.take k)) ∧ Hid (∀ x ∈ l.take k, itOk q x = true) ∧ Hid ((l.take k).map (·.1)).Nodup ∧ Hid (sumI (l.take k) ≤ q) ∧ Hid (Below w0.heap.size w0 wr)) (fun _ i _ => l.length - (intOf i).toNat)
        case atStart => exact ⟨0, Nat.zero_le _, rfl, by simp [sumI], (show Hid _ from fun x hx => absurd hx (by simp)), (show Hid _ from (by simp : ((l.take 0).map (·.1)).Nodup)), (show Hid (sumI (l.take 0) ≤ q) from (show sumI [] ≤ q from by simp [sumI]; omega)), (show Hid _ from Below.refl _ _)⟩
        case round =>
          obtain ⟨k, hk, rfl, rfl, hit, hkey, hsum, hb⟩ := hrel
          obtain ⟨wk, rfl⟩ : ∃ z, z = wr := ⟨wr, rfl⟩
          have hb1 : Below (w.heap.size + 1) w0 wk := hz0 ▸ hb.out
          have cq := (BX.out wk hb1).1
          have cs := (BX.out wk hb1).2
          have BK : Hid (Below w.heap.size w wk) := B0.out.trans (hb.out.mono (by omega))
          have hsm := sum_in hit.out (show q ≤ 100000 by omega)
          rw [List.length_take] at hsm
          by_cases hlt : k < l.length
          · have hki : (k : Int) < (l.length : Int) := by omega
            obtain ⟨g, o, rfl, hg, c1, c2⟩ := hL0.out k hlt
            have d1 := (BK.out.cell (p := ⟨g, o + k * 2, Option.none⟩) hg).trans c1
            have d2 := (BK.out.cell (p := ⟨g, o + k * 2 + 1, Option.none⟩) hg).trans c2
            have hkc : k ≤ cap := by omega
            have hbz := BK.out.size
            have hwk : w.heap.size < wk.heap.size := by have := hb1.size; omega
            have HE1 : Hid (¬ l[k].1.size ≤ 500 → shOk q l = false) := (show _ → _ from fun e => shOk_item hlt (by rw [Bool.eq_false_iff]; intro hh; exact e (itOk_iff.1 hh).1))
            have HE2 : Hid (l[k].2 < 1 → shOk q l = false) := (show _ → _ from fun e => shOk_item hlt (by rw [Bool.eq_false_iff]; intro hh; have := (itOk_iff.1 hh).2.1; omega))
            have HE3 : Hid (q - sumI (l.take k) < l[k].2 → shOk q l = false) := (show _ → _ from fun e => shOk_over hlt e)
            have HE4 : Hid (0 ≤ plA (l.take k) l[k].1 → shOk q l = false) := (show _ → _ from fun e => shOk_keys (plA_have hlt e))
            have HK5 : Hid (¬ 0 ≤ plA (l.take k) l[k].1 → ((l.take (k + 1)).map (·.1)).Nodup) := (show _ → _ from fun e => plA_lack hlt hkey.out e)
            have HI5 : Hid (l[k].1.size ≤ 500 → 1 ≤ l[k].2 → l[k].2 ≤ q → ∀ x ∈ l.take (k + 1), itOk q x = true) := (show _ → _ from fun e1 e2 e3 x hx => by
              rw [List.take_succ_eq_append_getElem hlt] at hx
              rcases List.mem_append.1 hx with e | e
              · exact hit.out x e
              · rw [List.mem_singleton.1 e]; exact itOk_iff.2 ⟨e1, e2, e3⟩)
            have HS5 : Hid (sumI (l.take (k + 1)) = sumI (l.take k) + l[k].2) := sumI_take hlt
            have HPL : Hid (∀ W, Below w.heap.size w W → Calls Try.prog 72 #[.slice (some ⟨g, o, Option.none⟩) k cap, .string l[k].1] W fun e w' => e = .returned (.int .i64 (plA (l.take k) l[k].1)) ∧ Below W.heap.size W w') := (show ∀ _, _ from fun W hW => implPlc _ (l.take k) l[k].1 W ((HS0.out.kept hW).front (by omega)))
            have hsz := HSZ.out _ (List.getElem_mem hlt)
            unfold maxLen at hsz
            generalize plA (l.take k) l[k].1 = P at HE4 HK5 HPL
            generalize l[k].2 = sz at d2 HE2 HE3 HI5 HS5
            generalize l[k].1 = key at d1 HE1 HI5 HPL hsz
            have hsq := hsum.out
            obtain ⟨S0, hS0⟩ : ∃ z, z = sumI (l.take k) := ⟨_, rfl⟩
            have HSS : Hid (S0 = sumI (l.take k)) := hS0
            rw [← hS0] at HE3 HS5 hsm hsq ⊢
            have BA : Hid (Below w0.heap.size w0 (wk.alloc (.cells #[.string key, .int .i64 sz] 47))) := (show Hid _ from hb.out.alloc hb.out.size _)
            have ZA : Hid (Below w.heap.size w (wk.alloc (.cells #[.string key, .int .i64 sz] 47))) := (show Hid _ from BK.out.alloc hbz _)
            have HZ : Hid (wk.heap.size < (wk.alloc (.cells #[.string key, .int .i64 sz] 47)).heap.size) := (show _ < _ from by simp)
            have HX1 : Hid ((wk.alloc (.cells #[.string key, .int .i64 sz] 47)).cell? ⟨w.heap.size, 0, none⟩ = some (.int .i64 q) ∧ (wk.alloc (.cells #[.string key, .int .i64 sz] 47)).cell? ⟨w.heap.size, 1, none⟩ = some (.slice (some ⟨g, o, Option.none⟩) l.length cap) ∧ (wk.alloc (.cells #[.string key, .int .i64 sz] 47)).cell? ⟨wk.heap.size, 0, none⟩ = some (.string key) ∧ (wk.alloc (.cells #[.string key, .int .i64 sz] 47)).cell? ⟨wk.heap.size, 1, none⟩ = some (.int .i64 sz)) := by
              have hba : Below wk.heap.size wk (wk.alloc (.cells #[.string key, .int .i64 sz] 47)) := (Below.refl _ wk).alloc (Nat.le_refl _) _
              exact ⟨(hba.cell (p := ⟨w.heap.size, 0, none⟩) hwk).trans cq, (hba.cell (p := ⟨w.heap.size, 1, none⟩) hwk).trans cs, by rw [World.cell?_alloc_mark]; rfl, by rw [World.cell?_alloc_mark]; rfl⟩
            clear hS0 c1 c2 hit hkey hsum cq cs
            by_cases g1 : key.size ≤ 500
            · by_cases g2 : sz < 1
              · have HE : Hid (false = shOk q l) := (HE2.out g2).symm
                have g1d : decide (500 < (key.size : Int)) = false := decide_eq_false (by omega)
                have g2d : decide (sz < 1) = true := decide_eq_true g2
                go_wp2_with fail
                generalize hwa : wk.alloc (.cells #[.string key, .int .i64 sz] 47) = wa at BA ZA HX1 HZ ⊢
                have k0 := cell_regrown HX1.out.1
                have k1 := cell_regrown HX1.out.2.1
                have k2 := cell_regrown HX1.out.2.2.1
                have k3 := cell_regrown HX1.out.2.2.2
                have kP : ∀ d os, Calls Try.prog 72 #[.slice (some ⟨g, o, Option.none⟩) k cap, .string key] (grow (redrawn wa d) os) fun e w'' => e = .returned (.int .i64 P) ∧ ∃ p : Regrown, w'' = grow (redrawn wa p.d) p.os := fun d os => Calls.regrown_of (HPL.out _ (ZA.out.trans (below_regrown wa d os |>.mono (by have := ZA.out.size; omega))))
                clear hwa d1 d2
                refine wp_region_quiet_below (by kernel_rfl) (by kernel_rfl) ?_
                repeat (go_big_quiet_step (with_reducible exact kP _ _))
                refine wpQuiet_nil ?_
                intro _ hw'
                obtain ⟨⟨dq, osq⟩, hw''⟩ := hw'
                subst hw''
                have hbn : Below wa.heap.size wa (grow (redrawn wa dq) osq) := below_regrown wa dq osq
                have BN : Hid (Below w0.heap.size w0 (grow (redrawn wa dq) osq)) := BA.out.trans (hbn.mono BA.out.size)
                have f1 : (grow (redrawn wa dq) osq).cell? ⟨wk.heap.size, 1, none⟩ = some (.int .i64 sz) := (hbn.cell (p := ⟨wk.heap.size, 1, none⟩) HZ.out).trans HX1.out.2.2.2
                generalize grow (redrawn wa dq) osq = wn at BN hbn f1 ⊢
                clear k0 k1 k2 k3 kP hbn
                have BR : Hid (Below w.heap.size w wn) := (show Hid _ from B0.out.trans (BN.out.mono (by omega)))
                go_wp2
                go_ret
                exact ⟨congrArg (fun z => Ending.returned (.bool z)) HE.out, BR.out⟩
              · by_cases g3 : q - S0 < sz
                · have HE : Hid (false = shOk q l) := (HE3.out g3).symm
                  have g1d : decide (500 < (key.size : Int)) = false := decide_eq_false (by omega)
                  have g2d : decide (sz < 1) = false := decide_eq_false g2
                  have g3d : decide (q - S0 < sz) = true := decide_eq_true g3
                  go_wp2_with fail
                  generalize hwa : wk.alloc (.cells #[.string key, .int .i64 sz] 47) = wa at BA ZA HX1 HZ ⊢
                  have k0 := cell_regrown HX1.out.1
                  have k1 := cell_regrown HX1.out.2.1
                  have k2 := cell_regrown HX1.out.2.2.1
                  have k3 := cell_regrown HX1.out.2.2.2
                  have kP : ∀ d os, Calls Try.prog 72 #[.slice (some ⟨g, o, Option.none⟩) k cap, .string key] (grow (redrawn wa d) os) fun e w'' => e = .returned (.int .i64 P) ∧ ∃ p : Regrown, w'' = grow (redrawn wa p.d) p.os := fun d os => Calls.regrown_of (HPL.out _ (ZA.out.trans (below_regrown wa d os |>.mono (by have := ZA.out.size; omega))))
                  clear hwa d1 d2
                  refine wp_region_quiet_below (by kernel_rfl) (by kernel_rfl) ?_
                  repeat (go_big_quiet_step (with_reducible exact kP _ _))
                  refine wpQuiet_nil ?_
                  intro _ hw'
                  obtain ⟨⟨dq, osq⟩, hw''⟩ := hw'
                  subst hw''
                  have hbn : Below wa.heap.size wa (grow (redrawn wa dq) osq) := below_regrown wa dq osq
                  have BN : Hid (Below w0.heap.size w0 (grow (redrawn wa dq) osq)) := BA.out.trans (hbn.mono BA.out.size)
                  have f1 : (grow (redrawn wa dq) osq).cell? ⟨wk.heap.size, 1, none⟩ = some (.int .i64 sz) := (hbn.cell (p := ⟨wk.heap.size, 1, none⟩) HZ.out).trans HX1.out.2.2.2
                  generalize grow (redrawn wa dq) osq = wn at BN hbn f1 ⊢
                  clear k0 k1 k2 k3 kP hbn
                  have BR : Hid (Below w.heap.size w wn) := (show Hid _ from B0.out.trans (BN.out.mono (by omega)))
                  go_wp2
                  go_ret
                  exact ⟨congrArg (fun z => Ending.returned (.bool z)) HE.out, BR.out⟩
                · by_cases g4 : 0 ≤ P
                  · have HE : Hid (false = shOk q l) := (HE4.out g4).symm
                    have g1d : decide (500 < (key.size : Int)) = false := decide_eq_false (by omega)
                    have g2d : decide (sz < 1) = false := decide_eq_false g2
                    have g3d : decide (q - S0 < sz) = false := decide_eq_false g3
                    have g4d : decide (0 ≤ P) = true := decide_eq_true g4
                    go_wp2_with fail
                    generalize hwa : wk.alloc (.cells #[.string key, .int .i64 sz] 47) = wa at BA ZA HX1 HZ ⊢
                    have k0 := cell_regrown HX1.out.1
                    have k1 := cell_regrown HX1.out.2.1
                    have k2 := cell_regrown HX1.out.2.2.1
                    have k3 := cell_regrown HX1.out.2.2.2
                    have kP : ∀ d os, Calls Try.prog 72 #[.slice (some ⟨g, o, Option.none⟩) k cap, .string key] (grow (redrawn wa d) os) fun e w'' => e = .returned (.int .i64 P) ∧ ∃ p : Regrown, w'' = grow (redrawn wa p.d) p.os := fun d os => Calls.regrown_of (HPL.out _ (ZA.out.trans (below_regrown wa d os |>.mono (by have := ZA.out.size; omega))))
                    clear hwa d1 d2
                    refine wp_region_quiet_below (by kernel_rfl) (by kernel_rfl) ?_
                    repeat (go_big_quiet_step (with_reducible exact kP _ _))
                    refine wpQuiet_nil ?_
                    intro _ hw'
                    obtain ⟨⟨dq, osq⟩, hw''⟩ := hw'
                    subst hw''
                    have hbn : Below wa.heap.size wa (grow (redrawn wa dq) osq) := below_regrown wa dq osq
                    have BN : Hid (Below w0.heap.size w0 (grow (redrawn wa dq) osq)) := BA.out.trans (hbn.mono BA.out.size)
                    have f1 : (grow (redrawn wa dq) osq).cell? ⟨wk.heap.size, 1, none⟩ = some (.int .i64 sz) := (hbn.cell (p := ⟨wk.heap.size, 1, none⟩) HZ.out).trans HX1.out.2.2.2
                    generalize grow (redrawn wa dq) osq = wn at BN hbn f1 ⊢
                    clear k0 k1 k2 k3 kP hbn
                    have BR : Hid (Below w.heap.size w wn) := (show Hid _ from B0.out.trans (BN.out.mono (by omega)))
                    go_wp2
                    go_ret
                    exact ⟨congrArg (fun z => Ending.returned (.bool z)) HE.out, BR.out⟩
                  · have g1d : decide (500 < (key.size : Int)) = false := decide_eq_false (by omega)
                    have g2d : decide (sz < 1) = false := decide_eq_false g2
                    have g3d : decide (q - S0 < sz) = false := decide_eq_false g3
                    have g4d : decide (0 ≤ P) = false := decide_eq_false g4
                    have K5 : Hid _ := HK5.out g4
                    have I5 : Hid _ := HI5.out g1 (by omega) (by omega)
                    have S5 : Hid (sumI (l.take (k + 1)) ≤ q) := (show _ ≤ _ from by rw [HS5.out]; omega)
                    have ew : IntKind.i64.wrap (q - S0 - sz) = q - sumI (l.take (k + 1)) := by rw [IntKind.wrap_i64, HS5.out]; omega
                    obtain ⟨S1, hS1⟩ : ∃ z, z = sumI (l.take (k + 1)) := ⟨_, rfl⟩
                    have HSX : Hid (S1 = sumI (l.take (k + 1))) := hS1
                    rw [← hS1] at ew
                    clear hS1
                    go_wp2_with fail
                    generalize hwa : wk.alloc (.cells #[.string key, .int .i64 sz] 47) = wa at BA ZA HX1 HZ ⊢
                    have k0 := cell_regrown HX1.out.1
                    have k1 := cell_regrown HX1.out.2.1
                    have k2 := cell_regrown HX1.out.2.2.1
                    have k3 := cell_regrown HX1.out.2.2.2
                    have kP : ∀ d os, Calls Try.prog 72 #[.slice (some ⟨g, o, Option.none⟩) k cap, .string key] (grow (redrawn wa d) os) fun e w'' => e = .returned (.int .i64 P) ∧ ∃ p : Regrown, w'' = grow (redrawn wa p.d) p.os := fun d os => Calls.regrown_of (HPL.out _ (ZA.out.trans (below_regrown wa d os |>.mono (by have := ZA.out.size; omega))))
                    clear hwa d1 d2
                    refine wp_region_quiet_below (by kernel_rfl) (by kernel_rfl) ?_
                    repeat (go_big_quiet_step (with_reducible exact kP _ _))
                    refine wpQuiet_nil ?_
                    intro _ hw'
                    obtain ⟨⟨dq, osq⟩, hw''⟩ := hw'
                    subst hw''
                    have hbn : Below wa.heap.size wa (grow (redrawn wa dq) osq) := below_regrown wa dq osq
                    have BN : Hid (Below w0.heap.size w0 (grow (redrawn wa dq) osq)) := BA.out.trans (hbn.mono BA.out.size)
                    have f1 : (grow (redrawn wa dq) osq).cell? ⟨wk.heap.size, 1, none⟩ = some (.int .i64 sz) := (hbn.cell (p := ⟨wk.heap.size, 1, none⟩) HZ.out).trans HX1.out.2.2.2
                    generalize grow (redrawn wa dq) osq = wn at BN hbn f1 ⊢
                    clear k0 k1 k2 k3 kP hbn
                    go_wp2
                    go_roundw
                    case rel => exact ⟨k + 1, by omega, by go_num, by rw [← HSX.out], I5, K5, S5, BN⟩
                    case measure => simp [intOf]; omega
            · have HE : Hid (false = shOk q l) := (HE1.out g1).symm
              have g1i : 500 < (key.size : Int) := by omega
              go_wp2_with fail
              generalize hwa : wk.alloc (.cells #[.string key, .int .i64 sz] 47) = wa at BA ZA HX1 HZ ⊢
              have k0 := cell_regrown HX1.out.1
              have k1 := cell_regrown HX1.out.2.1
              have k2 := cell_regrown HX1.out.2.2.1
              have k3 := cell_regrown HX1.out.2.2.2
              have kP : ∀ d os, Calls Try.prog 72 #[.slice (some ⟨g, o, Option.none⟩) k cap, .string key] (grow (redrawn wa d) os) fun e w'' => e = .returned (.int .i64 P) ∧ ∃ p : Regrown, w'' = grow (redrawn wa p.d) p.os := fun d os => Calls.regrown_of (HPL.out _ (ZA.out.trans (below_regrown wa d os |>.mono (by have := ZA.out.size; omega))))
              clear hwa d1 d2
              refine wp_region_quiet_below (by kernel_rfl) (by kernel_rfl) ?_
              repeat (go_big_quiet_step (with_reducible exact kP _ _))
              refine wpQuiet_nil ?_
              intro _ hw'
              obtain ⟨⟨dq, osq⟩, hw''⟩ := hw'
              subst hw''
              have hbn : Below wa.heap.size wa (grow (redrawn wa dq) osq) := below_regrown wa dq osq
              have BN : Hid (Below w0.heap.size w0 (grow (redrawn wa dq) osq)) := BA.out.trans (hbn.mono BA.out.size)
              have f1 : (grow (redrawn wa dq) osq).cell? ⟨wk.heap.size, 1, none⟩ = some (.int .i64 sz) := (hbn.cell (p := ⟨wk.heap.size, 1, none⟩) HZ.out).trans HX1.out.2.2.2
              generalize grow (redrawn wa dq) osq = wn at BN hbn f1 ⊢
              clear k0 k1 k2 k3 kP hbn
              have BR : Hid (Below w.heap.size w wn) := (show Hid _ from B0.out.trans (BN.out.mono (by omega)))
              go_wp2
              go_ret
              exact ⟨congrArg (fun z => Ending.returned (.bool z)) HE.out, BR.out⟩
          · obtain rfl : k = l.length := by omega
            have et : l.take l.length = l := List.take_of_length_le (Nat.le_refl _)
            rw [et] at hit hkey hsum
            have HE : Hid (true = shOk q l) := by
              show _ = _
              rw [shOk_end HQ.out hl5 hit.out hkey.out, decide_eq_true hsum.out]
            generalize sumI (l.take l.length) = T at hsm ⊢
            clear hit hkey et hsum
            go_wp2
            go_ret
            exact ⟨congrArg (fun z => Ending.returned (.bool z)) HE.out, BK.out⟩
      · rw [shOk_long hl5]
        have hl5i : 50 < (l.length : Int) := by omega
        go_enter Try.func36, Try.ntmps36
        go_wp2
        go_ret
        exact ⟨rfl, B0.out⟩
end Go.Proofs.Ytnnmbgenepfacaa
