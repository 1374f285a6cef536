/-
  Items in memory; the specification's ShelfOk.
-/
import Derived.Test.YtnnmbgenepfacaaRomS
import Derived.Test.YtnnmbgenepfacaaRomF
import Derived.Deep.RegionWith
import Derived.Lib.QuietBelow
namespace Go.Proofs.Ytnnmbgenepfacaa
open Go.RowKit Go.Sort Rom
set_option linter.unusedVariables false
set_option linter.unusedSimpArgs false

def itE : Enc It where
  k := 2
  pos := by decide
  c := fun x => [.string x.1, .int .i64 x.2]
  len := fun _ => rfl
  one := fun x u hu => by simp at hu; rcases hu with rfl | rfl <;> rfl
theorem Try.infoIT : (Try.prog.info? 47).map (fun i => (i.zero, i.size, i.bytes)) = some (some (.agg #[.string ⟨#[]⟩, .int .i64 0]), 2, 24) := by kernel_rfl
def itV (x : It) : Value := .agg #[.string x.1, .int .i64 x.2]
theorem cellsI_at (l : List It) (j : Nat) (hj : j < l.length) : (cellsE itE l)[j * 2]? = some (.string l[j].1) ∧ (cellsE itE l)[j * 2 + 1]? = some (.int .i64 l[j].2) :=
  ⟨cellsE_at itE l j hj 0 (by decide), cellsE_at itE l j hj 1 (by decide)⟩
theorem Sls.itm {w : World} {v : Value} {l : List It} (h : Sls itE w v l) : ∃ a cap, v = .slice a l.length cap ∧ l.length ≤ cap ∧ cap ≤ maxLen ∧ (0 < l.length → ∃ g o, a = some ⟨g, o, Option.none⟩ ∧ g < w.heap.size ∧
    ∀ j (hj : j < l.length), w.cell? ⟨g, o + j * 2, Option.none⟩ = some (.string l[j].1) ∧ w.cell? ⟨g, o + j * 2 + 1, Option.none⟩ = some (.int .i64 l[j].2)) := by
  obtain ⟨a, cap, rfl, h1, h2, h3⟩ := h
  refine ⟨a, cap, rfl, h1, h2, fun h0 => ?_⟩
  obtain ⟨g, o, rfl, hg, hc⟩ := h3 h0
  exact ⟨g, o, rfl, hg, fun j hj => ⟨hc (j * 2) _ (cellsI_at l j hj).1, by rw [Nat.add_assoc]; exact hc (j * 2 + 1) _ (cellsI_at l j hj).2⟩⟩
abbrev OwnsI8 := OwnsE itE 47
abbrev HasI8 := HasE itE 47
/-- A shelf by value: its quota and its items. -/
def shV (q : Int) (v : Value) : Value := .agg #[.int .i64 q, v]
theorem specItem (x : It) (q : Int) (w : World) (hs : x.1.size ≤ maxLen) :
    Calls Try.prog 76 #[itV x, .int .i64 q] w fun e w' => e = .returned (.bool (itOk q x)) ∧ Below w.heap.size w w' := by
  have hI := inRm x.2 1 q
  have hms := hs
  unfold maxLen at hms
  have B0 : Hid (Below w.heap.size w (w.alloc (.cells #[.string x.1, .int .i64 x.2] 47))) := (Below.refl _ w).alloc (Nat.le_refl _) _
  unfold itOk itV
  by_cases h5 : x.1.size ≤ 500
  · rw [decide_eq_true h5]
    have h5i : (x.1.size : Int) ≤ 500 := by omega
    generalize inM x.2 1 q = b at hI
    go_enter Try.func76, Try.ntmps76
    go_wp2_with (go_at_call 60; refine (hI _).mono ?_; rintro e w1 ⟨rfl, rfl⟩)
    go_ret
    exact ⟨by simp, B0.out⟩
  · rw [decide_eq_false h5]
    have h5i : ¬ (x.1.size : Int) ≤ 500 := by omega
    go_enter Try.func76, Try.ntmps76
    go_wp2_with (go_at_call 60; refine (hI _).mono ?_; rintro e w1 ⟨rfl, rfl⟩)
    go_ret
    exact ⟨rfl, B0.out⟩
theorem key_ne {a b : ByteArray} (h : a ≠ b) : (a.toList == b.toList) = false := by
  rw [beq_eq_false_iff_ne]
  intro e
  apply h
  rw [ByteArray.toList_eq, ByteArray.toList_eq] at e
  exact ByteArray.ext (Array.ext' e)
theorem key_eq {a b : ByteArray} (h : a = b) : (a.toList == b.toList) = true := by rw [h]; simp
/-- One item more. -/
theorem sum_in {q : Int} {l : List It} (h : ∀ x ∈ l, itOk q x = true) (hq : q ≤ 100000) : 0 ≤ sumI l ∧ sumI l ≤ 100000 * l.length := by
  induction l with
  | nil => exact ⟨Int.le_refl _, Int.le_refl _⟩
  | cons x l ih =>
    have h1 := itOk_iff.1 (h x (List.mem_cons_self ..))
    have h2 := ih (fun y hy => h y (List.mem_cons_of_mem _ hy))
    rw [sumI_cons, List.length_cons]
    omega
theorem keys_next {l : List It} {k : Nat} (hk : k < l.length) (h : ((l.take k).map (·.1)).Nodup) (hn : ∀ j (hj : j < k), (l[j]'(by omega)).1 ≠ l[k].1) : ((l.take (k + 1)).map (·.1)).Nodup := by
  rw [List.take_succ_eq_append_getElem hk, List.map_append, List.nodup_append]
  refine ⟨h, by simp, fun x hx y hy e => ?_⟩
  rw [List.map_cons, List.map_nil, List.mem_singleton] at hy
  obtain ⟨z, hz, e2⟩ := List.mem_map.1 hx
  obtain ⟨j, hj, e3⟩ := List.getElem_of_mem hz
  rw [List.length_take] at hj
  rw [List.getElem_take] at e3
  exact hn j (by omega) (by rw [e3, e2, e, hy])
theorem keys_bad {l : List It} {j k : Nat} (hj : j < k) (hk : k < l.length) (h : (l[j]'(by omega)).1 = l[k].1) : ¬ (l.map (·.1)).Nodup := by
  intro hn
  have := List.pairwise_iff_getElem.1 hn j k (by rw [List.length_map]; omega) (by rw [List.length_map]; omega) hj
  rw [List.getElem_map, List.getElem_map] at this
  exact this h
theorem shOk_quo {q : Int} {l : List It} (h : inM q 1 100000 = false) : shOk q l = false := by unfold shOk; rw [h]; rfl
theorem shOk_long {q : Int} {l : List It} (h : ¬ l.length ≤ 50) : shOk q l = false := by unfold shOk; rw [decide_eq_false h]; simp
theorem shOk_item {q : Int} {l : List It} {k : Nat} (hk : k < l.length) (h : itOk q l[k] = false) : shOk q l = false := by
  rw [Bool.eq_false_iff]
  intro hh
  rw [itOk_iff.2 ((shOk_iff.1 hh).it _ (List.getElem_mem hk))] at h
  cases h
theorem shOk_keys {q : Int} {l : List It} (h : ¬ (l.map (·.1)).Nodup) : shOk q l = false := by
  rw [Bool.eq_false_iff]
  exact fun hh => h (shOk_iff.1 hh).keys
theorem shOk_end {q : Int} {l : List It} (h1 : inM q 1 100000 = true) (h2 : l.length ≤ 50) (h3 : ∀ x ∈ l, itOk q x = true) (h4 : (l.map (·.1)).Nodup) : shOk q l = decide (sumI l ≤ q) := by
  unfold shOk
  rw [h1, decide_eq_true h2, decide_eq_true h4, List.all_eq_true.2 h3]
  rfl
set_option maxRecDepth 100000 in
set_option maxHeartbeats 8000000 in
theorem specSok (q : Int) (v : Value) (l : List It) (w : World) (h : Sls itE w v l) (hs : ∀ x ∈ l, x.1.size ≤ maxLen) :
    Calls Try.prog 37 #[shV q v] w fun e w' => e = .returned (.bool (shOk q l)) ∧ Below w.heap.size w w' := by
  obtain ⟨a, cap, rfl, h1, h2, h3⟩ := h.itm
  unfold shV
  have hI := inRm q 1 100000
  have hmx := mixed
  have H2 : Hid (cap ≤ maxLen) := h2
  have hz0 : (w.alloc (.cells #[.int .i64 q, .slice a l.length cap] 34)).heap.size = w.heap.size + 1 := by simp
  have B0 : Hid (Below w.heap.size w (w.alloc (.cells #[.int .i64 q, .slice a l.length cap] 34))) := (Below.refl _ w).alloc (Nat.le_refl _) _
  have b0 : (w.alloc (.cells #[.int .i64 q, .slice a l.length cap] 34)).cell? ⟨w.heap.size, 0, none⟩ = some (.int .i64 q) := by rw [World.cell?_alloc_mark]; rfl
  have b1 : (w.alloc (.cells #[.int .i64 q, .slice a l.length cap] 34)).cell? ⟨w.heap.size, 1, none⟩ = some (.slice a l.length cap) := by rw [World.cell?_alloc_mark]; rfl
  have BX : Hid (∀ W, Below (w.heap.size + 1) (w.alloc (.cells #[.int .i64 q, .slice a l.length cap] 34)) W → W.cell? ⟨w.heap.size, 0, none⟩ = some (.int .i64 q) ∧ W.cell? ⟨w.heap.size, 1, none⟩ = some (.slice a l.length cap)) := fun W hW => ⟨(hW.cell (p := ⟨w.heap.size, 0, none⟩) (Nat.lt_succ_self _)).trans b0, (hW.cell (p := ⟨w.heap.size, 1, none⟩) (Nat.lt_succ_self _)).trans b1⟩
  clear h h2 b0 b1
  cases hq : inM q 1 100000 with
  | false =>
    rw [shOk_quo hq]
    rw [hq] at hI
    go_enter Try.func37, Try.ntmps37
    go_wp2_with (go_at_call 60; refine (hI _).mono ?_; rintro e w1 ⟨rfl, rfl⟩)
    go_ret
    exact ⟨rfl, B0.out⟩
  | true =>
    rw [hq] at hI
    by_cases hlen : l.length ≤ 50
    · have hl5 : ¬ (50 < (l.length : Int)) := by omega
      have hqq : 1 ≤ q ∧ q ≤ 100000 := of_decide_eq_true hq
      go_enter Try.func37, Try.ntmps37
      go_wp2_with fail
      refine (hI _).mono ?_
      rintro e w0 ⟨rfl, rfl⟩
      have hL0 : Hid (∀ (k : Nat) (hk : k < l.length), ∃ g o, a = some ⟨g, o, Option.none⟩ ∧ g < w.heap.size ∧ w.cell? ⟨g, o + k * 2, Option.none⟩ = some (.string l[k].1) ∧ w.cell? ⟨g, o + k * 2 + 1, Option.none⟩ = some (.int .i64 l[k].2)) := fun k hk => by
        obtain ⟨g, o, ha, hg, hc⟩ := h3 (by omega)
        exact ⟨g, o, ha, hg, (hc k hk).1, (hc k hk).2⟩
      have HQ : Hid (inM q 1 100000 = true) := hq
      clear h3 hI hq
      generalize hw0 : w.alloc (.cells #[.int .i64 q, .slice a l.length cap] 34) = w0 at BX B0 hz0 ⊢
      have cq := (BX.out w0 (Below.refl _ _)).1
      have cs := (BX.out w0 (Below.refl _ _)).2
      clear hw0
      go_wp2_with fail
      clear hl5
      go_loopw [3, 4] (fun sm i wr => ∃ k : Nat, k ≤ l.length ∧ i = .int .i64 k ∧ sm = .int .i64 (sumI (l.take k)) ∧ Hid (∀ x ∈ l.take k, itOk q x = true) ∧ Hid ((l.take k).map (·.1)).Nodup ∧ Hid (Below w0.heap.size w0 wr)) (fun _ i _ => l.length - (intOf i).toNat)
      case atStart => exact ⟨0, Nat.zero_le _, rfl, rfl, (show Hid _ from fun x hx => by simp at hx), (show Hid _ from List.nodup_nil), (show Hid _ from Below.refl _ _)⟩
      case round =>
        clear cq cs
        obtain ⟨k, hk, rfl, rfl, hit, hkey, hb⟩ := hrel
        obtain ⟨wk, rfl⟩ : ∃ z, z = wr := ⟨wr, rfl⟩
        have hb1 : Below (w.heap.size + 1) w0 wk := hz0 ▸ hb.out
        have cq := (BX.out wk hb1).1
        have cs := (BX.out wk hb1).2
        have BK : Hid (Below w.heap.size w wk) := B0.out.trans (hb.out.mono (by omega))
        have hsum := sum_in hit.out hqq.2
        rw [List.length_take] at hsum
        by_cases hlt : k < l.length
        · have hki : (k : Int) < (l.length : Int) := by omega
          obtain ⟨g, o, rfl, hg, c1, c2⟩ := hL0.out k hlt
          have d1 := (BK.out.cell (p := ⟨g, o + k * 2, Option.none⟩) hg).trans c1
          have d2 := (BK.out.cell (p := ⟨g, o + k * 2 + 1, Option.none⟩) hg).trans c2
          have hIt := fun W => specItem l[k] q W (hs _ (List.getElem_mem hlt))
          unfold itV at hIt
          have kI : ∀ d os, Calls Try.prog 76 #[.agg #[.string l[k].1, .int .i64 l[k].2], .int .i64 q] (grow (redrawn wk d) os) fun e w'' => e = .returned (.bool (itOk q l[k])) ∧ ∃ p : Regrown, w'' = grow (redrawn wk p.d) p.os := fun d os => Calls.regrown_of (hIt _)
          have k0 := cell_regrown cq
          have k1 := cell_regrown cs
          have k2 := cell_regrown d1
          have k3 := cell_regrown d2
          go_wp2_with fail
          refine wp_region_quiet_below (by kernel_rfl) (by kernel_rfl) ?_
          repeat (go_big_quiet_step (with_reducible exact kI _ _))
          refine wpQuiet_nil ?_
          intro _ hw'
          obtain ⟨⟨dq, osq⟩, hw''⟩ := hw'
          subst hw''
          have hbn : Below wk.heap.size wk (grow (redrawn wk dq) osq) := below_regrown wk dq osq
          have BN : Hid (Below w0.heap.size w0 (grow (redrawn wk dq) osq)) := hb.out.trans (hbn.mono hb.out.size)
          generalize grow (redrawn wk dq) osq = wn at BN hbn ⊢
          clear k0 k1 k2 k3 kI hIt cq cs d1 d2 hbn hb hb1
          have hb1 : Below (w.heap.size + 1) w0 wn := hz0 ▸ BN.out
          have cq := (BX.out wn hb1).1
          have cs := (BX.out wn hb1).2
          have BW : Hid (Below w.heap.size w wn) := B0.out.trans (BN.out.mono (by omega))
          have d1 := (BW.out.cell (p := ⟨g, o + k * 2, Option.none⟩) hg).trans c1
          have d2 := (BW.out.cell (p := ⟨g, o + k * 2 + 1, Option.none⟩) hg).trans c2
          cases hok : itOk q l[k] with
          | false =>
            have HE : Hid (false = shOk q l) := (shOk_item hlt hok).symm
            go_wp2
            go_ret
            exact ⟨congrArg (fun z => Ending.returned (.bool z)) HE.out, BW.out⟩
          | true =>
            have hi1 := itOk_iff.1 hok
            have hnx := sumI_take hlt
            have ew : IntKind.i64.wrap (sumI (l.take k) + l[k].2) = sumI (l.take (k + 1)) := by rw [hnx, IntKind.wrap_i64]; omega
            have HI : Hid (∀ x ∈ l.take (k + 1), itOk q x = true) := fun x hx => by
              rw [List.take_succ_eq_append_getElem hlt] at hx
              rcases List.mem_append.1 hx with e | e
              · exact hit.out x e
              · rw [List.mem_singleton.1 e]; exact hok
            have KN : Hid ((∀ j (hj : j < k), (l[j]'(by omega)).1 ≠ l[k].1) → ((l.take (k + 1)).map (·.1)).Nodup) := fun hn => keys_next hlt hkey.out hn
            have KB : Hid (∀ j, j < k → ∀ (hj : j < l.length), l[j].1 = l[k].1 → shOk q l = false) := fun j hjk hj e => shOk_keys (keys_bad hjk hlt e)
            obtain ⟨S1, hS1⟩ : ∃ z, z = sumI (l.take (k + 1)) := ⟨_, rfl⟩
            have HS1 : Hid (S1 = sumI (l.take (k + 1))) := hS1
            rw [← hS1] at ew
            obtain ⟨key, hkey2⟩ : ∃ z, z = l[k].1 := ⟨_, rfl⟩
            have HK2 : Hid (key = l[k].1) := hkey2
            have c1H : Hid _ := c1
            rw [← hkey2] at d1
            generalize l[k].2 = sz at d2 ew
            generalize sumI (l.take k) = S0 at ew ⊢
            clear hok hi1 hnx hit hkey hS1 hkey2 hsum c2
            simp only [Bool.not_true]
            go_wp2_with fail
            go_loopw [5] (fun z wr => ∃ j : Nat, j ≤ k ∧ z = .int .i64 j ∧ Hid (∀ i, i < j → ∀ (hi : i < l.length), l[i].1 ≠ key) ∧ Hid (Below wn.heap.size wn wr)) (fun z _ => k - (intOf z).toNat)
            case atStart => exact ⟨0, Nat.zero_le _, rfl, (show Hid _ from fun i hi => absurd hi (Nat.not_lt_zero _)), (show Hid _ from Below.refl _ _)⟩
            case round =>
              clear cq cs d1 d2
              obtain ⟨j, hj, rfl, hne, hbj⟩ := hrel
              obtain ⟨wj, rfl⟩ : ∃ z, z = wr := ⟨wr, rfl⟩
              have hjn := BN.out.trans (hbj.out.mono BN.out.size)
              have hb2 : Below (w.heap.size + 1) w0 wj := hz0 ▸ hjn
              have BJ : Hid (Below w.heap.size w wj) := B0.out.trans (hjn.mono (by omega))
              by_cases hjk : j < k
              · have hji : (j : Int) < (k : Int) := by omega
                obtain ⟨g', o', ee, hg', x1, x2⟩ := hL0.out j (by omega)
                injection ee with ee
                injection ee with ee1 ee2
                subst ee1
                subst ee2
                have cs := (BX.out wj hb2).2
                have f1 := (BJ.out.cell (p := ⟨g, o + j * 2, Option.none⟩) hg).trans x1
                have f2 := (BJ.out.cell (p := ⟨g, o + k * 2, Option.none⟩) hg).trans c1H.out
                rw [← HK2.out] at f2
                have hji2 : (j : Int) < (l.length : Int) := by omega
                have hki2 : (k : Int) < (l.length : Int) := by omega
                have KBj := KB.out j hjk (by omega)
                obtain ⟨kj, hkj⟩ : ∃ z, z = (l[j]'(by omega)).1 := ⟨_, rfl⟩
                have HKJ : Hid (kj = (l[j]'(by omega)).1) := hkj
                rw [← hkj] at f1
                rw [← hkj, ← HK2.out] at KBj
                clear hkj x1 x2
                by_cases hee : kj = key
                · have HE : Hid (false = shOk q l) := (KBj hee).symm
                  have q1 := key_eq hee
                  go_wp2_with fail
                  go_quiet (fail)
                  have BR : Hid (Below w.heap.size w (wj.drewN nq)) := (show Hid _ from ⟨BJ.out.os, BJ.out.tape, BJ.out.output, BJ.out.size, BJ.out.block⟩)
                  generalize wj.drewN nq = w9 at BR ⊢
                  go_wp2
                  go_ret
                  exact ⟨congrArg (fun z => Ending.returned (.bool z)) HE.out, BR.out⟩
                · have q1 := key_ne hee
                  have NE : Hid (∀ i, i < j + 1 → ∀ (hi : i < l.length), l[i].1 ≠ key) := fun i hi hl' => by
                    by_cases e : i = j
                    · subst e; rw [← HKJ.out]; exact hee
                    · exact hne.out i (by omega) hl'
                  go_wp2_with fail
                  go_quiet (fail)
                  have hb4 : Hid (Below wn.heap.size wn (wj.drewN nq)) := (show Hid _ from ⟨hbj.out.os, hbj.out.tape, hbj.out.output, hbj.out.size, hbj.out.block⟩)
                  generalize wj.drewN nq = w9 at hb4 ⊢
                  go_wp2_with fail
                  go_roundw
                  case rel => exact ⟨j + 1, by omega, by go_num, NE, hb4⟩
                  case measure => simp [intOf]; omega
              · obtain rfl : j = k := by omega
                have KN2 : Hid _ := KN.out (fun i hi => by rw [← HK2.out]; exact hne.out i hi (by omega))
                have BR : Hid (Below w0.heap.size w0 wj) := hjn
                clear hjn
                go_wp2_with fail
                go_roundw
                case rel => exact ⟨j + 1, by omega, by go_num, by rw [← HS1.out], HI, KN2, BR⟩
                case measure => simp [intOf]; omega
        · obtain rfl : k = l.length := by omega
          have et : l.take l.length = l := List.take_of_length_le (Nat.le_refl _)
          rw [et] at hit hkey hsum
          have HE : Hid (decide (sumI (l.take l.length) ≤ q) = shOk q l) := by
            show _ = _
            rw [et]
            exact (shOk_end HQ.out hlen hit.out hkey.out).symm
          generalize sumI (l.take l.length) = T at HE ⊢
          clear hit hkey et hsum
          go_wp2
          go_ret
          exact ⟨congrArg (fun z => Ending.returned (.bool z)) HE.out, BK.out⟩
    · rw [shOk_long hlen]
      have hl5 : 50 < (l.length : Int) := by omega
      go_enter Try.func37, Try.ntmps37
      go_wp2_with (go_at_call 60; refine (hI _).mono ?_; rintro e w1 ⟨rfl, rfl⟩)
      go_ret
      exact ⟨rfl, B0.out⟩
end Go.Proofs.Ytnnmbgenepfacaa
