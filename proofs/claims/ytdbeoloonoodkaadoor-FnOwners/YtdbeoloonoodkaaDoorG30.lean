/-
  The library's Grow and Concat, and inFront, over numbers.
  Plain facts of a server that goes; the library's Concat of two slices.
-/
import Derived.Test.YtdbeoloonoodkaaDoorG29
import Derived.Lib.AppendZerosOnto
import Derived.Laws.AppendOwnNone
import Derived.Deep.RegionWith
namespace Go.Proofs.YtdbeoloonoodkaaDoor
open Go.RowKit Go.Sort Rom
set_option linter.unusedVariables false
set_option linter.unusedSimpArgs false

/-- The first m of a slice. -/
theorem Sls.front {α : Type} {E : Enc α} {w : World} {a : Option Addr} {n cap m : Nat} {l : List α} (h : Sls E w (.slice a n cap) l) (hm : m ≤ l.length) : Sls E w (.slice a m cap) (l.take m) := by
  obtain ⟨a', cap', e, h1, h2, h3⟩ := h
  injection e with e1 e2 e3
  subst e1; subst e3
  have hl : (l.take m).length = m := by rw [List.length_take]; omega
  refine ⟨a, cap, by rw [hl], by omega, h2, fun h0 => ?_⟩
  obtain ⟨g, o, rfl, hg, hc⟩ := h3 (by omega)
  refine ⟨g, o, rfl, hg, fun j u hu => hc j u ?_⟩
  rw [cellsE_take E l m hm] at hu
  have hj : j < m * E.k := by
    have := (List.getElem?_eq_some_iff.1 hu).1
    rw [List.length_take] at this
    omega
  rw [List.getElem?_take_of_lt hj] at hu
  exact hu
/-- What lies behind the first k of a slice. -/
theorem Sls.rest {α : Type} {E : Enc α} {w : World} {g o n cap k : Nat} {l : List α} (h : Sls E w (.slice (some ⟨g, o, Option.none⟩) n cap) l) (hk : k ≤ l.length) : ∃ A : Addr, (if cap = k then some (⟨g, o, Option.none⟩ : Addr) else some ⟨g, o + k * E.k, Option.none⟩) = some A ∧ Sls E w (.slice (some A) (l.length - k) (cap - k)) (l.drop k) := by
  obtain ⟨a', cap', e, h1, h2, h3⟩ := h
  injection e with e1 e2 e3
  subst e1; subst e3; subst e2
  have hl : (l.drop k).length = l.length - k := List.length_drop
  by_cases e : cap = k
  · refine ⟨_, by rw [if_pos e], _, _, by rw [hl], by omega, by omega, fun h0 => absurd h0 (by omega)⟩
  · refine ⟨_, by rw [if_neg e], _, _, by rw [hl], by omega, by omega, fun h0 => ?_⟩
    obtain ⟨g', o', e2, hg, hc⟩ := h3 (by omega)
    injection e2 with e2
    injection e2 with e3 e4
    subst e3; subst e4
    refine ⟨g, o + k * E.k, rfl, hg, fun j u hu => ?_⟩
    rw [cellsE_drop E l k hk, List.getElem?_drop] at hu
    rw [Nat.add_assoc]
    exact hc _ u hu
theorem wpList_none_at {P : Program} {w : World} {ops : Array Oper} {rest : List Oper} {o : Oper} {a : Act} {Q : Exit → Act → World → Prop} (hgd : o.guard = none) (s x : Operand) (t : TypeId)
    (ho : o.op = .call { callee := .builtin .append, args := #[s, x], argTypes := #[t, t] })
    (base : Nat) (e : TypeId) (i : TypeInfo) (size : Nat) (ht : P.underlying t = some (.slice e)) (hi : P.info? e = some i)
    (v : Value) (n c : Nat) (xs : List Value) (hs : a.eval s = v) (hown : w.ownsRow base e size v n xs) (hx : a.eval x = .slice none 0 c)
    (h : wpList P ops Q rest (a.put o.dst v) w) : wpList P ops Q (o :: rest) a w := by
  refine wpList_plain hgd fun K hK => ?_
  have hrun : (Builtin.append_ #[t, t] o.type #[v, .slice none 0 c]).run P w = .ok v w := by
    rcases hown.2 with ⟨rfl, rfl⟩ | ⟨g, cap, cur, rfl, _, _, hnc, _⟩
    · simp [Builtin.append_, run_underlying ht, sizeOf, typeInfo, hi, Builtin.lenOf, Builtin.firstCells]
    · simp [Builtin.append_, run_underlying ht, sizeOf, typeInfo, hi, Builtin.lenOf, Builtin.firstCells, hnc, storeCells]
  unfold Oper.wp
  simp [execOp, ho, resolve, invoke, builtin, hs, hx, hrun, Result.andThen]
  exact hK _ _ h
theorem wpList_noneN {w : World} {ops : Array Oper} {rest : List Oper} {o : Oper} {a : Act} {Q : Exit → Act → World → Prop} (hgd : o.guard = none) (s x : Operand)
    (ho : o.op = .call { callee := .builtin .append, args := #[s, x], argTypes := #[24, 24] }) (B : Nat) (v : Value) (l : List Int) (hs : a.eval s = v) (hown : OwnsE intE 2 w B v l) (c : Nat) (hx : a.eval x = .slice none 0 c)
    (h : wpList Tryd.prog ops Q rest (a.put o.dst v) w) : wpList Tryd.prog ops Q (o :: rest) a w := by
  obtain ⟨i0, hi, _⟩ := info_parts Tryd.infoN2
  exact wpList_none_at hgd s x 24 ho B 2 i0 (intE).k Tryd.underlying24 hi v l.length c _ hs hown hx h

theorem growN (n : Nat) (w : World) (h1 : 1 ≤ n) (h2 : n ≤ 100000) :
    Calls Tryd.prog 57 #[.slice none 0 0, .int .i64 (n : Int)] w fun e w' => ∃ g cap, e = .returned (.slice (some ⟨g, 0, none⟩) 0 cap) ∧ OwnsE intE 2 w' w.heap.size (.slice (some ⟨g, 0, none⟩) 0 cap) [] ∧ Below w.heap.size w w' := by
  obtain ⟨i0, hi, hz0, hz1, hz2⟩ := info_parts Tryd.infoN2
  have hrz : ∀ ty, (Builtin.append_ #[24, 3] ty #[.slice none 0 0, .int .i64 (n : Int)]).run Tryd.prog w = _ := fun ty => Lib.run_append_grow_zeros w 24 3 ty 2 i0 (.int .i64 0) .i64 .i64 Tryd.underlying24 Tryd.underlying3 hi hz0 none 0 0 [] (run_firstCells_none w.drew i0.size 0 0 0) n (by omega) (by rw [hz1]; decide) (by omega) (by omega) (by rw [hz2]; omega) (growslice_fits (by omega) (by rw [hz2]; omega))
  have hGn : 0 + n ≤ grownCap w (0 + n) 0 2 := grownCap_ge w _ _ _
  have hGm := grownCap_le_maxLen w (0 + n) 0 2 (by unfold maxLen; omega)
  generalize grownCap w (0 + n) 0 2 = G at hrz hGn hGm
  have hG63 : G ≤ 9223372036854775807 := by
    unfold maxLen at hGm
    omega
  have HO : Hid (OwnsE intE 2 (w.drew.alloc (.cells (([] : List Value).toArray ++ Builtin.zeroCells ((.int .i64 0) : Value).cells n ++ Builtin.zeroCells ((.int .i64 0) : Value).cells (G - (0 + n))) 2)) w.heap.size (.slice (some ⟨w.heap.size, 0, none⟩) 0 G) ([] : List Int)) := by
    refine (show Hid _ from ⟨by simp [cellsE], .inr ⟨w.heap.size, G, _, rfl, Nat.le_refl _, heap_alloc_new w.drew _, Nat.zero_le _, hGm, ?_, by simp [cellsE]⟩⟩)
    rw [Array.size_append, Array.size_append, size_zeroCells, size_zeroCells]
    simp only [List.size_toArray, List.length_nil, Nat.zero_add, ← Nat.add_mul]
    show (n + (G - n)) * 1 = G * 1
    rw [show n + (G - n) = G from by omega]
  have HB : Hid (Below w.heap.size w (w.drew.alloc (.cells (([] : List Value).toArray ++ Builtin.zeroCells ((.int .i64 0) : Value).cells n ++ Builtin.zeroCells ((.int .i64 0) : Value).cells (G - (0 + n))) 2))) := by
    have h0 : Below w.heap.size w w.drew := ⟨rfl, rfl, rfl, Nat.le_refl _, fun _ _ => rfl⟩
    exact (show Hid _ from h0.alloc (Nat.le_refl _) _)
  generalize (w.drew.alloc (.cells (([] : List Value).toArray ++ Builtin.zeroCells ((.int .i64 0) : Value).cells n ++ Builtin.zeroCells ((.int .i64 0) : Value).cells (G - (0 + n))) 2)) = w1 at hrz HO HB
  rw [Nat.zero_add] at hrz hGn
  clear hi hz0 hz1 hz2 i0
  have hn0 : ¬ ((n : Int) < 0) := by omega
  have hn1 : 0 < (n : Int) := by omega
  go_enter Tryd.func57, Tryd.ntmps57
  go_wp2_with (at_builtin; refine Lib.wpList_append_run _ rfl _ _ _ _ rfl _ _ rfl rfl _ _ (hrz _) ?_)
  all_goals (go_ret; exact ⟨w.heap.size, G, rfl, HO.out, HB.out⟩)

/-- What the first k of them hold, one behind the other. -/
def catLN (ps : List (Value × List Int)) (k : Nat) : List Int := ((ps.take k).map (·.2)).flatten
theorem catLN_next {ps : List (Value × List Int)} {k : Nat} (h : k < ps.length) : catLN ps (k + 1) = catLN ps k ++ ps[k].2 := by
  unfold catLN
  rw [List.take_succ_eq_append_getElem h, List.map_append, List.flatten_append]
  simp
theorem catLN_le (ps : List (Value × List Int)) (k : Nat) : (catLN ps k).length ≤ (catLN ps ps.length).length := by
  by_cases h : k ≤ ps.length
  · have e : catLN ps ps.length = catLN ps k ++ ((ps.drop k).map (·.2)).flatten := by
      unfold catLN
      rw [← List.flatten_append, ← List.map_append, List.take_append_drop, List.take_of_length_le (Nat.le_refl _)]
    rw [e, List.length_append]
    omega
  · unfold catLN
    rw [List.take_of_length_le (by omega), List.take_of_length_le (Nat.le_refl _)]
    exact Nat.le_refl _
set_option maxHeartbeats 1000000 in
theorem catN (gb n : Nat) (ps : List (Value × List Int)) (w : World) (hn : n = ps.length) (hn3 : n ≤ 3) (hgb : gb < w.heap.size)
    (hc : ∀ j (hj : j < ps.length), w.cell? ⟨gb, j, none⟩ = some ps[j].1) (hs : ∀ j (hj : j < ps.length), Sls intE w ps[j].1 ps[j].2)
    (h0 : 0 < (catLN ps ps.length).length) (hz : (catLN ps ps.length).length ≤ 1000) :
    Calls Tryd.prog 44 #[.slice (some ⟨gb, 0, none⟩) n n] w fun e w' => ∃ u, e = .returned u ∧ OwnsE intE 2 w' w.heap.size u (catLN ps ps.length) ∧ Below w.heap.size w w' := by
  subst hn
  have HC : Hid (∀ W, Below w.heap.size w W → ∀ j (hj : j < ps.length), W.cell? ⟨gb, j, none⟩ = some ps[j].1) := fun W hW j hj => (hW.cell (p := ⟨gb, j, none⟩) hgb).trans (hc j hj)
  have HS : Hid (∀ W, Below w.heap.size w W → ∀ j (hj : j < ps.length), Sls intE W ps[j].1 ps[j].2) := fun W hW j hj => (hs j hj).kept hW
  clear hc hs
  have HZ : Hid (∀ k, (catLN ps k).length ≤ (catLN ps ps.length).length) := catLN_le ps
  obtain ⟨L, hL⟩ : ∃ L, L = catLN ps ps.length := ⟨_, rfl⟩
  rw [← hL] at h0 hz HZ ⊢
  have HL : Hid (L = catLN ps ps.length) := hL
  clear hL
  go_enter Tryd.func44, Tryd.ntmps44
  go_wp2
  go_loop [3, 11] (fun s i => ∃ k : Nat, k ≤ ps.length ∧ i = .int .i64 k ∧ s = .int .i64 ((catLN ps k).length : Int)) (fun _ i => ps.length - (intOf i).toNat)
  case atStart => exact ⟨0, Nat.zero_le _, rfl, rfl⟩
  case round =>
    obtain ⟨k, hk, rfl, rfl⟩ := hrel
    by_cases hlt : k < ps.length
    · have c1 := HC.out w (Below.refl _ _) k hlt
      have s1 := HS.out w (Below.refl _ _) k hlt
      have HN : Hid (catLN ps (k + 1) = catLN ps k ++ ps[k].2) := catLN_next hlt
      have hz1 := HZ.out (k + 1)
      rw [HN.out, List.length_append] at hz1
      generalize ps[k] = p at c1 s1 HN hz1
      obtain ⟨v, m⟩ := p
      obtain ⟨a, cap, hv, _⟩ := s1
      dsimp only at hv c1 HN hz1
      subst hv
      have HN2 : Hid ((catLN ps (k + 1)).length = (catLN ps k).length + m.length) := by show _ = _; rw [HN.out, List.length_append]
      generalize (catLN ps k).length = z at hz1 HN2
      clear HN HC HS HZ
      go_wp2
      go_round
      case rel => exact ⟨k + 1, by omega, by go_num, by rw [HN2.out]; go_num⟩
      case measure => simp [intOf]; omega
    · obtain rfl : k = ps.length := by omega
      rw [← HL.out]
      go_wp2_with (go_at_call 57; refine (growN L.length w (by omega) (by omega)).mono ?_; rintro e w1 ⟨g1, cap1, rfl, ho1, hb1⟩)
      have HO1 : Hid _ := ho1
      have HB1 : Hid _ := hb1
      clear ho1 hb1
      go_loopw [6, 27] (fun s i wr => ∃ (k : Nat) (sa : Option Addr) (sc : Nat), k ≤ ps.length ∧ i = .int .i64 k ∧ s = .slice sa (catLN ps k).length sc ∧ Hid (OwnsE intE 2 wr w.heap.size (.slice sa (catLN ps k).length sc) (catLN ps k)) ∧ Hid (Below w.heap.size w wr)) (fun _ i _ => ps.length - (intOf i).toNat)
      case atStart => exact ⟨0, _, _, Nat.zero_le _, rfl, rfl, HO1, HB1⟩
      case round =>
        clear HO1 HB1
        obtain ⟨k, sa, sc, hk, rfl, rfl, ho, hb⟩ := hrel
        by_cases hlt : k < ps.length
        · have c1 := HC.out wr hb.out k hlt
          have s1 := HS.out wr hb.out k hlt
          have HN : Hid (catLN ps (k + 1) = catLN ps k ++ ps[k].2) := catLN_next hlt
          have hz1 := HZ.out (k + 1)
          rw [HN.out, List.length_append] at hz1
          generalize ps[k] = p at c1 s1 HN hz1
          obtain ⟨v, m⟩ := p
          obtain ⟨a, cap, hv, hm1, hm2, hm3⟩ := s1
          dsimp only at hv c1 HN hz1 hm1 hm2 hm3
          subst hv
          generalize catLN ps k = C at ho HN hz1
          unfold maxLen at hm2
          clear HC HS HZ
          cases a with
          | none =>
            obtain rfl : m = [] := by
              rcases m with _ | ⟨y, m⟩
              · rfl
              · obtain ⟨_, _, h, _⟩ := hm3 (by simp)
                cases h
            have HN2 : Hid (catLN ps (k + 1) = C) := by show _ = _; rw [HN.out, List.append_nil]
            clear HN hm3
            go_wp2_with (at_builtin; refine wpList_noneN rfl (.tmp 31) (.tmp 32) rfl w.heap.size _ _ rfl ho.out _ rfl ?_)
            go_roundw
            case rel => exact ⟨k + 1, sa, sc, by omega, by go_num, by rw [HN2.out], by rw [HN2.out]; exact ho, hb⟩
            case measure => simp [intOf]; omega
          | some ad =>
            have HM : Hid (∀ j u, (cellsE intE m)[j]? = some u → wr.cell? (ad.add j) = some u) := by
              intro j u hu
              by_cases hm0 : 0 < m.length
              · obtain ⟨g, o, e, _, h⟩ := hm3 hm0
                injection e with e
                subst e
                rw [addr_add]
                exact h j u hu
              · have : m = [] := List.eq_nil_of_length_eq_zero (by omega)
                rw [this] at hu
                simp [cellsE] at hu
            have hbs := hb.out.size
            clear hm3
            go_wp2_with (at_builtin; refine wpList_rowE (E := intE) _ rfl (.tmp 31) (.tmp 32) 24 2 (.int .i64 0) 8 Tryd.underlying24 Tryd.infoN2 rfl rfl w.heap.size _ C rfl ho.out ad cap m rfl HM.out (by unfold maxLen; omega) (by omega) hbs ?_; intro v4 w4 ho4 hg4 _; obtain ⟨a4, c4, hv4, _, _⟩ := ho4.form; subst hv4)
            go_roundw
            case rel => exact ⟨k + 1, a4, c4, by omega, by go_num, by rw [HN.out, List.length_append], by rw [HN.out]; exact ho4, (show Hid _ from belowE hb.out hg4 hbs (OwnsE.from ho.out))⟩
            case measure => simp [intOf]; omega
        · obtain rfl : k = ps.length := by omega
          rw [← HL.out] at ho ⊢
          go_wp2
          go_ret
          exact ⟨_, rfl, ho.out, hb.out⟩
end Go.Proofs.YtdbeoloonoodkaaDoor
namespace Go.Proofs.YtdbeoloonoodkaaDoor
open Go.RowKit Go.Sort Ow Rom
set_option linter.unusedVariables false
set_option linter.unusedSimpArgs false

theorem gon_none {z : Int} {l : List Int} (h : z ∉ l) : gon l z = l := by
  unfold gon
  refine List.filter_eq_self.2 fun x hx => ?_
  rw [Bool.not_eq_true', decide_eq_false_iff_not]
  exact fun e => h (e ▸ hx)
theorem gon_at {z : Int} : ∀ {l : List Int}, l.Pairwise (· < ·) → z ∈ l → gon l z = l.take (l.idxOf z) ++ l.drop (l.idxOf z + 1)
  | x :: t, hp, hz => by
    rw [List.pairwise_cons] at hp
    by_cases e : x = z
    · subst e
      rw [List.idxOf_cons_self]
      show gon (x :: t) x = t
      have : gon (x :: t) x = gon t x := by unfold gon; rw [List.filter_cons_of_neg (by simp)]
      rw [this, gon_none fun h => by have := hp.1 x h; omega]
    · have hz2 : z ∈ t := by
        rcases List.mem_cons.1 hz with h | h
        · exact absurd h.symm e
        · exact h
      have e2 : (x :: t).idxOf z = t.idxOf z + 1 := idx_ne t e
      rw [e2]
      show gon (x :: t) z = x :: (t.take (t.idxOf z) ++ t.drop (t.idxOf z + 1))
      rw [← gon_at hp.2 hz2]
      unfold gon
      rw [List.filter_cons_of_pos (by simp [e])]
theorem movOk_in {l : List Int} {z : Int} {n : Nat} (ok : SrvOk l) (h2 : 2 ≤ l.length) (hz : z ∈ l) (hn : n ≤ 100) : movOk l z n = true ∧ (gon l z).length + 1 = l.length := by
  have hi := List.idxOf_lt_length_of_mem hz
  have hl : (gon l z).length + 1 = l.length := by
    rw [gon_at ok.ris hz, List.length_append, List.length_take, List.length_drop]
    omega
  refine ⟨?_, hl⟩
  unfold movOk
  rw [srvOk_iff.2 ok]
  simp
  omega
theorem movOk_out {l : List Int} {z : Int} {n : Nat} (h : srvOk l = false ∨ l.length < 2 ∨ z ∉ l ∨ 100 < n) : movOk l z n = false := by
  cases e : movOk l z n with
  | false => rfl
  | true =>
    unfold movOk at e
    rw [Bool.and_eq_true, Bool.and_eq_true, Bool.and_eq_true] at e
    obtain ⟨e1, e2, e3, e4⟩ := e
    have e3 := of_decide_eq_true e3
    have e4 := of_decide_eq_true e4
    have e5 : ¬ (gon l z).length = l.length := by simpa using e2
    rcases h with h | h | h | h
    · rw [h] at e1; cases e1
    · have : (gon l z).length ≤ l.length := List.length_filter_le _ _
      omega
    · exact absurd (by rw [gon_none h]) e5
    · omega
theorem cat2S (va vb : Value) (la lb : List Int) (w1 W : World) (ha : Sls intE w1 va la) (hb : Sls intE w1 vb lb) (h0 : 0 < la.length + lb.length) (hl : la.length + lb.length ≤ 100)
    (hW : Below (w1.heap.size + 1) (w1.alloc (.cells #[va, vb] 24)) W) :
    Calls Tryd.prog 44 #[.slice (some ⟨w1.heap.size, 0, none⟩) 2 2] W fun e w' => ∃ u, e = .returned u ∧ OwnsE intE 2 w' w1.heap.size u (la ++ lb) ∧ Below w1.heap.size w1 w' := by
  have B1 : Below w1.heap.size w1 (w1.alloc (.cells #[va, vb] 24)) := (Below.refl _ w1).alloc (Nat.le_refl _) _
  have hsz : (w1.alloc (.cells #[va, vb] 24)).heap.size = w1.heap.size + 1 := by simp
  have BW : Below w1.heap.size w1 W := B1.trans (hW.mono (by omega))
  have hsW : w1.heap.size + 1 ≤ W.heap.size := by have := hW.size; omega
  have cc : ∀ j, W.cell? ⟨w1.heap.size, j, none⟩ = (#[va, vb] : Array Value)[j]? := by
    intro j
    rw [hW.cell (p := ⟨w1.heap.size, j, none⟩) (by simp), World.cell?_alloc_mark]
  have e : catLN [(va, la), (vb, lb)] [(va, la), (vb, lb)].length = la ++ lb := by simp [catLN]
  refine (catN w1.heap.size 2 [(va, la), (vb, lb)] W rfl (by decide) (by omega) (by
      intro j hj
      rcases j with _ | _ | j
      · exact cc 0
      · exact cc 1
      · exact absurd hj (by simp)) (by
      intro j hj
      rcases j with _ | _ | j
      · exact ha.kept BW
      · exact hb.kept BW
      · exact absurd hj (by simp)) (by rw [e, List.length_append]; omega) (by rw [e, List.length_append]; omega)).mono ?_
  rintro e' w' ⟨u, rfl, ho, hb⟩
  rw [e] at ho
  exact ⟨u, rfl, ho.low (by omega), BW.trans (hb.mono (by omega))⟩
end Go.Proofs.YtdbeoloonoodkaaDoor
