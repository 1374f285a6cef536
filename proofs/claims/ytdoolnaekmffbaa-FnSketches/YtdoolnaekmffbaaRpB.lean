/-
  The library's Grow and Concat, and inFront, over numbers.
-/
import Derived.Test.YtdoolnaekmffbaaRpA
import Derived.Lib.AppendZerosOnto
import Derived.Laws.AppendOwnNone
import Derived.Deep.RegionWith
namespace Go.Proofs.Ytdoolnaekmffbaa
open Go.RowKit Go.Sort Rom
set_option linter.unusedVariables false
set_option linter.unusedSimpArgs false

/-- The first m of a slice. -/
theorem Sls.front {α : Type} {E : Enc α} {w : World} {a : Option Addr} {n cap m : Nat} {l : List α} (h : Sls E w (.slice a n cap) l) (hm : m ≤ l.length) : Sls E w (.slice a m cap) (l.take m) := by
  obtain ⟨a', cap', e, h1, h2, h3⟩ := h
  injection e with e1 e2 e3
  subst e1; subst e3
  have hl : (l.take m).length = m := by rw [List.length_take]; omega
  refine ⟨a, cap, by rw [hl], by omega, h2, fun h0 => ?_⟩
  obtain ⟨g, o, rfl, hg, hc⟩ := h3 (by omega)
  refine ⟨g, o, rfl, hg, fun j u hu => hc j u ?_⟩
  rw [cellsE_take E l m hm] at hu
  have hj : j < m * E.k := by
    have := (List.getElem?_eq_some_iff.1 hu).1
    rw [List.length_take] at this
    omega
  rw [List.getElem?_take_of_lt hj] at hu
  exact hu
/-- What lies behind the first k of a slice. -/
theorem Sls.rest {α : Type} {E : Enc α} {w : World} {g o n cap k : Nat} {l : List α} (h : Sls E w (.slice (some ⟨g, o, Option.none⟩) n cap) l) (hk : k ≤ l.length) : ∃ A : Addr, (if cap = k then some (⟨g, o, Option.none⟩ : Addr) else some ⟨g, o + k * E.k, Option.none⟩) = some A ∧ Sls E w (.slice (some A) (l.length - k) (cap - k)) (l.drop k) := by
  obtain ⟨a', cap', e, h1, h2, h3⟩ := h
  injection e with e1 e2 e3
  subst e1; subst e3; subst e2
  have hl : (l.drop k).length = l.length - k := List.length_drop
  by_cases e : cap = k
  · refine ⟨_, by rw [if_pos e], _, _, by rw [hl], by omega, by omega, fun h0 => absurd h0 (by omega)⟩
  · refine ⟨_, by rw [if_neg e], _, _, by rw [hl], by omega, by omega, fun h0 => ?_⟩
    obtain ⟨g', o', e2, hg, hc⟩ := h3 (by omega)
    injection e2 with e2
    injection e2 with e3 e4
    subst e3; subst e4
    refine ⟨g, o + k * E.k, rfl, hg, fun j u hu => ?_⟩
    rw [cellsE_drop E l k hk, List.getElem?_drop] at hu
    rw [Nat.add_assoc]
    exact hc _ u hu
theorem wpList_none_at {P : Program} {w : World} {ops : Array Oper} {rest : List Oper} {o : Oper} {a : Act} {Q : Exit → Act → World → Prop} (hgd : o.guard = none) (s x : Operand) (t : TypeId)
    (ho : o.op = .call { callee := .builtin .append, args := #[s, x], argTypes := #[t, t] })
    (base : Nat) (e : TypeId) (i : TypeInfo) (size : Nat) (ht : P.underlying t = some (.slice e)) (hi : P.info? e = some i)
    (v : Value) (n c : Nat) (xs : List Value) (hs : a.eval s = v) (hown : w.ownsRow base e size v n xs) (hx : a.eval x = .slice none 0 c)
    (h : wpList P ops Q rest (a.put o.dst v) w) : wpList P ops Q (o :: rest) a w := by
  refine wpList_plain hgd fun K hK => ?_
  have hrun : (Builtin.append_ #[t, t] o.type #[v, .slice none 0 c]).run P w = .ok v w := by
    rcases hown.2 with ⟨rfl, rfl⟩ | ⟨g, cap, cur, rfl, _, _, hnc, _⟩
    · simp [Builtin.append_, run_underlying ht, sizeOf, typeInfo, hi, Builtin.lenOf, Builtin.firstCells]
    · simp [Builtin.append_, run_underlying ht, sizeOf, typeInfo, hi, Builtin.lenOf, Builtin.firstCells, hnc, storeCells]
  unfold Oper.wp
  simp [execOp, ho, resolve, invoke, builtin, hs, hx, hrun, Result.andThen]
  exact hK _ _ h
theorem wpList_noneN {w : World} {ops : Array Oper} {rest : List Oper} {o : Oper} {a : Act} {Q : Exit → Act → World → Prop} (hgd : o.guard = none) (s x : Operand)
    (ho : o.op = .call { callee := .builtin .append, args := #[s, x], argTypes := #[24, 24] }) (B : Nat) (v : Value) (l : List Int) (hs : a.eval s = v) (hown : OwnsE intE 2 w B v l) (c : Nat) (hx : a.eval x = .slice none 0 c)
    (h : wpList Try.prog ops Q rest (a.put o.dst v) w) : wpList Try.prog ops Q (o :: rest) a w := by
  obtain ⟨i0, hi, _⟩ := info_parts Try.infoN2
  exact wpList_none_at hgd s x 24 ho B 2 i0 (intE).k Try.underlying24 hi v l.length c _ hs hown hx h

theorem growN (n : Nat) (w : World) (h1 : 1 ≤ n) (h2 : n ≤ 100000) :
    Calls Try.prog 58 #[.slice none 0 0, .int .i64 (n : Int)] w fun e w' => ∃ g cap, e = .returned (.slice (some ⟨g, 0, none⟩) 0 cap) ∧ OwnsE intE 2 w' w.heap.size (.slice (some ⟨g, 0, none⟩) 0 cap) [] ∧ Below w.heap.size w w' := by
  obtain ⟨i0, hi, hz0, hz1, hz2⟩ := info_parts Try.infoN2
  have hrz : ∀ ty, (Builtin.append_ #[24, 3] ty #[.slice none 0 0, .int .i64 (n : Int)]).run Try.prog w = _ := fun ty => Lib.run_append_grow_zeros w 24 3 ty 2 i0 (.int .i64 0) .i64 .i64 Try.underlying24 Try.underlying3 hi hz0 none 0 0 [] (run_firstCells_none w.drew i0.size 0 0 0) n (by omega) (by rw [hz1]; decide) (by omega) (by omega) (by rw [hz2]; omega) (growslice_fits (by omega) (by rw [hz2]; omega))
  have hGn : 0 + n ≤ grownCap w (0 + n) 0 2 := grownCap_ge w _ _ _
  have hGm := grownCap_le_maxLen w (0 + n) 0 2 (by unfold maxLen; omega)
  generalize grownCap w (0 + n) 0 2 = G at hrz hGn hGm
  have hG63 : G ≤ 9223372036854775807 := by
    unfold maxLen at hGm
    omega
  have HO : Hid (OwnsE intE 2 (w.drew.alloc (.cells (([] : List Value).toArray ++ Builtin.zeroCells ((.int .i64 0) : Value).cells n ++ Builtin.zeroCells ((.int .i64 0) : Value).cells (G - (0 + n))) 2)) w.heap.size (.slice (some ⟨w.heap.size, 0, none⟩) 0 G) ([] : List Int)) := by
    refine (show Hid _ from ⟨by simp [cellsE], .inr ⟨w.heap.size, G, _, rfl, Nat.le_refl _, heap_alloc_new w.drew _, Nat.zero_le _, hGm, ?_, by simp [cellsE]⟩⟩)
    rw [Array.size_append, Array.size_append, size_zeroCells, size_zeroCells]
    simp only [List.size_toArray, List.length_nil, Nat.zero_add, ← Nat.add_mul]
    show (n + (G - n)) * 1 = G * 1
    rw [show n + (G - n) = G from by omega]
  have HB : Hid (Below w.heap.size w (w.drew.alloc (.cells (([] : List Value).toArray ++ Builtin.zeroCells ((.int .i64 0) : Value).cells n ++ Builtin.zeroCells ((.int .i64 0) : Value).cells (G - (0 + n))) 2))) := by
    have h0 : Below w.heap.size w w.drew := ⟨rfl, rfl, rfl, Nat.le_refl _, fun _ _ => rfl⟩
    exact (show Hid _ from h0.alloc (Nat.le_refl _) _)
  generalize (w.drew.alloc (.cells (([] : List Value).toArray ++ Builtin.zeroCells ((.int .i64 0) : Value).cells n ++ Builtin.zeroCells ((.int .i64 0) : Value).cells (G - (0 + n))) 2)) = w1 at hrz HO HB
  rw [Nat.zero_add] at hrz hGn
  clear hi hz0 hz1 hz2 i0
  have hn0 : ¬ ((n : Int) < 0) := by omega
  have hn1 : 0 < (n : Int) := by omega
  go_enter Try.func58, Try.ntmps58
  go_wp2_with (at_builtin; refine Lib.wpList_append_run _ rfl _ _ _ _ rfl _ _ rfl rfl _ _ (hrz _) ?_)
  all_goals (go_ret; exact ⟨w.heap.size, G, rfl, HO.out, HB.out⟩)

/-- What the first k of them hold, one behind the other. -/
def catLN (ps : List (Value × List Int)) (k : Nat) : List Int := ((ps.take k).map (·.2)).flatten
theorem catLN_next {ps : List (Value × List Int)} {k : Nat} (h : k < ps.length) : catLN ps (k + 1) = catLN ps k ++ ps[k].2 := by
  unfold catLN
  rw [List.take_succ_eq_append_getElem h, List.map_append, List.flatten_append]
  simp
theorem catLN_le (ps : List (Value × List Int)) (k : Nat) : (catLN ps k).length ≤ (catLN ps ps.length).length := by
  by_cases h : k ≤ ps.length
  · have e : catLN ps ps.length = catLN ps k ++ ((ps.drop k).map (·.2)).flatten := by
      unfold catLN
      rw [← List.flatten_append, ← List.map_append, List.take_append_drop, List.take_of_length_le (Nat.le_refl _)]
    rw [e, List.length_append]
    omega
  · unfold catLN
    rw [List.take_of_length_le (by omega), List.take_of_length_le (Nat.le_refl _)]
    exact Nat.le_refl _
set_option maxHeartbeats 1000000 in
theorem catN (gb n : Nat) (ps : List (Value × List Int)) (w : World) (hn : n = ps.length) (hn3 : n ≤ 3) (hgb : gb < w.heap.size)
    (hc : ∀ j (hj : j < ps.length), w.cell? ⟨gb, j, none⟩ = some ps[j].1) (hs : ∀ j (hj : j < ps.length), Sls intE w ps[j].1 ps[j].2)
    (h0 : 0 < (catLN ps ps.length).length) (hz : (catLN ps ps.length).length ≤ 1000) :
    Calls Try.prog 44 #[.slice (some ⟨gb, 0, none⟩) n n] w fun e w' => ∃ u, e = .returned u ∧ OwnsE intE 2 w' w.heap.size u (catLN ps ps.length) ∧ Below w.heap.size w w' := by
  subst hn
  have HC : Hid (∀ W, Below w.heap.size w W → ∀ j (hj : j < ps.length), W.cell? ⟨gb, j, none⟩ = some ps[j].1) := fun W hW j hj => (hW.cell (p := ⟨gb, j, none⟩) hgb).trans (hc j hj)
  have HS : Hid (∀ W, Below w.heap.size w W → ∀ j (hj : j < ps.length), Sls intE W ps[j].1 ps[j].2) := fun W hW j hj => (hs j hj).kept hW
  clear hc hs
  have HZ : Hid (∀ k, (catLN ps k).length ≤ (catLN ps ps.length).length) := catLN_le ps
  obtain ⟨L, hL⟩ : ∃ L, L = catLN ps ps.length := ⟨_, rfl⟩
  rw [← hL] at h0 hz HZ ⊢
  have HL : Hid (L = catLN ps ps.length) := hL
  clear hL
  go_enter Try.func44, Try.ntmps44
  go_wp2
  go_loop [3, 11] (fun s i => ∃ k : Nat, k ≤ ps.length ∧ i = .int .i64 k ∧ s = .int .i64 ((catLN ps k).length : Int)) (fun _ i => ps.length - (intOf i).toNat)
  case atStart => exact ⟨0, Nat.zero_le _, rfl, rfl⟩
  case round =>
    obtain ⟨k, hk, rfl, rfl⟩ := hrel
    by_cases hlt : k < ps.length
    · have c1 := HC.out w (Below.refl _ _) k hlt
      have s1 := HS.out w (Below.refl _ _) k hlt
      have HN : Hid (catLN ps (k + 1) = catLN ps k ++ ps[k].2) := catLN_next hlt
      have hz1 := HZ.out (k + 1)
      rw [HN.out, List.length_append] at hz1
      generalize ps[k] = p at c1 s1 HN hz1
      obtain ⟨v, m⟩ := p
      obtain ⟨a, cap, hv, _⟩ := s1
      dsimp only at hv c1 HN hz1
      subst hv
      have HN2 : Hid ((catLN ps (k + 1)).length = (catLN ps k).length + m.length) := by show _ = _; rw [HN.out, List.length_append]
      generalize (catLN ps k).length = z at hz1 HN2
      clear HN HC HS HZ
      go_wp2
      go_round
      case rel => exact ⟨k + 1, by omega, by go_num, by rw [HN2.out]; go_num⟩
      case measure => simp [intOf]; omega
    · obtain rfl : k = ps.length := by omega
      rw [← HL.out]
      go_wp2_with (go_at_call 58; refine (growN L.length w (by omega) (by omega)).mono ?_; rintro e w1 ⟨g1, cap1, rfl, ho1, hb1⟩)
      have HO1 : Hid _ := ho1
      have HB1 : Hid _ := hb1
      clear ho1 hb1
      go_loopw [6, 27] (fun s i wr => ∃ (k : Nat) (sa : Option Addr) (sc : Nat), k ≤ ps.length ∧ i = .int .i64 k ∧ s = .slice sa (catLN ps k).length sc ∧ Hid (OwnsE intE 2 wr w.heap.size (.slice sa (catLN ps k).length sc) (catLN ps k)) ∧ Hid (Below w.heap.size w wr)) (fun _ i _ => ps.length - (intOf i).toNat)
      case atStart => exact ⟨0, _, _, Nat.zero_le _, rfl, rfl, HO1, HB1⟩
      case round =>
        clear HO1 HB1
        obtain ⟨k, sa, sc, hk, rfl, rfl, ho, hb⟩ := hrel
        by_cases hlt : k < ps.length
        · have c1 := HC.out wr hb.out k hlt
          have s1 := HS.out wr hb.out k hlt
          have HN : Hid (catLN ps (k + 1) = catLN ps k ++ ps[k].2) := catLN_next hlt
          have hz1 := HZ.out (k + 1)
          rw [HN.out, List.length_append] at hz1
          generalize ps[k] = p at c1 s1 HN hz1
          obtain ⟨v, m⟩ := p
          obtain ⟨a, cap, hv, hm1, hm2, hm3⟩ := s1
          dsimp only at hv c1 HN hz1 hm1 hm2 hm3
          subst hv
          generalize catLN ps k = C at ho HN hz1
          unfold maxLen at hm2
          clear HC HS HZ
          cases a with
          | none =>
            obtain rfl : m = [] := by
              rcases m with _ | ⟨y, m⟩
              · rfl
              · obtain ⟨_, _, h, _⟩ := hm3 (by simp)
                cases h
            have HN2 : Hid (catLN ps (k + 1) = C) := by show _ = _; rw [HN.out, List.append_nil]
            clear HN hm3
            go_wp2_with (at_builtin; refine wpList_noneN rfl (.tmp 31) (.tmp 32) rfl w.heap.size _ _ rfl ho.out _ rfl ?_)
            go_roundw
            case rel => exact ⟨k + 1, sa, sc, by omega, by go_num, by rw [HN2.out], by rw [HN2.out]; exact ho, hb⟩
            case measure => simp [intOf]; omega
          | some ad =>
            have HM : Hid (∀ j u, (cellsE intE m)[j]? = some u → wr.cell? (ad.add j) = some u) := by
              intro j u hu
              by_cases hm0 : 0 < m.length
              · obtain ⟨g, o, e, _, h⟩ := hm3 hm0
                injection e with e
                subst e
                rw [addr_add]
                exact h j u hu
              · have : m = [] := List.eq_nil_of_length_eq_zero (by omega)
                rw [this] at hu
                simp [cellsE] at hu
            have hbs := hb.out.size
            clear hm3
            go_wp2_with (at_builtin; refine wpList_rowE (E := intE) _ rfl (.tmp 31) (.tmp 32) 24 2 (.int .i64 0) 8 Try.underlying24 Try.infoN2 rfl rfl w.heap.size _ C rfl ho.out ad cap m rfl HM.out (by unfold maxLen; omega) (by omega) hbs ?_; intro v4 w4 ho4 hg4 _; obtain ⟨a4, c4, hv4, _, _⟩ := ho4.form; subst hv4)
            go_roundw
            case rel => exact ⟨k + 1, a4, c4, by omega, by go_num, by rw [HN.out, List.length_append], by rw [HN.out]; exact ho4, (show Hid _ from belowE hb.out hg4 hbs (OwnsE.from ho.out))⟩
            case measure => simp [intOf]; omega
        · obtain rfl : k = ps.length := by omega
          rw [← HL.out] at ho ⊢
          go_wp2
          go_ret
          exact ⟨_, rfl, ho.out, hb.out⟩
theorem cat2N (x : Int) (va : Value) (la : List Int) (w W : World) (ha : Sls intE w va la) (hl : la.length ≤ 100)
    (hW : Below (w.heap.size + 2) ((w.alloc (.cells #[.int .i64 x] 2)).alloc (.cells #[.slice (some ⟨w.heap.size, 0, none⟩) 1 1, va] 24)) W) :
    Calls Try.prog 44 #[.slice (some ⟨w.heap.size + 1, 0, none⟩) 2 2] W fun e w' => ∃ u, e = .returned u ∧ OwnsE intE 2 w' w.heap.size u (x :: la) ∧ Below w.heap.size w w' := by
  have B1 : Below w.heap.size w (w.alloc (.cells #[.int .i64 x] 2)) := (Below.refl _ w).alloc (Nat.le_refl _) _
  have hsz : (w.alloc (.cells #[.int .i64 x] 2)).heap.size = w.heap.size + 1 := by simp
  have B2 : Below w.heap.size w ((w.alloc (.cells #[.int .i64 x] 2)).alloc (.cells #[.slice (some ⟨w.heap.size, 0, none⟩) 1 1, va] 24)) := B1.alloc (by omega) _
  have BW : Below w.heap.size w W := B2.trans (hW.mono (by omega))
  have hsW : w.heap.size + 2 ≤ W.heap.size := by have := hW.size; simpa using this
  have o0 : OwnsE intE 2 (w.alloc (.cells #[.int .i64 x] 2)) w.heap.size (.slice (some ⟨w.heap.size, 0, none⟩) 1 1) [x] := World.ownsRow_lit w #[.int .i64 x] 1 (Nat.le_refl _) (by unfold maxLen; decide) rfl
  have s0 : Sls intE W (.slice (some ⟨w.heap.size, 0, none⟩) 1 1) [x] := (o0.sls.kept ((Below.refl _ _).alloc (Nat.le_refl _) _)).kept (hW.mono (by simp))
  have cc : ∀ j, W.cell? ⟨w.heap.size + 1, j, none⟩ = (#[.slice (some ⟨w.heap.size, 0, none⟩) 1 1, va] : Array Value)[j]? := by
    intro j
    rw [hW.cell (p := ⟨w.heap.size + 1, j, none⟩) (by simp), ← hsz, World.cell?_alloc_mark]
  refine (catN (w.heap.size + 1) 2 [(.slice (some ⟨w.heap.size, 0, none⟩) 1 1, [x]), (va, la)] W rfl (by decide) (by omega) (by
      intro j hj
      rcases j with _ | _ | j
      · exact cc 0
      · exact cc 1
      · exact absurd hj (by simp)) (by
      intro j hj
      rcases j with _ | _ | j
      · exact s0
      · exact ha.kept BW
      · exact absurd hj (by simp)) (by simp [catLN]) (by simp [catLN]; omega)).mono ?_
  rintro e w' ⟨u, rfl, ho, hb⟩
  have e : catLN [(Value.slice (some ⟨w.heap.size, 0, none⟩) 1 1, [x]), (va, la)] [(Value.slice (some ⟨w.heap.size, 0, none⟩) 1 1, [x]), (va, la)].length = x :: la := by simp [catLN]
  rw [e] at ho
  exact ⟨u, rfl, ho.low (by omega), BW.trans (hb.mono (by omega))⟩
theorem cat3N (x : Int) (va vb : Value) (la lb : List Int) (w W : World) (ha : Sls intE w va la) (hb : Sls intE w vb lb) (hl : la.length + lb.length ≤ 100)
    (hW : Below (w.heap.size + 2) ((w.alloc (.cells #[.int .i64 x] 2)).alloc (.cells #[.slice (some ⟨w.heap.size, 0, none⟩) 1 1, va, vb] 24)) W) :
    Calls Try.prog 44 #[.slice (some ⟨w.heap.size + 1, 0, none⟩) 3 3] W fun e w' => ∃ u, e = .returned u ∧ OwnsE intE 2 w' w.heap.size u ([x] ++ (la ++ lb)) ∧ Below w.heap.size w w' := by
  have B1 : Below w.heap.size w (w.alloc (.cells #[.int .i64 x] 2)) := (Below.refl _ w).alloc (Nat.le_refl _) _
  have hsz : (w.alloc (.cells #[.int .i64 x] 2)).heap.size = w.heap.size + 1 := by simp
  have B2 : Below w.heap.size w ((w.alloc (.cells #[.int .i64 x] 2)).alloc (.cells #[.slice (some ⟨w.heap.size, 0, none⟩) 1 1, va, vb] 24)) := B1.alloc (by omega) _
  have BW : Below w.heap.size w W := B2.trans (hW.mono (by omega))
  have hsW : w.heap.size + 2 ≤ W.heap.size := by have := hW.size; simpa using this
  have o0 : OwnsE intE 2 (w.alloc (.cells #[.int .i64 x] 2)) w.heap.size (.slice (some ⟨w.heap.size, 0, none⟩) 1 1) [x] := World.ownsRow_lit w #[.int .i64 x] 1 (Nat.le_refl _) (by unfold maxLen; decide) rfl
  have s0 : Sls intE W (.slice (some ⟨w.heap.size, 0, none⟩) 1 1) [x] := (o0.sls.kept ((Below.refl _ _).alloc (Nat.le_refl _) _)).kept (hW.mono (by simp))
  have cc : ∀ j, W.cell? ⟨w.heap.size + 1, j, none⟩ = (#[.slice (some ⟨w.heap.size, 0, none⟩) 1 1, va, vb] : Array Value)[j]? := by
    intro j
    rw [hW.cell (p := ⟨w.heap.size + 1, j, none⟩) (by simp), ← hsz, World.cell?_alloc_mark]
  refine (catN (w.heap.size + 1) 3 [(.slice (some ⟨w.heap.size, 0, none⟩) 1 1, [x]), (va, la), (vb, lb)] W rfl (by decide) (by omega) (by
      intro j hj
      rcases j with _ | _ | _ | j
      · exact cc 0
      · exact cc 1
      · exact cc 2
      · exact absurd hj (by simp)) (by
      intro j hj
      rcases j with _ | _ | _ | j
      · exact s0
      · exact ha.kept BW
      · exact hb.kept BW
      · exact absurd hj (by simp)) (by simp [catLN]) (by simp [catLN]; omega)).mono ?_
  rintro e w' ⟨u, rfl, ho, hb⟩
  have e : catLN [(Value.slice (some ⟨w.heap.size, 0, none⟩) 1 1, [x]), (va, la), (vb, lb)] [(Value.slice (some ⟨w.heap.size, 0, none⟩) 1 1, [x]), (va, la), (vb, lb)].length = [x] ++ (la ++ lb) := by simp [catLN]
  rw [e] at ho
  exact ⟨u, rfl, ho.low (by omega), BW.trans (hb.mono (by omega))⟩
end Go.Proofs.Ytdoolnaekmffbaa
