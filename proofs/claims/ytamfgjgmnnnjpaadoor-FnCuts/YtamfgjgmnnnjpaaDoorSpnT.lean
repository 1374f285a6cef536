/-
  The program's small functions on spans by their contracts: which are right, which meet, which comes first, a copy of some.
-/
import Derived.Test.YtamfgjgmnnnjpaaDoorSpnC
import Derived.Deep.QuietTactic
import Derived.BigQuiet
import Derived.Lib.SliceRun
namespace Go.Proofs.YtamfgjgmnnnjpaaDoor
open Go.RowKit Go.Sort
set_option linter.unusedVariables false

theorem implSpn (x : Sp) (w : World) : Calls Tryd.prog 32 #[spV x] w fun e w' => e = .returned (.bool (spB x)) ∧ Grew w w' := by
  have B0 : Hid (Grew w (w.alloc (.cells #[.int .i64 x.1, .int .i64 x.2] 30))) := (Grew.refl w).alloc _
  obtain ⟨a, b⟩ := x
  have HS : Hid (spB (a, b) = decide (0 ≤ a ∧ a ≤ b)) := rfl
  generalize spB (a, b) = S at HS ⊢
  unfold spV
  by_cases h1 : 0 ≤ a
  · by_cases h2 : a ≤ b
    · have H : Hid (true = S) := (HS.out.trans (decide_eq_true ⟨h1, h2⟩)).symm
      go_enter Tryd.func32, Tryd.ntmps32
      go_wp2
      go_ret
      exact ⟨ret_bool H.out, B0.out⟩
    · have H : Hid (false = S) := (HS.out.trans (decide_eq_false (fun h => h2 h.2))).symm
      go_enter Tryd.func32, Tryd.ntmps32
      go_wp2
      go_ret
      exact ⟨ret_bool H.out, B0.out⟩
  · have H : Hid (false = S) := (HS.out.trans (decide_eq_false (fun h => h1 h.1))).symm
    go_enter Tryd.func32, Tryd.ntmps32
    go_wp2
    go_ret
    exact ⟨ret_bool H.out, B0.out⟩
theorem implMt (y x : Sp) (w : World) (h0 : 0 ≤ x.1) (h1 : x.1 ≤ 9223372036854775807) : Calls Tryd.prog 44 #[spV y, spV x] w fun e w' => e = .returned (.bool (decide (x.1 - 1 ≤ y.2))) ∧ Grew w w' := by
  have B0 : Hid (Grew w ((w.alloc (.cells #[.int .i64 y.1, .int .i64 y.2] 30)).alloc (.cells #[.int .i64 x.1, .int .i64 x.2] 30))) := ((Grew.refl w).alloc _).alloc _
  obtain ⟨a, b⟩ := x
  obtain ⟨c, d⟩ := y
  simp only at h0 h1
  have ex : IntKind.i64.wrap (a - 1) = a - 1 := by rw [IntKind.wrap_i64]; omega
  unfold spV
  go_enter Tryd.func44, Tryd.ntmps44
  go_wp2
  go_ret
  exact ⟨rfl, B0.out⟩
def cmpS (x y : Sp) : Int := if x.1 < y.1 then -1 else if y.1 < x.1 then 1 else 0
theorem implNan (a : Int) (w : World) : Calls Tryd.prog 72 #[.int .i64 a] w fun e w' => e = .returned (.bool false) ∧ w = w' := by
  have da : (a != a) = false := by simp
  go_enter Tryd.func72, Tryd.ntmps72
  go_wp2
  go_ret
  exact ⟨rfl, rfl⟩
theorem implCmp (a b : Int) (w : World) : Calls Tryd.prog 61 #[.int .i64 a, .int .i64 b] w fun e w' => e = .returned (.int .i64 (if a < b then -1 else if b < a then 1 else 0)) ∧ w = w' := by
  have hn := fun c W => implNan c W
  by_cases h1 : a < b
  · rw [if_pos h1]
    go_enter Tryd.func61, Tryd.ntmps61
    go_wp2_with (go_at_call 72; refine (hn _ _).mono ?_; rintro e w' ⟨rfl, rfl⟩)
    go_ret
    exact ⟨rfl, rfl⟩
  · rw [if_neg h1]
    by_cases h2 : b < a
    · rw [if_pos h2]
      go_enter Tryd.func61, Tryd.ntmps61
      go_wp2_with (go_at_call 72; refine (hn _ _).mono ?_; rintro e w' ⟨rfl, rfl⟩)
      go_ret
      exact ⟨rfl, rfl⟩
    · rw [if_neg h2]
      go_enter Tryd.func61, Tryd.ntmps61
      go_wp2_with (go_at_call 72; refine (hn _ _).mono ?_; rintro e w' ⟨rfl, rfl⟩)
      go_ret
      exact ⟨rfl, rfl⟩
theorem implBy (x y : Sp) (w : World) : Calls Tryd.prog 43 #[spV x, spV y] w fun e w' => e = .returned (.int .i64 (cmpS x y)) ∧ Grew w w' := by
  have B0 : Hid (Grew w ((w.alloc (.cells #[.int .i64 x.1, .int .i64 x.2] 30)).alloc (.cells #[.int .i64 y.1, .int .i64 y.2] 30))) := ((Grew.refl w).alloc _).alloc _
  have hk := fun W => implCmp x.1 y.1 W
  have he : (if x.1 < y.1 then (-1 : Int) else if y.1 < x.1 then 1 else 0) = cmpS x y := rfl
  rw [he] at hk
  generalize cmpS x y = r at hk ⊢
  obtain ⟨a, b⟩ := x
  obtain ⟨c, d⟩ := y
  unfold spV
  go_enter Tryd.func43, Tryd.ntmps43
  go_wp2_with (go_at_call 61; refine (hk _).mono ?_; rintro e w' ⟨rfl, rfl⟩)
  go_ret
  exact ⟨rfl, B0.out⟩
theorem allS_next {l : List Sp} {k : Nat} (hlt : k < l.length) : allS (l.take (k + 1)) = (allS (l.take k) && spB l[k]) := by unfold allS; rw [List.take_succ_eq_append_getElem hlt, List.all_append]; simp
theorem allS_bad {l : List Sp} {k : Nat} (hlt : k < l.length) (h : spB l[k] = false) : allS l = false := by
  cases e : allS l with
  | false => rfl
  | true => have := List.all_eq_true.1 e l[k] (List.getElem_mem hlt); rw [h] at this; cases this
set_option maxHeartbeats 1000000 in
theorem implSpns (v : Value) (l : List Sp) (w : World) (h : Sls spnE w v l) :
    Calls Tryd.prog 41 #[v] w fun e w' => e = .returned (.bool (decide (l.length ≤ 10) && allS l)) ∧ Below w.heap.size w w' := by
  obtain ⟨a, cap, rfl, h1, h2, h3⟩ := h.two
  clear h
  unfold maxLen at h2
  by_cases hbig : 10 < l.length
  · rw [decide_eq_false (by omega), Bool.false_and]
    go_enter Tryd.func41, Tryd.ntmps41
    go_wp2
    go_ret
    exact ⟨rfl, Below.refl _ _⟩
  · rw [decide_eq_true (by omega), Bool.true_and]
    have hbad := @allS_bad l
    have hone : allS (l.take l.length) = true → allS l = true := by rw [List.take_length]; exact id
    generalize hR : allS l = R at hbad hone ⊢
    have HB : Hid (∀ {k : Nat} (hlt : k < l.length), spB l[k] = false → R = false) := hbad
    have HO : Hid (allS (l.take l.length) = true → R = true) := hone
    clear hbad hone hR
    go_enter Tryd.func41, Tryd.ntmps41
    go_wp2
    go_loopw [10] (fun i wr => ∃ k : Nat, k ≤ l.length ∧ i = .int .i64 k ∧ Hid (Below w.heap.size w wr) ∧ Hid (allS (l.take k) = true)) (fun i _ => l.length - (intOf i).toNat)
    case atStart => exact ⟨0, Nat.zero_le _, rfl, Below.refl _ _, rfl⟩
    case round =>
      obtain ⟨k, hk, rfl, hb, ha⟩ := hrel
      by_cases hlt : k < l.length
      · obtain ⟨g1, o1, rfl, hg1, hc⟩ := h3 (by omega)
        have c1 := (hb.out.cell (p := ⟨g1, o1 + k * 2, Option.none⟩) hg1).trans (hc k hlt).1
        have c2 := (hb.out.cell (p := ⟨g1, o1 + k * 2 + 1, Option.none⟩) hg1).trans (hc k hlt).2
        have hnx := allS_next hlt
        have hbd := HB.out hlt
        have hsp := fun W => implSpn l[k] W
        unfold spV at hsp
        rw [ha.out, Bool.true_and] at hnx
        generalize l[k] = x at c1 c2 hnx hsp hbd
        obtain ⟨x1, x2⟩ := x
        simp only at c1 c2 hsp
        clear hc h3
        cases hsx : spB (x1, x2) with
        | false =>
          have HR : Hid (false = R) := (hbd hsx).symm
          rw [hsx] at hsp
          clear hbd hnx hsx
          go_wp2_with (go_at_call 32; refine (hsp _).mono ?_; rintro e w1 ⟨rfl, hg2⟩; have HG : Hid _ := hg2; clear hg2)
          go_ret
          refine ⟨ret_bool HR.out, ?_⟩
          refine Below.trans ?_ (HG.out.1.mono ?_)
          · repeat (first | exact hb.out | refine Below.alloc ?_ (by have := hb.out.size; simp <;> omega) _ | refine Below.setCell ?_ (by have := hb.out.size; simp <;> omega) _)
          · have := hb.out.size; simp <;> omega
        | true =>
          have HN : Hid (allS (l.take (k + 1)) = true) := hnx.trans hsx
          rw [hsx] at hsp
          clear hbd hnx hsx
          go_wp2_with (go_at_call 32; refine (hsp _).mono ?_; rintro e w1 ⟨rfl, hg2⟩; have HG : Hid _ := hg2; clear hg2)
          go_roundw
          case rel =>
            refine ⟨k + 1, by omega, by go_num, ?_, HN⟩
            refine Below.trans ?_ (HG.out.1.mono ?_)
            · repeat (first | exact hb.out | refine Below.alloc ?_ (by have := hb.out.size; simp <;> omega) _ | refine Below.setCell ?_ (by have := hb.out.size; simp <;> omega) _)
            · have := hb.out.size; simp <;> omega
          case measure => simp [intOf]; omega
      · obtain rfl : k = l.length := by omega
        have HR : Hid (true = R) := (HO.out ha.out).symm
        go_wp2
        go_ret
        exact ⟨ret_bool HR.out, hb.out⟩
set_option maxHeartbeats 1000000 in
theorem implCln (v : Value) (l : List Sp) (w : World) (h : Sls spnE w v l) (hl : l.length ≤ 10) :
    Calls Tryd.prog 59 #[v] w fun e w' => ∃ u, e = .returned u ∧ OwnsS8 w' w.heap.size u l ∧ Below w.heap.size w w' := by
  have q24 : ∀ (w : World) (a : Option Addr) (n c n' c' : Nat), (binOp .eql 26 (.slice a n c) (.slice Option.none n' c')).run Tryd.prog w = .ok (.bool a.isNone) w := fun w a n c n' c' => Lib.run_eql_slice_nil w _ _ a n c n' c' Tryd.underlying26
  obtain ⟨a, cap, rfl, h1, h2, h3⟩ := h
  cases a with
  | none =>
    have hl0 : l = [] := by
      rcases Nat.eq_zero_or_pos l.length with e | e
      · exact List.eq_nil_of_length_eq_zero e
      · obtain ⟨g, o, e2, _⟩ := h3 e; cases e2
    subst hl0
    clear h3
    go_enter Tryd.func59, Tryd.ntmps59
    go_wp2
    go_ret
    exact ⟨_, rfl, OwnsE.none _ _, Below.refl _ _⟩
  | some ad =>
    have hc : Hid (∀ W : World, (∀ k, k < w.heap.size → W.heap[k]? = w.heap[k]?) → ∀ j u, (cellsE spnE l)[j]? = some u → W.cell? (ad.add j) = some u) := fun W hW j u hu => by
      have hpos : 0 < l.length := by
        rcases Nat.eq_zero_or_pos l.length with e | e
        · rw [List.eq_nil_of_length_eq_zero e] at hu; simp [cellsE] at hu
        · exact e
      obtain ⟨g, o, e2, hg, hcell⟩ := h3 hpos
      cases e2
      rw [addr_add, ← hcell j u hu]
      simp only [World.cell?]
      rw [hW g hg]
    clear h3
    go_enter Tryd.func59, Tryd.ntmps59
    go_wp2_with (at_builtin; refine wpList_rowE (E := spnE) _ rfl (.tmp 5) (.tmp 6) 26 30 (.agg #[.int .i64 0, .int .i64 0]) 16 Tryd.underlying26 Tryd.infoSP rfl rfl w.heap.size _ [] (by simp [Act.eval]) (OwnsE.born w) ad cap l (by simp [Act.eval]) (hc.out _ (fun k hk => Below.heap_alloc w _ k hk)) (by simp only [List.length_nil]; unfold maxLen; omega) (by simp only [List.length_nil]; omega) (by simp) ?_; intro v6 w6 ho6 hg6 hn6; have O6 : Hid (OwnsS8 w6 w.heap.size v6 l) := ho6; have G6 : Hid _ := hg6; clear ho6 hg6 hn6)
    go_ret
    exact ⟨v6, rfl, O6.out, belowE ((Below.refl _ w).alloc (Nat.le_refl _) _) G6.out (by simp) (fun k hk => by simp [Value.ownBlock] at hk; omega)⟩
end Go.Proofs.YtamfgjgmnnnjpaaDoor
