/-
  The specification's spans by their contracts: which are right, the greater of two numbers, Merged.
-/
import Derived.Test.YtamfgjgmnnnjpaaSpnM
namespace Go.Proofs.Ytamfgjgmnnnjpaa
open Go.RowKit Go.Sort
set_option linter.unusedVariables false

theorem specSpn (x : Sp) (w : World) : Calls Try.prog 28 #[spV x] w fun e w' => e = .returned (.bool (spB x)) ∧ Below w.heap.size w w' := by
  have B0 : Hid (Below w.heap.size w (w.alloc (.cells #[.int .i64 x.1, .int .i64 x.2] 30))) := (Below.refl _ w).alloc (Nat.le_refl _) _
  obtain ⟨a, b⟩ := x
  have HS : Hid (spB (a, b) = decide (0 ≤ a ∧ a ≤ b)) := rfl
  generalize spB (a, b) = S at HS ⊢
  unfold spV
  by_cases h1 : 0 ≤ a
  · by_cases h2 : a ≤ b
    · have H : Hid (true = S) := (HS.out.trans (decide_eq_true ⟨h1, h2⟩)).symm
      go_enter Try.func28, Try.ntmps28
      go_wp2
      go_ret
      exact ⟨ret_bool H.out, B0.out⟩
    · have H : Hid (false = S) := (HS.out.trans (decide_eq_false (fun h => h2 h.2))).symm
      go_enter Try.func28, Try.ntmps28
      go_wp2
      go_ret
      exact ⟨ret_bool H.out, B0.out⟩
  · have H : Hid (false = S) := (HS.out.trans (decide_eq_false (fun h => h1 h.1))).symm
    go_enter Try.func28, Try.ntmps28
    go_wp2
    go_ret
    exact ⟨ret_bool H.out, B0.out⟩
theorem specMaxI (a b : Int) (w : World) : Calls Try.prog 29 #[.int .i64 a, .int .i64 b] w fun e w' => e = .returned (.int .i64 (maxI a b)) ∧ w = w' := by
  unfold maxI
  by_cases h : b < a
  · rw [if_pos h]
    go_enter Try.func29, Try.ntmps29
    go_wp2
    go_ret
    exact ⟨rfl, rfl⟩
  · rw [if_neg h]
    go_enter Try.func29, Try.ntmps29
    go_wp2
    go_ret
    exact ⟨rfl, rfl⟩
/-- The elements from the k-th on, where such a slice begins. -/
theorem cutE8 {w : World} {B g n cap k : Nat} {l : List Sp} (h : OwnsS8 w B (.slice (some ⟨g, 0, Option.none⟩) n cap) l) (hn : n = l.length) (hk : k ≤ l.length) : ∃ A : Addr, (if cap = k then some (⟨g, 0, Option.none⟩ : Addr) else some ⟨g, k * 2, Option.none⟩) = some A ∧ ∀ x : World, x.heap[g]? = w.heap[g]? → ∀ j u, (cellsE spnE (l.drop k))[j]? = some u → x.cell? (A.add j) = some u := by
  subst hn
  obtain ⟨a, c, e, h1, _, _⟩ := h.form
  injection e with _ _ e3
  subst e3
  by_cases e : cap = k
  · refine ⟨⟨g, 0, Option.none⟩, by rw [if_pos e], fun x _ j u hu => ?_⟩
    rw [List.drop_of_length_le (by omega)] at hu
    simp [cellsE] at hu
  · refine ⟨⟨g, k * 2, Option.none⟩, by rw [if_neg e], fun x hx j u hu => ?_⟩
    rw [cellsE_drop spnE l k hk, List.getElem?_drop] at hu
    have k1 := World.ownsRow.cells h (g := g) rfl (k * 2 + j) u hu
    rw [addr_add] at k1 ⊢
    rw [Nat.zero_add] at k1
    rw [← k1]
    simp only [World.cell?]
    rw [hx]
theorem keepC {w w6 : World} {n b q : Nat} {j : Nat} {o : Obj} {u : Value} (hg : ((w.drewN n).alloc o).grownBy w6 (some q)) (h : w.cell? ⟨b, j, Option.none⟩ = some u) (hb : b < w.heap.size) (hne : b ≠ q) : w6.cell? ⟨b, j, Option.none⟩ = some u := by
  rw [← h]
  simp only [World.cell?]
  rw [hg.block b (by simp; omega) (fun e => hne (Option.some.inj e)), Below.heap_alloc (w.drewN n) o b hb]
  rfl
theorem ownsS_cells {w : World} {B g n cap : Nat} {l : List Sp} (h : OwnsS8 w B (.slice (some ⟨g, 0, Option.none⟩) n cap) l) : ∀ j u, (cellsE spnE l)[j]? = some u → w.cell? ((⟨g, 0, Option.none⟩ : Addr).add j) = some u := fun j u hu => World.ownsRow.cells h rfl j u hu
theorem keepO {w6 W w7 : World} {B g n cap : Nat} {l : List Sp} {o : Obj} {r : Option Nat} (h : OwnsS8 w6 B (.slice (some ⟨g, 0, Option.none⟩) n cap) l) (hg : W.grownBy w7 r) (hW : W.heap = (w6.alloc o).heap) (hne : r ≠ some g) :
    ∀ j u, (cellsE spnE l)[j]? = some u → w7.cell? ((⟨g, 0, Option.none⟩ : Addr).add j) = some u := fun j u hu => by
  have hlt := h.under g rfl
  have e : w7.heap[g]? = w6.heap[g]? := by
    rw [hg.block g (by rw [hW]; simp; omega) (fun e => hne e.symm), hW]
    exact Below.heap_alloc _ _ _ hlt
  have k1 := ownsS_cells h j u hu
  rw [addr_add] at k1 ⊢
  rw [← k1]
  simp only [World.cell?]
  rw [e]
theorem belowN {B n : Nat} {w w1 : World} (h : Below B w w1) : Below B w (w1.drewN n) := ⟨h.os, h.tape, h.output, h.size, h.block⟩
set_option maxHeartbeats 8000000 in
theorem specMg (v : Value) (l : List Sp) (w : World) (h : Sls spnE w v l) (hr : ∀ x ∈ l, InR x) :
    Calls Try.prog 11 #[v] w fun e w' => ∃ u, e = .returned u ∧ OwnsS8 w' w.heap.size u (mgd l) ∧ Below w.heap.size w w' := by
  obtain ⟨a, cap, rfl, h1, h2, h3⟩ := h.two
  clear h
  unfold maxLen at h2
  have hmx := mixed
  by_cases hbig : 10 < l.length
  · have HM : Hid (mgd l = []) := mgd_out (fun h => by omega)
    generalize mgd l = M at HM ⊢
    go_enter Try.func11, Try.ntmps11
    go_wp2
    go_ret
    exact ⟨_, rfl, by rw [HM.out]; exact OwnsE.born w, (Below.refl _ w).alloc (Nat.le_refl _) _⟩
  · go_enter Try.func11, Try.ntmps11
    go_wp2
    go_loopw [3, 4] (fun u i wr => ∃ (k : Nat), k ≤ l.length ∧ i = .int .i64 k ∧ Hid (OwnsS8 wr w.heap.size u (srtS (l.take k))) ∧ (∃ g c, u = .slice (some ⟨g, 0, Option.none⟩) k c ∧ g < wr.heap.size ∧ w.heap.size ≤ g) ∧ Hid (Below w.heap.size w wr) ∧ Hid (allS (l.take k) = true)) (fun _ i _ => l.length - (intOf i).toNat)
    case atStart => exact ⟨0, Nat.zero_le _, rfl, OwnsE.born w, ⟨_, _, rfl, by simp, Nat.le_refl _⟩, (Below.refl _ w).alloc (Nat.le_refl _) _, rfl⟩
    case round =>
      obtain ⟨k, hk, rfl, ho, ⟨g, c, rfl, hg, hg0⟩, hb, ha⟩ := hrel
      by_cases hlt : k < l.length
      · obtain ⟨g1, o1, rfl, hg1, hc⟩ := h3 (by omega)
        have c1 := (hb.out.cell (p := ⟨g1, o1 + k * 2, Option.none⟩) hg1).trans (hc k hlt).1
        have c2 := (hb.out.cell (p := ⟨g1, o1 + k * 2 + 1, Option.none⟩) hg1).trans (hc k hlt).2
        have hlen : (srtS (l.take k)).length = k := by rw [(srtS_perm _).length_eq, List.length_take]; omega
        have hnx : insS (srtS (l.take k)) l[k] = srtS (l.take (k + 1)) := by rw [List.take_succ_eq_append_getElem hlt, srtS_snoc]
        have hal : allS (l.take (k + 1)) = (allS (l.take k) && spB l[k]) := by unfold allS; rw [List.take_succ_eq_append_getElem hlt, List.all_append]; simp
        have hsp := fun W => specSpn l[k] W
        have hbad : spB l[k] = false → mgd l = [] := fun e => mgd_out (fun h => by have := List.all_eq_true.1 h.2 l[k] (List.getElem_mem hlt); rw [e] at this; cases this)
        unfold spV at hsp
        generalize l[k] = x at c1 c2 hnx hal hsp hbad
        generalize hN : srtS (l.take (k + 1)) = N at hnx
        generalize srtS (l.take k) = all at ho hlen hnx
        go_wp2_with fail
        refine (hsp _).mono ?_
        rintro e w1 ⟨rfl, hb1⟩
        have hB1 : Hid (Below w.heap.size w w1) := hb.out.trans (hb1.mono hb.out.size)
        have ho1 : Hid (OwnsS8 w1 w.heap.size (.slice (some ⟨g, 0, Option.none⟩) k c) all) := ho.out.kept hb1
        have hg2 : g < w1.heap.size := Nat.lt_of_lt_of_le hg hb1.size
        clear hsp
        cases hsx : spB x with
        | false =>
          have HM : Hid (mgd l = []) := hbad hsx
          clear hbad hsx hb1 ho hb ho1
          go_wp2
          go_ret
          exact ⟨_, rfl, by rw [HM.out]; exact (OwnsE.born w1).low hB1.out.size, hB1.out.alloc hB1.out.size _⟩
        | true =>
          have d1 : w1.cell? ⟨g1, o1 + k * 2, Option.none⟩ = some (.int .i64 x.1) := by
            refine (hb1.cell (p := ⟨g1, o1 + k * 2, Option.none⟩) ?_).trans c1
            exact Nat.lt_of_lt_of_le hg1 hb.out.size
          have d2 : w1.cell? ⟨g1, o1 + k * 2 + 1, Option.none⟩ = some (.int .i64 x.2) := by
            refine (hb1.cell (p := ⟨g1, o1 + k * 2 + 1, Option.none⟩) ?_).trans c2
            exact Nat.lt_of_lt_of_le hg1 hb.out.size
          have ha2 : Hid (allS (l.take (k + 1)) = true) := by show _ = _; rw [hal, ha.out, hsx]; rfl
          obtain ⟨w0, rfl⟩ : ∃ x, x = wr := ⟨wr, rfl⟩
          clear hbad hsx c1 c2 hb1 ho hb hal ha hg
          go_wp2
          go_loopw [5] (fun j wr => ∃ (i n : Nat), i ≤ k ∧ j = .int .i64 i ∧ wr = w1.drewN n ∧ Hid (∀ q (h : q < all.length), q < i → all[q].1 ≤ x.1)) (fun j _ => k - (intOf j).toNat)
          case atStart => exact ⟨0, 0, Nat.zero_le _, rfl, rfl, fun q h hq => by omega⟩
          case round =>
            obtain ⟨i, n, hi, rfl, rfl, hin⟩ := hrel
            by_cases hil : i < k
            · have e1 := (ownsS_at ho1.out i (by omega)).1
              by_cases hle : (all[i]'(by omega)).1 ≤ x.1
              · have hin2 : Hid (∀ q (h : q < all.length), q < i + 1 → all[q].1 ≤ x.1) := fun q h hq => by
                  rcases Nat.lt_or_ge q i with h' | h'
                  · exact hin.out q h h'
                  · have : q = i := by omega
                    subst this; exact hle
                generalize (all[i]'(by omega)).1 = y at e1 hle
                have dl : decide (y ≤ x.1) = true := decide_eq_true hle
                go_wp2
                go_quiet (fail)
                go_wp2
                go_roundw
                case rel => exact ⟨i + 1, _, by omega, by go_num, by rfl, hin2⟩
                case measure => simp [intOf]; omega
              · have hup : Hid (upto x.1 all = i) := upto_is (by omega) hin.out (fun h => by omega)
                generalize (all[i]'(by omega)).1 = y at e1 hle
                have dl : decide (y ≤ x.1) = false := decide_eq_false hle
                obtain ⟨A, hA, hAn⟩ := cutE8 ho1.out hlen.symm (k := i) (by omega)
                have hAH : Hid _ := hAn
                have hic : i ≤ c := by obtain ⟨_, _, e, h4, _⟩ := ho1.out.form; injection e with _ _ e3; omega
                have hm : (all.drop i).length = k - i := by rw [List.length_drop, hlen]
                have ht : (all.take i).length = i := by rw [List.length_take, hlen]; omega
                have hkl : k ≤ 10 := by omega
                clear hAn hin
                go_wp2
                go_quiet (fail)
                go_wp2_with (at_builtin; refine wpList_rowE (E := spnE) _ rfl (.tmp 47) (.tmp 50) 24 30 (.agg #[.int .i64 0, .int .i64 0]) 16 Try.underlying24 Try.infoSP rfl rfl w1.heap.size _ [] (by simp [Act.eval]) (OwnsE.born (w1.drewN _)) A (c - i) (all.drop i) (by simp [Act.eval, hm]) (hAH.out _ (Below.heap_alloc (w1.drewN _) _ g hg2)) (by rw [hm]; simp only [List.length_nil]; unfold maxLen; omega) (by rw [hm]; simp only [List.length_nil]; omega) (by simp) ?_; intro v6 w6 ho6 hg6 hn6; have N6 : Hid (v6 ≠ .slice Option.none 0 0) := fun e => (by simpa using hn6.1 e); clear hn6; have O6 : Hid (OwnsS8 w6 w1.heap.size v6 (all.drop i)) := ho6; have G6 : Hid _ := hg6; clear ho6 hg6)
                have hw1 := hB1.out.size
                have hz6 : w1.heap.size < w6.heap.size := by have := G6.out.size; simp at this; omega
                have L6 : Hid (OwnsS8 w6 w.heap.size (.slice (some ⟨g, 0, Option.none⟩) i c) (all.take i)) := by
                  refine OwnsE.less hlen.symm ?_ i (by omega)
                  exact ((ho1.out.drewN _).alloc _).grown G6.out (fun q hq e => by simp [Value.ownBlock] at hq e; omega)
                have b6 : Hid (Below w.heap.size w w6) := belowE ((belowN hB1.out).alloc hw1 _) G6.out (by simp; omega) (fun q hq => by simp [Value.ownBlock] at hq; omega)
                have d6 : w6.cell? ⟨g1, o1 + k * 2, Option.none⟩ = some (.int .i64 x.1) := keepC G6.out d1 (show g1 < w1.heap.size by omega) (Nat.ne_of_lt (show g1 < w1.heap.size by omega))
                have d7 : w6.cell? ⟨g1, o1 + k * 2 + 1, Option.none⟩ = some (.int .i64 x.2) := keepC G6.out d2 (show g1 < w1.heap.size by omega) (Nat.ne_of_lt (show g1 < w1.heap.size by omega))
                obtain ⟨a6, c6, rfl, hl6, hm6, hf6⟩ := O6.out.form
                obtain ⟨g6, rfl⟩ : ∃ g6, a6 = some ⟨g6, 0, Option.none⟩ := by
                  rcases hf6 with ⟨rfl, rfl⟩ | hf6
                  · exact absurd (by rw [show (all.drop i).length = 0 by omega]) N6.out
                  · exact hf6
                have hg6 : w1.heap.size ≤ g6 := O6.out.from g6 rfl
                clear hf6 N6 d1 d2
                go_wp2_with fail
                go_region_law (first | (refine step_rowE (E := spnE) rfl (.tmp 54) (.tmp 59) 24 30 (.agg #[.int .i64 0, .int .i64 0]) 16 Try.underlying24 Try.infoSP rfl rfl w.heap.size (.slice (some ⟨g, 0, Option.none⟩) i c) (all.take i) (by simp [Act.eval]) (L6.out.alloc _) ⟨w6.heap.size, 0, Option.none⟩ 1 [x] (by simp [Act.eval]) (fresh_cell w6 x #[.int .i64 x.1, .int .i64 x.2] 30 rfl) (by rw [ht]; simp only [List.length_singleton]; unfold maxLen; omega) (by rw [ht]; simp only [List.length_singleton]; omega) (by simp; omega) ?_; intro v7 w7 ho7 hg7 hn7) | (refine step_rowE (E := spnE) rfl (.tmp 60) (.tmp 61) 24 30 (.agg #[.int .i64 0, .int .i64 0]) 16 Try.underlying24 Try.infoSP rfl rfl w.heap.size v7 (all.take i ++ [x]) (by simp [Act.eval]) ho7 ⟨g6, 0, Option.none⟩ c6 (all.drop i) (by simp [Act.eval, hlen]) (keepO O6.out hg7 rfl (fun e => by simp [Value.ownBlock] at e; omega)) (by rw [List.length_append, ht, hm]; simp only [List.length_singleton]; unfold maxLen; omega) (by rw [List.length_append, ht, hm]; simp only [List.length_singleton]; omega) (by have := hg7.size; simp at this; omega) ?_; intro v8 w8 ho8 hg8 hn8))
                have b7 : Below w.heap.size w w7 := by
                  refine belowE ?_ hg7 (by simp; omega) (fun q hq => by simp [Value.ownBlock] at hq; omega)
                  exact ⟨b6.out.os, b6.out.tape, b6.out.output, Nat.le_trans b6.out.size (by simp), fun q hq => (Below.heap_alloc w6 _ q (by omega)).trans (b6.out.block q hq)⟩
                have b8 : Hid (Below w.heap.size w w8) := belowE b7 hg8 b7.size ho7.from
                have n8 : v8 ≠ .slice Option.none 0 0 := fun e => by
                  have := (hn7.1 (hn8.1 e).1).1
                  cases this
                have eN : all.take i ++ [x] ++ all.drop i = N := by rw [← hnx]; unfold insS; rw [hup.out]
                rw [eN] at ho8
                have hNl : N.length = k + 1 := by rw [← hN, (srtS_perm _).length_eq, List.length_take]; omega
                obtain ⟨a8, c8, rfl, hl8, hm8, hf8⟩ := ho8.form
                rw [hNl] at ho8 n8 ⊢
                obtain ⟨g8, rfl⟩ : ∃ g8, a8 = some ⟨g8, 0, Option.none⟩ := by
                  rcases hf8 with ⟨rfl, rfl⟩ | hf8
                  · omega
                  · exact hf8
                have hg8' := ho8.under g8 rfl
                have hg8'' := ho8.from g8 rfl
                have H8 : Hid (OwnsS8 w8 w.heap.size (.slice (some ⟨g8, 0, Option.none⟩) (k + 1) c8) N) := ho8
                clear ho8 hg8 hn8 ho7 hg7 hn7 b7 n8 hf8 L6 O6 G6 d6 d7 hA hAH
                go_wp2
                go_roundw
                case rel => exact ⟨k + 1, by omega, by go_num, by rw [hN]; exact H8, ⟨g8, c8, by simp, hg8', hg8''⟩, b8, ha2⟩
                case measure => simp [intOf]; omega
            · have hup : Hid (upto x.1 all = i) := upto_is (by omega) hin.out (fun h => by omega)

              obtain ⟨A, hA, hAn⟩ := cutE8 ho1.out hlen.symm (k := i) (by omega)
              have hAH : Hid _ := hAn
              have hic : i ≤ c := by obtain ⟨_, _, e, h4, _⟩ := ho1.out.form; injection e with _ _ e3; omega
              have hm : (all.drop i).length = k - i := by rw [List.length_drop, hlen]
              have ht : (all.take i).length = i := by rw [List.length_take, hlen]; omega
              have hkl : k ≤ 10 := by omega
              clear hAn hin
              go_wp2
              go_quiet (fail)
              go_wp2_with (at_builtin; refine wpList_rowE (E := spnE) _ rfl (.tmp 47) (.tmp 50) 24 30 (.agg #[.int .i64 0, .int .i64 0]) 16 Try.underlying24 Try.infoSP rfl rfl w1.heap.size _ [] (by simp [Act.eval]) (OwnsE.born (w1.drewN _)) A (c - i) (all.drop i) (by simp [Act.eval, hm]) (hAH.out _ (Below.heap_alloc (w1.drewN _) _ g hg2)) (by rw [hm]; simp only [List.length_nil]; unfold maxLen; omega) (by rw [hm]; simp only [List.length_nil]; omega) (by simp) ?_; intro v6 w6 ho6 hg6 hn6; have N6 : Hid (v6 ≠ .slice Option.none 0 0) := fun e => (by simpa using hn6.1 e); clear hn6; have O6 : Hid (OwnsS8 w6 w1.heap.size v6 (all.drop i)) := ho6; have G6 : Hid _ := hg6; clear ho6 hg6)
              have hw1 := hB1.out.size
              have hz6 : w1.heap.size < w6.heap.size := by have := G6.out.size; simp at this; omega
              have L6 : Hid (OwnsS8 w6 w.heap.size (.slice (some ⟨g, 0, Option.none⟩) i c) (all.take i)) := by
                refine OwnsE.less hlen.symm ?_ i (by omega)
                exact ((ho1.out.drewN _).alloc _).grown G6.out (fun q hq e => by simp [Value.ownBlock] at hq e; omega)
              have b6 : Hid (Below w.heap.size w w6) := belowE ((belowN hB1.out).alloc hw1 _) G6.out (by simp; omega) (fun q hq => by simp [Value.ownBlock] at hq; omega)
              have d6 : w6.cell? ⟨g1, o1 + k * 2, Option.none⟩ = some (.int .i64 x.1) := keepC G6.out d1 (show g1 < w1.heap.size by omega) (Nat.ne_of_lt (show g1 < w1.heap.size by omega))
              have d7 : w6.cell? ⟨g1, o1 + k * 2 + 1, Option.none⟩ = some (.int .i64 x.2) := keepC G6.out d2 (show g1 < w1.heap.size by omega) (Nat.ne_of_lt (show g1 < w1.heap.size by omega))
              obtain ⟨a6, c6, rfl, hl6, hm6, hf6⟩ := O6.out.form
              obtain ⟨g6, rfl⟩ : ∃ g6, a6 = some ⟨g6, 0, Option.none⟩ := by
                rcases hf6 with ⟨rfl, rfl⟩ | hf6
                · exact absurd (by rw [show (all.drop i).length = 0 by omega]) N6.out
                · exact hf6
              have hg6 : w1.heap.size ≤ g6 := O6.out.from g6 rfl
              clear hf6 N6 d1 d2
              go_wp2_with fail
              go_region_law (first | (refine step_rowE (E := spnE) rfl (.tmp 54) (.tmp 59) 24 30 (.agg #[.int .i64 0, .int .i64 0]) 16 Try.underlying24 Try.infoSP rfl rfl w.heap.size (.slice (some ⟨g, 0, Option.none⟩) i c) (all.take i) (by simp [Act.eval]) (L6.out.alloc _) ⟨w6.heap.size, 0, Option.none⟩ 1 [x] (by simp [Act.eval]) (fresh_cell w6 x #[.int .i64 x.1, .int .i64 x.2] 30 rfl) (by rw [ht]; simp only [List.length_singleton]; unfold maxLen; omega) (by rw [ht]; simp only [List.length_singleton]; omega) (by simp; omega) ?_; intro v7 w7 ho7 hg7 hn7) | (refine step_rowE (E := spnE) rfl (.tmp 60) (.tmp 61) 24 30 (.agg #[.int .i64 0, .int .i64 0]) 16 Try.underlying24 Try.infoSP rfl rfl w.heap.size v7 (all.take i ++ [x]) (by simp [Act.eval]) ho7 ⟨g6, 0, Option.none⟩ c6 (all.drop i) (by simp [Act.eval, hlen]) (keepO O6.out hg7 rfl (fun e => by simp [Value.ownBlock] at e; omega)) (by rw [List.length_append, ht, hm]; simp only [List.length_singleton]; unfold maxLen; omega) (by rw [List.length_append, ht, hm]; simp only [List.length_singleton]; omega) (by have := hg7.size; simp at this; omega) ?_; intro v8 w8 ho8 hg8 hn8))
              have b7 : Below w.heap.size w w7 := by
                refine belowE ?_ hg7 (by simp; omega) (fun q hq => by simp [Value.ownBlock] at hq; omega)
                exact ⟨b6.out.os, b6.out.tape, b6.out.output, Nat.le_trans b6.out.size (by simp), fun q hq => (Below.heap_alloc w6 _ q (by omega)).trans (b6.out.block q hq)⟩
              have b8 : Hid (Below w.heap.size w w8) := belowE b7 hg8 b7.size ho7.from
              have n8 : v8 ≠ .slice Option.none 0 0 := fun e => by
                have := (hn7.1 (hn8.1 e).1).1
                cases this
              have eN : all.take i ++ [x] ++ all.drop i = N := by rw [← hnx]; unfold insS; rw [hup.out]
              rw [eN] at ho8
              have hNl : N.length = k + 1 := by rw [← hN, (srtS_perm _).length_eq, List.length_take]; omega
              obtain ⟨a8, c8, rfl, hl8, hm8, hf8⟩ := ho8.form
              rw [hNl] at ho8 n8 ⊢
              obtain ⟨g8, rfl⟩ : ∃ g8, a8 = some ⟨g8, 0, Option.none⟩ := by
                rcases hf8 with ⟨rfl, rfl⟩ | hf8
                · omega
                · exact hf8
              have hg8' := ho8.under g8 rfl
              have hg8'' := ho8.from g8 rfl
              have H8 : Hid (OwnsS8 w8 w.heap.size (.slice (some ⟨g8, 0, Option.none⟩) (k + 1) c8) N) := ho8
              clear ho8 hg8 hn8 ho7 hg7 hn7 b7 n8 hf8 L6 O6 G6 d6 d7 hA hAH
              go_wp2
              go_roundw
              case rel => exact ⟨k + 1, by omega, by go_num, by rw [hN]; exact H8, ⟨g8, c8, by simp, hg8', hg8''⟩, b8, ha2⟩
              case measure => simp [intOf]; omega
      · obtain rfl : k = l.length := by omega
        rw [List.take_length] at ho ha
        have HM : Hid (mgd l = mrgL (srtS l)) := mgd_in (by omega) ha.out
        have hlen : (srtS l).length = l.length := (srtS_perm _).length_eq
        have hsr : ∀ x ∈ srtS l, 0 ≤ x.1 ∧ InR x := fun x hx => ⟨(allS_iff.1 ha.out x ((srtS_perm l).mem_iff.1 hx)).1, hr x ((srtS_perm l).mem_iff.1 hx)⟩
        have HS : Hid (∀ x ∈ srtS l, 0 ≤ x.1 ∧ InR x) := hsr
        obtain ⟨w2, rfl⟩ : ∃ x, x = wr := ⟨wr, rfl⟩
        have hw2 := hb.out.size
        generalize srtS l = all at ho HM hlen HS
        clear ha hsr hr h3
        go_wp2
        go_loopw [7, 8] (fun u i wr => ∃ (j : Nat) (out : List Sp), j ≤ l.length ∧ i = .int .i64 j ∧ Hid (mrgL (all.take j) = out) ∧ out.length ≤ j ∧ Hid (OwnsS8 wr w2.heap.size u out) ∧ (∃ gg cc, u = .slice (some ⟨gg, 0, Option.none⟩) out.length cc ∧ gg < wr.heap.size ∧ w2.heap.size ≤ gg) ∧ Hid (OwnsS8 wr w.heap.size (.slice (some ⟨g, 0, Option.none⟩) l.length c) all) ∧ Hid (Below w.heap.size w wr) ∧ Hid (w2.heap.size ≤ wr.heap.size)) (fun _ i _ => l.length - (intOf i).toNat)
        case atStart => exact ⟨0, [], Nat.zero_le _, rfl, rfl, Nat.le_refl _, OwnsE.born w2, ⟨_, _, rfl, by simp, Nat.le_refl _⟩, ho.out.alloc _, hb.out.alloc hw2 _, by show _ ≤ _; simp⟩
        case round =>
          clear ho hb
          obtain ⟨j, out, hj, rfl, hout, hol, ho2, ⟨gg, cc, rfl, hgg, hgg0⟩, hoa, hb, hsz⟩ := hrel
          by_cases hlt : j < l.length
          · obtain ⟨e1, e2⟩ := ownsS_at hoa.out j (by omega)
            obtain ⟨hx0, ⟨hx1, hx2⟩, hx3, hx4⟩ := HS.out (all[j]'(by omega)) (List.getElem_mem _)
            have hnx : mrgL (all.take (j + 1)) = mrgS out (all[j]'(by omega)) := by rw [List.take_succ_eq_append_getElem (by omega), mrgL_snoc, hout.out]
            have HN : Hid _ := hnx
            generalize (all[j]'(by omega)) = x at e1 e2 hx0 hx1 hx2 hx3 hx4 HN
            clear hnx
            rcases List.eq_nil_or_concat out with rfl | ⟨o, y, rfl⟩
            · have HN2 : Hid (mrgL (all.take (j + 1)) = [] ++ [x]) := HN.out
              clear HN
              simp only [List.length_nil] at *
              go_wp2
              go_quiet (fail)
              go_wp2_with (at_builtin; refine wpList_rowE (E := spnE) _ rfl (.tmp 106) (.tmp 111) 24 30 (.agg #[.int .i64 0, .int .i64 0]) 16 Try.underlying24 Try.infoSP rfl rfl w2.heap.size _ [] (by simp [Act.eval]) ((ho2.out.drewN _).alloc _) ⟨wr.heap.size, 0, Option.none⟩ 1 [x] (by simp [Act.eval]) (fresh_cell (wr.drewN _) x #[.int .i64 x.1, .int .i64 x.2] 30 rfl) (by simp only [List.length_nil, List.length_singleton]; unfold maxLen; omega) (by simp only [List.length_nil, List.length_singleton]; omega) (by have := hsz.out; simp; omega) ?_; intro v6 w6 ho6 hg6 hn6; have N6 : Hid (v6 ≠ .slice Option.none 0 0) := fun e => (by simpa using hn6.1 e); have O6 : Hid (OwnsS8 w6 w2.heap.size v6 ([] ++ [x])) := ho6; have G6 : Hid _ := hg6; clear ho6 hg6 hn6)
              have hA6 : Hid (OwnsS8 w6 w.heap.size (.slice (some ⟨g, 0, Option.none⟩) l.length c) all) := ((hoa.out.drewN _).alloc _).grown G6.out (fun q hq e => by simp [Value.ownBlock] at hq e; omega)
              have b6 : Hid (Below w.heap.size w w6) := belowE ((belowN hb.out).alloc hb.out.size _) G6.out (by have := hb.out.size; simp; omega) (fun q hq => by simp [Value.ownBlock] at hq; omega)
              have z6 : Hid (w2.heap.size ≤ w6.heap.size) := by have := G6.out.size; have := hsz.out; simp at *; show _ ≤ _; omega
              obtain ⟨a6, c6, rfl, hl6, hm6, hf6⟩ := O6.out.form
              obtain ⟨g6, rfl⟩ : ∃ g6, a6 = some ⟨g6, 0, Option.none⟩ := by
                rcases hf6 with ⟨rfl, rfl⟩ | hf6
                · exact absurd hl6 (by simp)
                · exact hf6
              have hg6 := O6.out.from g6 rfl
              have hg6' := O6.out.under g6 rfl
              clear hf6 N6 G6
              go_roundw
              case rel => exact ⟨j + 1, _, by omega, by go_num, HN2, by simp <;> omega, O6, ⟨g6, c6, rfl, hg6', hg6⟩, hA6, b6, z6⟩
              case measure => simp [intOf]; omega
            · rw [List.concat_eq_append] at *
              have hol2 : o.length + 1 ≤ j := by simpa using hol
              have hol3 : (o ++ [y]).length = o.length + 1 := by simp
              have f1 := ownsS_at ho2.out o.length (by omega)
              have f2 := ho2.out.free rfl (o.length * 2 + 1)
              simp only [List.getElem_concat_length] at f1
              obtain ⟨f3, f4⟩ := f1
              rw [mrgS_snoc] at HN
              have ex : IntKind.i64.wrap (x.1 - 1) = x.1 - 1 := by rw [IntKind.wrap_i64]; omega
              by_cases hle : x.1 - 1 ≤ y.2
              · rw [if_pos hle] at HN
                have HN2 : Hid (mrgL (all.take (j + 1)) = o ++ [(y.1, maxI y.2 x.2)]) := HN.out
                have dl : decide (x.1 - 1 ≤ y.2) = true := decide_eq_true hle
                have hput : Hid (∀ W : World, OwnsS8 W w2.heap.size (.slice (some ⟨gg, 0, Option.none⟩) (o ++ [y]).length cc) (o ++ [y]) → OwnsS8 (W.setCell ⟨gg, o.length * 2 + 1, Option.none⟩ (.int .i64 (maxI y.2 x.2))) w2.heap.size (.slice (some ⟨gg, 0, Option.none⟩) (o ++ [y]).length cc) (o ++ [(y.1, maxI y.2 x.2)])) := fun W hW => by
                  have := ownsS_put2 rfl hW (j := o.length) (by omega) (maxI y.2 x.2)
                  simpa [List.set_append_right] using this
                have hmax := fun W => specMaxI y.2 x.2 W
                generalize maxI y.2 x.2 = mx at HN2 hput hmax
                clear HN
                rw [hol3] at ho2 hput
                have en : IntKind.i64.wrap (o.length : Int) = (o.length : Int) := by rw [IntKind.wrap_i64]; omega
                have en2 : (o.length : Int) < (o.length : Int) + 1 := by omega
                go_wp2
                go_quiet (fail)
                go_wp2_with fail
                go_region_law (go_simp; go_at_call 29; refine (hmax _).mono ?_; rintro e w5 ⟨rfl, rfl⟩)
                all_goals
                  have hgo : g ≠ gg := by omega
                  go_wp2
                  go_roundw
                  case rel => exact ⟨j + 1, o ++ [(y.1, mx)], by omega, by go_num, HN2, by simp <;> omega, hput.out _ (ho2.out.drewN _), ⟨gg, cc, by simp, by simpa [World.setCell] using hgg, hgg0⟩, (hoa.out.drewN _).other _ _ (fun q hq => by simp [Value.ownBlock] at hq; show q ≠ gg; omega), (belowN hb.out).setCell (show w.heap.size ≤ gg by omega) _, by have := hsz.out; show _ ≤ _; simpa [World.setCell] using this⟩
                  case measure => simp [intOf]; omega
              · rw [if_neg hle] at HN
                have HN2 : Hid (mrgL (all.take (j + 1)) = o ++ [y] ++ [x]) := HN.out
                have dl : decide (x.1 - 1 ≤ y.2) = false := decide_eq_false hle
                clear HN
                generalize hO : o ++ [y] = O at ho2 hol3 HN2
                rw [hol3] at ho2
                go_wp2
                go_quiet (fail)
                go_wp2_with (at_builtin; refine wpList_rowE (E := spnE) _ rfl (.tmp 106) (.tmp 111) 24 30 (.agg #[.int .i64 0, .int .i64 0]) 16 Try.underlying24 Try.infoSP rfl rfl w2.heap.size _ O (by simp [Act.eval]) ((ho2.out.drewN _).alloc _) ⟨wr.heap.size, 0, Option.none⟩ 1 [x] (by simp [Act.eval]) (fresh_cell (wr.drewN _) x #[.int .i64 x.1, .int .i64 x.2] 30 rfl) (by rw [hol3]; simp only [List.length_singleton]; unfold maxLen; omega) (by rw [hol3]; simp only [List.length_singleton]; omega) (by have := hsz.out; simp; omega) ?_; intro v6 w6 ho6 hg6 hn6; have N6 : Hid (v6 ≠ .slice Option.none 0 0) := fun e => (by simpa using hn6.1 e); have O6 : Hid (OwnsS8 w6 w2.heap.size v6 (O ++ [x])) := ho6; have G6 : Hid _ := hg6; clear ho6 hg6 hn6)
                have hA6 : Hid (OwnsS8 w6 w.heap.size (.slice (some ⟨g, 0, Option.none⟩) l.length c) all) := ((hoa.out.drewN _).alloc _).grown G6.out (fun q hq e => by simp [Value.ownBlock] at hq e; omega)
                have b6 : Hid (Below w.heap.size w w6) := belowE ((belowN hb.out).alloc hb.out.size _) G6.out (by have := hb.out.size; simp; omega) (fun q hq => by simp [Value.ownBlock] at hq; omega)
                have z6 : Hid (w2.heap.size ≤ w6.heap.size) := by have := G6.out.size; have := hsz.out; simp at *; show _ ≤ _; omega
                obtain ⟨a6, c6, rfl, hl6, hm6, hf6⟩ := O6.out.form
                obtain ⟨g6, rfl⟩ : ∃ g6, a6 = some ⟨g6, 0, Option.none⟩ := by
                  rcases hf6 with ⟨rfl, rfl⟩ | hf6
                  · exact absurd hl6 (by simp)
                  · exact hf6
                have hg6 := O6.out.from g6 rfl
                have hg6' := O6.out.under g6 rfl
                clear hf6 N6 G6
                go_roundw
                case rel => exact ⟨j + 1, _, by omega, by go_num, HN2, by simp <;> omega, O6, ⟨g6, c6, rfl, hg6', hg6⟩, hA6, b6, z6⟩
                case measure => simp [intOf]; omega
          · obtain rfl : j = l.length := by omega
            have HU : Hid (out = mgd l) := by show _ = _; rw [HM.out, ← hout.out, List.take_of_length_le (by omega)]
            have O9 : Hid (OwnsS8 wr w.heap.size (.slice (some ⟨gg, 0, Option.none⟩) out.length cc) (mgd l)) := by show OwnsS8 _ _ _ _; rw [← HU.out]; exact ho2.out.low hw2
            clear ho2 hoa hout HS
            go_wp2
            go_ret
            exact ⟨.slice (some ⟨gg, 0, Option.none⟩) out.length cc, rfl, O9.out, hb.out⟩
end Go.Proofs.Ytamfgjgmnnnjpaa
