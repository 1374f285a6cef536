/-
  The laws' helpers on Items.
-/
import Derived.Test.YtnnmbgenepfacaaRomT
import Derived.Laws.OwnMore
namespace Go.Proofs.Ytnnmbgenepfacaa
open Go.RowKit Go.Sort Rom
set_option linter.unusedVariables false
set_option linter.unusedSimpArgs false

theorem ownsI_at {w : World} {B g n cap : Nat} {l : List It} (h : OwnsI8 w B (.slice (some ⟨g, 0, Option.none⟩) n cap) l) (j : Nat) (hj : j < l.length) : w.cell? ⟨g, j * 2, Option.none⟩ = some (.string l[j].1) ∧ w.cell? ⟨g, j * 2 + 1, Option.none⟩ = some (.int .i64 l[j].2) :=
  ⟨h.at (i := 0) hj rfl, h.at (i := 1) hj rfl⟩
theorem hasI_at {w : World} {B g n cap : Nat} {l : List It} (h : HasI8 w B (.slice (some ⟨g, 0, Option.none⟩) n cap) l) (j : Nat) (hj : j < l.length) : w.cell? ⟨g, j * 2, Option.none⟩ = some (.string l[j].1) ∧ w.cell? ⟨g, j * 2 + 1, Option.none⟩ = some (.int .i64 l[j].2) :=
  ⟨h.at (i := 0) hj rfl, h.at (i := 1) hj rfl⟩
theorem ownsI_put {w : World} {B g n cap : Nat} {l : List It} (hn : n = l.length) (h : OwnsI8 w B (.slice (some ⟨g, 0, Option.none⟩) n cap) l) {j : Nat} (hj : j < l.length) (x : It) : OwnsI8 ((w.setCell ⟨g, j * 2, Option.none⟩ (.string x.1)).setCell ⟨g, j * 2 + 1, Option.none⟩ (.int .i64 x.2)) B (.slice (some ⟨g, 0, Option.none⟩) n cap) (l.set j x) := by
  have h1 := h.put hn hj (i := 0) (by decide) (.string x.1) (x.1, l[j].2) rfl
  have h2 := h1.put (by rw [List.length_set]; exact hn) (j := j) (by rw [List.length_set]; exact hj) (i := 1) (by decide) (.int .i64 x.2) x (by rw [List.getElem_set_self]; rfl)
  rw [List.set_set] at h2
  exact h2
theorem hasI_put {w : World} {B g n cap : Nat} {l : List It} (h : HasI8 w B (.slice (some ⟨g, 0, Option.none⟩) n cap) l) {j : Nat} (hj : j < l.length) (x : It) : HasI8 ((w.setCell ⟨g, j * 2, Option.none⟩ (.string x.1)).setCell ⟨g, j * 2 + 1, Option.none⟩ (.int .i64 x.2)) B (.slice (some ⟨g, 0, Option.none⟩) n cap) (l.set j x) := by
  have h1 := h.put hj (i := 0) (by decide) (.string x.1) (x.1, l[j].2) rfl
  have h2 := h1.put (j := j) (by rw [List.length_set]; exact hj) (i := 1) (by decide) (.int .i64 x.2) x (by rw [List.getElem_set_self]; rfl)
  rw [List.set_set] at h2
  exact h2

theorem toIt1 (x : It) (w : World) :
    Calls Try.prog 95 #[itV x] w fun e w' => e = .returned (itV x) ∧ Below w.heap.size w w' := by
  unfold itV
  go_enter Try.func95, Try.ntmps95
  go_wp2
  refine bodyPost_ret (v := .agg #[.string x.1, .int .i64 x.2]) (by simp [results, Try.results95, go_sem]) rfl ⟨rfl, ?_⟩
  repeat (first | exact Below.refl _ _ | refine Below.alloc ?_ (by simp <;> omega) _ | refine Below.setCell ?_ (by simp <;> omega) _)
theorem eqIt1 (x : It) (w : World) :
    Calls Try.prog 96 #[itV x, itV x] w fun e w' => e = .returned (.bool true) ∧ Grew w w' := by
  unfold itV
  go_enter Try.func96, Try.ntmps96
  go_wp2
  go_ret
  exact ⟨rfl, ((Grew.refl w).alloc _).alloc _⟩
theorem madeI (n : Nat) : (madeCells (Value.cells (.agg #[.string ⟨#[]⟩, .int .i64 0])) (n * 2)).toList = cellsE itE (List.replicate n (⟨#[]⟩, 0)) := by
  apply List.ext_getElem?
  intro j
  by_cases hj : j < n * 2
  · obtain ⟨c1, c2⟩ := cellsI_at (List.replicate n (⟨#[]⟩, 0)) (j / 2) (by simp; omega)
    have h2 : j = j / 2 * 2 ∨ j = j / 2 * 2 + 1 := by omega
    rcases h2 with h2 | h2
    · have e : (madeCells (Value.cells (.agg #[.string ⟨#[]⟩, .int .i64 0])) (n * 2)).toList[j]? = some (.string ⟨#[]⟩) := by
        have h3 : j % 2 = 0 := by omega
        simp [madeCells, hj, Value.cells, h3]
      rw [e]
      rw [h2, c1]; simp
    · have e : (madeCells (Value.cells (.agg #[.string ⟨#[]⟩, .int .i64 0])) (n * 2)).toList[j]? = some (.int .i64 0) := by
        have h3 : j % 2 = 1 := by omega
        simp [madeCells, hj, Value.cells, h3]
      rw [e]
      rw [h2, c2]; simp
  · rw [List.getElem?_eq_none (by simp [madeCells]; omega), List.getElem?_eq_none (by rw [cellsE_length]; show _ ≤ j; simp; show n * 2 ≤ j; omega)]
/-- Turned so far: the first k, and behind them zero ones. -/
def turnI (l : List It) (k : Nat) : List It := l.take k ++ List.replicate (l.length - k) (⟨#[]⟩, 0)
theorem turnI_length (l : List It) (k : Nat) (hk : k ≤ l.length) : (turnI l k).length = l.length := by unfold turnI; simp; omega
theorem turnI_zero (l : List It) : turnI l 0 = List.replicate l.length (⟨#[]⟩, 0) := by simp [turnI]
theorem turnI_all (l : List It) : turnI l l.length = l := by simp [turnI]
theorem turnI_next (l : List It) (k : Nat) (hk : k < l.length) : (turnI l k).set k l[k] = turnI l (k + 1) := by
  unfold turnI
  have e : (l.take k).length = k := by simp; omega
  rw [List.set_append_right _ _ (by omega), e, Nat.sub_self, List.take_succ_eq_append_getElem hk, List.append_assoc]
  congr 1
  rw [show l.length - k = (l.length - (k + 1)) + 1 from by omega, List.replicate_succ, List.set_cons_zero]
  rfl
set_option maxHeartbeats 400000 in
theorem toItS (v : Value) (l : List It) (w : World) (h : Sls itE w v l) (hl : l.length ≤ 1048576) :
    Calls Try.prog 78 #[v] w fun e w' => ∃ u, e = .returned u ∧ OwnsI8 w' w.heap.size u l ∧ Below w.heap.size w w' := by
  obtain ⟨a, cap, rfl, h1, h2, h3⟩ := h.itm
  clear h
  unfold maxLen at h2
  obtain ⟨i0, hi, hz0, hz1, hz2⟩ := info_parts Try.infoIT
  obtain ⟨w0, hrun, hown, hgr⟩ := run_make_full (P := Try.prog) w w.heap.size 32 47 i0 (.agg #[.string ⟨#[]⟩, .int .i64 0]) 2 Try.underlying32 hi hz0 hz1 .i64 .i64 l.length (by rw [hz2]; omega) (by unfold maxLen; omega) (Nat.le_refl _)
  rw [madeI, ← turnI_zero] at hown
  have hown0 : OwnsI8 w0 w.heap.size (.slice (some ⟨w.heap.size, 0, Option.none⟩) l.length l.length) (turnI l 0) := by
    show w0.ownsRow _ _ 2 _ _ _
    rw [turnI_length l 0 (Nat.zero_le _)]
    exact hown
  have hb0 : Below w.heap.size w w0 := (Below.refl _ w).grown hgr (Nat.le_refl _) (fun j hj => by cases hj)
  have hs0 : w.heap.size < w0.heap.size := hown0.under _ rfl
  clear hown hgr hi hz0 hz1 hz2
  go_enter Try.func78, Try.ntmps78
  go_wp2
  go_loopw [4] (fun i wr => ∃ k : Nat, k ≤ l.length ∧ i = .int .i64 k ∧ OwnsI8 wr w.heap.size (.slice (some ⟨w.heap.size, 0, Option.none⟩) l.length l.length) (turnI l k) ∧ Below w.heap.size w wr) (fun i _ => l.length - (intOf i).toNat)
  case atStart => exact ⟨0, Nat.zero_le _, rfl, hown0, hb0⟩
  case round =>
    clear hown0 hb0 hs0 hrun
    obtain ⟨k, hk, rfl, ho, hb⟩ := hrel
    by_cases hlt : k < l.length
    · obtain ⟨g, o, rfl, hg, hc⟩ := h3 (by omega)
      have c1 := (hb.cell (p := ⟨g, o + k * 2, Option.none⟩) hg).trans (hc k hlt).1
      have c2 := (hb.cell (p := ⟨g, o + k * 2 + 1, Option.none⟩) hg).trans (hc k hlt).2
      have hnx := turnI_next l k hlt
      have hln := turnI_length l k hk
      generalize l[k] = f at c1 c2 hnx
      generalize hl2 : turnI l (k + 1) = l2 at hnx
      generalize turnI l k = l1 at ho hnx hln
      have ht := fun W => toIt1 f W
      unfold itV at ht
      clear hc h3
      go_wp2_with (go_at_call 95; refine (ht _).mono ?_; rintro e w1 ⟨rfl, hb1⟩; have ho1 := ho.kept hb1; have f1 := ho1.free hln.symm (k * 2); have f2 := ho1.free hln.symm (k * 2 + 1); obtain ⟨d1, d2⟩ := ownsI_at ho1 k (by omega))
      have hp := ownsI_put hln.symm ho1 (j := k) (by omega) f
      rw [hnx] at hp
      go_roundw
      case rel => exact ⟨k + 1, by omega, by go_num, by rw [hl2]; exact hp, ((hb.trans (hb1.mono hb.size)).setCell (Nat.le_refl _) _).setCell (Nat.le_refl _) _⟩
      case measure => simp [intOf]; omega
    · obtain rfl : k = l.length := by omega
      rw [turnI_all] at ho
      go_wp2
      go_ret
      exact ⟨_, rfl, ho, hb⟩
set_option maxHeartbeats 400000 in
theorem eqItS (va vb : Value) (l : List It) (w : World) (ha : Sls itE w va l) (hb : Sls itE w vb l) (hl : l.length ≤ 1048576) :
    Calls Try.prog 79 #[va, vb] w fun e w' => e = .returned (.bool true) ∧ Grew w w' := by
  obtain ⟨a, ca, rfl, a1, a2, a3⟩ := ha.itm
  obtain ⟨b, cb, rfl, b1, b2, b3⟩ := hb.itm
  clear ha hb
  have hmx := mixed
  go_enter Try.func79, Try.ntmps79
  go_wp2
  go_loopw [5] (fun i wr => ∃ (k : Nat), k ≤ l.length ∧ i = .int .i64 k ∧ Grew w wr) (fun i _ => l.length - (intOf i).toNat)
  case atStart => exact ⟨0, Nat.zero_le _, rfl, Grew.refl _⟩
  case round =>
    obtain ⟨k, hk, rfl, hg⟩ := hrel
    by_cases hlt : k < l.length
    · obtain ⟨ga, oa, rfl, hga, hca⟩ := a3 (by omega)
      obtain ⟨gb, ob, rfl, hgb, hcb⟩ := b3 (by omega)
      have c1 := hg.cell (hca k hlt).1 hga
      have c2 := hg.cell (hca k hlt).2 hga
      have c3 := hg.cell (hcb k hlt).1 hgb
      have c4 := hg.cell (hcb k hlt).2 hgb
      have hsz := hg.1.size
      generalize l[k] = f at c1 c2 c3 c4
      have k1 : ∀ n os, (grow (wr.drewN n) os).cell? ⟨ga, oa + k * 2, Option.none⟩ = some (.string f.1) := fun n os => (cell?_grow _ _ _ (by show ga < wr.heap.size; omega)).trans c1
      have k2 : ∀ n os, (grow (wr.drewN n) os).cell? ⟨ga, oa + k * 2 + 1, Option.none⟩ = some (.int .i64 f.2) := fun n os => (cell?_grow _ _ _ (by show ga < wr.heap.size; omega)).trans c2
      have k3 : ∀ n os, (grow (wr.drewN n) os).cell? ⟨gb, ob + k * 2, Option.none⟩ = some (.string f.1) := fun n os => (cell?_grow _ _ _ (by show gb < wr.heap.size; omega)).trans c3
      have k4 : ∀ n os, (grow (wr.drewN n) os).cell? ⟨gb, ob + k * 2 + 1, Option.none⟩ = some (.int .i64 f.2) := fun n os => (cell?_grow _ _ _ (by show gb < wr.heap.size; omega)).trans c4
      have he := fun W => eqIt1 f W
      unfold itV at he
      clear c1 c2 c3 c4 a3 b3 hca hcb
      go_wp2
      go_quiet_grown ((go_at_call 96; refine callGrew (he _)))
      clear k1 k2 k3 k4
      have hg2 : Grew w (grow (wr.drewN nq) osq) := (hg.drewN _).more _
      generalize grow (wr.drewN nq) osq = w1 at hg2 ⊢
      go_wp2
      go_roundw
      case rel => exact ⟨k + 1, by omega, by go_num, hg2⟩
      case measure => simp [intOf]; omega
    · go_wp2
      go_ret
      exact ⟨rfl, hg⟩
end Go.Proofs.Ytnnmbgenepfacaa
