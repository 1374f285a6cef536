/-
  Spans in memory, and the laws' own helpers on them.
-/
import Derived.Test.YtamfgjgmnnnjpaaDoorRowE
import Derived.Test.YtamfgjgmnnnjpaaDoorSpnP
import Derived.Test.YtamfgjgmnnnjpaaDoorGrew
import Derived.Laws.OwnMore
namespace Go.Proofs.YtamfgjgmnnnjpaaDoor
open Go.RowKit Go.Sort
set_option linter.unusedVariables false

def spnE : Enc Sp where
  k := 2
  pos := by decide
  c := fun x => [.int .i64 x.1, .int .i64 x.2]
  len := fun _ => rfl
  one := fun x u hu => by simp at hu; rcases hu with rfl | rfl <;> rfl
theorem Tryd.infoSP : (Tryd.prog.info? 30).map (fun i => (i.zero, i.size, i.bytes)) = some (some (.agg #[.int .i64 0, .int .i64 0]), 2, 16) := by kernel_rfl
def spV (x : Sp) : Value := .agg #[.int .i64 x.1, .int .i64 x.2]
/-- Both ends are int64. -/
def InR (x : Sp) : Prop := (-9223372036854775808 ≤ x.1 ∧ x.1 ≤ 9223372036854775807) ∧ -9223372036854775808 ≤ x.2 ∧ x.2 ≤ 9223372036854775807
theorem cellsS_at (l : List Sp) (j : Nat) (hj : j < l.length) : (cellsE spnE l)[j * 2]? = some (.int .i64 l[j].1) ∧ (cellsE spnE l)[j * 2 + 1]? = some (.int .i64 l[j].2) :=
  ⟨cellsE_at spnE l j hj 0 (by decide), cellsE_at spnE l j hj 1 (by decide)⟩
theorem Sls.two {w : World} {v : Value} {l : List Sp} (h : Sls spnE w v l) : ∃ a cap, v = .slice a l.length cap ∧ l.length ≤ cap ∧ cap ≤ maxLen ∧ (0 < l.length → ∃ g o, a = some ⟨g, o, Option.none⟩ ∧ g < w.heap.size ∧
    ∀ j (hj : j < l.length), w.cell? ⟨g, o + j * 2, Option.none⟩ = some (.int .i64 l[j].1) ∧ w.cell? ⟨g, o + j * 2 + 1, Option.none⟩ = some (.int .i64 l[j].2)) := by
  obtain ⟨a, cap, rfl, h1, h2, h3⟩ := h
  refine ⟨a, cap, rfl, h1, h2, fun h0 => ?_⟩
  obtain ⟨g, o, rfl, hg, hc⟩ := h3 h0
  exact ⟨g, o, rfl, hg, fun j hj => ⟨hc (j * 2) _ (cellsS_at l j hj).1, by rw [Nat.add_assoc]; exact hc (j * 2 + 1) _ (cellsS_at l j hj).2⟩⟩
abbrev OwnsS8 := OwnsE spnE 30
abbrev HasS8 := HasE spnE 30
theorem ownsS_at {w : World} {B g n cap : Nat} {l : List Sp} (h : OwnsS8 w B (.slice (some ⟨g, 0, Option.none⟩) n cap) l) (j : Nat) (hj : j < l.length) : w.cell? ⟨g, j * 2, Option.none⟩ = some (.int .i64 l[j].1) ∧ w.cell? ⟨g, j * 2 + 1, Option.none⟩ = some (.int .i64 l[j].2) :=
  ⟨h.at (i := 0) hj rfl, h.at (i := 1) hj rfl⟩
theorem hasS_at {w : World} {B g n cap : Nat} {l : List Sp} (h : HasS8 w B (.slice (some ⟨g, 0, Option.none⟩) n cap) l) (j : Nat) (hj : j < l.length) : w.cell? ⟨g, j * 2, Option.none⟩ = some (.int .i64 l[j].1) ∧ w.cell? ⟨g, j * 2 + 1, Option.none⟩ = some (.int .i64 l[j].2) :=
  ⟨h.at (i := 0) hj rfl, h.at (i := 1) hj rfl⟩
theorem ownsS_put {w : World} {B g n cap : Nat} {l : List Sp} (hn : n = l.length) (h : OwnsS8 w B (.slice (some ⟨g, 0, Option.none⟩) n cap) l) {j : Nat} (hj : j < l.length) (x : Sp) : OwnsS8 ((w.setCell ⟨g, j * 2, Option.none⟩ (.int .i64 x.1)).setCell ⟨g, j * 2 + 1, Option.none⟩ (.int .i64 x.2)) B (.slice (some ⟨g, 0, Option.none⟩) n cap) (l.set j x) := by
  have h1 := h.put hn hj (i := 0) (by decide) (.int .i64 x.1) (x.1, l[j].2) rfl
  have h2 := h1.put (by rw [List.length_set]; exact hn) (j := j) (by rw [List.length_set]; exact hj) (i := 1) (by decide) (.int .i64 x.2) x (by rw [List.getElem_set_self]; rfl)
  rw [List.set_set] at h2
  exact h2
theorem ownsS_put2 {w : World} {B g n cap : Nat} {l : List Sp} (hn : n = l.length) (h : OwnsS8 w B (.slice (some ⟨g, 0, Option.none⟩) n cap) l) {j : Nat} (hj : j < l.length) (c : Int) : OwnsS8 (w.setCell ⟨g, j * 2 + 1, Option.none⟩ (.int .i64 c)) B (.slice (some ⟨g, 0, Option.none⟩) n cap) (l.set j (l[j].1, c)) :=
  h.put hn hj (i := 1) (by decide) (.int .i64 c) (l[j].1, c) rfl
theorem hasS_put {w : World} {B g n cap : Nat} {l : List Sp} (h : HasS8 w B (.slice (some ⟨g, 0, Option.none⟩) n cap) l) {j : Nat} (hj : j < l.length) (x : Sp) : HasS8 ((w.setCell ⟨g, j * 2, Option.none⟩ (.int .i64 x.1)).setCell ⟨g, j * 2 + 1, Option.none⟩ (.int .i64 x.2)) B (.slice (some ⟨g, 0, Option.none⟩) n cap) (l.set j x) := by
  have h1 := h.put hj (i := 0) (by decide) (.int .i64 x.1) (x.1, l[j].2) rfl
  have h2 := h1.put (j := j) (by rw [List.length_set]; exact hj) (i := 1) (by decide) (.int .i64 x.2) x (by rw [List.getElem_set_self]; rfl)
  rw [List.set_set] at h2
  exact h2

/-! ### The laws' helpers -/
theorem toSp1 (x : Sp) (w : World) :
    Calls Tryd.prog 23 #[spV x] w fun e w' => e = .returned (spV x) ∧ Below w.heap.size w w' := by
  unfold spV
  go_enter Tryd.func23, Tryd.ntmps23
  go_wp2
  refine bodyPost_ret (v := .agg #[.int .i64 x.1, .int .i64 x.2]) (by simp [results, Tryd.results23, go_sem]) rfl ⟨rfl, ?_⟩
  repeat (first | exact Below.refl _ _ | refine Below.alloc ?_ (by simp <;> omega) _ | refine Below.setCell ?_ (by simp <;> omega) _)
theorem eqSp1 (x : Sp) (w : World) :
    Calls Tryd.prog 45 #[spV x, spV x] w fun e w' => e = .returned (.bool true) ∧ Grew w w' := by
  unfold spV
  go_enter Tryd.func45, Tryd.ntmps45
  go_wp2
  go_ret
  exact ⟨rfl, ((Grew.refl w).alloc _).alloc _⟩
theorem madeS (n : Nat) : (madeCells (Value.cells (.agg #[.int .i64 0, .int .i64 0])) (n * 2)).toList = cellsE spnE (List.replicate n (0, 0)) := by
  apply List.ext_getElem?
  intro j
  by_cases hj : j < n * 2
  · have e : (madeCells (Value.cells (.agg #[.int .i64 0, .int .i64 0])) (n * 2)).toList[j]? = some (.int .i64 0) := by
      have h2 : j % 2 = 0 ∨ j % 2 = 1 := by omega
      rcases h2 with h2 | h2 <;> simp [madeCells, hj, Value.cells, h2]
    rw [e]
    obtain ⟨c1, c2⟩ := cellsS_at (List.replicate n (0, 0)) (j / 2) (by simp; omega)
    have h2 : j = j / 2 * 2 ∨ j = j / 2 * 2 + 1 := by omega
    rcases h2 with h2 | h2
    · rw [h2, c1]; simp
    · rw [h2, c2]; simp
  · rw [List.getElem?_eq_none (by simp [madeCells]; omega), List.getElem?_eq_none (by rw [cellsE_length]; show _ ≤ j; simp; show n * 2 ≤ j; omega)]
/-- Turned so far: the first k, and behind them zero ones. -/
def turnS (l : List Sp) (k : Nat) : List Sp := l.take k ++ List.replicate (l.length - k) (0, 0)
theorem turnS_length (l : List Sp) (k : Nat) (hk : k ≤ l.length) : (turnS l k).length = l.length := by unfold turnS; simp; omega
theorem turnS_zero (l : List Sp) : turnS l 0 = List.replicate l.length (0, 0) := by simp [turnS]
theorem turnS_all (l : List Sp) : turnS l l.length = l := by simp [turnS]
theorem turnS_next (l : List Sp) (k : Nat) (hk : k < l.length) : (turnS l k).set k l[k] = turnS l (k + 1) := by
  unfold turnS
  have e : (l.take k).length = k := by simp; omega
  rw [List.set_append_right _ _ (by omega), e, Nat.sub_self, List.take_succ_eq_append_getElem hk, List.append_assoc]
  congr 1
  rw [show l.length - k = (l.length - (k + 1)) + 1 from by omega, List.replicate_succ, List.set_cons_zero]
  rfl
set_option maxHeartbeats 400000 in
theorem eqSpS (va vb : Value) (l : List Sp) (w : World) (ha : Sls spnE w va l) (hb : Sls spnE w vb l) (hl : l.length ≤ 1048576) :
    Calls Tryd.prog 20 #[va, vb] w fun e w' => e = .returned (.bool true) ∧ Grew w w' := by
  obtain ⟨a, ca, rfl, a1, a2, a3⟩ := ha.two
  obtain ⟨b, cb, rfl, b1, b2, b3⟩ := hb.two
  clear ha hb
  have hmx := mixed
  go_enter Tryd.func20, Tryd.ntmps20
  go_wp2
  go_loopw [5] (fun i wr => ∃ (k : Nat), k ≤ l.length ∧ i = .int .i64 k ∧ Grew w wr) (fun i _ => l.length - (intOf i).toNat)
  case atStart => exact ⟨0, Nat.zero_le _, rfl, Grew.refl _⟩
  case round =>
    obtain ⟨k, hk, rfl, hg⟩ := hrel
    by_cases hlt : k < l.length
    · obtain ⟨ga, oa, rfl, hga, hca⟩ := a3 (by omega)
      obtain ⟨gb, ob, rfl, hgb, hcb⟩ := b3 (by omega)
      have c1 := hg.cell (hca k hlt).1 hga
      have c2 := hg.cell (hca k hlt).2 hga
      have c3 := hg.cell (hcb k hlt).1 hgb
      have c4 := hg.cell (hcb k hlt).2 hgb
      have hsz := hg.1.size
      generalize l[k] = f at c1 c2 c3 c4
      have k1 : ∀ n os, (grow (wr.drewN n) os).cell? ⟨ga, oa + k * 2, Option.none⟩ = some (.int .i64 f.1) := fun n os => (cell?_grow _ _ _ (by show ga < wr.heap.size; omega)).trans c1
      have k2 : ∀ n os, (grow (wr.drewN n) os).cell? ⟨ga, oa + k * 2 + 1, Option.none⟩ = some (.int .i64 f.2) := fun n os => (cell?_grow _ _ _ (by show ga < wr.heap.size; omega)).trans c2
      have k3 : ∀ n os, (grow (wr.drewN n) os).cell? ⟨gb, ob + k * 2, Option.none⟩ = some (.int .i64 f.1) := fun n os => (cell?_grow _ _ _ (by show gb < wr.heap.size; omega)).trans c3
      have k4 : ∀ n os, (grow (wr.drewN n) os).cell? ⟨gb, ob + k * 2 + 1, Option.none⟩ = some (.int .i64 f.2) := fun n os => (cell?_grow _ _ _ (by show gb < wr.heap.size; omega)).trans c4
      have he := fun W => eqSp1 f W
      unfold spV at he
      clear c1 c2 c3 c4 a3 b3 hca hcb
      go_wp2
      go_quiet_grown ((go_at_call 45; refine callGrew (he _)))
      clear k1 k2 k3 k4
      have hg2 : Grew w (grow (wr.drewN nq) osq) := (hg.drewN _).more _
      generalize grow (wr.drewN nq) osq = w1 at hg2 ⊢
      go_wp2
      go_roundw
      case rel => exact ⟨k + 1, by omega, by go_num, hg2⟩
      case measure => simp [intOf]; omega
    · go_wp2
      go_ret
      exact ⟨rfl, hg⟩
theorem likeSp (va vb : Value) (l : List Sp) (w : World) (ha : Sls spnE w va l) (hb : Sls spnE w vb l) (hl : l.length ≤ 1048576) :
    Calls Tryd.prog 12 #[va, vb] w fun e w' => e = .returned (.bool true) ∧ Grew w w' := by
  obtain ⟨a, ca, rfl, a1, a2, a3⟩ := ha.two
  obtain ⟨b, cb, rfl, b1, b2, b3⟩ := hb.two
  clear ha hb
  have hmx := mixed
  go_enter Tryd.func12, Tryd.ntmps12
  go_wp2
  go_loopw [5] (fun i wr => ∃ (k : Nat), k ≤ l.length ∧ i = .int .i64 k ∧ Grew w wr) (fun i _ => l.length - (intOf i).toNat)
  case atStart => exact ⟨0, Nat.zero_le _, rfl, Grew.refl _⟩
  case round =>
    obtain ⟨k, hk, rfl, hg⟩ := hrel
    by_cases hlt : k < l.length
    · obtain ⟨ga, oa, rfl, hga, hca⟩ := a3 (by omega)
      obtain ⟨gb, ob, rfl, hgb, hcb⟩ := b3 (by omega)
      have c1 := hg.cell (hca k hlt).1 hga
      have c2 := hg.cell (hca k hlt).2 hga
      have c3 := hg.cell (hcb k hlt).1 hgb
      have c4 := hg.cell (hcb k hlt).2 hgb
      generalize l[k] = f at c1 c2 c3 c4
      clear a3 b3 hca hcb
      go_wp2
      go_quiet (fail)
      have hg2 : Grew w (wr.drewN nq) := hg.drewN _
      generalize wr.drewN nq = w1 at hg2 ⊢
      go_wp2
      go_roundw
      case rel => exact ⟨k + 1, by omega, by go_num, hg2⟩
      case measure => simp [intOf]; omega
    · go_wp2
      go_ret
      exact ⟨rfl, hg⟩

/-! ### Marks -/
def mkS (j : Nat) : Sp := (1 + 2 * (j : Int), 1 + 2 * (j : Int) + 1)
def markedS (l : List Sp) (k : Nat) : List Sp := (List.range k).map mkS ++ l.drop k
def marksS (n : Nat) : List Sp := (List.range n).map mkS
theorem markedS_length (l : List Sp) (k : Nat) (h : k ≤ l.length) : (markedS l k).length = l.length := by unfold markedS; simp; omega
theorem markedS_zero (l : List Sp) : markedS l 0 = l := by simp [markedS]
theorem markedS_all (l : List Sp) : markedS l l.length = marksS l.length := by simp [markedS, marksS]
theorem markedS_next (l : List Sp) (k : Nat) (h : k < l.length) : (markedS l k).set k (mkS k) = markedS l (k + 1) := by
  unfold markedS
  have e : ((List.range k).map mkS).length = k := by simp
  rw [List.set_append_right _ _ (by omega), e, Nat.sub_self, List.range_succ, List.map_append, List.append_assoc]
  congr 1
  rw [List.drop_eq_getElem_cons h, List.set_cons_zero]
  rfl
theorem marksS_length (n : Nat) : (marksS n).length = n := by simp [marksS]
theorem marksS_at (n j : Nat) (h : j < (marksS n).length) : (marksS n)[j] = mkS j := by simp [marksS]
set_option maxHeartbeats 1000000 in
theorem markSp (v : Value) (l : List Sp) (B : Nat) (w : World) (h : HasS8 w B v l) (hl : l.length ≤ 1048576) :
    Calls Tryd.prog 21 #[v, .int .i64 1] w fun e w' => e = .returned (.int .i64 (1 + 2 * (l.length : Int))) ∧ HasS8 w' B v (marksS l.length) ∧ w.grownBy w' v.ownBlock := by
  have hh := h
  obtain ⟨a, cap, rfl, h1, h2, h3⟩ := hh.form
  unfold maxLen at h2
  go_enter Tryd.func21, Tryd.ntmps21
  go_wp2
  go_loopw [1, 5] (fun m i wr => ∃ k : Nat, k ≤ l.length ∧ i = .int .i64 k ∧ m = .int .i64 (1 + 2 * (k : Int)) ∧ HasS8 wr B (.slice a l.length cap) (markedS l k) ∧ w.grownBy wr (Value.slice a l.length cap).ownBlock) (fun _ i _ => l.length - (intOf i).toNat)
  case atStart => exact ⟨0, Nat.zero_le _, rfl, rfl, by rw [markedS_zero]; exact h, grownE_self _ _⟩
  case round =>
    clear h hh
    obtain ⟨k, hk, rfl, rfl, ho, hgr⟩ := hrel
    by_cases hlt : k < l.length
    · obtain ⟨g, rfl⟩ := h3 (by omega)
      have hml := markedS_length l k hk
      have hnx := markedS_next l k hlt
      generalize hl2 : markedS l (k + 1) = l2 at hnx
      generalize markedS l k = l1 at ho hml hnx
      obtain ⟨d1, d2⟩ := hasS_at ho k (by omega)
      have f1 := ho.free (k * 2)
      have f2 := ho.free (k * 2 + 1)
      have ho2 := hasS_put ho (j := k) (by omega) (mkS k)
      have hg2 := grownE_put (grownE_put hgr (k * 2) (.int .i64 (mkS k).1)) (k * 2 + 1) (.int .i64 (mkS k).2)
      rw [hnx] at ho2
      unfold mkS at ho2 hg2
      simp only at ho2 hg2
      have HO : Hid _ := ho2
      have HG : Hid _ := hg2
      clear ho hgr h3 ho2 hg2
      go_wp2
      go_roundw
      case rel => exact ⟨k + 1, by omega, by go_num, by go_num, by rw [hl2]; exact HO.out, HG.out⟩
      case measure => simp [intOf]; omega
    · obtain rfl : k = l.length := by omega
      rw [markedS_all] at ho
      go_wp2
      go_ret
      exact ⟨rfl, ho, hgr⟩
set_option maxHeartbeats 1000000 in
theorem heldSp (v : Value) (n : Nat) (w : World) (h : Sls spnE w v (marksS n)) (hl : n ≤ 1048576) :
    Calls Tryd.prog 22 #[v, .int .i64 1] w fun e w' => e = .returned (.int .i64 (1 + 2 * (n : Int))) ∧ w = w' := by
  have hml := marksS_length n
  obtain ⟨a, cap, rfl, h1, h2, h3⟩ := h.two
  unfold maxLen at h2
  rw [hml] at h1 ⊢
  have hat : ∀ (j : Nat) (hj : j < n), ∃ g o, a = some ⟨g, o, Option.none⟩ ∧ w.cell? ⟨g, o + j * 2, Option.none⟩ = some (.int .i64 (1 + 2 * (j : Int))) ∧ w.cell? ⟨g, o + j * 2 + 1, Option.none⟩ = some (.int .i64 (1 + 2 * (j : Int) + 1)) := fun j hj => by
    obtain ⟨g, o, ha, _, hc⟩ := h3 (by omega)
    have := hc j (by omega)
    rw [marksS_at] at this
    exact ⟨g, o, ha, this⟩
  clear h h3 hml
  go_enter Tryd.func22, Tryd.ntmps22
  go_wp2
  go_loop [1, 5] (fun m i => ∃ k : Nat, k ≤ n ∧ i = .int .i64 k ∧ m = .int .i64 (1 + 2 * (k : Int))) (fun _ i => n - (intOf i).toNat)
  case atStart => exact ⟨0, Nat.zero_le _, rfl, rfl⟩
  case round =>
    obtain ⟨k, hk, rfl, rfl⟩ := hrel
    by_cases hlt : k < n
    · obtain ⟨g, o, rfl, c1, c2⟩ := hat k hlt
      clear hat
      go_wp2
      go_round
      case rel => exact ⟨k + 1, by omega, by go_num, by go_num⟩
      case measure => simp [intOf]; omega
    · obtain rfl : k = n := by omega
      go_wp2
      go_ret
      exact ⟨rfl, rfl⟩
end Go.Proofs.YtamfgjgmnnnjpaaDoor
