/-
  The laws' helpers on Shelves and on texts: marks.
-/
import Derived.Test.YtnnmbgenepfacaaMkT
import Derived.Test.YtnnmbgenepfacaaRomV
namespace Go.Proofs.Ytnnmbgenepfacaa
open Go.RowKit Go.Sort Rom
set_option linter.unusedVariables false
set_option linter.unusedSimpArgs false

def mkIt (s j : Nat) : It := (mkT (s + 2 * j), ((s + 2 * j + 1 : Nat) : Int))
def markedI (s : Nat) (l : List It) (k : Nat) : List It := (List.range k).map (mkIt s) ++ l.drop k
def marksI (s n : Nat) : List It := (List.range n).map (mkIt s)
theorem markedI_length (s : Nat) (l : List It) (k : Nat) (h : k ≤ l.length) : (markedI s l k).length = l.length := by unfold markedI; simp; omega
theorem markedI_zero (s : Nat) (l : List It) : markedI s l 0 = l := by simp [markedI]
theorem markedI_all (s : Nat) (l : List It) : markedI s l l.length = marksI s l.length := by simp [markedI, marksI]
theorem markedI_next (s : Nat) (l : List It) (k : Nat) (h : k < l.length) : (markedI s l k).set k (mkIt s k) = markedI s l (k + 1) := by
  unfold markedI
  have e : ((List.range k).map (mkIt s)).length = k := by simp
  rw [List.set_append_right _ _ (by omega), e, Nat.sub_self, List.range_succ, List.map_append, List.append_assoc]
  congr 1
  rw [List.drop_eq_getElem_cons h, List.set_cons_zero]
  rfl
theorem marksI_length (s n : Nat) : (marksI s n).length = n := by simp [marksI]
theorem marksI_at (s n j : Nat) (h : j < (marksI s n).length) : (marksI s n)[j] = mkIt s j := by simp [marksI]
set_option maxHeartbeats 1000000 in
theorem markIts (s : Nat) (hs1 : 1 ≤ s) (hs2 : s ≤ 1000) (v : Value) (l : List It) (B : Nat) (w : World) (h : HasI8 w B v l) (hl : l.length ≤ 1048576) :
    Calls Try.prog 80 #[v, .int .i64 (s : Int)] w fun e w' => e = .returned (.int .i64 ((s : Int) + 2 * (l.length : Int))) ∧ HasI8 w' B v (marksI s l.length) ∧ w.grownBy w' v.ownBlock := by
  have hh := h
  obtain ⟨a, cap, rfl, h1, h2, h3⟩ := hh.form
  unfold maxLen at h2
  go_enter Try.func80, Try.ntmps80
  go_wp2
  go_loopw [1, 5] (fun m i wr => ∃ k : Nat, k ≤ l.length ∧ i = .int .i64 k ∧ m = .int .i64 ((s : Int) + 2 * (k : Int)) ∧ HasI8 wr B (.slice a l.length cap) (markedI s l k) ∧ w.grownBy wr (Value.slice a l.length cap).ownBlock) (fun _ i _ => l.length - (intOf i).toNat)
  case atStart => exact ⟨0, Nat.zero_le _, rfl, by simp, by rw [markedI_zero]; exact h, grownE_self _ _⟩
  case round =>
    clear h hh
    obtain ⟨k, hk, rfl, rfl, ho, hgr⟩ := hrel
    by_cases hlt : k < l.length
    · obtain ⟨g, rfl⟩ := h3 (by omega)
      have hml := markedI_length s l k hk
      have hnx := markedI_next s l k hlt
      generalize hl2 : markedI s l (k + 1) = l2 at hnx
      generalize markedI s l k = l1 at ho hml hnx
      have m1 := fun wx => markText (s + 2 * k) (by omega) (by omega) wx
      simp only [Int.natCast_add, Int.natCast_mul, Int.cast_ofNat_Int] at m1
      have hki : (k : Int) < (l.length : Int) := by omega
      clear h3
      go_wp2_with fail
      refine (m1 _).mono ?_
      rintro e w1 ⟨rfl, hb1⟩
      have ho1 := ho.kept hb1
      obtain ⟨d1, d2⟩ := hasI_at ho1 k (by omega)
      have f1 := ho1.free (k * 2)
      have f2 := ho1.free (k * 2 + 1)
      have hg1 := grownE_below hgr hb1
      have ho2 := hasI_put ho1 (j := k) (by omega) (mkIt s k)
      have hg2 := grownE_put (grownE_put hg1 (k * 2) (.string (mkT (s + 2 * k)))) (k * 2 + 1) (.int .i64 ((s : Int) + 2 * (k : Int) + 1))
      rw [hnx] at ho2
      have HO : Hid (HasI8 ((w1.setCell ⟨g, k * 2, none⟩ (.string (mkT (s + 2 * k)))).setCell ⟨g, k * 2 + 1, none⟩ (.int .i64 ((s : Int) + 2 * (k : Int) + 1))) B (.slice (some ⟨g, 0, none⟩) l.length cap) l2) := by
        have e : (mkIt s k).2 = (s : Int) + 2 * (k : Int) + 1 := by unfold mkIt; show ((s + 2 * k + 1 : Nat) : Int) = _; omega
        rw [e] at ho2
        exact ho2
      have HG : Hid _ := hg2
      clear ho hgr hb1 ho1 hg1 ho2 hg2
      go_wp2
      go_roundw
      case rel => exact ⟨k + 1, by omega, by go_num, by go_num, by rw [hl2]; exact HO.out, HG.out⟩
      case measure => simp [intOf]; omega
    · obtain rfl : k = l.length := by omega
      rw [markedI_all] at ho
      go_wp2
      go_ret
      exact ⟨rfl, ho, hgr⟩
set_option maxHeartbeats 1000000 in
theorem heldIts (s : Nat) (hs1 : 1 ≤ s) (hs2 : s ≤ 1000) (v : Value) (n : Nat) (w : World) (h : Sls itE w v (marksI s n)) (hl : n ≤ 1048576) :
    Calls Try.prog 82 #[v, .int .i64 (s : Int)] w fun e w' => e = .returned (.int .i64 ((s : Int) + 2 * (n : Int))) ∧ Below w.heap.size w w' := by
  have hml := marksI_length s n
  obtain ⟨a, cap, rfl, h1, h2, h3⟩ := h.itm
  unfold maxLen at h2
  rw [hml] at h1 ⊢
  have hat : Hid (∀ (j : Nat) (hj : j < n) W, Below w.heap.size w W → ∃ g o, a = some ⟨g, o, Option.none⟩ ∧ g < w.heap.size ∧ W.cell? ⟨g, o + j * 2, Option.none⟩ = some (.string (mkT (s + 2 * j))) ∧ W.cell? ⟨g, o + j * 2 + 1, Option.none⟩ = some (.int .i64 ((s : Int) + 2 * (j : Int) + 1))) := (show ∀ _, _ from fun j hj W hW => by
    obtain ⟨g, o, ha, hg, hc⟩ := h3 (by omega)
    obtain ⟨c1, c2⟩ := hc j (by omega)
    rw [marksI_at] at c1 c2
    have e : (mkIt s j).2 = (s : Int) + 2 * (j : Int) + 1 := by unfold mkIt; show ((s + 2 * j + 1 : Nat) : Int) = _; omega
    rw [e] at c2
    exact ⟨g, o, ha, hg, (hW.cell (p := ⟨g, o + j * 2, none⟩) hg).trans c1, (hW.cell (p := ⟨g, o + j * 2 + 1, none⟩) hg).trans c2⟩)
  clear h h3 hml
  go_enter Try.func82, Try.ntmps82
  go_wp2
  go_loopw [1, 5] (fun m i wr => ∃ k : Nat, k ≤ n ∧ i = .int .i64 k ∧ m = .int .i64 ((s : Int) + 2 * (k : Int)) ∧ Hid (Below w.heap.size w wr)) (fun _ i _ => n - (intOf i).toNat)
  case atStart => exact ⟨0, Nat.zero_le _, rfl, by simp, (show Hid _ from Below.refl _ _)⟩
  case round =>
    obtain ⟨k, hk, rfl, rfl, hb⟩ := hrel
    by_cases hlt : k < n
    · obtain ⟨g, o, rfl, hg, c1, c2⟩ := hat.out k hlt wr hb.out
      have m1 := fun wx => markText (s + 2 * k) (by omega) (by omega) wx
      simp only [Int.natCast_add, Int.natCast_mul, Int.cast_ofNat_Int] at m1
      have hki : (k : Int) < (n : Int) := by omega
      have hgr : g < wr.heap.size := Nat.lt_of_lt_of_le hg hb.out.size
      have HN : Hid (∀ W, Below wr.heap.size wr W → W.cell? ⟨g, o + k * 2 + 1, none⟩ = some (.int .i64 ((s : Int) + 2 * (k : Int) + 1))) := (show ∀ _, _ from fun W hW => (hW.cell (p := ⟨g, o + k * 2 + 1, none⟩) hgr).trans c2)
      have j1 : ∀ d os, Calls Try.prog 81 #[.int .i64 ((s : Int) + 2 * (k : Int))] (grow (redrawn wr d) os) fun e w'' => e = .returned (.string (mkT (s + 2 * k))) ∧ ∃ p : Regrown, w'' = grow (redrawn wr p.d) p.os := fun d os => Calls.regrown_of (m1 _)
      have k1 := cell_regrown c1
      generalize mkT (s + 2 * k) = T at j1 k1
      have eT : (T.toList == T.toList) = true := by simp
      clear c1 c2 m1
      go_wp2_with fail
      refine wp_region_quiet_below (by kernel_rfl) (by kernel_rfl) ?_
      repeat (go_big_quiet_step (with_reducible exact j1 _ _))
      refine wpQuiet_nil ?_
      intro _ hw'
      obtain ⟨⟨dq, osq⟩, hw''⟩ := hw'
      subst hw''
      have hbn : Below wr.heap.size wr (grow (redrawn wr dq) osq) := below_regrown wr dq osq
      have BN : Hid (Below w.heap.size w (grow (redrawn wr dq) osq)) := (show Hid _ from hb.out.trans (hbn.mono hb.out.size))
      have c2 := HN.out _ hbn
      generalize grow (redrawn wr dq) osq = wn at BN hbn c2 ⊢
      clear k1 j1 hbn HN
      go_wp2
      go_roundw
      case rel => exact ⟨k + 1, by omega, by go_num, by go_num, BN⟩
      case measure => simp [intOf]; omega
    · obtain rfl : k = n := by omega
      go_wp2
      go_ret
      exact ⟨rfl, hb.out⟩
theorem markSh (s : Nat) (hs1 : 1 ≤ s) (hs2 : s ≤ 1000) (q : Int) (v : Value) (l : List It) (B : Nat) (w : World) (h : HasI8 w B v l) (hl : l.length ≤ 1048576) :
    Calls Try.prog 46 #[shV q v, .int .i64 (s : Int)] w fun e w' => e = .returned (.int .i64 ((s : Int) + 2 * (l.length : Int))) ∧ HasI8 w' B v (marksI s l.length) ∧ w.grownBy w' v.ownBlock := by
  have hM := markIts s hs1 hs2 v l B _ (h.kept ((Below.refl _ w).alloc (Nat.le_refl _) (.cells #[.int .i64 q, v] 34))) hl
  obtain ⟨a, cap, rfl, _⟩ := h.form
  unfold shV
  clear h
  go_enter Try.func46, Try.ntmps46
  go_wp2_with fail
  refine hM.mono ?_
  rintro e w1 ⟨rfl, ho1, hg1⟩
  have HO : Hid _ := ho1
  have HG : Hid (w.grownBy w1 (Value.slice a l.length cap).ownBlock) := (show Hid _ from ⟨hg1.os, hg1.tape, hg1.output, by have := hg1.size; simp at this; omega, fun k hk hne => (hg1.block k (by simp; omega) hne).trans (Below.heap_alloc _ _ _ hk)⟩)
  clear ho1 hg1 hM
  go_wp2
  go_ret
  exact ⟨rfl, HO.out, HG.out⟩
theorem heldSh (s : Nat) (hs1 : 1 ≤ s) (hs2 : s ≤ 1000) (q : Int) (v : Value) (n : Nat) (w : World) (h : Sls itE w v (marksI s n)) (hl : n ≤ 1048576) :
    Calls Try.prog 48 #[shV q v, .int .i64 (s : Int)] w fun e w' => e = .returned (.int .i64 ((s : Int) + 2 * (n : Int))) ∧ Below w.heap.size w w' := by
  have B0 : Below w.heap.size w (w.alloc (.cells #[.int .i64 q, v] 34)) := (Below.refl _ w).alloc (Nat.le_refl _) _
  have hM := heldIts s hs1 hs2 v n _ (h.kept B0) hl
  have HB0 : Hid _ := B0
  obtain ⟨a, cap, rfl, _⟩ := h.itm
  unfold shV
  clear h B0
  go_enter Try.func48, Try.ntmps48
  go_wp2_with fail
  refine hM.mono ?_
  rintro e w1 ⟨rfl, hb1⟩
  have HB : Hid (Below w.heap.size w w1) := (show Hid _ from HB0.out.trans (hb1.mono HB0.out.size))
  clear hb1 hM HB0
  go_wp2
  go_ret
  exact ⟨rfl, HB.out⟩
end Go.Proofs.Ytnnmbgenepfacaa
