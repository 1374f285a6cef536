/-
  The contracts of the law's own helpers that mark fields, and ask for the marks.
-/
import Derived.Test.YtnkalamfekkmbaaDoorFldK
namespace Go.Proofs.YtnkalamfekkmbaaDoor
open Go.RowKit Go.Sort

theorem putMark (l : List Fl) (k : Nat) (hk : k < l.length) : (l.set k (mkT (1 + 2 * k), l[k].2)).set k (((l.set k (mkT (1 + 2 * k), l[k].2))[k]'(by rw [List.length_set]; exact hk)).1, mkT (1 + 2 * k + 1)) = l.set k (mkF k) := by
  rw [List.set_set]; simp [mkF]
theorem grown_put {a w : World} {g : Nat} (h : a.grownBy w (some g)) (j : Nat) (v : Value) : a.grownBy (w.setCell ⟨g, j, none⟩ v) (some g) :=
  ⟨h.os, h.tape, h.output, by simpa [World.setCell] using h.size, fun k hk hne => (Below.heap_setCell _ _ _ _ (fun e => hne (by rw [e]))).trans (h.block k hk hne)⟩
theorem grown_below {a w w' : World} {r : Option Nat} (h : a.grownBy w r) (hb : Below w.heap.size w w') : a.grownBy w' r :=
  ⟨hb.os.trans h.os, hb.tape.trans h.tape, hb.output.trans h.output, Nat.le_trans h.size hb.size, fun k hk hne => (hb.block k (Nat.lt_of_lt_of_le hk h.size)).trans (h.block k hk hne)⟩
theorem grown_self (w : World) (r : Option Nat) : w.grownBy w r := ⟨rfl, rfl, rfl, Nat.le_refl _, fun _ _ _ => rfl⟩

set_option maxHeartbeats 1000000 in
theorem markFS (v : Value) (l : List Fl) (B : Nat) (w : World) (h : HasF w B v l) (hl : l.length ≤ 1048576) :
    Calls Tryd.prog 39 #[v, .int .i64 1] w fun e w' => e = .returned (.int .i64 (1 + 2 * (l.length : Int))) ∧ HasF w' B v (marksF l.length) ∧ w.grownBy w' v.ownBlock := by
  have hh := h
  obtain ⟨a, cap, rfl, h1, h2, h3⟩ := hh.form
  unfold maxLen at h2
  go_enter Tryd.func39, Tryd.ntmps39
  go_wp2
  go_loopw [1, 5] (fun m i wr => ∃ k : Nat, k ≤ l.length ∧ i = .int .i64 k ∧ m = .int .i64 (1 + 2 * (k : Int)) ∧ HasF wr B (.slice a l.length cap) (markedF l k) ∧ w.grownBy wr (Value.slice a l.length cap).ownBlock) (fun _ i _ => l.length - (intOf i).toNat)
  case atStart => exact ⟨0, Nat.zero_le _, rfl, rfl, by rw [markedF_zero]; exact h, grown_self _ _⟩
  case round =>
    clear h hh
    obtain ⟨k, hk, rfl, rfl, ho, hgr⟩ := hrel
    by_cases hlt : k < l.length
    · obtain ⟨g, rfl⟩ := h3 (by omega)
      have hml := markedF_length l k hk
      have hnx := markedF_next l k hlt
      generalize hl2 : markedF l (k + 1) = l2 at hnx
      generalize markedF l k = l1 at ho hml hnx
      have m1 := fun wx => markTextG (1 + 2 * k) (by omega) (by omega) wx
      have m2 := fun wx => markTextG (1 + 2 * k + 1) (by omega) (by omega) wx
      simp only [Int.natCast_add, Int.natCast_mul, Int.cast_ofNat_Int] at m1 m2
      clear h3
      go_wp2_with fail
      refine (m1 _).mono ?_
      rintro e w1 ⟨rfl, hb1⟩
      have ho1 := ho.kept hb1.low
      obtain ⟨d1, d2⟩ := ho1.at k (by omega)
      have f1 := ho1.free (k * 2)
      have hg1 := grown_below hgr hb1.low
      have ho2 := ho1.put1 (k := k) (by omega) (mkT (1 + 2 * k))
      have hg2 := grown_put hg1 (k * 2) (.string (mkT (1 + 2 * k)))
      clear ho hgr hb1
      go_wp2_with fail
      refine (m2 _).mono ?_
      rintro e w3 ⟨rfl, hb3⟩
      have ho3 := ho2.kept hb3.low
      have hg3 := grown_below hg2 hb3.low
      obtain ⟨d3, d4⟩ := ho3.at k (by rw [List.length_set]; omega)
      have f3 := ho3.free (k * 2 + 1)
      have ho4 := ho3.put2 (k := k) (by rw [List.length_set]; omega) (mkT (1 + 2 * k + 1))
      have hg4 := grown_put hg3 (k * 2 + 1) (.string (mkT (1 + 2 * k + 1)))
      rw [putMark l1 k (by omega), hnx] at ho4
      clear ho1 ho2 ho3 hg1 hg2 hg3 hb3 d1 d2 f1
      go_wp2
      go_roundw
      case rel => exact ⟨k + 1, by omega, by go_num, by go_num, by rw [hl2]; exact ho4, hg4⟩
      case measure => simp [intOf]; omega
    · obtain rfl : k = l.length := by omega
      rw [markedF_all] at ho
      go_wp2
      go_ret
      exact ⟨rfl, ho, hgr⟩

set_option maxHeartbeats 1000000 in
theorem heldFS (v : Value) (n : Nat) (B : Nat) (w : World) (h : HasF w B v (marksF n)) (hl : n ≤ 1048576) :
    Calls Tryd.prog 40 #[v, .int .i64 1] w fun e w' => e = .returned (.int .i64 (1 + 2 * (n : Int))) ∧ Grew w w' := by
  have hml := marksF_length n
  obtain ⟨a, cap, rfl, h1, h2, h3⟩ := h.form
  unfold maxLen at h2
  rw [hml] at h1 h3
  have hu := h.under
  have hat := fun g (e : a = some ⟨g, 0, none⟩) j hj => HasF.at (show HasF w B (.slice (some ⟨g, 0, none⟩) (marksF n).length cap) (marksF n) from e ▸ h) j hj
  rw [hml]
  rw [hml] at hu
  clear h
  have hmx := mixed
  go_enter Tryd.func40, Tryd.ntmps40
  go_wp2
  go_loopw [1, 5] (fun m i wr => ∃ k : Nat, k ≤ n ∧ i = .int .i64 k ∧ m = .int .i64 (1 + 2 * (k : Int)) ∧ Grew w wr) (fun _ i _ => n - (intOf i).toNat)
  case atStart => exact ⟨0, Nat.zero_le _, rfl, rfl, Grew.refl _⟩
  case round =>
    obtain ⟨k, hk, rfl, rfl, hg⟩ := hrel
    by_cases hlt : k < n
    · obtain ⟨g, rfl⟩ := h3 (by omega)
      obtain ⟨c1, c2⟩ := hat g rfl k (by omega)
      rw [marksF_at] at c1 c2
      have hgb : g < w.heap.size := hu g rfl
      have e1 : wr.cell? ⟨g, k * 2, none⟩ = some (.string (mkT (1 + 2 * k))) := hg.cell c1 hgb
      have e2 : wr.cell? ⟨g, k * 2 + 1, none⟩ = some (.string (mkT (1 + 2 * k + 1))) := hg.cell c2 hgb
      have hgr : g < wr.heap.size := Nat.lt_of_lt_of_le hgb hg.1.size
      have m1 := fun wx => markTextG (1 + 2 * k) (by omega) (by omega) wx
      have m2 := fun wx => markTextG (1 + 2 * k + 1) (by omega) (by omega) wx
      simp only [Int.natCast_add, Int.natCast_mul, Int.cast_ofNat_Int] at m1 m2
      generalize mkT (1 + 2 * k) = t1 at e1 m1
      generalize mkT (1 + 2 * k + 1) = t2 at e2 m2
      have k1 : ∀ q os, (grow (wr.drewN q) os).cell? ⟨g, k * 2, none⟩ = some (.string t1) := fun q os => (cell?_grow _ _ _ (by show g < wr.heap.size; omega)).trans e1
      clear hat h3 hu c1 c2
      go_wp2
      go_quiet_grown ((go_at_call 70; refine callGrew (m1 _)))
      clear k1 e1
      have hg2 : Grew w (grow (wr.drewN nq) osq) := (hg.drewN _).more _
      have e3 : (grow (wr.drewN nq) osq).cell? ⟨g, k * 2 + 1, none⟩ = some (.string t2) := (cell?_grow _ _ _ (by show g < wr.heap.size; omega)).trans e2
      have hgr2 : g < (grow (wr.drewN nq) osq).heap.size := by rw [size_grow]; show g < wr.heap.size + _; omega
      generalize grow (wr.drewN nq) osq = w1 at hg2 e3 hgr2 ⊢
      clear e2 hgr
      go_wp2
      have k2 : ∀ q os, (grow (w1.drewN q) os).cell? ⟨g, k * 2 + 1, none⟩ = some (.string t2) := fun q os => (cell?_grow _ _ _ (by show g < w1.heap.size; omega)).trans e3
      go_quiet_grown ((go_at_call 70; refine callGrew (m2 _)))
      clear k2 e3
      have hg3 : Grew w (grow (w1.drewN nq) osq) := (hg2.drewN _).more _
      generalize grow (w1.drewN nq) osq = w2 at hg3 ⊢
      go_wp2
      go_roundw
      case rel => exact ⟨k + 1, by omega, by go_num, by go_num, hg3⟩
      case measure => simp [intOf]; omega
    · obtain rfl : k = n := by omega
      go_wp2
      go_ret
      exact ⟨rfl, hg⟩
end Go.Proofs.YtnkalamfekkmbaaDoor
