/-
  Slices of fields that a call has for itself, whatever room lies behind them; how the law marks them, and asks for the marks.
  The contracts of the law's own helpers that mark fields, and ask for the marks.
  The contracts of the program's set of names: names that are put in, and whether one is there.
-/
import Derived.Test.YteibacmohplblaaGreatDoorG09
import Derived.Test.YteibacmohplblaaGreatDoorG12
import Derived.Test.YteibacmohplblaaGreatDoorG05
import Derived.Maps.OwnSet
import Derived.Maps.AppendAt
import Derived.Handy
namespace Go.Proofs.YteibacmohplblaaGreatDoor
open Go.RowKit Go.Sort

/-- The value v has the fields l, in a block from B on. -/
def HasF (w : World) (B : Nat) (v : Value) (l : List Fl) : Prop :=
  (v = .slice none 0 0 ∧ l = []) ∨ ∃ g cap cur, v = .slice (some ⟨g, 0, none⟩) l.length cap ∧ B ≤ g ∧ w.heap[g]? = some (.cells cur 81 (0, 0)) ∧ l.length ≤ cap ∧ cap ≤ maxLen ∧ cap * 2 ≤ cur.size ∧ cur.toList.take (l.length * 2) = cellsF l
theorem OwnsF.has {w : World} {B : Nat} {v : Value} {l : List Fl} (h : OwnsF w B v l) : HasF w B v l := by
  rcases h.2 with ⟨h0, h1⟩ | ⟨g, cap, cur, hv, hb, hg, hc, hm, hz, ht⟩
  · exact .inl ⟨h0, List.eq_nil_of_length_eq_zero h1⟩
  · exact .inr ⟨g, cap, cur, hv, hb, hg, hc, hm, by omega, ht⟩
/-- .. also where the room behind it is cut off. -/
theorem HasF.cut {w : World} {B g cap : Nat} {n : Nat} {l : List Fl} (h : HasF w B (.slice (some ⟨g, 0, none⟩) n cap) l) (hn : n = l.length) : HasF w B (.slice (some ⟨g, 0, none⟩) n n) l := by
  subst hn
  rcases h with ⟨h0, _⟩ | ⟨g', cap', cur, hv, hb, hg, hc, hm, hz, ht⟩
  · cases h0
  · simp only [Value.slice.injEq, Option.some.injEq, Addr.mk.injEq, and_true, true_and] at hv
    obtain ⟨rfl, rfl⟩ := hv
    exact .inr ⟨g, l.length, cur, rfl, hb, hg, Nat.le_refl _, Nat.le_trans hc hm, by omega, ht⟩
theorem HasF.kept {w w' : World} {B : Nat} {v : Value} {l : List Fl} (h : HasF w B v l) (hb : Below w.heap.size w w') : HasF w' B v l := by
  rcases h with h0 | ⟨g, cap, cur, hv, hbg, hg, rest⟩
  · exact .inl h0
  · exact .inr ⟨g, cap, cur, hv, hbg, by rw [hb.block g (Array.getElem?_eq_some_iff.1 hg).1]; exact hg, rest⟩
theorem HasF.grown {w w' : World} {B : Nat} {v : Value} {l : List Fl} {r : Option Nat} (h : HasF w B v l) (hg : w.grownBy w' r) (hne : ∀ k, v.ownBlock = some k → some k ≠ r) : HasF w' B v l := by
  rcases h with h0 | ⟨g, cap, cur, hv, hbg, hh, rest⟩
  · exact .inl h0
  · exact .inr ⟨g, cap, cur, hv, hbg, by rw [hg.block g (Array.getElem?_eq_some_iff.1 hh).1 (hne g (by rw [hv]; rfl))]; exact hh, rest⟩
theorem HasF.low {w : World} {B B' : Nat} {v : Value} {l : List Fl} (h : HasF w B v l) (hB : B' ≤ B) : HasF w B' v l := by
  rcases h with h0 | ⟨g, cap, cur, hv, hb, rest⟩
  · exact .inl h0
  · exact .inr ⟨g, cap, cur, hv, by omega, rest⟩
theorem HasF.from {w : World} {B : Nat} {v : Value} {l : List Fl} (h : HasF w B v l) : ∀ k, v.ownBlock = some k → B ≤ k := by
  intro k hk
  rcases h with ⟨rfl, _⟩ | ⟨g, cap, cur, rfl, hb, _⟩
  · simp [Value.ownBlock] at hk
  · simp [Value.ownBlock] at hk; omega
theorem HasF.under {w : World} {B : Nat} {v : Value} {l : List Fl} (h : HasF w B v l) : ∀ k, v.ownBlock = some k → k < w.heap.size := by
  intro k hk
  rcases h with ⟨rfl, _⟩ | ⟨g, cap, cur, rfl, hb, hg, _⟩
  · simp [Value.ownBlock] at hk
  · simp [Value.ownBlock] at hk; subst hk; exact (Array.getElem?_eq_some_iff.1 hg).1
theorem HasF.form {w : World} {B : Nat} {v : Value} {l : List Fl} (h : HasF w B v l) : ∃ a cap, v = .slice a l.length cap ∧ l.length ≤ cap ∧ cap ≤ maxLen ∧ (0 < l.length → ∃ g, a = some ⟨g, 0, none⟩) := by
  rcases h with ⟨rfl, rfl⟩ | ⟨g, cap, cur, rfl, hb, hg, hc, hm, _⟩
  · exact ⟨none, 0, rfl, Nat.le_refl _, Nat.zero_le _, fun h => absurd h (by simp)⟩
  · exact ⟨_, cap, rfl, hc, hm, fun _ => ⟨g, rfl⟩⟩
theorem HasF.at {w : World} {B g n cap : Nat} {l : List Fl} (h : HasF w B (.slice (some ⟨g, 0, none⟩) n cap) l) (j : Nat) (hj : j < l.length) : w.cell? ⟨g, j * 2, none⟩ = some (.string l[j].1) ∧ w.cell? ⟨g, j * 2 + 1, none⟩ = some (.string l[j].2) := by
  rcases h with ⟨h0, _⟩ | ⟨g', cap', cur, hv, hb, hg, hc, hm, hz, ht⟩
  · cases h0
  · simp only [Value.slice.injEq, Option.some.injEq, Addr.mk.injEq, and_true] at hv
    obtain ⟨rfl, _⟩ := hv
    obtain ⟨c1, c2⟩ := cellsF_at l j hj
    rw [← ht, List.getElem?_take_of_lt (by omega)] at c1 c2
    rw [cell_of_row w g _ cur _ _ hg, cell_of_row w g _ cur _ _ hg]
    exact ⟨by simpa using c1, by simpa using c2⟩
theorem HasF.free {w : World} {B g n cap : Nat} {l : List Fl} (h : HasF w B (.slice (some ⟨g, 0, none⟩) n cap) l) (j : Nat) : w.frozen? ⟨g, j, none⟩ = false := by
  rcases h with ⟨h0, _⟩ | ⟨g', cap', cur, hv, hb, hg, _⟩
  · cases h0
  · simp only [Value.slice.injEq, Option.some.injEq, Addr.mk.injEq, and_true] at hv
    obtain ⟨rfl, _⟩ := hv
    exact frozen_of_row w g j cur _ hg
theorem HasF.fls {w : World} {B : Nat} {v : Value} {l : List Fl} (h : HasF w B v l) : Fls w v l := by
  obtain ⟨a, cap, rfl, h1, h2, h3⟩ := h.form
  refine ⟨a, cap, rfl, h1, h2, fun h0 => ?_⟩
  obtain ⟨g, rfl⟩ := h3 h0
  exact ⟨g, 0, rfl, h.under g rfl, fun j hj => by rw [Nat.zero_add]; exact h.at j hj⟩
theorem HasF.put1 {w : World} {B g cap n : Nat} {l : List Fl} (h : HasF w B (.slice (some ⟨g, 0, none⟩) n cap) l) {k : Nat} (hk : k < l.length) (c : ByteArray) : HasF (w.setCell ⟨g, k * 2, none⟩ (.string c)) B (.slice (some ⟨g, 0, none⟩) n cap) (l.set k (c, l[k].2)) := by
  rcases h with ⟨h0, _⟩ | ⟨g', cap', cur, hv, hb, hg, hc, hm, hz, ht⟩
  · cases h0
  · simp only [Value.slice.injEq, Option.some.injEq, Addr.mk.injEq, and_true] at hv
    obtain ⟨rfl, rfl, rfl⟩ := hv
    refine .inr ⟨g, cap, cur.setIfInBounds (k * 2) (.string c), by rw [List.length_set], hb, heap_setCell_same w g _ cur _ _ hg, by rw [List.length_set]; exact hc, hm, by simpa using hz, ?_⟩
    rw [List.length_set, ← cellsF_set1 l c k hk, Array.toList_setIfInBounds, ← ht, List.take_set]
theorem HasF.put2 {w : World} {B g cap n : Nat} {l : List Fl} (h : HasF w B (.slice (some ⟨g, 0, none⟩) n cap) l) {k : Nat} (hk : k < l.length) (c : ByteArray) : HasF (w.setCell ⟨g, k * 2 + 1, none⟩ (.string c)) B (.slice (some ⟨g, 0, none⟩) n cap) (l.set k (l[k].1, c)) := by
  rcases h with ⟨h0, _⟩ | ⟨g', cap', cur, hv, hb, hg, hc, hm, hz, ht⟩
  · cases h0
  · simp only [Value.slice.injEq, Option.some.injEq, Addr.mk.injEq, and_true] at hv
    obtain ⟨rfl, rfl, rfl⟩ := hv
    refine .inr ⟨g, cap, cur.setIfInBounds (k * 2 + 1) (.string c), by rw [List.length_set], hb, heap_setCell_same w g _ cur _ _ hg, by rw [List.length_set]; exact hc, hm, by simpa using hz, ?_⟩
    rw [List.length_set, ← cellsF_set2 l c k hk, Array.toList_setIfInBounds, ← ht, List.take_set]

/-! ### Marks -/
def mkF (j : Nat) : Fl := (mkT (1 + 2 * j), mkT (1 + 2 * j + 1))
def markedF (l : List Fl) (k : Nat) : List Fl := (List.range k).map mkF ++ l.drop k
def marksF (n : Nat) : List Fl := (List.range n).map mkF
theorem markedF_length (l : List Fl) (k : Nat) (h : k ≤ l.length) : (markedF l k).length = l.length := by unfold markedF; simp; omega
theorem markedF_zero (l : List Fl) : markedF l 0 = l := by simp [markedF]
theorem markedF_all (l : List Fl) : markedF l l.length = marksF l.length := by simp [markedF, marksF]
theorem markedF_next (l : List Fl) (k : Nat) (h : k < l.length) : (markedF l k).set k (mkF k) = markedF l (k + 1) := by
  unfold markedF
  have e : ((List.range k).map mkF).length = k := by simp
  rw [List.set_append_right _ _ (by omega), e, Nat.sub_self, List.range_succ, List.map_append, List.append_assoc]
  congr 1
  rw [List.drop_eq_getElem_cons h, List.set_cons_zero]
  rfl
theorem marksF_length (n : Nat) : (marksF n).length = n := by simp [marksF]
theorem marksF_at (n j : Nat) (h : j < (marksF n).length) : (marksF n)[j] = mkF j := by simp [marksF]

set_option maxHeartbeats 400000 in
theorem markTextG (n : Nat) (h1 : 1 ≤ n) (h2 : n ≤ 100000000) (w : World) :
    Calls Tryz.prog 115 #[.int .i64 n] w fun e w' => e = .returned (.string (mkT n)) ∧ Grew w w' := by
  have hbound : n < 10 ^ 20 := by omega
  have HB : Hid (n < 10 ^ 20) := hbound
  clear hbound
  go_enter Tryz.func115, Tryz.ntmps115
  go_wp2
  go_loopw [0, 3] (fun a b wr => ∃ (m f : Nat) (x : ByteArray), a = .int .i64 m ∧ b = .string x ∧ m ≤ 100000000 ∧ x.size + m ≤ 100000000 ∧ Grew w wr ∧ Hid (m < 10 ^ f) ∧ Hid (decF 20 n = decF f m ++ x.data.toList)) (fun a _ _ => (intOf a).toNat)
  case atStart => exact ⟨n, 20, ⟨#[]⟩, rfl, rfl, h2, by show 0 + n ≤ _; omega, Grew.refl _, HB, by show decF 20 n = decF 20 n ++ []; rw [List.append_nil]⟩
  case round =>
    obtain ⟨m, f, x, rfl, rfl, hm, hxm, hb, hmf, hx⟩ := hrel
    by_cases h0 : 0 < m
    · obtain ⟨f', g1, g2⟩ := dec_more hmf.out h0 hx.out
      have HM : Hid (m / 10 < 10 ^ f') := g1
      have HX : Hid (decF 20 n = decF f' (m / 10) ++ (decB (m % 10) :: x.data.toList)) := g2
      clear g1 g2
      have hback := byte_text wr (48 + (m : Int) % 10) (decB (m % 10)) (dec_byte m)
      go_wp2
      go_roundw
      case rel => exact ⟨m / 10, f', _, by go_num, rfl, by omega, by rw [size_cat]; omega, hb.alloc _, HM, by rw [cat_cons]; exact HX⟩
      case measure => simp [intOf]; omega
    · obtain rfl : m = 0 := by omega
      have HX : Hid (decF 20 n = x.data.toList) := by show _ = _; rw [hx.out, decF_zero]; rfl
      go_wp2
      go_ret
      exact ⟨ret_text (mkT_is HX.out), hb⟩
end Go.Proofs.YteibacmohplblaaGreatDoor
namespace Go.Proofs.YteibacmohplblaaGreatDoor
open Go.RowKit Go.Sort

theorem putMark (l : List Fl) (k : Nat) (hk : k < l.length) : (l.set k (mkT (1 + 2 * k), l[k].2)).set k (((l.set k (mkT (1 + 2 * k), l[k].2))[k]'(by rw [List.length_set]; exact hk)).1, mkT (1 + 2 * k + 1)) = l.set k (mkF k) := by
  rw [List.set_set]; simp [mkF]
theorem grown_put {a w : World} {g : Nat} (h : a.grownBy w (some g)) (j : Nat) (v : Value) : a.grownBy (w.setCell ⟨g, j, none⟩ v) (some g) :=
  ⟨h.os, h.tape, h.output, by simpa [World.setCell] using h.size, fun k hk hne => (Below.heap_setCell _ _ _ _ (fun e => hne (by rw [e]))).trans (h.block k hk hne)⟩
theorem grown_below {a w w' : World} {r : Option Nat} (h : a.grownBy w r) (hb : Below w.heap.size w w') : a.grownBy w' r :=
  ⟨hb.os.trans h.os, hb.tape.trans h.tape, hb.output.trans h.output, Nat.le_trans h.size hb.size, fun k hk hne => (hb.block k (Nat.lt_of_lt_of_le hk h.size)).trans (h.block k hk hne)⟩
theorem grown_self (w : World) (r : Option Nat) : w.grownBy w r := ⟨rfl, rfl, rfl, Nat.le_refl _, fun _ _ _ => rfl⟩

set_option maxHeartbeats 1000000 in
theorem markFS (v : Value) (l : List Fl) (B : Nat) (w : World) (h : HasF w B v l) (hl : l.length ≤ 1048576) :
    Calls Tryz.prog 85 #[v, .int .i64 1] w fun e w' => e = .returned (.int .i64 (1 + 2 * (l.length : Int))) ∧ HasF w' B v (marksF l.length) ∧ w.grownBy w' v.ownBlock := by
  have hh := h
  obtain ⟨a, cap, rfl, h1, h2, h3⟩ := hh.form
  unfold maxLen at h2
  go_enter Tryz.func85, Tryz.ntmps85
  go_wp2
  go_loopw [1, 5] (fun m i wr => ∃ k : Nat, k ≤ l.length ∧ i = .int .i64 k ∧ m = .int .i64 (1 + 2 * (k : Int)) ∧ HasF wr B (.slice a l.length cap) (markedF l k) ∧ w.grownBy wr (Value.slice a l.length cap).ownBlock) (fun _ i _ => l.length - (intOf i).toNat)
  case atStart => exact ⟨0, Nat.zero_le _, rfl, rfl, by rw [markedF_zero]; exact h, grown_self _ _⟩
  case round =>
    clear h hh
    obtain ⟨k, hk, rfl, rfl, ho, hgr⟩ := hrel
    by_cases hlt : k < l.length
    · obtain ⟨g, rfl⟩ := h3 (by omega)
      have hml := markedF_length l k hk
      have hnx := markedF_next l k hlt
      generalize hl2 : markedF l (k + 1) = l2 at hnx
      generalize markedF l k = l1 at ho hml hnx
      have m1 := fun wx => markTextG (1 + 2 * k) (by omega) (by omega) wx
      have m2 := fun wx => markTextG (1 + 2 * k + 1) (by omega) (by omega) wx
      simp only [Int.natCast_add, Int.natCast_mul, Int.cast_ofNat_Int] at m1 m2
      clear h3
      go_wp2_with fail
      refine (m1 _).mono ?_
      rintro e w1 ⟨rfl, hb1⟩
      have ho1 := ho.kept hb1.low
      obtain ⟨d1, d2⟩ := ho1.at k (by omega)
      have f1 := ho1.free (k * 2)
      have hg1 := grown_below hgr hb1.low
      have ho2 := ho1.put1 (k := k) (by omega) (mkT (1 + 2 * k))
      have hg2 := grown_put hg1 (k * 2) (.string (mkT (1 + 2 * k)))
      clear ho hgr hb1
      go_wp2_with fail
      refine (m2 _).mono ?_
      rintro e w3 ⟨rfl, hb3⟩
      have ho3 := ho2.kept hb3.low
      have hg3 := grown_below hg2 hb3.low
      obtain ⟨d3, d4⟩ := ho3.at k (by rw [List.length_set]; omega)
      have f3 := ho3.free (k * 2 + 1)
      have ho4 := ho3.put2 (k := k) (by rw [List.length_set]; omega) (mkT (1 + 2 * k + 1))
      have hg4 := grown_put hg3 (k * 2 + 1) (.string (mkT (1 + 2 * k + 1)))
      rw [putMark l1 k (by omega), hnx] at ho4
      clear ho1 ho2 ho3 hg1 hg2 hg3 hb3 d1 d2 f1
      go_wp2
      go_roundw
      case rel => exact ⟨k + 1, by omega, by go_num, by go_num, by rw [hl2]; exact ho4, hg4⟩
      case measure => simp [intOf]; omega
    · obtain rfl : k = l.length := by omega
      rw [markedF_all] at ho
      go_wp2
      go_ret
      exact ⟨rfl, ho, hgr⟩

set_option maxHeartbeats 1000000 in
theorem heldFS (v : Value) (n : Nat) (B : Nat) (w : World) (h : HasF w B v (marksF n)) (hl : n ≤ 1048576) :
    Calls Tryz.prog 86 #[v, .int .i64 1] w fun e w' => e = .returned (.int .i64 (1 + 2 * (n : Int))) ∧ Grew w w' := by
  have hml := marksF_length n
  obtain ⟨a, cap, rfl, h1, h2, h3⟩ := h.form
  unfold maxLen at h2
  rw [hml] at h1 h3
  have hu := h.under
  have hat := fun g (e : a = some ⟨g, 0, none⟩) j hj => HasF.at (show HasF w B (.slice (some ⟨g, 0, none⟩) (marksF n).length cap) (marksF n) from e ▸ h) j hj
  rw [hml]
  rw [hml] at hu
  clear h
  have hmx := mixed
  go_enter Tryz.func86, Tryz.ntmps86
  go_wp2
  go_loopw [1, 5] (fun m i wr => ∃ k : Nat, k ≤ n ∧ i = .int .i64 k ∧ m = .int .i64 (1 + 2 * (k : Int)) ∧ Grew w wr) (fun _ i _ => n - (intOf i).toNat)
  case atStart => exact ⟨0, Nat.zero_le _, rfl, rfl, Grew.refl _⟩
  case round =>
    obtain ⟨k, hk, rfl, rfl, hg⟩ := hrel
    by_cases hlt : k < n
    · obtain ⟨g, rfl⟩ := h3 (by omega)
      obtain ⟨c1, c2⟩ := hat g rfl k (by omega)
      rw [marksF_at] at c1 c2
      have hgb : g < w.heap.size := hu g rfl
      have e1 : wr.cell? ⟨g, k * 2, none⟩ = some (.string (mkT (1 + 2 * k))) := hg.cell c1 hgb
      have e2 : wr.cell? ⟨g, k * 2 + 1, none⟩ = some (.string (mkT (1 + 2 * k + 1))) := hg.cell c2 hgb
      have hgr : g < wr.heap.size := Nat.lt_of_lt_of_le hgb hg.1.size
      have m1 := fun wx => markTextG (1 + 2 * k) (by omega) (by omega) wx
      have m2 := fun wx => markTextG (1 + 2 * k + 1) (by omega) (by omega) wx
      simp only [Int.natCast_add, Int.natCast_mul, Int.cast_ofNat_Int] at m1 m2
      generalize mkT (1 + 2 * k) = t1 at e1 m1
      generalize mkT (1 + 2 * k + 1) = t2 at e2 m2
      have k1 : ∀ q os, (grow (wr.drewN q) os).cell? ⟨g, k * 2, none⟩ = some (.string t1) := fun q os => (cell?_grow _ _ _ (by show g < wr.heap.size; omega)).trans e1
      clear hat h3 hu c1 c2
      go_wp2
      go_quiet_grown ((go_at_call 115; refine callGrew (m1 _)))
      clear k1 e1
      have hg2 : Grew w (grow (wr.drewN nq) osq) := (hg.drewN _).more _
      have e3 : (grow (wr.drewN nq) osq).cell? ⟨g, k * 2 + 1, none⟩ = some (.string t2) := (cell?_grow _ _ _ (by show g < wr.heap.size; omega)).trans e2
      have hgr2 : g < (grow (wr.drewN nq) osq).heap.size := by rw [size_grow]; show g < wr.heap.size + _; omega
      generalize grow (wr.drewN nq) osq = w1 at hg2 e3 hgr2 ⊢
      clear e2 hgr
      go_wp2
      have k2 : ∀ q os, (grow (w1.drewN q) os).cell? ⟨g, k * 2 + 1, none⟩ = some (.string t2) := fun q os => (cell?_grow _ _ _ (by show g < w1.heap.size; omega)).trans e3
      go_quiet_grown ((go_at_call 115; refine callGrew (m2 _)))
      clear k2 e3
      have hg3 : Grew w (grow (w1.drewN nq) osq) := (hg2.drewN _).more _
      generalize grow (w1.drewN nq) osq = w2 at hg3 ⊢
      go_wp2
      go_roundw
      case rel => exact ⟨k + 1, by omega, by go_num, by go_num, hg3⟩
      case measure => simp [intOf]; omega
    · obtain rfl : k = n := by omega
      go_wp2
      go_ret
      exact ⟨rfl, hg⟩
end Go.Proofs.YteibacmohplblaaGreatDoor
namespace Go.Proofs.YteibacmohplblaaGreatDoor
open Go.RowKit Go.Sort Go.Maps Go.ChangeMaps Go.WideMaps

theorem lowS_size (s : ByteArray) : (lowS s).size = s.size := by
  show ((s.data.toList.map lowB).toArray).size = s.size
  simp

/-- The slice v reads as the texts ns. -/
def Strs (w : World) (v : Value) (ns : List ByteArray) : Prop :=
  ∃ a cap, v = .slice a ns.length cap ∧ ns.length ≤ cap ∧ cap ≤ maxLen ∧ (0 < ns.length → ∃ g o, a = some ⟨g, o, none⟩ ∧ g < w.heap.size ∧ ∀ j (hj : j < ns.length), w.cell? ⟨g, o + j, none⟩ = some (.string ns[j]))
theorem OwnsS.strs {w : World} {B : Nat} {v : Value} {l : List ByteArray} (h : OwnsS w B v l) : Strs w v l := by
  have hh := h
  obtain ⟨⟨g, cap, rfl, _, hg⟩, h2⟩ := h
  rcases h2.2 with ⟨h0, _⟩ | ⟨g', cap', cur, hv, _, _, hc, hm, _⟩
  · cases h0
  · simp only [Value.slice.injEq, Option.some.injEq, Addr.mk.injEq, and_true, true_and] at hv
    obtain ⟨_, rfl⟩ := hv
    exact ⟨_, cap, rfl, hc, hm, fun _ => ⟨g, 0, rfl, hg, fun j hj => by rw [Nat.zero_add]; exact hh.at rfl j hj⟩⟩
/-- A slice that is written out. -/
theorem strs_lit (w : World) (ns : List ByteArray) (hn : ns.length ≤ 1000) : Strs (w.alloc (.cells (ns.map Value.string).toArray 9)) (.slice (some ⟨w.heap.size, 0, none⟩) ns.length ns.length) ns := by
  refine ⟨_, ns.length, rfl, Nat.le_refl _, by unfold maxLen; omega, fun _ => ⟨w.heap.size, 0, rfl, by simp, fun j hj => ?_⟩⟩
  rw [Nat.zero_add, World.cell?_alloc_mark]
  simp [hj]
theorem Strs.kept {w w' : World} {v : Value} {l : List ByteArray} (h : Strs w v l) (hb : Below w.heap.size w w') : Strs w' v l := by
  obtain ⟨a, cap, hv, h1, h2, h3⟩ := h
  refine ⟨a, cap, hv, h1, h2, fun h0 => ?_⟩
  obtain ⟨g, o, ha, hg, hc⟩ := h3 h0
  exact ⟨g, o, ha, Nat.lt_of_lt_of_le hg hb.size, fun j hj => (hb.cell (p := ⟨g, o + j, none⟩) hg).trans (hc j hj)⟩

theorem lawK : Keyed Tryz.prog 9 := string_keyed Tryz.underlying9
theorem zeroU (w : World) : (zeroValue 132).run Tryz.prog w = .ok (.agg #[]) w := by kernel_rfl
def keyL (s : ByteArray) : Lit := .string s.data.toList
theorem keyL_of {s : ByteArray} (hs : s.size ≤ maxLen) : keyOf Tryz.prog 9 (.string s) = some (keyL s) := keyOf_string_mk Tryz.underlying9 hs
/-- Block b is the set of the names acc. -/
def SetIs (w : World) (b : Nat) (acc : List ByteArray) : Prop := w.ownsMap Tryz.prog 9 (unitElem (H := Unit)) b acc.length (setOf (.agg []) (acc.map keyL))
theorem SetIs.made (w : World) : SetIs (w.alloc (.map #[] 0)) w.heap.size [] := World.ownsMap_made _ _ _ _
theorem SetIs.lt {w : World} {b : Nat} {acc : List ByteArray} (h : SetIs w b acc) : b < w.heap.size := World.ownsMap.lt h
theorem SetIs.kept {w w' : World} {b : Nat} {acc : List ByteArray} (h : SetIs w b acc) (hb : Below w.heap.size w w') : SetIs w' b acc :=
  World.ownsMap.kept h (row := none) ⟨hb.os, hb.tape, hb.output, hb.size, fun k hk _ => hb.block k hk⟩ (by simp)
theorem SetIs.grown {w w' : World} {b : Nat} {acc : List ByteArray} {r : Option Nat} (h : SetIs w b acc) (hg : w.grownBy w' r) (hne : some b ≠ r) : SetIs w' b acc := World.ownsMap.kept h hg hne
theorem keyL_same (a b : ByteArray) : (keyL a).sameKey (keyL b) = decide (a = b) := by
  by_cases h : a = b
  · subst h
    rw [decide_eq_true rfl]
    simp [keyL, Lit.sameKey]
  · rw [decide_eq_false h]
    exact sameKey_ne fun e => h (ext_bytes (by simpa [keyL] using e))
theorem set_has (acc : List ByteArray) (x : ByteArray) : Maps.has (setOf (H := Unit) (.agg []) (acc.map keyL)) (keyL x) = acc.any fun n => decide (n = x) := by
  rw [has_setOf _ _ _ (by intro y hy; obtain ⟨n, _, rfl⟩ := List.mem_map.1 hy; trivial), List.any_map]
  congr 1
  funext n
  exact keyL_same n x

set_option maxHeartbeats 1000000 in
theorem implHas (b : Nat) (acc : List ByteArray) (s : ByteArray) (w : World) (h : SetIs w b acc) (hs : s.size ≤ 1048576) :
    Calls Tryz.prog 127 #[.map (some b), .string s] w fun e w' => e = .returned (.bool (acc.any fun n => decide (n = lowS s))) ∧ Below w.heap.size w w' := by
  have hsm : s.size ≤ maxLen := by unfold maxLen; omega
  have hlz := lowS_size s
  have hkey := keyL_of (s := lowS s) (by rw [hlz]; exact hsm)
  have HH : Hid (Maps.has (setOf (H := Unit) (.agg []) (acc.map keyL)) (keyL (lowS s)) = acc.any fun n => decide (n = lowS s)) := set_has acc (lowS s)
  go_enter Tryz.func127, Tryz.ntmps127
  go_wp2_with (first
    | (go_at_call 68; refine (implLow _ _ hsm).mono ?_; rintro e w1 ⟨rfl, hb1⟩; have h1 := h.kept hb1)
    | (at_lookup; refine wpList_lookup_own_unit _ rfl _ _ 106 rfl 9 132 lawK Tryz.underlying106 (zeroU _) b acc.length _ rfl h1 _ _ rfl hkey ?_))
  go_ret
  refine ⟨ret_bool HH.out, ?_⟩
  exact hb1.alloc hb1.size _
theorem SetIs.put {w : World} {b : Nat} {acc : List ByteArray} {x : ByteArray} (h : w.ownsMap Tryz.prog 9 (unitElem (H := Unit)) b (acc.length + 1) ((setOf (H := Unit) (.agg []) (acc.map keyL)).put (keyL x) (.agg []))) : SetIs w b (acc ++ [x]) := by
  unfold SetIs
  rw [List.map_append, List.length_append, show [x].map keyL = [keyL x] from rfl, setOf_snoc]
  exact h

set_option maxHeartbeats 1000000 in
theorem implAdd (b : Nat) (acc : List ByteArray) (v : Value) (ns : List ByteArray) (w : World) (h : SetIs w b acc) (hv : Strs w v ns) (hne : ∀ k, v.ownBlock = some k → k ≠ b) (hs : ∀ n ∈ ns, n.size ≤ 1048576) (hl : acc.length + ns.length ≤ 1000000) :
    Calls Tryz.prog 100 #[.map (some b), v] w fun e w' => e = .returned (.tuple #[]) ∧ SetIs w' b (acc ++ ns.map lowS) ∧ w.grownBy w' (some b) := by
  obtain ⟨a, cap, rfl, h1, h2, h3⟩ := hv
  unfold maxLen at h2
  go_enter Tryz.func100, Tryz.ntmps100
  go_wp2
  go_loopw [8] (fun i wr => ∃ (k : Nat), k ≤ ns.length ∧ i = .int .i64 k ∧ SetIs wr b (acc ++ (ns.take k).map lowS) ∧ w.grownBy wr (some b)) (fun i _ => ns.length - (intOf i).toNat)
  case atStart => exact ⟨0, Nat.zero_le _, rfl, by simpa using h, grown_self _ _⟩
  case round =>
    clear h
    obtain ⟨k, hk, rfl, ho, hgr⟩ := hrel
    by_cases hlt : k < ns.length
    · obtain ⟨g, o, rfl, hg, hc⟩ := h3 (by omega)
      have c1 := hgr.cell (hc k hlt) (fun e => hne g rfl (by simpa using e))
      have hsz := hs ns[k] (List.getElem_mem hlt)
      have HN : Hid (acc ++ (ns.take (k + 1)).map lowS = acc ++ (ns.take k).map lowS ++ [lowS ns[k]]) := by show _ = _; rw [List.take_succ_eq_append_getElem hlt, List.map_append, List.append_assoc]; rfl
      have hcl : (acc ++ (ns.take k).map lowS).length ≤ 1000000 := by simp; omega
      generalize ns[k] = x at c1 hsz HN
      generalize acc ++ (ns.take k).map lowS = ac at ho HN hcl
      have hxm : x.size ≤ maxLen := by unfold maxLen; omega
      have hlz := lowS_size x
      have hkey := keyL_of (s := lowS x) (by rw [hlz]; exact hxm)
      clear hc h3 hs
      go_wp2_with (first
        | (go_at_call 68; refine (implLow _ _ hxm).mono ?_; rintro e w1 ⟨rfl, hb1⟩; have h1 := ho.kept hb1; have hg1 := grown_below hgr hb1)
        | (at_mapUpdate; refine wpList_mapUpdate_own _ rfl _ _ _ 106 rfl 9 132 lawK Tryz.underlying106 (unitElem (H := Unit)) b ac.length _ rfl h1 (by unfold maxLen; omega) _ _ _ rfl rfl hkey _ [] unitElem_mk ?_; intro w2 ho2 hg2))
      have ho3 := SetIs.put ho2
      rw [← HN.out] at ho3
      have hg3 := hg1.trans hg2
      clear ho h1 ho2 hg1 hg2 hb1 hgr c1
      go_roundw
      case rel => exact ⟨k + 1, by omega, by go_num, ho3, hg3⟩
      case measure => simp [intOf]; omega
    · rw [List.take_of_length_le (by omega)] at ho
      go_wp2
      go_returns
      exact ⟨rfl, ho, hgr⟩
end Go.Proofs.YteibacmohplblaaGreatDoor
