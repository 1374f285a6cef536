/-
  Fields and responses marked from any number on, and asked for their marks.
  Objects marked from any number on, and asked for their marks.
  The walk of FnExactReadObject, given what the program's ReadObject answers.
-/
import Derived.Test.YtemmgfnepdgpbaaGreatDoorG17
import Derived.Test.YtemmgfnepdgpbaaGreatDoorG23
import Derived.Test.YtemmgfnepdgpbaaGreatDoorG27
import Derived.Test.YtemmgfnepdgpbaaGreatDoorG34
namespace Go.Proofs.YtemmgfnepdgpbaaGreatDoor
open Go.RowKit Go.Sort
set_option linter.unusedVariables false

theorem grown_alloc10 {w w' : World} {o : Obj} {r : Option Nat} (h : (w.alloc o).grownBy w' r) : w.grownBy w' r := by
  refine ⟨h.os, h.tape, h.output, ?_, fun k hk hne => ?_⟩
  · have := h.size
    simp at this
    omega
  · rw [h.block k (by simp; omega) hne]
    exact Below.heap_alloc _ _ _ hk
def mkN (s j : Nat) : Fl := (mkT (s + 2 * j), mkT (s + 2 * j + 1))
def markedN (s : Nat) (l : List Fl) (k : Nat) : List Fl := (List.range k).map (mkN s) ++ l.drop k
def marksN (s n : Nat) : List Fl := (List.range n).map (mkN s)
theorem markedF_lengthN (s : Nat) (l : List Fl) (k : Nat) (h : k ≤ l.length) : (markedN s l k).length = l.length := by unfold markedN; simp; omega
theorem markedF_zeroN (s : Nat) (l : List Fl) : markedN s l 0 = l := by simp [markedN]
theorem markedF_allN (s : Nat) (l : List Fl) : markedN s l l.length = marksN s l.length := by simp [markedN, marksN]
theorem markedF_nextN (s : Nat) (l : List Fl) (k : Nat) (h : k < l.length) : (markedN s l k).set k (mkN s k) = markedN s l (k + 1) := by
  unfold markedN
  have e : ((List.range k).map (mkN s)).length = k := by simp
  rw [List.set_append_right _ _ (by omega), e, Nat.sub_self, List.range_succ, List.map_append, List.append_assoc]
  congr 1
  rw [List.drop_eq_getElem_cons h, List.set_cons_zero]
  rfl
theorem marksF_lengthN (s n : Nat) : (marksN s n).length = n := by simp [marksN]
theorem marksF_atN (s n j : Nat) (h : j < (marksN s n).length) : (marksN s n)[j] = mkN s j := by simp [marksN]

theorem putMarkN (s : Nat) (l : List Fl) (k : Nat) (hk : k < l.length) : (l.set k (mkT (s + 2 * k), l[k].2)).set k (((l.set k (mkT (s + 2 * k), l[k].2))[k]'(by rw [List.length_set]; exact hk)).1, mkT (s + 2 * k + 1)) = l.set k (mkN s k) := by
  rw [List.set_set]; simp [mkN]
set_option maxHeartbeats 1000000 in
theorem markFSN (s : Nat) (hs1 : 1 ≤ s) (hs2 : s ≤ 50000000) (v : Value) (l : List Fl) (B : Nat) (w : World) (h : HasF w B v l) (hl : l.length ≤ 1048576) :
    Calls Tryz.prog 49 #[v, .int .i64 (s : Int)] w fun e w' => e = .returned (.int .i64 ((s : Int) + 2 * (l.length : Int))) ∧ HasF w' B v (marksN s l.length) ∧ w.grownBy w' v.ownBlock := by
  have hh := h
  obtain ⟨a, cap, rfl, h1, h2, h3⟩ := hh.form
  unfold maxLen at h2
  go_enter Tryz.func49, Tryz.ntmps49
  go_wp2
  go_loopw [1, 5] (fun m i wr => ∃ k : Nat, k ≤ l.length ∧ i = .int .i64 k ∧ m = .int .i64 ((s : Int) + 2 * (k : Int)) ∧ HasF wr B (.slice a l.length cap) (markedN s l k) ∧ w.grownBy wr (Value.slice a l.length cap).ownBlock) (fun _ i _ => l.length - (intOf i).toNat)
  case atStart => exact ⟨0, Nat.zero_le _, rfl, by simp, by rw [markedF_zeroN]; exact h, grown_self _ _⟩
  case round =>
    clear h hh
    obtain ⟨k, hk, rfl, rfl, ho, hgr⟩ := hrel
    by_cases hlt : k < l.length
    · obtain ⟨g, rfl⟩ := h3 (by omega)
      have hml := markedF_lengthN s l k hk
      have hnx := markedF_nextN s l k hlt
      generalize hl2 : markedN s l (k + 1) = l2 at hnx
      generalize markedN s l k = l1 at ho hml hnx
      have m1 := fun wx => markTextG (s + 2 * k) (by omega) (by omega) wx
      have m2 := fun wx => markTextG (s + 2 * k + 1) (by omega) (by omega) wx
      simp only [Int.natCast_add, Int.natCast_mul, Int.cast_ofNat_Int] at m1 m2
      clear h3
      go_wp2_with fail
      refine (m1 _).mono ?_
      rintro e w1 ⟨rfl, hb1⟩
      have ho1 := ho.kept hb1.low
      obtain ⟨d1, d2⟩ := ho1.at k (by omega)
      have f1 := ho1.free (k * 2)
      have hg1 := grown_below hgr hb1.low
      have ho2 := ho1.put1 (k := k) (by omega) (mkT (s + 2 * k))
      have hg2 := grown_put hg1 (k * 2) (.string (mkT (s + 2 * k)))
      clear ho hgr hb1
      go_wp2_with fail
      refine (m2 _).mono ?_
      rintro e w3 ⟨rfl, hb3⟩
      have ho3 := ho2.kept hb3.low
      have hg3 := grown_below hg2 hb3.low
      obtain ⟨d3, d4⟩ := ho3.at k (by rw [List.length_set]; omega)
      have f3 := ho3.free (k * 2 + 1)
      have ho4 := ho3.put2 (k := k) (by rw [List.length_set]; omega) (mkT (s + 2 * k + 1))
      have hg4 := grown_put hg3 (k * 2 + 1) (.string (mkT (s + 2 * k + 1)))
      rw [putMarkN s l1 k (by omega), hnx] at ho4
      clear ho1 ho2 ho3 hg1 hg2 hg3 hb3 d1 d2 f1
      go_wp2
      go_roundw
      case rel => exact ⟨k + 1, by omega, by go_num, by go_num, by rw [hl2]; exact ho4, hg4⟩
      case measure => simp [intOf]; omega
    · obtain rfl : k = l.length := by omega
      rw [markedF_allN] at ho
      go_wp2
      go_ret
      exact ⟨rfl, ho, hgr⟩

set_option maxHeartbeats 1000000 in
theorem heldFSN (s : Nat) (hs1 : 1 ≤ s) (hs2 : s ≤ 50000000) (v : Value) (n : Nat) (B : Nat) (w : World) (h : HasF w B v (marksN s n)) (hl : n ≤ 1048576) :
    Calls Tryz.prog 51 #[v, .int .i64 (s : Int)] w fun e w' => e = .returned (.int .i64 ((s : Int) + 2 * (n : Int))) ∧ Grew w w' := by
  have hml := marksF_lengthN s n
  obtain ⟨a, cap, rfl, h1, h2, h3⟩ := h.form
  unfold maxLen at h2
  rw [hml] at h1 h3
  have hu := h.under
  have hat := fun g (e : a = some ⟨g, 0, none⟩) j hj => HasF.at (show HasF w B (.slice (some ⟨g, 0, none⟩) (marksN s n).length cap) (marksN s n) from e ▸ h) j hj
  rw [hml]
  rw [hml] at hu
  clear h
  have hmx := mixed
  go_enter Tryz.func51, Tryz.ntmps51
  go_wp2
  go_loopw [1, 5] (fun m i wr => ∃ k : Nat, k ≤ n ∧ i = .int .i64 k ∧ m = .int .i64 ((s : Int) + 2 * (k : Int)) ∧ Grew w wr) (fun _ i _ => n - (intOf i).toNat)
  case atStart => exact ⟨0, Nat.zero_le _, rfl, by simp, Grew.refl _⟩
  case round =>
    obtain ⟨k, hk, rfl, rfl, hg⟩ := hrel
    by_cases hlt : k < n
    · obtain ⟨g, rfl⟩ := h3 (by omega)
      obtain ⟨c1, c2⟩ := hat g rfl k (by omega)
      rw [marksF_atN] at c1 c2
      have hgb : g < w.heap.size := hu g rfl
      have e1 : wr.cell? ⟨g, k * 2, none⟩ = some (.string (mkT (s + 2 * k))) := hg.cell c1 hgb
      have e2 : wr.cell? ⟨g, k * 2 + 1, none⟩ = some (.string (mkT (s + 2 * k + 1))) := hg.cell c2 hgb
      have hgr : g < wr.heap.size := Nat.lt_of_lt_of_le hgb hg.1.size
      have m1 := fun wx => markTextG (s + 2 * k) (by omega) (by omega) wx
      have m2 := fun wx => markTextG (s + 2 * k + 1) (by omega) (by omega) wx
      simp only [Int.natCast_add, Int.natCast_mul, Int.cast_ofNat_Int] at m1 m2
      generalize mkT (s + 2 * k) = t1 at e1 m1
      generalize mkT (s + 2 * k + 1) = t2 at e2 m2
      have k1 : ∀ q os, (grow (wr.drewN q) os).cell? ⟨g, k * 2, none⟩ = some (.string t1) := fun q os => (cell?_grow _ _ _ (by show g < wr.heap.size; omega)).trans e1
      clear hat h3 hu c1 c2
      go_wp2
      go_quiet_grown ((go_at_call 57; refine callGrew (m1 _)))
      clear k1 e1
      have hg2 : Grew w (grow (wr.drewN nq) osq) := (hg.drewN _).more _
      have e3 : (grow (wr.drewN nq) osq).cell? ⟨g, k * 2 + 1, none⟩ = some (.string t2) := (cell?_grow _ _ _ (by show g < wr.heap.size; omega)).trans e2
      have hgr2 : g < (grow (wr.drewN nq) osq).heap.size := by rw [size_grow]; show g < wr.heap.size + _; omega
      generalize grow (wr.drewN nq) osq = w1 at hg2 e3 hgr2 ⊢
      clear e2 hgr
      go_wp2
      have k2 : ∀ q os, (grow (w1.drewN q) os).cell? ⟨g, k * 2 + 1, none⟩ = some (.string t2) := fun q os => (cell?_grow _ _ _ (by show g < w1.heap.size; omega)).trans e3
      go_quiet_grown ((go_at_call 57; refine callGrew (m2 _)))
      clear k2 e3
      have hg3 : Grew w (grow (w1.drewN nq) osq) := (hg2.drewN _).more _
      generalize grow (w1.drewN nq) osq = w2 at hg3 ⊢
      go_wp2
      go_roundw
      case rel => exact ⟨k + 1, by omega, by go_num, by go_num, hg3⟩
      case measure => simp [intOf]; omega
    · obtain rfl : k = n := by omega
      go_wp2
      go_ret
      exact ⟨rfl, hg⟩

set_option maxHeartbeats 1000000 in
theorem markRsN (s : Nat) (hs1 : 1 ≤ s) (hs2 : s ≤ 50000000) (r : Rs) (v : Value) (B : Nat) (w : World) (h : HasF w B v r.l) (hl : r.l.length ≤ 1048576) :
    Calls Tryz.prog 50 #[rsV r v, .int .i64 (s : Int)] w fun e w' => e = .returned (.int .i64 ((s : Int) + 2 * (r.l.length : Int))) ∧ HasF w' B v (marksN s r.l.length) ∧ w.grownBy w' v.ownBlock := by
  obtain ⟨a, cap, rfl, _⟩ := h.form
  unfold rsV
  have hm := markFSN s hs1 hs2 _ r.l B (w.alloc (.cells #[.int .i64 r.s, .slice a r.l.length cap, .string r.b] 26)) (h.kept ((Below.refl _ w).alloc (Nat.le_refl _) _)) hl
  clear h
  go_enter Tryz.func50, Tryz.ntmps50
  go_wp2_with (go_at_call 49; refine hm.mono ?_; rintro e w1 ⟨rfl, h1, h2⟩)
  go_ret
  exact ⟨rfl, h1, grown_alloc10 h2⟩
set_option maxHeartbeats 1000000 in
theorem heldRsN (s : Nat) (hs1 : 1 ≤ s) (hs2 : s ≤ 50000000) (r : Rs) (v : Value) (n : Nat) (B : Nat) (w : World) (h : HasF w B v (marksN s n)) (hl : n ≤ 1048576) :
    Calls Tryz.prog 52 #[rsV r v, .int .i64 (s : Int)] w fun e w' => e = .returned (.int .i64 ((s : Int) + 2 * (n : Int))) ∧ Below w.heap.size w w' := by
  have hml := marksF_lengthN s n
  obtain ⟨a, cap, rfl, _⟩ := h.form
  unfold rsV
  have B0 : Hid (Below w.heap.size w (w.alloc (.cells #[.int .i64 r.s, .slice a (marksN s n).length cap, .string r.b] 26))) := (Below.refl _ w).alloc (Nat.le_refl _) _
  have hm := heldFSN s hs1 hs2 _ n B (w.alloc (.cells #[.int .i64 r.s, .slice a (marksN s n).length cap, .string r.b] 26)) (h.kept ((Below.refl _ w).alloc (Nat.le_refl _) _)) hl
  rw [hml] at hm ⊢
  rw [hml] at B0
  clear h hml
  have hnn : ¬ ((s : Int) + 2 * (n : Int)) < 0 := by omega
  go_enter Tryz.func52, Tryz.ntmps52
  go_wp2_with (go_at_call 51; refine hm.mono ?_; rintro e w1 ⟨rfl, h2⟩)
  go_ret
  exact ⟨rfl, past6 B0.out h2.low⟩
end Go.Proofs.YtemmgfnepdgpbaaGreatDoor
namespace Go.Proofs.YtemmgfnepdgpbaaGreatDoor
open Go.RowKit Go.Sort
set_option linter.unusedVariables false

/-- All blocks but two stay. -/
structure Two (w w' : World) (a b : Option Nat) : Prop where
  os : w'.os = w.os
  tape : w'.tape = w.tape
  output : w'.output = w.output
  size : w.heap.size ≤ w'.heap.size
  block : ∀ k, k < w.heap.size → some k ≠ a → some k ≠ b → w'.heap[k]? = w.heap[k]?
theorem HasF.two {w w' : World} {B : Nat} {v : Value} {l : List Fl} {a b : Option Nat} (h : HasF w B v l) (ht : Two w w' a b) (h1 : ∀ k, v.ownBlock = some k → some k ≠ a) (h2 : ∀ k, v.ownBlock = some k → some k ≠ b) : HasF w' B v l := by
  rcases h with ⟨rfl, rfl⟩ | ⟨g, cap, cur, rfl, hb, hg, rest⟩
  · exact .inl ⟨rfl, rfl⟩
  · exact .inr ⟨g, cap, cur, rfl, hb, (ht.block g (Array.getElem?_eq_some_iff.1 hg).1 (h1 g rfl) (h2 g rfl)).trans hg, rest⟩
theorem Two.below {w w' : World} {B : Nat} {a b : Option Nat} (ht : Two w w' a b) (h1 : ∀ k, a = some k → B ≤ k) (h2 : ∀ k, b = some k → B ≤ k) (hB : B ≤ w.heap.size) : Below B w w' :=
  ⟨ht.os, ht.tape, ht.output, ht.size, fun k hk => ht.block k (by omega) (fun e => by have := h1 k e.symm; omega) (fun e => by have := h2 k e.symm; omega)⟩
set_option maxHeartbeats 2000000 in
theorem markO (s : Nat) (hs1 : 1 ≤ s) (hs2 : s ≤ 40000000) (o : Ob) (p u : Value) (B : Nat) (w : World) (hp : HasF w B p o.l) (hu : HasF w B u o.r.l) (hd : ∀ g, p.ownBlock = some g → u.ownBlock ≠ some g) (hl : o.l.length ≤ 1048576) (hr : o.r.l.length ≤ 1048576) :
    Calls Tryz.prog 17 #[obV o p u, .int .i64 (s : Int)] w fun e w' => e = .returned (.int .i64 ((s : Int) + 2 * (o.l.length : Int) + 2 * (o.r.l.length : Int))) ∧ HasF w' B p (marksN s o.l.length) ∧ HasF w' B u (marksN (s + 2 * o.l.length) o.r.l.length) ∧ Two w w' p.ownBlock u.ownBlock := by
  obtain ⟨pa, pc, rfl, _⟩ := hp.form
  obtain ⟨ua, uc, rfl, _⟩ := hu.form
  have hb0 := (Below.refl _ w).alloc (Nat.le_refl _) (.cells #[.string o.k, .slice pa o.l.length pc, .int .i64 o.r.s, .slice ua o.r.l.length uc, .string o.r.b, .int .i64 o.asked, .int .i64 o.got, .int .i64 o.ep] 28)
  have m1 := markFSN s hs1 (by omega) _ o.l B (w.alloc (.cells #[.string o.k, .slice pa o.l.length pc, .int .i64 o.r.s, .slice ua o.r.l.length uc, .string o.r.b, .int .i64 o.asked, .int .i64 o.got, .int .i64 o.ep] 28)) (hp.kept hb0) hl
  have m2 := fun W (h : HasF W B (.slice ua o.r.l.length uc) o.r.l) => markRsN (s + 2 * o.l.length) (by omega) (by omega) o.r _ B W h hr
  have ec : ((s + 2 * o.l.length : Nat) : Int) = (s : Int) + 2 * (o.l.length : Int) := by omega
  rw [ec] at m2
  have Q0 : ObB (w.alloc (.cells #[.string o.k, .slice pa o.l.length pc, .int .i64 o.r.s, .slice ua o.r.l.length uc, .string o.r.b, .int .i64 o.asked, .int .i64 o.got, .int .i64 o.ep] 28)) w.heap.size o (.slice pa o.l.length pc) (.slice ua o.r.l.length uc) := ObB.new w o _ _ _
  have hu0 := hu.kept hb0
  have hpu := hp.under
  have huu := hu.under
  have hpm : ∀ W, HasF W B (.slice pa o.l.length pc) (marksN s o.l.length) → True := fun _ _ => trivial
  clear hp hu
  unfold obV
  unfold rsV at m2
  go_enter Tryz.func17, Tryz.ntmps17
  go_wp2_with fail
  refine m1.mono ?_
  rintro e w1 ⟨rfl, h1, g1⟩
  have Q1 : ObB w1 w.heap.size o (.slice pa o.l.length pc) (.slice ua o.r.l.length uc) := Q0.same (g1.block _ (by simp) (fun e => by have := hpu _ e.symm; omega)) g1.size
  have hu1 := hu0.grown g1 (fun k hk e => hd k e.symm hk)
  obtain ⟨c0, c1, c2, c3, c4, c5, c6, c7, cf, ch⟩ := Q1
  have H1 : Hid (HasF w1 B (.slice pa o.l.length pc) (marksN s o.l.length)) := h1
  have G1 : Hid _ := g1
  have B0 : Hid _ := hb0
  clear h1 g1 hb0 Q0 hu0 m1 ec hpm
  go_wp2_with fail
  refine (m2 _ hu1).mono ?_
  rintro e w2 ⟨rfl, h2, g2⟩
  have H2 : HasF w2 B (.slice pa o.l.length pc) (marksN s o.l.length) := H1.out.grown g2 (fun k hk e => hd k (by simpa [Value.ownBlock] using hk) e.symm)
  have T : Hid (Two w w2 (Value.slice pa o.l.length pc).ownBlock (Value.slice ua o.r.l.length uc).ownBlock) := by
    have z1 := G1.out.size
    have z2 := g2.size
    simp at z1
    exact ⟨g2.os.trans (G1.out.os.trans B0.out.os), g2.tape.trans (G1.out.tape.trans B0.out.tape), g2.output.trans (G1.out.output.trans B0.out.output), by omega, fun k hk e1 e2 => ((g2.block k (by omega) e2).trans (G1.out.block k (by simp; omega) e1)).trans (B0.out.block k hk)⟩
  have HU : Hid (HasF w2 B (.slice ua o.r.l.length uc) (marksN (s + 2 * o.l.length) o.r.l.length)) := h2
  have HP : Hid _ := H2
  clear H1 H2 G1 B0 h2 g2 m2 c0 c1 c2 c3 c4 c5 c6 c7 cf ch hu1
  go_wp2
  go_ret
  exact ⟨rfl, HP.out, HU.out, T.out⟩
set_option maxHeartbeats 2000000 in
theorem heldO (s : Nat) (hs1 : 1 ≤ s) (hs2 : s ≤ 40000000) (o : Ob) (p u : Value) (B : Nat) (w : World) (hp : HasF w B p (marksN s o.l.length)) (hu : HasF w B u (marksN (s + 2 * o.l.length) o.r.l.length)) (hl : o.l.length ≤ 1048576) (hr : o.r.l.length ≤ 1048576) :
    Calls Tryz.prog 18 #[obV o p u, .int .i64 (s : Int)] w fun e w' => e = .returned (.int .i64 ((s : Int) + 2 * (o.l.length : Int) + 2 * (o.r.l.length : Int))) ∧ Below w.heap.size w w' := by
  obtain ⟨pa, pc, rfl, _⟩ := hp.form
  obtain ⟨ua, uc, rfl, _⟩ := hu.form
  rw [marksF_lengthN] at hp hu ⊢
  rw [marksF_lengthN]
  have m1 := fun W (h : HasF W B (.slice pa o.l.length pc) (marksN s o.l.length)) => heldFSN s hs1 (by omega) _ o.l.length B W h hl
  have m2 := fun W (h : HasF W B (.slice ua o.r.l.length uc) (marksN (s + 2 * o.l.length) o.r.l.length)) => heldRsN (s + 2 * o.l.length) (by omega) (by omega) o.r _ o.r.l.length B W h hr
  have ec : ((s + 2 * o.l.length : Nat) : Int) = (s : Int) + 2 * (o.l.length : Int) := by omega
  rw [ec] at m2
  have B0 : Hid (Below w.heap.size w (w.alloc (.cells #[.string o.k, .slice pa o.l.length pc, .int .i64 o.r.s, .slice ua o.r.l.length uc, .string o.r.b, .int .i64 o.asked, .int .i64 o.got, .int .i64 o.ep] 28))) := (Below.refl _ w).alloc (Nat.le_refl _) _
  have Q0 : Hid (ObB (w.alloc (.cells #[.string o.k, .slice pa o.l.length pc, .int .i64 o.r.s, .slice ua o.r.l.length uc, .string o.r.b, .int .i64 o.asked, .int .i64 o.got, .int .i64 o.ep] 28)) w.heap.size o (.slice pa o.l.length pc) (.slice ua o.r.l.length uc)) := ObB.new w o _ _ _
  have P0 : Hid (HasF (w.alloc (.cells #[.string o.k, .slice pa o.l.length pc, .int .i64 o.r.s, .slice ua o.r.l.length uc, .string o.r.b, .int .i64 o.asked, .int .i64 o.got, .int .i64 o.ep] 28)) B (.slice pa o.l.length pc) (marksN s o.l.length)) := hp.kept B0.out
  have U0 : Hid (HasF (w.alloc (.cells #[.string o.k, .slice pa o.l.length pc, .int .i64 o.r.s, .slice ua o.r.l.length uc, .string o.r.b, .int .i64 o.asked, .int .i64 o.got, .int .i64 o.ep] 28)) B (.slice ua o.r.l.length uc) (marksN (s + 2 * o.l.length) o.r.l.length)) := hu.kept B0.out
  have n1 : ¬ ((s : Int) + 2 * (o.l.length : Int)) < 0 := by omega
  have n2 : ¬ ((s : Int) + 2 * (o.l.length : Int) + 2 * (o.r.l.length : Int)) < 0 := by omega
  clear hp hu ec
  unfold obV
  unfold rsV at m2
  go_enter Tryz.func18, Tryz.ntmps18
  go_wp2_with fail
  refine (m1 _ P0.out).mono ?_
  rintro e w1 ⟨rfl, g1⟩
  have hb1 := g1.low
  have B1 : Hid (Below w.heap.size w w1) := past6 B0.out hb1
  have U1 : Hid (HasF w1 B (.slice ua o.r.l.length uc) (marksN (s + 2 * o.l.length) o.r.l.length)) := U0.out.kept hb1
  obtain ⟨c0, c1, c2, c3, c4, c5, c6, c7, cf, ch⟩ := Q0.out.next hb1
  clear hb1 g1 B0 Q0 P0 U0 m1
  go_wp2_with fail
  refine (m2 _ U1.out).mono ?_
  rintro e w2 ⟨rfl, hb2⟩
  have B2 : Hid (Below w.heap.size w w2) := past6 B1.out hb2
  clear hb2 c0 c1 c2 c3 c4 c5 c6 c7 cf ch m2 B1 U1
  go_wp2
  go_ret
  exact ⟨rfl, B2.out⟩
end Go.Proofs.YtemmgfnepdgpbaaGreatDoor
namespace Go.Proofs.YtemmgfnepdgpbaaGreatDoor
open Go.RowKit Go.Sort St
set_option linter.unusedVariables false
set_option linter.unusedSimpArgs false

def rO (R : Option Ob) : Ob := R.getD noO
def rN (R : Option Ob) : Int := match R with
  | some o => ((shoL o).length : Nat)
  | none => 0
theorem RoQ.is {w w' : World} {R : Option Ob} {z : RoR} (h : RoQ w w' R z) : z.o = rO R ∧ z.b = R.isSome ∧ z.n = rN R := by
  cases R with
  | none => obtain ⟨h1, h2, h3⟩ := h.no rfl; exact ⟨h1, h2, h3⟩
  | some o => obtain ⟨h1, h2, h3⟩ := h.yes o rfl; exact ⟨h1, h2, h3⟩
theorem rO_fit (t : List UInt8) : (rO (rdO t)).l.length ≤ 30 ∧ (rO (rdO t)).r.l.length ≤ 30 ∧ (rO (rdO t)).k.size ≤ 500 := by
  cases e : rdO t with
  | none => exact ⟨Nat.zero_le _, Nat.zero_le _, Nat.zero_le _⟩
  | some o =>
    have hk := obOk (rdO_ok e).1
    exact ⟨(fldsOk_parts hk.fl).1, (fldsOk_parts hk.rl).1, hk.ksz⟩
/-- The specification's answer, in a box; all behind B stays as it lies. -/
structure An (B W : Nat) (V : World) (O : Ob) (p u : Value) (q : Nat) : Prop where
  hp : HasF V B p O.l
  hu : HasF V B u O.r.l
  bx : ObB V q O p u
  lp : ∀ g, p.ownBlock = some g → g < W
  lu : ∀ g, u.ownBlock = some g → g < W
  lq : q < W
theorem An.kept {B W : Nat} {V V' : World} {O : Ob} {p u : Value} {q : Nat} (h : An B W V O p u q) (hb : Below V.heap.size V V') : An B W V' O p u q := ⟨h.hp.kept hb, h.hu.kept hb, h.bx.next hb, h.lp, h.lu, h.lq⟩
theorem An.two {B W : Nat} {V V' : World} {O : Ob} {p u : Value} {q : Nat} {a b : Option Nat} (h : An B W V O p u q) (ht : Two V V' a b) (ha : ∀ k, a = some k → W ≤ k) (hb : ∀ k, b = some k → W ≤ k) : An B W V' O p u q :=
  ⟨h.hp.two ht (fun k hk e => by have := ha k e.symm; have := h.lp k hk; omega) (fun k hk e => by have := hb k e.symm; have := h.lp k hk; omega),
   h.hu.two ht (fun k hk e => by have := ha k e.symm; have := h.lu k hk; omega) (fun k hk e => by have := hb k e.symm; have := h.lu k hk; omega),
   h.bx.same (ht.block q h.bx.hi (fun e => by have := ha q e.symm; have := h.lq; omega) (fun e => by have := hb q e.symm; have := h.lq; omega)) ht.size, h.lp, h.lu, h.lq⟩
set_option maxRecDepth 100000 in
set_option maxHeartbeats 8000000 in
theorem walkRdO (X : World → Prop) (hX : ∀ w w', X w → Below w.heap.size w w' → X w')
    (hi : ∀ (t : ByteArray) (w : World), X w → t.size ≤ 1048576 → Calls Tryz.prog 11 #[.string t] w fun e w' => ∃ p u, e = .returned (.tuple #[obV (rO (rdO t.data.toList)) p u, .int .i64 (rN (rdO t.data.toList)), .bool (rdO t.data.toList).isSome]) ∧ HasF w' w.heap.size p (rO (rdO t.data.toList)).l ∧ HasF w' w.heap.size u (rO (rdO t.data.toList)).r.l ∧ (∀ g, p.ownBlock = some g → u.ownBlock ≠ some g) ∧ Below w.heap.size w w')
    (hXm : ∀ (w w' : World) (a b : Option Nat) (n : Nat), X w → Two w w' a b → (∀ k, a = some k → n ≤ k) → (∀ k, b = some k → n ≤ k) → n ≤ w.heap.size → (∃ w0, X w0 ∧ w0.heap.size ≤ n ∧ Below w0.heap.size w0 w) → X w')
    (t : ByteArray) (w : World) (hs : t.size ≤ maxLen) (hx : X w) :
    Calls Tryz.prog 4 #[.string t] w fun e w' => e = .returned (.bool true) ∧ Below w.heap.size w w' := by
  unfold maxLen at hs
  by_cases hb : 1048576 < t.size
  · have hbi : 1048576 < (t.size : Int) := by omega
    clear hi hX hXm
    go_enter Tryz.func4, Tryz.ntmps4
    go_wp2
    go_ret
    exact ⟨rfl, Below.refl _ _⟩
  · have hbi : ¬ 1048576 < (t.size : Int) := by omega
    have hsp : ∀ W, Calls Tryz.prog 15 #[.string t] W fun e w' => ∃ p u, e = .returned (.tuple #[obV (rO (rdO t.data.toList)) p u, .int .i64 (rN (rdO t.data.toList)), .bool (rdO t.data.toList).isSome]) ∧ HasF w' W.heap.size p (rO (rdO t.data.toList)).l ∧ HasF w' W.heap.size u (rO (rdO t.data.toList)).r.l ∧ (∀ g, p.ownBlock = some g → u.ownBlock ≠ some g) ∧ Below W.heap.size W w' := fun W => (specRdO t W (by omega)).mono fun e w' ⟨z, h1, h2⟩ => by
      obtain ⟨e1, e2, e3⟩ := h2.is
      have hv := h2.v
      have hu := h2.u
      rw [e1] at hv hu
      exact ⟨z.v, z.u, by rw [h1, e1, e2, e3], hv.has, hu.has, h2.ne, h2.low⟩
    have him := fun W hW => hi t W hW (by omega)
    obtain ⟨f1, f2, f3⟩ := rO_fit t.data.toList
    have heq := fun va vb ua ub W h1 h2 h3 h4 => lawEqOb (rO (rdO t.data.toList)) va vb ua ub W h1 h2 h3 h4 (by omega) (by omega) (by omega)
    have hmk := fun p u B W h1 h2 h3 => markO 1 (by decide) (by decide) (rO (rdO t.data.toList)) p u B W h1 h2 h3 (by omega) (by omega)
    have hhd := fun p u B W h1 h2 => heldO 1 (by decide) (by decide) (rO (rdO t.data.toList)) p u B W h1 h2 (by omega) (by omega)
    simp only [Int.cast_ofNat_Int] at hmk hhd
    generalize rO (rdO t.data.toList) = O at hsp him heq hmk hhd f1 f2 f3
    generalize rN (rdO t.data.toList) = N at hsp him
    generalize (rdO t.data.toList).isSome = bo at hsp him
    generalize hmm : (1 : Int) + 2 * (O.l.length : Int) + 2 * (O.r.l.length : Int) = mm at hmk hhd
    have hm0 : ¬ mm < 0 := by omega
    have dm : (mm != mm) = false := by simp
    have dN : (N != N) = false := by simp
    have dB : (bo != bo) = false := by simp
    have HX : Hid (∀ w w', X w → Below w.heap.size w w' → X w') := hX
    have HXM : Hid (∀ (w w' : World) (a b : Option Nat) (n : Nat), X w → Two w w' a b → (∀ k, a = some k → n ≤ k) → (∀ k, b = some k → n ≤ k) → n ≤ w.heap.size → (∃ w0, X w0 ∧ w0.heap.size ≤ n ∧ Below w0.heap.size w0 w) → X w') := hXm
    have X0 : Hid (X w) := hx
    clear hi hX hXm hx hmm f1 f2 f3
    unfold obV at hsp him heq hmk hhd
    go_enter Tryz.func4, Tryz.ntmps4
    go_wp2_with fail
    refine (hsp _).mono ?_
    rintro e v1 ⟨q0, r0, rfl, hp, hu, _, hb1⟩
    obtain ⟨p0, c0, rfl, _⟩ := hp.form
    obtain ⟨u0, d0, rfl, _⟩ := hu.form
    have hbA : Below v1.heap.size v1 (v1.alloc (.cells #[.string O.k, (.slice p0 O.l.length c0), .int .i64 O.r.s, (.slice u0 O.r.l.length d0), .string O.r.b, .int .i64 O.asked, .int .i64 O.got, .int .i64 O.ep] 28)) := (Below.refl _ v1).alloc (Nat.le_refl _) _
    have A1 : Hid (An w.heap.size (v1.alloc (.cells #[.string O.k, (.slice p0 O.l.length c0), .int .i64 O.r.s, (.slice u0 O.r.l.length d0), .string O.r.b, .int .i64 O.asked, .int .i64 O.got, .int .i64 O.ep] 28)).heap.size (v1.alloc (.cells #[.string O.k, (.slice p0 O.l.length c0), .int .i64 O.r.s, (.slice u0 O.r.l.length d0), .string O.r.b, .int .i64 O.asked, .int .i64 O.got, .int .i64 O.ep] 28)) O (.slice p0 O.l.length c0) (.slice u0 O.r.l.length d0) v1.heap.size) := (show An _ _ _ _ _ _ _ from ⟨hp.kept hbA, hu.kept hbA, ObB.new v1 O _ _ _, fun g h => by have := hp.under g h; simp; omega, fun g h => by have := hu.under g h; simp; omega, by simp⟩)
    have B1 : Hid (Below w.heap.size w (v1.alloc (.cells #[.string O.k, (.slice p0 O.l.length c0), .int .i64 O.r.s, (.slice u0 O.r.l.length d0), .string O.r.b, .int .i64 O.asked, .int .i64 O.got, .int .i64 O.ep] 28))) := (show Below _ _ _ from hb1.trans (hbA.mono hb1.size))
    have X1 : Hid (X (v1.alloc (.cells #[.string O.k, (.slice p0 O.l.length c0), .int .i64 O.r.s, (.slice u0 O.r.l.length d0), .string O.r.b, .int .i64 O.asked, .int .i64 O.got, .int .i64 O.ep] 28))) := (show X _ from HX.out _ _ X0.out B1.out)
    clear hp hu hb1 hbA
    generalize hw1 : (v1.alloc (.cells #[.string O.k, (.slice p0 O.l.length c0), .int .i64 O.r.s, (.slice u0 O.r.l.length d0), .string O.r.b, .int .i64 O.asked, .int .i64 O.got, .int .i64 O.ep] 28)) = w1 at A1 B1 X1
    generalize hq1 : v1.heap.size = k1 at A1
    go_wp2_with fail
    clear hw1 hq1
    refine (him _ X1.out).mono ?_
    rintro e v2 ⟨q1, r1, rfl, hp, hu, hne, hb2⟩
    obtain ⟨p1, c1, rfl, _⟩ := hp.form
    obtain ⟨u1, d1, rfl, _⟩ := hu.form
    have hbA : Below v2.heap.size v2 (v2.alloc (.cells #[.string O.k, (.slice p1 O.l.length c1), .int .i64 O.r.s, (.slice u1 O.r.l.length d1), .string O.r.b, .int .i64 O.asked, .int .i64 O.got, .int .i64 O.ep] 28)) := (Below.refl _ v2).alloc (Nat.le_refl _) _
    have hbC : Below w1.heap.size w1 (v2.alloc (.cells #[.string O.k, (.slice p1 O.l.length c1), .int .i64 O.r.s, (.slice u1 O.r.l.length d1), .string O.r.b, .int .i64 O.asked, .int .i64 O.got, .int .i64 O.ep] 28)) := hb2.trans (hbA.mono hb2.size)
    have A2 : Hid (An w.heap.size w1.heap.size (v2.alloc (.cells #[.string O.k, (.slice p1 O.l.length c1), .int .i64 O.r.s, (.slice u1 O.r.l.length d1), .string O.r.b, .int .i64 O.asked, .int .i64 O.got, .int .i64 O.ep] 28)) O (.slice p0 O.l.length c0) (.slice u0 O.r.l.length d0) k1) := (show An _ _ _ _ _ _ _ from A1.out.kept hbC)
    have G2 : Hid (HasF (v2.alloc (.cells #[.string O.k, (.slice p1 O.l.length c1), .int .i64 O.r.s, (.slice u1 O.r.l.length d1), .string O.r.b, .int .i64 O.asked, .int .i64 O.got, .int .i64 O.ep] 28)) w1.heap.size (.slice p1 O.l.length c1) O.l ∧ HasF (v2.alloc (.cells #[.string O.k, (.slice p1 O.l.length c1), .int .i64 O.r.s, (.slice u1 O.r.l.length d1), .string O.r.b, .int .i64 O.asked, .int .i64 O.got, .int .i64 O.ep] 28)) w1.heap.size (.slice u1 O.r.l.length d1) O.r.l ∧ (∀ g, (Value.slice p1 O.l.length c1).ownBlock = some g → (Value.slice u1 O.r.l.length d1).ownBlock ≠ some g)) := (show _ ∧ _ from ⟨hp.kept hbA, hu.kept hbA, hne⟩)
    have GB2 : Hid (ObB (v2.alloc (.cells #[.string O.k, (.slice p1 O.l.length c1), .int .i64 O.r.s, (.slice u1 O.r.l.length d1), .string O.r.b, .int .i64 O.asked, .int .i64 O.got, .int .i64 O.ep] 28)) v2.heap.size O (.slice p1 O.l.length c1) (.slice u1 O.r.l.length d1)) := (show ObB _ _ _ _ _ from ObB.new v2 O _ _ _)
    have L2 : Hid ((∀ g, (Value.slice p1 O.l.length c1).ownBlock = some g → g < v2.heap.size) ∧ ∀ g, (Value.slice u1 O.r.l.length d1).ownBlock = some g → g < v2.heap.size) := (show _ ∧ _ from ⟨hp.under, hu.under⟩)
    have B2 : Hid (Below w.heap.size w (v2.alloc (.cells #[.string O.k, (.slice p1 O.l.length c1), .int .i64 O.r.s, (.slice u1 O.r.l.length d1), .string O.r.b, .int .i64 O.asked, .int .i64 O.got, .int .i64 O.ep] 28))) := (show Below _ _ _ from B1.out.trans (hbC.mono B1.out.size))
    have X2 : Hid (X (v2.alloc (.cells #[.string O.k, (.slice p1 O.l.length c1), .int .i64 O.r.s, (.slice u1 O.r.l.length d1), .string O.r.b, .int .i64 O.asked, .int .i64 O.got, .int .i64 O.ep] 28))) := (show X _ from HX.out _ _ X1.out hbC)
    have C2 : Hid (Below w1.heap.size w1 (v2.alloc (.cells #[.string O.k, (.slice p1 O.l.length c1), .int .i64 O.r.s, (.slice u1 O.r.l.length d1), .string O.r.b, .int .i64 O.asked, .int .i64 O.got, .int .i64 O.ep] 28))) := hbC
    clear hp hu hne hb2 hbA hbC A1
    generalize hw2 : (v2.alloc (.cells #[.string O.k, (.slice p1 O.l.length c1), .int .i64 O.r.s, (.slice u1 O.r.l.length d1), .string O.r.b, .int .i64 O.asked, .int .i64 O.got, .int .i64 O.ep] 28)) = w2 at A2 G2 GB2 B2 X2 C2
    generalize hq2 : v2.heap.size = k2 at GB2 L2
    obtain ⟨a0, a1, a2, a3, a4, a5, a6, a7, _, _⟩ := A2.out.bx
    obtain ⟨g0, g1, g2, g3, g4, g5, g6, g7, _, _⟩ := GB2.out
    go_wp2_with fail
    clear hw2 hq2
    refine (heq _ _ _ _ _ G2.out.1.fls A2.out.hp.fls G2.out.2.1.fls A2.out.hu.fls).mono ?_
    rintro e w3 ⟨rfl, hb3⟩
    have A3 : Hid (An w.heap.size w1.heap.size w3 O (.slice p0 O.l.length c0) (.slice u0 O.r.l.length d0) k1) := (show An _ _ _ _ _ _ _ from A2.out.kept hb3)
    have G3 : Hid (HasF w3 w1.heap.size (.slice p1 O.l.length c1) O.l ∧ HasF w3 w1.heap.size (.slice u1 O.r.l.length d1) O.r.l ∧ (∀ g, (Value.slice p1 O.l.length c1).ownBlock = some g → (Value.slice u1 O.r.l.length d1).ownBlock ≠ some g)) := (show _ ∧ _ from ⟨G2.out.1.kept hb3, G2.out.2.1.kept hb3, G2.out.2.2⟩)
    have GB3 : Hid (ObB w3 k2 O (.slice p1 O.l.length c1) (.slice u1 O.r.l.length d1)) := (show ObB _ _ _ _ _ from GB2.out.next hb3)
    have B3 : Hid (Below w.heap.size w w3) := (show Below _ _ _ from B2.out.trans (hb3.mono B2.out.size))
    have C3 : Hid (Below w1.heap.size w1 w3) := (show Below _ _ _ from C2.out.trans (hb3.mono C2.out.size))
    have X3 : Hid (X w3) := (show X _ from HX.out _ _ X2.out hb3)
    clear hb3 A2 G2 GB2 B2 C2 X2 a0 a1 a2 a3 a4 a5 a6 a7 g0 g1 g2 g3 g4 g5 g6 g7
    obtain ⟨g0, g1, g2, g3, g4, g5, g6, g7, _, _⟩ := GB3.out
    go_wp2_with fail
    refine (hmk _ _ _ _ G3.out.1 G3.out.2.1 G3.out.2.2).mono ?_
    rintro e w4 ⟨rfl, hm1, hm2, ht4⟩
    have A4 : Hid (An w.heap.size w1.heap.size w4 O (.slice p0 O.l.length c0) (.slice u0 O.r.l.length d0) k1) := (show An _ _ _ _ _ _ _ from A3.out.two ht4 G3.out.1.from G3.out.2.1.from)
    have G4 : Hid (HasF w4 w1.heap.size (.slice p1 O.l.length c1) (marksN 1 O.l.length) ∧ HasF w4 w1.heap.size (.slice u1 O.r.l.length d1) (marksN (1 + 2 * O.l.length) O.r.l.length)) := (show _ ∧ _ from ⟨hm1, hm2⟩)
    have GB4 : Hid (ObB w4 k2 O (.slice p1 O.l.length c1) (.slice u1 O.r.l.length d1)) := (show ObB _ _ _ _ _ from GB3.out.same (ht4.block k2 GB3.out.hi (fun e => by have := L2.out.1 k2 e.symm; omega) (fun e => by have := L2.out.2 k2 e.symm; omega)) ht4.size)
    have B4 : Hid (Below w.heap.size w w4) := (show Below _ _ _ from B3.out.trans (ht4.below (fun k hk => by have := G3.out.1.from k hk; have := B1.out.size; omega) (fun k hk => by have := G3.out.2.1.from k hk; have := B1.out.size; omega) B3.out.size))
    have C4 : Hid (Below w1.heap.size w1 w4) := (show Below _ _ _ from C3.out.trans (ht4.below G3.out.1.from G3.out.2.1.from C3.out.size))
    have X4 : Hid (X w4) := (show X _ from HXM.out _ _ _ _ w1.heap.size X3.out ht4 G3.out.1.from G3.out.2.1.from C3.out.size ⟨w1, X1.out, Nat.le_refl _, C3.out⟩)
    clear ht4 hm1 hm2 A3 G3 GB3 B3 C3 X3 hmk g0 g1 g2 g3 g4 g5 g6 g7
    obtain ⟨g0, g1, g2, g3, g4, g5, g6, g7, _, _⟩ := GB4.out
    go_wp2_with fail
    refine (hhd _ _ _ _ G4.out.1 G4.out.2).mono ?_
    rintro e w5 ⟨rfl, hb5⟩
    have A5 : Hid (An w.heap.size w1.heap.size w5 O (.slice p0 O.l.length c0) (.slice u0 O.r.l.length d0) k1) := (show An _ _ _ _ _ _ _ from A4.out.kept hb5)
    have G5 : Hid (HasF w5 w1.heap.size (.slice p1 O.l.length c1) (marksN 1 O.l.length) ∧ HasF w5 w1.heap.size (.slice u1 O.r.l.length d1) (marksN (1 + 2 * O.l.length) O.r.l.length)) := (show _ ∧ _ from ⟨G4.out.1.kept hb5, G4.out.2.kept hb5⟩)
    have GB5 : Hid (ObB w5 k2 O (.slice p1 O.l.length c1) (.slice u1 O.r.l.length d1)) := (show ObB _ _ _ _ _ from GB4.out.next hb5)
    have B5 : Hid (Below w.heap.size w w5) := (show Below _ _ _ from B4.out.trans (hb5.mono B4.out.size))
    have X5 : Hid (X w5) := (show X _ from HX.out _ _ X4.out hb5)
    clear hb5 A4 G4 GB4 B4 C4 X4 g0 g1 g2 g3 g4 g5 g6 g7
    go_wp2_with fail
    refine (him _ X5.out).mono ?_
    rintro e v6 ⟨q2, r2, rfl, hp, hu, _, hb6⟩
    obtain ⟨p2, c2, rfl, _⟩ := hp.form
    obtain ⟨u2, d2, rfl, _⟩ := hu.form
    have hbA : Below v6.heap.size v6 (v6.alloc (.cells #[.string O.k, (.slice p2 O.l.length c2), .int .i64 O.r.s, (.slice u2 O.r.l.length d2), .string O.r.b, .int .i64 O.asked, .int .i64 O.got, .int .i64 O.ep] 28)) := (Below.refl _ v6).alloc (Nat.le_refl _) _
    have hbC : Below w5.heap.size w5 (v6.alloc (.cells #[.string O.k, (.slice p2 O.l.length c2), .int .i64 O.r.s, (.slice u2 O.r.l.length d2), .string O.r.b, .int .i64 O.asked, .int .i64 O.got, .int .i64 O.ep] 28)) := hb6.trans (hbA.mono hb6.size)
    have A6 : Hid (An w.heap.size w1.heap.size (v6.alloc (.cells #[.string O.k, (.slice p2 O.l.length c2), .int .i64 O.r.s, (.slice u2 O.r.l.length d2), .string O.r.b, .int .i64 O.asked, .int .i64 O.got, .int .i64 O.ep] 28)) O (.slice p0 O.l.length c0) (.slice u0 O.r.l.length d0) k1) := (show An _ _ _ _ _ _ _ from A5.out.kept hbC)
    have G6 : Hid (HasF (v6.alloc (.cells #[.string O.k, (.slice p2 O.l.length c2), .int .i64 O.r.s, (.slice u2 O.r.l.length d2), .string O.r.b, .int .i64 O.asked, .int .i64 O.got, .int .i64 O.ep] 28)) w1.heap.size (.slice p1 O.l.length c1) (marksN 1 O.l.length) ∧ HasF (v6.alloc (.cells #[.string O.k, (.slice p2 O.l.length c2), .int .i64 O.r.s, (.slice u2 O.r.l.length d2), .string O.r.b, .int .i64 O.asked, .int .i64 O.got, .int .i64 O.ep] 28)) w1.heap.size (.slice u1 O.r.l.length d1) (marksN (1 + 2 * O.l.length) O.r.l.length)) := (show _ ∧ _ from ⟨G5.out.1.kept hbC, G5.out.2.kept hbC⟩)
    have GB6 : Hid (ObB (v6.alloc (.cells #[.string O.k, (.slice p2 O.l.length c2), .int .i64 O.r.s, (.slice u2 O.r.l.length d2), .string O.r.b, .int .i64 O.asked, .int .i64 O.got, .int .i64 O.ep] 28)) k2 O (.slice p1 O.l.length c1) (.slice u1 O.r.l.length d1)) := (show ObB _ _ _ _ _ from GB5.out.next hbC)
    have H6 : Hid (HasF (v6.alloc (.cells #[.string O.k, (.slice p2 O.l.length c2), .int .i64 O.r.s, (.slice u2 O.r.l.length d2), .string O.r.b, .int .i64 O.asked, .int .i64 O.got, .int .i64 O.ep] 28)) w5.heap.size (.slice p2 O.l.length c2) O.l ∧ HasF (v6.alloc (.cells #[.string O.k, (.slice p2 O.l.length c2), .int .i64 O.r.s, (.slice u2 O.r.l.length d2), .string O.r.b, .int .i64 O.asked, .int .i64 O.got, .int .i64 O.ep] 28)) w5.heap.size (.slice u2 O.r.l.length d2) O.r.l) := (show _ ∧ _ from ⟨hp.kept hbA, hu.kept hbA⟩)
    have HB6 : Hid (ObB (v6.alloc (.cells #[.string O.k, (.slice p2 O.l.length c2), .int .i64 O.r.s, (.slice u2 O.r.l.length d2), .string O.r.b, .int .i64 O.asked, .int .i64 O.got, .int .i64 O.ep] 28)) v6.heap.size O (.slice p2 O.l.length c2) (.slice u2 O.r.l.length d2)) := (show ObB _ _ _ _ _ from ObB.new v6 O _ _ _)
    have B6 : Hid (Below w.heap.size w (v6.alloc (.cells #[.string O.k, (.slice p2 O.l.length c2), .int .i64 O.r.s, (.slice u2 O.r.l.length d2), .string O.r.b, .int .i64 O.asked, .int .i64 O.got, .int .i64 O.ep] 28))) := (show Below _ _ _ from B5.out.trans (hbC.mono B5.out.size))
    clear hp hu hb6 hbA hbC A5 G5 GB5 B5
    generalize hw6 : (v6.alloc (.cells #[.string O.k, (.slice p2 O.l.length c2), .int .i64 O.r.s, (.slice u2 O.r.l.length d2), .string O.r.b, .int .i64 O.asked, .int .i64 O.got, .int .i64 O.ep] 28)) = w6 at A6 G6 GB6 H6 HB6 B6
    generalize hq6 : v6.heap.size = k6 at HB6
    obtain ⟨a0, a1, a2, a3, a4, a5, a6, a7, _, _⟩ := A6.out.bx
    obtain ⟨g0, g1, g2, g3, g4, g5, g6, g7, _, _⟩ := HB6.out
    go_wp2_with fail
    clear hw6 hq6
    refine (heq _ _ _ _ _ H6.out.1.fls A6.out.hp.fls H6.out.2.fls A6.out.hu.fls).mono ?_
    rintro e w7 ⟨rfl, hb7⟩
    have G7 : Hid (HasF w7 w1.heap.size (.slice p1 O.l.length c1) (marksN 1 O.l.length) ∧ HasF w7 w1.heap.size (.slice u1 O.r.l.length d1) (marksN (1 + 2 * O.l.length) O.r.l.length)) := (show _ ∧ _ from ⟨G6.out.1.kept hb7, G6.out.2.kept hb7⟩)
    have GB7 : Hid (ObB w7 k2 O (.slice p1 O.l.length c1) (.slice u1 O.r.l.length d1)) := (show ObB _ _ _ _ _ from GB6.out.next hb7)
    have B7 : Hid (Below w.heap.size w w7) := (show Below _ _ _ from B6.out.trans (hb7.mono B6.out.size))
    clear hb7 A6 G6 GB6 H6 HB6 B6 a0 a1 a2 a3 a4 a5 a6 a7 g0 g1 g2 g3 g4 g5 g6 g7
    obtain ⟨g0, g1, g2, g3, g4, g5, g6, g7, _, _⟩ := GB7.out
    go_wp2_with fail
    refine (hhd _ _ _ _ G7.out.1 G7.out.2).mono ?_
    rintro e w8 ⟨rfl, hb8⟩
    have B8 : Hid (Below w.heap.size w w8) := (show Below _ _ _ from B7.out.trans (hb8.mono B7.out.size))
    clear hb8 B7 G7 GB7 g0 g1 g2 g3 g4 g5 g6 g7
    go_wp2
    go_ret
    exact ⟨rfl, B8.out⟩
end Go.Proofs.YtemmgfnepdgpbaaGreatDoor
