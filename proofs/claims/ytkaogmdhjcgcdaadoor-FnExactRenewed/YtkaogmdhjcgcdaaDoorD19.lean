/-
  Fields and responses marked from any number on, and asked for their marks.
  What renews an object, as plain data; the specification's leaving out of any fields.
  The contracts of the program's set of names: names that are put in, and whether one is there.
  The contracts of the program's parts that leave fields out.
-/
import Derived.Test.YtkaogmdhjcgcdaaDoorD18
import Derived.Test.YtkaogmdhjcgcdaaDoorD12
import Derived.Test.YtkaogmdhjcgcdaaDoorD16
import Derived.Test.YtkaogmdhjcgcdaaDoorD11
import Derived.Test.YtkaogmdhjcgcdaaDoorD06
import Derived.Maps.OwnSet
import Derived.Maps.AppendAt
import Derived.Handy
import Derived.Test.YtkaogmdhjcgcdaaDoorD17
import Derived.Deep.RegionLaw
namespace Go.Proofs.YtkaogmdhjcgcdaaDoor
open Go.RowKit Go.Sort
set_option linter.unusedVariables false

theorem grown_alloc10 {w w' : World} {o : Obj} {r : Option Nat} (h : (w.alloc o).grownBy w' r) : w.grownBy w' r := by
  refine ⟨h.os, h.tape, h.output, ?_, fun k hk hne => ?_⟩
  · have := h.size
    simp at this
    omega
  · rw [h.block k (by simp; omega) hne]
    exact Below.heap_alloc _ _ _ hk
def mkN (s j : Nat) : Fl := (mkT (s + 2 * j), mkT (s + 2 * j + 1))
def markedN (s : Nat) (l : List Fl) (k : Nat) : List Fl := (List.range k).map (mkN s) ++ l.drop k
def marksN (s n : Nat) : List Fl := (List.range n).map (mkN s)
theorem markedF_lengthN (s : Nat) (l : List Fl) (k : Nat) (h : k ≤ l.length) : (markedN s l k).length = l.length := by unfold markedN; simp; omega
theorem markedF_zeroN (s : Nat) (l : List Fl) : markedN s l 0 = l := by simp [markedN]
theorem markedF_allN (s : Nat) (l : List Fl) : markedN s l l.length = marksN s l.length := by simp [markedN, marksN]
theorem markedF_nextN (s : Nat) (l : List Fl) (k : Nat) (h : k < l.length) : (markedN s l k).set k (mkN s k) = markedN s l (k + 1) := by
  unfold markedN
  have e : ((List.range k).map (mkN s)).length = k := by simp
  rw [List.set_append_right _ _ (by omega), e, Nat.sub_self, List.range_succ, List.map_append, List.append_assoc]
  congr 1
  rw [List.drop_eq_getElem_cons h, List.set_cons_zero]
  rfl
theorem marksF_lengthN (s n : Nat) : (marksN s n).length = n := by simp [marksN]
theorem marksF_atN (s n j : Nat) (h : j < (marksN s n).length) : (marksN s n)[j] = mkN s j := by simp [marksN]

theorem putMarkN (s : Nat) (l : List Fl) (k : Nat) (hk : k < l.length) : (l.set k (mkT (s + 2 * k), l[k].2)).set k (((l.set k (mkT (s + 2 * k), l[k].2))[k]'(by rw [List.length_set]; exact hk)).1, mkT (s + 2 * k + 1)) = l.set k (mkN s k) := by
  rw [List.set_set]; simp [mkN]
set_option maxHeartbeats 1000000 in
theorem markFSN (s : Nat) (hs1 : 1 ≤ s) (hs2 : s ≤ 50000000) (v : Value) (l : List Fl) (B : Nat) (w : World) (h : HasF w B v l) (hl : l.length ≤ 1048576) :
    Calls Tryd.prog 34 #[v, .int .i64 (s : Int)] w fun e w' => e = .returned (.int .i64 ((s : Int) + 2 * (l.length : Int))) ∧ HasF w' B v (marksN s l.length) ∧ w.grownBy w' v.ownBlock := by
  have hh := h
  obtain ⟨a, cap, rfl, h1, h2, h3⟩ := hh.form
  unfold maxLen at h2
  go_enter Tryd.func34, Tryd.ntmps34
  go_wp2
  go_loopw [1, 5] (fun m i wr => ∃ k : Nat, k ≤ l.length ∧ i = .int .i64 k ∧ m = .int .i64 ((s : Int) + 2 * (k : Int)) ∧ HasF wr B (.slice a l.length cap) (markedN s l k) ∧ w.grownBy wr (Value.slice a l.length cap).ownBlock) (fun _ i _ => l.length - (intOf i).toNat)
  case atStart => exact ⟨0, Nat.zero_le _, rfl, by simp, by rw [markedF_zeroN]; exact h, grown_self _ _⟩
  case round =>
    clear h hh
    obtain ⟨k, hk, rfl, rfl, ho, hgr⟩ := hrel
    by_cases hlt : k < l.length
    · obtain ⟨g, rfl⟩ := h3 (by omega)
      have hml := markedF_lengthN s l k hk
      have hnx := markedF_nextN s l k hlt
      generalize hl2 : markedN s l (k + 1) = l2 at hnx
      generalize markedN s l k = l1 at ho hml hnx
      have m1 := fun wx => markTextG (s + 2 * k) (by omega) (by omega) wx
      have m2 := fun wx => markTextG (s + 2 * k + 1) (by omega) (by omega) wx
      simp only [Int.natCast_add, Int.natCast_mul, Int.cast_ofNat_Int] at m1 m2
      clear h3
      go_wp2_with fail
      refine (m1 _).mono ?_
      rintro e w1 ⟨rfl, hb1⟩
      have ho1 := ho.kept hb1.low
      obtain ⟨d1, d2⟩ := ho1.at k (by omega)
      have f1 := ho1.free (k * 2)
      have hg1 := grown_below hgr hb1.low
      have ho2 := ho1.put1 (k := k) (by omega) (mkT (s + 2 * k))
      have hg2 := grown_put hg1 (k * 2) (.string (mkT (s + 2 * k)))
      clear ho hgr hb1
      go_wp2_with fail
      refine (m2 _).mono ?_
      rintro e w3 ⟨rfl, hb3⟩
      have ho3 := ho2.kept hb3.low
      have hg3 := grown_below hg2 hb3.low
      obtain ⟨d3, d4⟩ := ho3.at k (by rw [List.length_set]; omega)
      have f3 := ho3.free (k * 2 + 1)
      have ho4 := ho3.put2 (k := k) (by rw [List.length_set]; omega) (mkT (s + 2 * k + 1))
      have hg4 := grown_put hg3 (k * 2 + 1) (.string (mkT (s + 2 * k + 1)))
      rw [putMarkN s l1 k (by omega), hnx] at ho4
      clear ho1 ho2 ho3 hg1 hg2 hg3 hb3 d1 d2 f1
      go_wp2
      go_roundw
      case rel => exact ⟨k + 1, by omega, by go_num, by go_num, by rw [hl2]; exact ho4, hg4⟩
      case measure => simp [intOf]; omega
    · obtain rfl : k = l.length := by omega
      rw [markedF_allN] at ho
      go_wp2
      go_ret
      exact ⟨rfl, ho, hgr⟩

set_option maxHeartbeats 1000000 in
theorem heldFSN (s : Nat) (hs1 : 1 ≤ s) (hs2 : s ≤ 50000000) (v : Value) (n : Nat) (B : Nat) (w : World) (h : HasF w B v (marksN s n)) (hl : n ≤ 1048576) :
    Calls Tryd.prog 35 #[v, .int .i64 (s : Int)] w fun e w' => e = .returned (.int .i64 ((s : Int) + 2 * (n : Int))) ∧ Grew w w' := by
  have hml := marksF_lengthN s n
  obtain ⟨a, cap, rfl, h1, h2, h3⟩ := h.form
  unfold maxLen at h2
  rw [hml] at h1 h3
  have hu := h.under
  have hat := fun g (e : a = some ⟨g, 0, none⟩) j hj => HasF.at (show HasF w B (.slice (some ⟨g, 0, none⟩) (marksN s n).length cap) (marksN s n) from e ▸ h) j hj
  rw [hml]
  rw [hml] at hu
  clear h
  have hmx := mixed
  go_enter Tryd.func35, Tryd.ntmps35
  go_wp2
  go_loopw [1, 5] (fun m i wr => ∃ k : Nat, k ≤ n ∧ i = .int .i64 k ∧ m = .int .i64 ((s : Int) + 2 * (k : Int)) ∧ Grew w wr) (fun _ i _ => n - (intOf i).toNat)
  case atStart => exact ⟨0, Nat.zero_le _, rfl, by simp, Grew.refl _⟩
  case round =>
    obtain ⟨k, hk, rfl, rfl, hg⟩ := hrel
    by_cases hlt : k < n
    · obtain ⟨g, rfl⟩ := h3 (by omega)
      obtain ⟨c1, c2⟩ := hat g rfl k (by omega)
      rw [marksF_atN] at c1 c2
      have hgb : g < w.heap.size := hu g rfl
      have e1 : wr.cell? ⟨g, k * 2, none⟩ = some (.string (mkT (s + 2 * k))) := hg.cell c1 hgb
      have e2 : wr.cell? ⟨g, k * 2 + 1, none⟩ = some (.string (mkT (s + 2 * k + 1))) := hg.cell c2 hgb
      have hgr : g < wr.heap.size := Nat.lt_of_lt_of_le hgb hg.1.size
      have m1 := fun wx => markTextG (s + 2 * k) (by omega) (by omega) wx
      have m2 := fun wx => markTextG (s + 2 * k + 1) (by omega) (by omega) wx
      simp only [Int.natCast_add, Int.natCast_mul, Int.cast_ofNat_Int] at m1 m2
      generalize mkT (s + 2 * k) = t1 at e1 m1
      generalize mkT (s + 2 * k + 1) = t2 at e2 m2
      have k1 : ∀ q os, (grow (wr.drewN q) os).cell? ⟨g, k * 2, none⟩ = some (.string t1) := fun q os => (cell?_grow _ _ _ (by show g < wr.heap.size; omega)).trans e1
      clear hat h3 hu c1 c2
      go_wp2
      go_quiet_grown ((go_at_call 53; refine callGrew (m1 _)))
      clear k1 e1
      have hg2 : Grew w (grow (wr.drewN nq) osq) := (hg.drewN _).more _
      have e3 : (grow (wr.drewN nq) osq).cell? ⟨g, k * 2 + 1, none⟩ = some (.string t2) := (cell?_grow _ _ _ (by show g < wr.heap.size; omega)).trans e2
      have hgr2 : g < (grow (wr.drewN nq) osq).heap.size := by rw [size_grow]; show g < wr.heap.size + _; omega
      generalize grow (wr.drewN nq) osq = w1 at hg2 e3 hgr2 ⊢
      clear e2 hgr
      go_wp2
      have k2 : ∀ q os, (grow (w1.drewN q) os).cell? ⟨g, k * 2 + 1, none⟩ = some (.string t2) := fun q os => (cell?_grow _ _ _ (by show g < w1.heap.size; omega)).trans e3
      go_quiet_grown ((go_at_call 53; refine callGrew (m2 _)))
      clear k2 e3
      have hg3 : Grew w (grow (w1.drewN nq) osq) := (hg2.drewN _).more _
      generalize grow (w1.drewN nq) osq = w2 at hg3 ⊢
      go_wp2
      go_roundw
      case rel => exact ⟨k + 1, by omega, by go_num, by go_num, hg3⟩
      case measure => simp [intOf]; omega
    · obtain rfl : k = n := by omega
      go_wp2
      go_ret
      exact ⟨rfl, hg⟩

set_option maxHeartbeats 1000000 in
theorem markRsN (s : Nat) (hs1 : 1 ≤ s) (hs2 : s ≤ 50000000) (r : Rs) (v : Value) (B : Nat) (w : World) (h : HasF w B v r.l) (hl : r.l.length ≤ 1048576) :
    Calls Tryd.prog 16 #[rsV r v, .int .i64 (s : Int)] w fun e w' => e = .returned (.int .i64 ((s : Int) + 2 * (r.l.length : Int))) ∧ HasF w' B v (marksN s r.l.length) ∧ w.grownBy w' v.ownBlock := by
  obtain ⟨a, cap, rfl, _⟩ := h.form
  unfold rsV
  have hm := markFSN s hs1 hs2 _ r.l B (w.alloc (.cells #[.int .i64 r.s, .slice a r.l.length cap, .string r.b] 31)) (h.kept ((Below.refl _ w).alloc (Nat.le_refl _) _)) hl
  clear h
  go_enter Tryd.func16, Tryd.ntmps16
  go_wp2_with (go_at_call 34; refine hm.mono ?_; rintro e w1 ⟨rfl, h1, h2⟩)
  go_ret
  exact ⟨rfl, h1, grown_alloc10 h2⟩
set_option maxHeartbeats 1000000 in
theorem heldRsN (s : Nat) (hs1 : 1 ≤ s) (hs2 : s ≤ 50000000) (r : Rs) (v : Value) (n : Nat) (B : Nat) (w : World) (h : HasF w B v (marksN s n)) (hl : n ≤ 1048576) :
    Calls Tryd.prog 36 #[rsV r v, .int .i64 (s : Int)] w fun e w' => e = .returned (.int .i64 ((s : Int) + 2 * (n : Int))) ∧ Below w.heap.size w w' := by
  have hml := marksF_lengthN s n
  obtain ⟨a, cap, rfl, _⟩ := h.form
  unfold rsV
  have B0 : Hid (Below w.heap.size w (w.alloc (.cells #[.int .i64 r.s, .slice a (marksN s n).length cap, .string r.b] 31))) := (Below.refl _ w).alloc (Nat.le_refl _) _
  have hm := heldFSN s hs1 hs2 _ n B (w.alloc (.cells #[.int .i64 r.s, .slice a (marksN s n).length cap, .string r.b] 31)) (h.kept ((Below.refl _ w).alloc (Nat.le_refl _) _)) hl
  rw [hml] at hm ⊢
  rw [hml] at B0
  clear h hml
  have hnn : ¬ ((s : Int) + 2 * (n : Int)) < 0 := by omega
  go_enter Tryd.func36, Tryd.ntmps36
  go_wp2_with (go_at_call 35; refine hm.mono ?_; rintro e w1 ⟨rfl, h2⟩)
  go_ret
  exact ⟨rfl, past6 B0.out h2.low⟩
end Go.Proofs.YtkaogmdhjcgcdaaDoor
namespace Go.Proofs.YtkaogmdhjcgcdaaDoor
open Go.RowKit Go.Sort
set_option linter.unusedVariables false

/-- Fields put over others, one after another. -/
def ovrL (a b : List Fl) : List Fl := b.foldl (fun acc f => wo acc f.1 ++ [f]) a
theorem ovrL_next (a : List Fl) {b : List Fl} {k : Nat} (h : k < b.length) : ovrL a (b.take (k + 1)) = wo (ovrL a (b.take k)) b[k].1 ++ [b[k]] := by
  unfold ovrL
  rw [← List.take_append_getElem h, List.foldl_append]
  rfl
theorem szL_filt (p : Fl → Bool) : ∀ l : List Fl, szL (l.filter p) ≤ szL l
  | [] => Nat.le_refl _
  | f :: l => by
    have ih := szL_filt p l
    cases h : p f with
    | true => rw [List.filter_cons_of_pos h]; unfold szL at ih ⊢; rw [List.map_cons, List.sum_cons, List.map_cons, List.sum_cons]; omega
    | false => rw [List.filter_cons_of_neg (by simp [h])]; unfold szL at ih ⊢; rw [List.map_cons, List.sum_cons]; omega
theorem ovrL_size (b : List Fl) : ∀ a : List Fl, (ovrL a b).length ≤ a.length + b.length ∧ szL (ovrL a b) ≤ szL a + szL b := by
  induction b with
  | nil => intro a; exact ⟨Nat.le_refl _, Nat.le_refl _⟩
  | cons f b ih =>
    intro a
    have h := ih (wo a f.1 ++ [f])
    have h1 := wo_length a f.1
    have h2 := szL_filt (keepB f.1) a
    have h3 : szL (wo a f.1 ++ [f]) = szL (wo a f.1) + szL [f] := szL_append _ _
    have h4 : szL (f :: b) = szL [f] + szL b := szL_append [f] b
    have h5 : szL (wo a f.1) ≤ szL a := h2
    have h6 : (wo a f.1 ++ [f]).length = (wo a f.1).length + 1 := by simp
    rw [List.length_cons]
    refine ⟨?_, ?_⟩
    · show (ovrL (wo a f.1 ++ [f]) b).length ≤ _
      omega
    · show szL (ovrL (wo a f.1 ++ [f]) b) ≤ _
      omega
theorem ovrL_mem (b : List Fl) : ∀ a : List Fl, ∀ f ∈ ovrL a b, f ∈ a ∨ f ∈ b := by
  induction b with
  | nil => intro a f h; exact .inl h
  | cons g b ih =>
    intro a f h
    rcases ih (wo a g.1 ++ [g]) f h with h1 | h1
    · rw [List.mem_append] at h1
      rcases h1 with h1 | h1
      · exact .inl (List.mem_filter.1 h1).1
      · exact .inr (by rw [List.mem_singleton] at h1; rw [h1]; exact List.mem_cons_self)
    · exact .inr (List.mem_cons_of_mem _ h1)
/-- An object whose response a 304 has renewed. -/
def renO (o : Ob) (r : Rs) (asked got : Int) : Ob := ⟨o.k, o.l, ⟨o.r.s, ovrL o.r.l r.l, o.r.b⟩, asked, got, o.ep⟩
def renV (o : Ob) (r : Rs) (asked got : Int) : Ob × Bool :=
  if obB o = true ∧ rsOk r = true ∧ r.s = 304 ∧ obB (renO o r asked got) = true then (renO o r asked got, true) else (noO, false)
set_option maxHeartbeats 1000000 in
theorem specWoN (v : Value) (l : List Fl) (n : ByteArray) (w : World) (h : Fls w v l) (hl : l.length ≤ 900000) (hfs : ∀ f ∈ l, f.1.size ≤ 1048576 ∧ f.2.size ≤ 1048576) (hn : n.size ≤ 1048576) :
    Calls Tryd.prog 30 #[v, .string n] w fun e w' => ∃ u, e = .returned u ∧ OwnsF w' w.heap.size u (wo l n) ∧ Below w.heap.size w w' := by
  obtain ⟨a, cap, rfl, h1, h2, h3⟩ := h
  unfold maxLen at h2
  have hnm : n.size ≤ maxLen := by unfold maxLen; omega
  go_enter Tryd.func30, Tryd.ntmps30
  go_wp2
  go_loopw [5, 6] (fun u i wr => ∃ (k : Nat), k ≤ l.length ∧ i = .int .i64 k ∧ OwnsF wr w.heap.size u ((l.take k).filter (keepB n)) ∧ Below w.heap.size w wr) (fun _ i _ => l.length - (intOf i).toNat)
  case atStart => exact ⟨0, Nat.zero_le _, rfl, OwnsF.born w, (Below.refl _ _).alloc (Nat.le_refl _) _⟩
  case round =>
    obtain ⟨k, hk, rfl, hown, hb⟩ := hrel
    have hfl := filter_le l k (keepB n)
    by_cases hlt : k < l.length
    · obtain ⟨g, o, rfl, hg, hc⟩ := h3 (by omega)
      have c1 := (hb.cell (p := ⟨g, o + k * 2, none⟩) hg).trans (hc k hlt).1
      have c2 := (hb.cell (p := ⟨g, o + k * 2 + 1, none⟩) hg).trans (hc k hlt).2
      have hsz := hfs l[k] (List.getElem_mem hlt)
      have hgr : g < wr.heap.size := Nat.lt_of_lt_of_le hg hb.size
      by_cases he : lowS l[k].1 = lowS n
      · have hq := same_yes he
        have HN : Hid ((l.take (k + 1)).filter (keepB n) = (l.take k).filter (keepB n)) := filter_no hlt (keepB_no he)
        generalize l[k] = f at c1 c2 hsz hq he
        have z1 : f.1.size ≤ maxLen := by unfold maxLen; omega
        clear hc h3 hfs he
        go_wp2_with fail
        refine (specLow _ _ z1).mono ?_
        rintro e w1 ⟨rfl, hb1⟩
        go_wp2_with fail
        refine (specLow _ _ hnm).mono ?_
        rintro e w2 ⟨rfl, hb2⟩
        have ho2 := (hown.kept hb1).kept hb2
        have hb02 : Below w.heap.size w w2 := (hb.trans (hb1.mono hb.size)).trans (hb2.mono (Nat.le_trans hb.size hb1.size))
        rw [← HN.out] at ho2
        clear c1 c2 hb hb1 hb2 hown
        go_wp2
        go_roundw
        case rel => exact ⟨k + 1, by omega, by go_num, ho2, hb02⟩
        case measure => simp [intOf]; omega
      · have hq := same_no he
        have HN : Hid ((l.take (k + 1)).filter (keepB n) = (l.take k).filter (keepB n) ++ [l[k]]) := filter_yes hlt (keepB_yes he)
        generalize l[k] = f at c1 c2 hsz hq he HN
        have z1 : f.1.size ≤ maxLen := by unfold maxLen; omega
        clear hc h3 hfs he
        go_wp2_with fail
        refine (specLow _ _ z1).mono ?_
        rintro e w1 ⟨rfl, hb1⟩
        have d1 := (hb1.cell (p := ⟨g, o + k * 2, none⟩) hgr).trans c1
        have d2 := (hb1.cell (p := ⟨g, o + k * 2 + 1, none⟩) hgr).trans c2
        have hgr1 := Nat.lt_of_lt_of_le hgr hb1.size
        go_wp2_with fail
        refine (specLow _ _ hnm).mono ?_
        rintro e w2 ⟨rfl, hb2⟩
        have e1 := (hb2.cell (p := ⟨g, o + k * 2, none⟩) hgr1).trans d1
        have e2 := (hb2.cell (p := ⟨g, o + k * 2 + 1, none⟩) hgr1).trans d2
        have ho2 := (hown.kept hb1).kept hb2
        have hb02 : Below w.heap.size w w2 := (hb.trans (hb1.mono hb.size)).trans (hb2.mono (Nat.le_trans hb.size hb1.size))
        clear c1 c2 d1 d2 hb hb1 hb2 hown
        go_wp2_with (at_builtin; refine wpList_pushF _ rfl (.tmp 23) (.tmp 28) rfl w.heap.size _ _ f rfl ho2 rfl (by omega) hb02.size ?_; intro v3 w3 ho3 hg3)
        have hb03 := hb02.grown hg3 hb02.size (OwnsF.from ho2)
        rw [← HN.out] at ho3
        clear e1 e2 ho2 hb02 hg3
        go_roundw
        case rel => exact ⟨k + 1, by omega, by go_num, ho3, hb03⟩
        case measure => simp [intOf]; omega
    · rw [filter_end hlt] at hown
      go_wp2
      go_ret
      exact ⟨_, rfl, hown, hb⟩

end Go.Proofs.YtkaogmdhjcgcdaaDoor
namespace Go.Proofs.YtkaogmdhjcgcdaaDoor
open Go.RowKit Go.Sort Go.Maps Go.ChangeMaps Go.WideMaps

theorem lowS_size (s : ByteArray) : (lowS s).size = s.size := by
  show ((s.data.toList.map lowB).toArray).size = s.size
  simp

/-- The slice v reads as the texts ns. -/
def Strs (w : World) (v : Value) (ns : List ByteArray) : Prop :=
  ∃ a cap, v = .slice a ns.length cap ∧ ns.length ≤ cap ∧ cap ≤ maxLen ∧ (0 < ns.length → ∃ g o, a = some ⟨g, o, none⟩ ∧ g < w.heap.size ∧ ∀ j (hj : j < ns.length), w.cell? ⟨g, o + j, none⟩ = some (.string ns[j]))
/-- A slice that is written out. -/
theorem strs_lit (w : World) (ns : List ByteArray) (hn : ns.length ≤ 1000) : Strs (w.alloc (.cells (ns.map Value.string).toArray 9)) (.slice (some ⟨w.heap.size, 0, none⟩) ns.length ns.length) ns := by
  refine ⟨_, ns.length, rfl, Nat.le_refl _, by unfold maxLen; omega, fun _ => ⟨w.heap.size, 0, rfl, by simp, fun j hj => ?_⟩⟩
  rw [Nat.zero_add, World.cell?_alloc_mark]
  simp [hj]
theorem Strs.kept {w w' : World} {v : Value} {l : List ByteArray} (h : Strs w v l) (hb : Below w.heap.size w w') : Strs w' v l := by
  obtain ⟨a, cap, hv, h1, h2, h3⟩ := h
  refine ⟨a, cap, hv, h1, h2, fun h0 => ?_⟩
  obtain ⟨g, o, ha, hg, hc⟩ := h3 h0
  exact ⟨g, o, ha, Nat.lt_of_lt_of_le hg hb.size, fun j hj => (hb.cell (p := ⟨g, o + j, none⟩) hg).trans (hc j hj)⟩

theorem lawK : Keyed Tryd.prog 9 := string_keyed Tryd.underlying9
theorem zeroU (w : World) : (zeroValue 79).run Tryd.prog w = .ok (.agg #[]) w := by kernel_rfl
def keyL (s : ByteArray) : Lit := .string s.data.toList
theorem keyL_of {s : ByteArray} (hs : s.size ≤ maxLen) : keyOf Tryd.prog 9 (.string s) = some (keyL s) := keyOf_string_mk Tryd.underlying9 hs
/-- Block b is the set of the names acc. -/
def SetIs (w : World) (b : Nat) (acc : List ByteArray) : Prop := w.ownsMap Tryd.prog 9 (unitElem (H := Unit)) b acc.length (setOf (.agg []) (acc.map keyL))
theorem SetIs.made (w : World) : SetIs (w.alloc (.map #[] 0)) w.heap.size [] := World.ownsMap_made _ _ _ _
theorem SetIs.lt {w : World} {b : Nat} {acc : List ByteArray} (h : SetIs w b acc) : b < w.heap.size := World.ownsMap.lt h
theorem SetIs.kept {w w' : World} {b : Nat} {acc : List ByteArray} (h : SetIs w b acc) (hb : Below w.heap.size w w') : SetIs w' b acc :=
  World.ownsMap.kept h (row := none) ⟨hb.os, hb.tape, hb.output, hb.size, fun k hk _ => hb.block k hk⟩ (by simp)
theorem SetIs.grown {w w' : World} {b : Nat} {acc : List ByteArray} {r : Option Nat} (h : SetIs w b acc) (hg : w.grownBy w' r) (hne : some b ≠ r) : SetIs w' b acc := World.ownsMap.kept h hg hne
theorem keyL_same (a b : ByteArray) : (keyL a).sameKey (keyL b) = decide (a = b) := by
  by_cases h : a = b
  · subst h
    rw [decide_eq_true rfl]
    simp [keyL, Lit.sameKey]
  · rw [decide_eq_false h]
    exact sameKey_ne fun e => h (ext_bytes (by simpa [keyL] using e))
theorem set_has (acc : List ByteArray) (x : ByteArray) : Maps.has (setOf (H := Unit) (.agg []) (acc.map keyL)) (keyL x) = acc.any fun n => decide (n = x) := by
  rw [has_setOf _ _ _ (by intro y hy; obtain ⟨n, _, rfl⟩ := List.mem_map.1 hy; trivial), List.any_map]
  congr 1
  funext n
  exact keyL_same n x

set_option maxHeartbeats 1000000 in
theorem implHas (b : Nat) (acc : List ByteArray) (s : ByteArray) (w : World) (h : SetIs w b acc) (hs : s.size ≤ 1048576) :
    Calls Tryd.prog 62 #[.map (some b), .string s] w fun e w' => e = .returned (.bool (acc.any fun n => decide (n = lowS s))) ∧ Below w.heap.size w w' := by
  have hsm : s.size ≤ maxLen := by unfold maxLen; omega
  have hlz := lowS_size s
  have hkey := keyL_of (s := lowS s) (by rw [hlz]; exact hsm)
  have HH : Hid (Maps.has (setOf (H := Unit) (.agg []) (acc.map keyL)) (keyL (lowS s)) = acc.any fun n => decide (n = lowS s)) := set_has acc (lowS s)
  go_enter Tryd.func62, Tryd.ntmps62
  go_wp2_with (first
    | (go_at_call 63; refine (implLow _ _ hsm).mono ?_; rintro e w1 ⟨rfl, hb1⟩; have h1 := h.kept hb1)
    | (at_lookup; refine wpList_lookup_own_unit _ rfl _ _ 68 rfl 9 79 lawK Tryd.underlying68 (zeroU _) b acc.length _ rfl h1 _ _ rfl hkey ?_))
  go_ret
  refine ⟨ret_bool HH.out, ?_⟩
  exact hb1.alloc hb1.size _
theorem SetIs.put {w : World} {b : Nat} {acc : List ByteArray} {x : ByteArray} (h : w.ownsMap Tryd.prog 9 (unitElem (H := Unit)) b (acc.length + 1) ((setOf (H := Unit) (.agg []) (acc.map keyL)).put (keyL x) (.agg []))) : SetIs w b (acc ++ [x]) := by
  unfold SetIs
  rw [List.map_append, List.length_append, show [x].map keyL = [keyL x] from rfl, setOf_snoc]
  exact h

set_option maxHeartbeats 1000000 in
theorem implAdd (b : Nat) (acc : List ByteArray) (v : Value) (ns : List ByteArray) (w : World) (h : SetIs w b acc) (hv : Strs w v ns) (hne : ∀ k, v.ownBlock = some k → k ≠ b) (hs : ∀ n ∈ ns, n.size ≤ 1048576) (hl : acc.length + ns.length ≤ 1000000) :
    Calls Tryd.prog 50 #[.map (some b), v] w fun e w' => e = .returned (.tuple #[]) ∧ SetIs w' b (acc ++ ns.map lowS) ∧ w.grownBy w' (some b) := by
  obtain ⟨a, cap, rfl, h1, h2, h3⟩ := hv
  unfold maxLen at h2
  go_enter Tryd.func50, Tryd.ntmps50
  go_wp2
  go_loopw [8] (fun i wr => ∃ (k : Nat), k ≤ ns.length ∧ i = .int .i64 k ∧ SetIs wr b (acc ++ (ns.take k).map lowS) ∧ w.grownBy wr (some b)) (fun i _ => ns.length - (intOf i).toNat)
  case atStart => exact ⟨0, Nat.zero_le _, rfl, by simpa using h, grown_self _ _⟩
  case round =>
    clear h
    obtain ⟨k, hk, rfl, ho, hgr⟩ := hrel
    by_cases hlt : k < ns.length
    · obtain ⟨g, o, rfl, hg, hc⟩ := h3 (by omega)
      have c1 := hgr.cell (hc k hlt) (fun e => hne g rfl (by simpa using e))
      have hsz := hs ns[k] (List.getElem_mem hlt)
      have HN : Hid (acc ++ (ns.take (k + 1)).map lowS = acc ++ (ns.take k).map lowS ++ [lowS ns[k]]) := by show _ = _; rw [List.take_succ_eq_append_getElem hlt, List.map_append, List.append_assoc]; rfl
      have hcl : (acc ++ (ns.take k).map lowS).length ≤ 1000000 := by simp; omega
      generalize ns[k] = x at c1 hsz HN
      generalize acc ++ (ns.take k).map lowS = ac at ho HN hcl
      have hxm : x.size ≤ maxLen := by unfold maxLen; omega
      have hlz := lowS_size x
      have hkey := keyL_of (s := lowS x) (by rw [hlz]; exact hxm)
      clear hc h3 hs
      go_wp2_with (first
        | (go_at_call 63; refine (implLow _ _ hxm).mono ?_; rintro e w1 ⟨rfl, hb1⟩; have h1 := ho.kept hb1; have hg1 := grown_below hgr hb1)
        | (at_mapUpdate; refine wpList_mapUpdate_own _ rfl _ _ _ 68 rfl 9 79 lawK Tryd.underlying68 (unitElem (H := Unit)) b ac.length _ rfl h1 (by unfold maxLen; omega) _ _ _ rfl rfl hkey _ [] unitElem_mk ?_; intro w2 ho2 hg2))
      have ho3 := SetIs.put ho2
      rw [← HN.out] at ho3
      have hg3 := hg1.trans hg2
      clear ho h1 ho2 hg1 hg2 hb1 hgr c1
      go_roundw
      case rel => exact ⟨k + 1, by omega, by go_num, ho3, hg3⟩
      case measure => simp [intOf]; omega
    · rw [List.take_of_length_le (by omega)] at ho
      go_wp2
      go_returns
      exact ⟨rfl, ho, hgr⟩
end Go.Proofs.YtkaogmdhjcgcdaaDoor
namespace Go.Proofs.YtkaogmdhjcgcdaaDoor
open Go.RowKit Go.Sort Go.Maps

theorem clone (s : ByteArray) (w : World) (hs : s.size ≤ 1048576) :
    Calls Tryd.prog 31 #[.string s] w fun e w' => e = .returned (.string s) ∧ Below w.heap.size w w' := by
  go_enter Tryd.func31, Tryd.ntmps31
  go_wp2_with (go_at_call 48; refine (Tryd.stringslite_Clone s _ (by omega)).mono ?_; rintro e w1 ⟨rfl, hb1⟩)
  go_ret
  exact ⟨rfl, hb1⟩

set_option maxHeartbeats 1000000 in
theorem implNew (n v : ByteArray) (w : World) (hn : n.size ≤ 1048576) (hv : v.size ≤ 1048576) :
    Calls Tryd.prog 51 #[.string n, .string v] w fun e w' => e = .returned (.agg #[.string n, .string v]) ∧ Below w.heap.size w w' := by
  have b0 : (w.alloc (.cells #[.string ⟨#[]⟩, .string ⟨#[]⟩] 56)).heap[w.heap.size]? = some (.cells #[.string ⟨#[]⟩, .string ⟨#[]⟩] 56) := heap_alloc_new w _
  have bl := box_lt w (.cells #[.string ⟨#[]⟩, .string ⟨#[]⟩] 56)
  have hbb := (Below.refl w.heap.size w).alloc (Nat.le_refl _) (.cells #[.string ⟨#[]⟩, .string ⟨#[]⟩] 56)
  go_enter Tryd.func51, Tryd.ntmps51
  go_wp2_with fail
  refine (clone n _ (by omega)).mono ?_
  rintro e w1 ⟨rfl, hb1⟩
  go_wp2_with fail
  refine (clone v _ (by omega)).mono ?_
  rintro e w2 ⟨rfl, hb2⟩
  have b2 : w2.heap[w.heap.size]? = some (.cells #[.string ⟨#[]⟩, .string ⟨#[]⟩] 56) := by
    rw [hb2.block _ (Nat.lt_of_lt_of_le bl hb1.size), hb1.block _ bl]; exact b0
  have c0 : w2.cell? ⟨w.heap.size, 0, none⟩ = some (.string ⟨#[]⟩) := by rw [cell_of_row w2 _ 0 _ _ _ b2]; rfl
  have c1 : w2.cell? ⟨w.heap.size, 1, none⟩ = some (.string ⟨#[]⟩) := by rw [cell_of_row w2 _ 1 _ _ _ b2]; rfl
  have f0 := frozen_of_row w2 w.heap.size 0 _ _ b2
  have f1 := frozen_of_row w2 w.heap.size 1 _ _ b2
  have hbw : Below w.heap.size w w2 := (hbb.trans (hb1.mono (Nat.le_of_lt bl))).trans (hb2.mono (Nat.le_trans (Nat.le_of_lt bl) hb1.size))
  clear b2 b0 hb1 hb2 hbb
  go_wp2
  refine bodyPost_ret (v := .agg #[.string n, .string v]) (by simp [results, Tryd.results51, go_sem, c0, c1]) rfl ⟨rfl, ?_⟩
  exact (hbw.setCell (Nat.le_refl _) _).setCell (Nat.le_refl _) _

theorem implRoom (g n cap : Nat) (w : World) (h : n ≤ cap) :
    Calls Tryd.prog 52 #[.slice (some ⟨g, 0, none⟩) n cap] w fun e w' => e = .returned (.slice (some ⟨g, 0, none⟩) n n) ∧ w = w' := by
  go_enter Tryd.func52, Tryd.ntmps52
  go_wp2
  go_ret
  exact ⟨rfl, rfl⟩

/-- What is left without the names acc. -/
def restB (acc : List ByteArray) (f : Fl) : Bool := !(acc.any fun n => decide (n = lowS f.1))
theorem OwnsF.solid {w : World} {B : Nat} {v : Value} {l : List Fl} (h : OwnsF w B v l) (hl : 0 < l.length) : ∃ g cap, v = .slice (some ⟨g, 0, none⟩) l.length cap ∧ l.length ≤ cap ∧ cap ≤ maxLen := by
  rcases h.2 with ⟨_, h0⟩ | ⟨g, cap, cur, rfl, hb, hg, hc, hm, rest⟩
  · omega
  · exact ⟨g, cap, rfl, hc, hm⟩

set_option maxHeartbeats 1000000 in
theorem implAllButN (v : Value) (l : List Fl) (b : Nat) (acc : List ByteArray) (w : World) (hf : Fls w v l) (hl : l.length ≤ 900000) (hfs : ∀ f ∈ l, f.1.size ≤ 1048576 ∧ f.2.size ≤ 1048576) (hset : SetIs w b acc) :
    Calls Tryd.prog 49 #[v, .map (some b)] w fun e w' => (∃ g, e = .returned (.slice (some ⟨g, 0, none⟩) (l.filter (restB acc)).length (l.filter (restB acc)).length) ∧ HasF w' w.heap.size (.slice (some ⟨g, 0, none⟩) (l.filter (restB acc)).length (l.filter (restB acc)).length) (l.filter (restB acc))) ∧ Below w.heap.size w w' := by
  obtain ⟨a, cap, rfl, h1, h2, h3⟩ := hf
  unfold maxLen at h2
  obtain ⟨i0, hi, hz0, hz1, hz2⟩ := info_parts Tryd.infoF
  obtain ⟨w0, hrun, hown, hgr⟩ := run_make_own (P := Tryd.prog) w w.heap.size 29 56 i0 (.agg #[.string ⟨#[]⟩, .string ⟨#[]⟩]) 2 Tryd.underlying29 hi hz0 hz1 .i64 .i64 l.length (by rw [hz2]; omega) (by unfold maxLen; omega) (Nat.le_refl _)
  have hown0 : OwnsF w0 w.heap.size (.slice (some ⟨w.heap.size, 0, none⟩) 0 l.length) [] := hown
  have hb0 : Below w.heap.size w w0 := (Below.refl _ w).grown hgr (Nat.le_refl _) (fun j hj => by cases hj)
  clear hown hgr hi hz0 hz1 hz2
  go_enter Tryd.func49, Tryd.ntmps49
  go_wp2
  go_loopw [5, 13] (fun u i wr => ∃ (k g c : Nat), k ≤ l.length ∧ i = .int .i64 k ∧ u = .slice (some ⟨g, 0, none⟩) ((l.take k).filter (restB acc)).length c ∧ ((l.take k).filter (restB acc)).length ≤ c ∧ c ≤ maxLen ∧ OwnsF wr w.heap.size u ((l.take k).filter (restB acc)) ∧ Below w.heap.size w wr) (fun _ i _ => l.length - (intOf i).toNat)
  case atStart => exact ⟨0, w.heap.size, l.length, Nat.zero_le _, rfl, rfl, Nat.zero_le _, by unfold maxLen; omega, hown0, hb0⟩
  case round =>
    clear hown0 hb0 hrun
    obtain ⟨k, gu, c, hk, rfl, rfl, hcl, hcm, hown, hb⟩ := hrel
    have hfl := filter_le l k (restB acc)
    by_cases hlt : k < l.length
    · obtain ⟨g, o, rfl, hg, hc⟩ := h3 (by omega)
      have c1 := (hb.cell (p := ⟨g, o + k * 2, none⟩) hg).trans (hc k hlt).1
      have c2 := (hb.cell (p := ⟨g, o + k * 2 + 1, none⟩) hg).trans (hc k hlt).2
      have hsz := hfs l[k] (List.getElem_mem hlt)
      have hs1 := hset.kept hb
      have hsa := hs1.kept ((Below.refl wr.heap.size wr).alloc (Nat.le_refl _) (.cells #[.string l[k].1, .string l[k].2] 56))
      cases hr : restB acc l[k] with
      | true =>
        have HN : Hid ((l.take (k + 1)).filter (restB acc) = (l.take k).filter (restB acc) ++ [l[k]]) := filter_yes hlt hr
        have hany : (acc.any fun n => decide (n = lowS l[k].1)) = false := by unfold restB at hr; simpa using hr
        clear hr
        generalize l[k] = f at c1 c2 hsz HN hany hsa
        generalize (l.take k).filter (restB acc) = s0 at hown hcl hfl HN
        have d0 := box0 wr f 56
        have d1 := box1 wr f 56
        have bl := box_lt wr (.cells #[.string f.1, .string f.2] 56)
        have hba := hb.alloc hb.size (.cells #[.string f.1, .string f.2] 56)
        have hoa := hown.alloc (.cells #[.string f.1, .string f.2] 56)
        clear hc h3 hfs
        go_wp2_with (first
          | (go_at_call 62; refine (implHas b acc f.1 _ hsa (by omega)).mono ?_; rw [hany]; rintro e w1 ⟨rfl, hb1⟩; have e0 := (hb1.cell (p := ⟨wr.heap.size, 0, none⟩) bl).trans d0; have e1 := (hb1.cell (p := ⟨wr.heap.size, 1, none⟩) bl).trans d1; have ho1 := hoa.kept hb1; have hb01 := hba.trans (hb1.mono hba.size))
          | (go_at_call 51; refine (implNew f.1 f.2 _ (by omega) (by omega)).mono ?_; rintro e w2 ⟨rfl, hb2⟩; have ho2 := ho1.kept hb2; have hb02 := hb01.trans (hb2.mono hb01.size))
          | (at_builtin; refine wpList_pushF _ rfl (.tmp 22) (.tmp 28) rfl w.heap.size _ _ f rfl ho2 rfl (by omega) hb02.size ?_; intro v3 w3 ho3 hg3))
        have hb03 := hb02.grown hg3 hb02.size (OwnsF.from ho2)
        obtain ⟨g3, c3, rfl, hc3, hm3⟩ := ho3.solid (by simp)
        rw [← HN.out] at ho3 hc3
        clear hown hoa ho1 ho2 hb hb1 hb2 hba hb01 hb02 hg3 c1 c2 d0 d1 e0 e1 hs1 hsa
        go_roundw
        case rel => exact ⟨k + 1, g3, c3, by omega, by go_num, by rw [HN.out], hc3, hm3, by rw [HN.out] at ho3 ⊢; exact ho3, hb03⟩
        case measure => simp [intOf]; omega
      | false =>
        have HN : Hid ((l.take (k + 1)).filter (restB acc) = (l.take k).filter (restB acc)) := filter_no hlt hr
        have hany : (acc.any fun n => decide (n = lowS l[k].1)) = true := by unfold restB at hr; simpa using hr
        clear hr
        generalize l[k] = f at c1 c2 hsz HN hany hsa
        generalize (l.take k).filter (restB acc) = s0 at hown hcl hfl HN
        have d0 := box0 wr f 56
        have hba := hb.alloc hb.size (.cells #[.string f.1, .string f.2] 56)
        have hoa := hown.alloc (.cells #[.string f.1, .string f.2] 56)
        clear hc h3 hfs
        go_wp2_with (go_at_call 62; refine (implHas b acc f.1 _ hsa (by omega)).mono ?_; rw [hany]; rintro e w1 ⟨rfl, hb1⟩; have ho1 := hoa.kept hb1; have hb01 := hba.trans (hb1.mono hba.size))
        clear hown hoa hb hb1 hba c1 c2 d0 hs1 hsa
        go_roundw
        case rel => exact ⟨k + 1, gu, c, by omega, by go_num, by rw [HN.out], by rw [HN.out]; exact hcl, hcm, by rw [HN.out]; exact ho1, hb01⟩
        case measure => simp [intOf]; omega
    · have HN : Hid ((l.take k).filter (restB acc) = l.filter (restB acc)) := filter_end hlt
      rw [HN.out] at hcl hown
      rw [HN.out]
      have hr := fun w => implRoom gu (l.filter (restB acc)).length c w hcl
      go_wp2_with (go_at_call 52; refine (hr _).mono ?_; rintro e w1 ⟨rfl, rfl⟩)
      go_ret
      exact ⟨⟨gu, rfl, hown.has.cut rfl⟩, hb⟩
end Go.Proofs.YtkaogmdhjcgcdaaDoor
