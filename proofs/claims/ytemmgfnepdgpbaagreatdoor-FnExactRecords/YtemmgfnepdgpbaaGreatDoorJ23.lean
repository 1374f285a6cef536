/-
  Slices of texts that came in or that a call made: how they are read; the laws' own helpers for them.
  Texts in rows: the laws' helpers on them: measured, turned, compared, marked, held.
  What lives in some blocks of memory, and calls that change but those of one thing: for walks with many things in memory.
-/
import Derived.Test.YtemmgfnepdgpbaaGreatDoorJ09
import Derived.Test.YtemmgfnepdgpbaaGreatDoorJ22
import Derived.SliceStrings
import Derived.Deep.QuietTactic
import Derived.BigQuiet
import Derived.Laws.OwnMore
import Derived.Lib.QuietBelow
import Derived.Test.YtemmgfnepdgpbaaGreatDoorJ12
import Derived.Test.YtemmgfnepdgpbaaGreatDoorJ20
namespace Go.Proofs.YtemmgfnepdgpbaaGreatDoor
open Go.RowKit

/-- The slice v holds the texts l. -/
def StrsP (w : World) (v : Value) (l : List ByteArray) : Prop := ∃ a cap, v = .slice a l.length cap ∧ l.length ≤ cap ∧ cap ≤ maxLen ∧ (0 < l.length → ∃ g o, a = some ⟨g, o, none⟩ ∧ g < w.heap.size ∧ ∀ j (hj : j < l.length), w.cell? ⟨g, o + j, none⟩ = some (.string l[j]))
theorem StrsP.kept {w w' : World} {v : Value} {l : List ByteArray} (h : StrsP w v l) (hb : Below w.heap.size w w') : StrsP w' v l := by
  obtain ⟨a, cap, h1, h2, h3, h4⟩ := h
  refine ⟨a, cap, h1, h2, h3, fun h0 => ?_⟩
  obtain ⟨g, o, h5, h6, h7⟩ := h4 h0
  exact ⟨g, o, h5, Nat.lt_of_lt_of_le h6 hb.size, fun j hj => (hb.cell (p := ⟨g, o + j, none⟩) h6).trans (h7 j hj)⟩
theorem StrsP.drew {w : World} {v : Value} {l : List ByteArray} (h : StrsP w v l) : StrsP w.drew v l := h
/-- The value v owns the texts l, in a block from B on. -/
def OwnsP (w : World) (B : Nat) (v : Value) (l : List ByteArray) : Prop := w.ownsRow B 9 1 v l.length (l.map Value.string)
theorem OwnsP.put {w : World} {B g cap n : Nat} {l : List ByteArray} (h : OwnsP w B (.slice (some ⟨g, 0, none⟩) n cap) l) (hn : n = l.length) (k : Nat) (s : ByteArray) : OwnsP (w.setCell ⟨g, k, none⟩ (.string s)) B (.slice (some ⟨g, 0, none⟩) n cap) (l.set k s) := by
  subst hn
  rcases h.2 with ⟨e, _⟩ | ⟨g', cap', cur, e, hb, hg, hc, hm, hz, rest⟩
  · cases e
  · obtain ⟨rfl, rfl⟩ : g = g' ∧ cap = cap' := by simpa using e
    refine ⟨by simp, .inr ⟨g, cap, cur.setIfInBounds k (.string s), by simp, hb, ?_, by simpa using hc, hm, by simpa using hz, ?_⟩⟩
    · rw [setCell_eq_setRow w g k cur 9 (0, 0) _ hg]
      exact setRow_heap w g cur _ 9 _ hg
    · simp only [Nat.mul_one] at rest ⊢
      rw [List.length_set, Array.toList_setIfInBounds, List.take_set, rest, List.map_set]
theorem OwnsP.at {w : World} {B g cap n : Nat} {l : List ByteArray} (h : OwnsP w B (.slice (some ⟨g, 0, none⟩) n cap) l) (hn : n = l.length) (k : Nat) (hk : k < l.length) : w.cell? ⟨g, k, none⟩ = some (.string l[k]) ∧ w.frozen? ⟨g, k, none⟩ = false := by
  subst hn
  refine ⟨?_, World.ownsRow.frozenAt h k⟩
  have := World.ownsRow.cells h (g := g) rfl k (.string l[k]) (by rw [List.getElem?_map, List.getElem?_eq_getElem hk]; rfl)
  rw [addr_add, Nat.zero_add] at this
  exact this
end Go.Proofs.YtemmgfnepdgpbaaGreatDoor
namespace Go.Proofs.YtemmgfnepdgpbaaGreatDoor
open Go.RowKit Go.Sort
set_option linter.unusedVariables false
set_option linter.unusedSimpArgs false

abbrev OwnsX := OwnsE txtE 9
abbrev HasX := HasE txtE 9
theorem cellsX_map (l : List ByteArray) : cellsE txtE l = l.map Value.string := by
  induction l with
  | nil => rfl
  | cons x l ih => rw [cellsE_cons, ih]; rfl
theorem OwnsP.x {w : World} {B : Nat} {v : Value} {l : List ByteArray} (h : OwnsP w B v l) : OwnsX w B v l := by
  show w.ownsRow B 9 1 v l.length (cellsE txtE l)
  rw [cellsX_map]
  exact h
theorem cellsX_at (l : List ByteArray) (j : Nat) (hj : j < l.length) : (cellsE txtE l)[j]? = some (.string l[j]) := by
  have := cellsE_at txtE l j hj 0 (by decide)
  rw [show j * txtE.k + 0 = j from by show j * 1 + 0 = j; omega] at this
  exact this
theorem Sls.txt {w : World} {v : Value} {l : List ByteArray} (h : Sls txtE w v l) : ∃ a cap, v = .slice a l.length cap ∧ l.length ≤ cap ∧ cap ≤ maxLen ∧ (0 < l.length → ∃ g o, a = some ⟨g, o, Option.none⟩ ∧ g < w.heap.size ∧
    ∀ j (hj : j < l.length), w.cell? ⟨g, o + j, Option.none⟩ = some (.string l[j])) := by
  obtain ⟨a, cap, rfl, h1, h2, h3⟩ := h
  refine ⟨a, cap, rfl, h1, h2, fun h0 => ?_⟩
  obtain ⟨g, o, rfl, hg, hc⟩ := h3 h0
  exact ⟨g, o, rfl, hg, fun j hj => hc j _ (cellsX_at l j hj)⟩
theorem hasX_at {w : World} {B g n cap : Nat} {l : List ByteArray} (h : HasX w B (.slice (some ⟨g, 0, Option.none⟩) n cap) l) (j : Nat) (hj : j < l.length) : w.cell? ⟨g, j, Option.none⟩ = some (.string l[j]) := by
  have := h.at (i := 0) hj (u := .string l[j]) rfl
  rw [show j * txtE.k + 0 = j from by show j * 1 + 0 = j; omega] at this
  exact this
theorem hasX_put {w : World} {B g n cap : Nat} {l : List ByteArray} (h : HasX w B (.slice (some ⟨g, 0, Option.none⟩) n cap) l) {j : Nat} (hj : j < l.length) (x : ByteArray) : HasX (w.setCell ⟨g, j, Option.none⟩ (.string x)) B (.slice (some ⟨g, 0, Option.none⟩) n cap) (l.set j x) := by
  have := h.put hj (i := 0) (by decide) (.string x) x rfl
  rw [show j * txtE.k + 0 = j from by show j * 1 + 0 = j; omega] at this
  exact this
set_option maxHeartbeats 400000 in
theorem eqTxt (va vb : Value) (l : List ByteArray) (w : World) (ha : Sls txtE w va l) (hb : Sls txtE w vb l) (hl : l.length ≤ 1048576) :
    Calls Tryz.prog 21 #[va, vb] w fun e w' => e = .returned (.bool true) ∧ Grew w w' := by
  obtain ⟨a, ca, rfl, a1, a2, a3⟩ := ha.txt
  obtain ⟨b, cb, rfl, b1, b2, b3⟩ := hb.txt
  clear ha hb
  have hmx := mixed
  go_enter Tryz.func21, Tryz.ntmps21
  go_wp2
  go_loopw [5] (fun i wr => ∃ (k : Nat), k ≤ l.length ∧ i = .int .i64 k ∧ Grew w wr) (fun i _ => l.length - (intOf i).toNat)
  case atStart => exact ⟨0, Nat.zero_le _, rfl, Grew.refl _⟩
  case round =>
    obtain ⟨k, hk, rfl, hg⟩ := hrel
    by_cases hlt : k < l.length
    · obtain ⟨ga, oa, rfl, hga, hca⟩ := a3 (by omega)
      obtain ⟨gb, ob, rfl, hgb, hcb⟩ := b3 (by omega)
      have c1 := hg.cell (hca k hlt) hga
      have c3 := hg.cell (hcb k hlt) hgb
      generalize l[k] = f at c1 c3
      clear a3 b3 hca hcb
      go_wp2
      go_quiet (fail)
      have hg2 : Grew w (wr.drewN nq) := hg.drewN _
      generalize wr.drewN nq = w1 at hg2 ⊢
      go_wp2
      go_roundw
      case rel => exact ⟨k + 1, by omega, by go_num, hg2⟩
      case measure => simp [intOf]; omega
    · go_wp2
      go_ret
      exact ⟨rfl, hg⟩
def markedX (s : Nat) (l : List ByteArray) (k : Nat) : List ByteArray := (List.range k).map (fun j => mkT (s + j)) ++ l.drop k
def marksX (s n : Nat) : List ByteArray := (List.range n).map (fun j => mkT (s + j))
theorem markedX_length (s : Nat) (l : List ByteArray) (k : Nat) (h : k ≤ l.length) : (markedX s l k).length = l.length := by unfold markedX; simp; omega
theorem markedX_zero (s : Nat) (l : List ByteArray) : markedX s l 0 = l := by simp [markedX]
theorem markedX_all (s : Nat) (l : List ByteArray) : markedX s l l.length = marksX s l.length := by simp [markedX, marksX]
theorem markedX_next (s : Nat) (l : List ByteArray) (k : Nat) (h : k < l.length) : (markedX s l k).set k (mkT (s + k)) = markedX s l (k + 1) := by
  unfold markedX
  have e : ((List.range k).map (fun j => mkT (s + j))).length = k := by simp
  rw [List.set_append_right _ _ (by omega), e, Nat.sub_self, List.range_succ, List.map_append, List.append_assoc]
  congr 1
  rw [List.drop_eq_getElem_cons h, List.set_cons_zero]
  rfl
theorem marksX_length (s n : Nat) : (marksX s n).length = n := by simp [marksX]
theorem marksX_at (s n j : Nat) (h : j < (marksX s n).length) : (marksX s n)[j] = mkT (s + j) := by simp [marksX]
set_option maxHeartbeats 1000000 in
theorem markTxt (s : Nat) (hs1 : 1 ≤ s) (hs2 : s ≤ 5000000) (v : Value) (l : List ByteArray) (B : Nat) (w : World) (h : HasX w B v l) (hl : l.length ≤ 1048576) :
    Calls Tryz.prog 22 #[v, .int .i64 (s : Int)] w fun e w' => e = .returned (.int .i64 ((s : Int) + (l.length : Int))) ∧ HasX w' B v (marksX s l.length) ∧ w.grownBy w' v.ownBlock := by
  have hh := h
  obtain ⟨a, cap, rfl, h1, h2, h3⟩ := hh.form
  unfold maxLen at h2
  go_enter Tryz.func22, Tryz.ntmps22
  go_wp2
  go_loopw [1, 5] (fun m i wr => ∃ k : Nat, k ≤ l.length ∧ i = .int .i64 k ∧ m = .int .i64 ((s : Int) + (k : Int)) ∧ HasX wr B (.slice a l.length cap) (markedX s l k) ∧ w.grownBy wr (Value.slice a l.length cap).ownBlock) (fun _ i _ => l.length - (intOf i).toNat)
  case atStart => exact ⟨0, Nat.zero_le _, rfl, by simp, by rw [markedX_zero]; exact h, grownE_self _ _⟩
  case round =>
    clear h hh
    obtain ⟨k, hk, rfl, rfl, ho, hgr⟩ := hrel
    by_cases hlt : k < l.length
    · obtain ⟨g, rfl⟩ := h3 (by omega)
      have hml := markedX_length s l k hk
      have hnx := markedX_next s l k hlt
      generalize hl2 : markedX s l (k + 1) = l2 at hnx
      generalize markedX s l k = l1 at ho hml hnx
      have m1 := fun wx => markText (s + k) (by omega) (by omega) wx
      simp only [Int.natCast_add] at m1
      have hki : (k : Int) < (l.length : Int) := by omega
      clear h3
      go_wp2_with fail
      refine (m1 _).mono ?_
      rintro e w1 ⟨rfl, hb1⟩
      have ho1 := ho.kept hb1
      have d1 := hasX_at ho1 k (by omega)
      have f1 := ho1.free k
      have hg1 := grownE_below hgr hb1
      have ho2 := hasX_put ho1 (j := k) (by omega) (mkT (s + k))
      have hg2 := grownE_put hg1 k (.string (mkT (s + k)))
      rw [hnx] at ho2
      have HO : Hid (HasX (w1.setCell ⟨g, k, none⟩ (.string (mkT (s + k)))) B (.slice (some ⟨g, 0, none⟩) l.length cap) l2) := ho2
      have HG : Hid _ := hg2
      clear ho hgr hb1 ho1 hg1 ho2 hg2
      go_wp2
      go_roundw
      case rel => exact ⟨k + 1, by omega, by go_num, by go_num, by rw [hl2]; exact HO.out, HG.out⟩
      case measure => simp [intOf]; omega
    · obtain rfl : k = l.length := by omega
      rw [markedX_all] at ho
      go_wp2
      go_ret
      exact ⟨rfl, ho, hgr⟩
set_option maxHeartbeats 1000000 in
theorem heldTxt (s : Nat) (hs1 : 1 ≤ s) (hs2 : s ≤ 5000000) (v : Value) (n : Nat) (w : World) (h : Sls txtE w v (marksX s n)) (hl : n ≤ 1048576) :
    Calls Tryz.prog 23 #[v, .int .i64 (s : Int)] w fun e w' => e = .returned (.int .i64 ((s : Int) + (n : Int))) ∧ Below w.heap.size w w' := by
  have hml := marksX_length s n
  obtain ⟨a, cap, rfl, h1, h2, h3⟩ := h.txt
  unfold maxLen at h2
  rw [hml] at h1 ⊢
  have hat : Hid (∀ (j : Nat) (hj : j < n) W, Below w.heap.size w W → ∃ g o, a = some ⟨g, o, Option.none⟩ ∧ W.cell? ⟨g, o + j, Option.none⟩ = some (.string (mkT (s + j)))) := (show ∀ _, _ from fun j hj W hW => by
    obtain ⟨g, o, ha, hg, hc⟩ := h3 (by omega)
    have c1 := hc j (by omega)
    rw [marksX_at] at c1
    exact ⟨g, o, ha, (hW.cell (p := ⟨g, o + j, none⟩) hg).trans c1⟩)
  clear h h3 hml
  go_enter Tryz.func23, Tryz.ntmps23
  go_wp2
  go_loopw [1, 5] (fun m i wr => ∃ k : Nat, k ≤ n ∧ i = .int .i64 k ∧ m = .int .i64 ((s : Int) + (k : Int)) ∧ Hid (Below w.heap.size w wr)) (fun _ i _ => n - (intOf i).toNat)
  case atStart => exact ⟨0, Nat.zero_le _, rfl, by simp, (show Hid _ from Below.refl _ _)⟩
  case round =>
    obtain ⟨k, hk, rfl, rfl, hb⟩ := hrel
    by_cases hlt : k < n
    · obtain ⟨g, o, rfl, c1⟩ := hat.out k hlt wr hb.out
      have m1 := fun wx => markText (s + k) (by omega) (by omega) wx
      simp only [Int.natCast_add] at m1
      have hki : (k : Int) < (n : Int) := by omega
      have j1 : ∀ d os, Calls Tryz.prog 57 #[.int .i64 ((s : Int) + (k : Int))] (grow (redrawn wr d) os) fun e w'' => e = .returned (.string (mkT (s + k))) ∧ ∃ p : Regrown, w'' = grow (redrawn wr p.d) p.os := fun d os => Calls.regrown_of (m1 _)
      have k1 := cell_regrown c1
      generalize mkT (s + k) = T at j1 k1
      have eT : (T.toList == T.toList) = true := by simp
      clear c1 m1
      go_wp2_with fail
      refine wp_region_quiet_below (by kernel_rfl) (by kernel_rfl) ?_
      repeat (go_big_quiet_step (with_reducible exact j1 _ _))
      refine wpQuiet_nil ?_
      intro _ hw'
      obtain ⟨⟨dq, osq⟩, hw''⟩ := hw'
      subst hw''
      have hbn : Below wr.heap.size wr (grow (redrawn wr dq) osq) := below_regrown wr dq osq
      have BN : Hid (Below w.heap.size w (grow (redrawn wr dq) osq)) := (show Hid _ from hb.out.trans (hbn.mono hb.out.size))
      generalize grow (redrawn wr dq) osq = wn at BN hbn ⊢
      clear k1 j1 hbn
      go_wp2
      go_roundw
      case rel => exact ⟨k + 1, by omega, by go_num, by go_num, BN⟩
      case measure => simp [intOf]; omega
    · obtain rfl : k = n := by omega
      go_wp2
      go_ret
      exact ⟨rfl, hb.out⟩
end Go.Proofs.YtemmgfnepdgpbaaGreatDoor
namespace Go.Proofs.YtemmgfnepdgpbaaGreatDoor
open Go.RowKit
set_option linter.unusedVariables false

/-- Of what was there, blocks from lo to hi alone may have changed. -/
structure Chg (lo hi : Nat) (W W' : World) : Prop where
  os : W'.os = W.os
  tape : W'.tape = W.tape
  output : W'.output = W.output
  size : W.heap.size ≤ W'.heap.size
  block : ∀ k, k < W.heap.size → ¬ (lo ≤ k ∧ k < hi) → W'.heap[k]? = W.heap[k]?
theorem Chg.below {lo hi B : Nat} {w W W' : World} (h : Chg lo hi W W') (hb : Below B w W) (h1 : B ≤ W.heap.size) (h2 : B ≤ lo) : Below B w W' :=
  ⟨h.os.trans hb.os, h.tape.trans hb.tape, h.output.trans hb.output, Nat.le_trans hb.size h.size, fun k hk => (h.block k (by omega) (by omega)).trans (hb.block k hk)⟩
/-- F holds, and hangs on the blocks from lo to hi alone. -/
structure Liv (lo hi : Nat) (F : World → Prop) (W : World) : Prop where
  now : F W
  top : hi ≤ W.heap.size
  mov : ∀ W', (∀ k, lo ≤ k → k < hi → W'.heap[k]? = W.heap[k]?) → W.heap.size ≤ W'.heap.size → F W'
theorem Liv.kept {lo hi : Nat} {F : World → Prop} {W W' : World} (h : Liv lo hi F W) (hb : Below W.heap.size W W') : Liv lo hi F W' := by
  have e : ∀ k, lo ≤ k → k < hi → W'.heap[k]? = W.heap[k]? := fun k _ hk => hb.block k (Nat.lt_of_lt_of_le hk h.top)
  exact ⟨h.mov W' e hb.size, Nat.le_trans h.top hb.size, fun V hV hz => h.mov V (fun k h1 h2 => (hV k h1 h2).trans (e k h1 h2)) (Nat.le_trans hb.size hz)⟩
theorem Liv.off {lo hi a b : Nat} {F : World → Prop} {W W' : World} (h : Liv lo hi F W) (hc : Chg a b W W') (hd : hi ≤ a ∨ b ≤ lo) : Liv lo hi F W' := by
  have e : ∀ k, lo ≤ k → k < hi → W'.heap[k]? = W.heap[k]? := fun k h1 h2 => hc.block k (Nat.lt_of_lt_of_le h2 h.top) (by omega)
  exact ⟨h.mov W' e hc.size, Nat.le_trans h.top hc.size, fun V hV hz => h.mov V (fun k h1 h2 => (hV k h1 h2).trans (e k h1 h2)) (Nat.le_trans hc.size hz)⟩
theorem Liv.and {lo hi : Nat} {F G : World → Prop} {W : World} (h : Liv lo hi F W) (h' : Liv lo hi G W) : Liv lo hi (fun V => F V ∧ G V) W := ⟨⟨h.now, h'.now⟩, h.top, fun V h1 h2 => ⟨h.mov V h1 h2, h'.mov V h1 h2⟩⟩
/-- A row in blocks from lo to hi. -/
def RowF {α : Type} (E : Enc α) (ty : TypeId) (lo hi : Nat) (v : Value) (l : List α) (W : World) : Prop := HasE E ty W lo v l ∧ ∀ k, v.ownBlock = some k → k < hi
theorem HasE.off {α : Type} {E : Enc α} {ty : TypeId} {w w' : World} {B : Nat} {v : Value} {l : List α} (h : HasE E ty w B v l) (hk : ∀ k, v.ownBlock = some k → w'.heap[k]? = w.heap[k]?) : HasE E ty w' B v l := by
  rcases h with h0 | ⟨g, cap, cur, hv, hbg, hh, rest⟩
  · exact .inl h0
  · exact .inr ⟨g, cap, cur, hv, hbg, by rw [hk g (by rw [hv]; rfl)]; exact hh, rest⟩
theorem Liv.row {α : Type} {E : Enc α} {ty : TypeId} {W : World} {lo hi : Nat} {v : Value} {l : List α} (h : HasE E ty W lo v l) (hu : ∀ k, v.ownBlock = some k → k < hi) (ht : hi ≤ W.heap.size) : Liv lo hi (RowF E ty lo hi v l) W :=
  ⟨⟨h, hu⟩, ht, fun W' hW _ => ⟨h.off fun k hk => hW k (h.from k hk) (hu k hk), hu⟩⟩
theorem Liv.new {α : Type} {E : Enc α} {ty : TypeId} {W : World} {lo : Nat} {v : Value} {l : List α} (h : HasE E ty W lo v l) : Liv lo W.heap.size (RowF E ty lo W.heap.size v l) W := Liv.row h h.under (Nat.le_refl _)
theorem RowF.sls {α : Type} {E : Enc α} {ty : TypeId} {lo hi : Nat} {v : Value} {l : List α} {W : World} (h : RowF E ty lo hi v l W) : Sls E W v l := h.1.sls
theorem RowF.chg {α : Type} {E : Enc α} {ty : TypeId} {lo hi : Nat} {v : Value} {l : List α} {W W' : World} (h : RowF E ty lo hi v l W) (hg : W.grownBy W' v.ownBlock) : Chg lo hi W W' :=
  ⟨hg.os, hg.tape, hg.output, hg.size, fun k hk hn => hg.block k hk fun e => hn ⟨h.1.from k e.symm, h.2 k e.symm⟩⟩
theorem Liv.marked {α : Type} {E : Enc α} {ty : TypeId} {lo hi : Nat} {v : Value} {l l' : List α} {W W' : World} (h : Liv lo hi (RowF E ty lo hi v l) W) (ho : HasE E ty W' lo v l') (hg : W.grownBy W' v.ownBlock) : Liv lo hi (RowF E ty lo hi v l') W' :=
  Liv.row ho h.now.2 (Nat.le_trans h.top hg.size)
end Go.Proofs.YtemmgfnepdgpbaaGreatDoor
