/-
  Texts in rows: the laws' helpers on them: measured, turned, compared, marked, held.
  A block of cells of one's own: what lies in it, and for how long.
-/
import Derived.Test.YtdbeoloonoodkaaDoorG13
import Derived.Test.YtdbeoloonoodkaaDoorG15
import Derived.Test.YtdbeoloonoodkaaDoorG03
namespace Go.Proofs.YtdbeoloonoodkaaDoor
open Go.RowKit Go.Sort
set_option linter.unusedVariables false
set_option linter.unusedSimpArgs false

abbrev OwnsX := OwnsE txtE 9
abbrev HasX := HasE txtE 9
theorem cellsX_map (l : List ByteArray) : cellsE txtE l = l.map Value.string := by
  induction l with
  | nil => rfl
  | cons x l ih => rw [cellsE_cons, ih]; rfl
theorem OwnsP.x {w : World} {B : Nat} {v : Value} {l : List ByteArray} (h : OwnsP w B v l) : OwnsX w B v l := by
  show w.ownsRow B 9 1 v l.length (cellsE txtE l)
  rw [cellsX_map]
  exact h
theorem cellsX_at (l : List ByteArray) (j : Nat) (hj : j < l.length) : (cellsE txtE l)[j]? = some (.string l[j]) := by
  have := cellsE_at txtE l j hj 0 (by decide)
  rw [show j * txtE.k + 0 = j from by show j * 1 + 0 = j; omega] at this
  exact this
theorem Sls.txt {w : World} {v : Value} {l : List ByteArray} (h : Sls txtE w v l) : ∃ a cap, v = .slice a l.length cap ∧ l.length ≤ cap ∧ cap ≤ maxLen ∧ (0 < l.length → ∃ g o, a = some ⟨g, o, Option.none⟩ ∧ g < w.heap.size ∧
    ∀ j (hj : j < l.length), w.cell? ⟨g, o + j, Option.none⟩ = some (.string l[j])) := by
  obtain ⟨a, cap, rfl, h1, h2, h3⟩ := h
  refine ⟨a, cap, rfl, h1, h2, fun h0 => ?_⟩
  obtain ⟨g, o, rfl, hg, hc⟩ := h3 h0
  exact ⟨g, o, rfl, hg, fun j hj => hc j _ (cellsX_at l j hj)⟩
theorem hasX_at {w : World} {B g n cap : Nat} {l : List ByteArray} (h : HasX w B (.slice (some ⟨g, 0, Option.none⟩) n cap) l) (j : Nat) (hj : j < l.length) : w.cell? ⟨g, j, Option.none⟩ = some (.string l[j]) := by
  have := h.at (i := 0) hj (u := .string l[j]) rfl
  rw [show j * txtE.k + 0 = j from by show j * 1 + 0 = j; omega] at this
  exact this
theorem hasX_put {w : World} {B g n cap : Nat} {l : List ByteArray} (h : HasX w B (.slice (some ⟨g, 0, Option.none⟩) n cap) l) {j : Nat} (hj : j < l.length) (x : ByteArray) : HasX (w.setCell ⟨g, j, Option.none⟩ (.string x)) B (.slice (some ⟨g, 0, Option.none⟩) n cap) (l.set j x) := by
  have := h.put hj (i := 0) (by decide) (.string x) x rfl
  rw [show j * txtE.k + 0 = j from by show j * 1 + 0 = j; omega] at this
  exact this
set_option maxHeartbeats 400000 in
theorem eqTxt (va vb : Value) (l : List ByteArray) (w : World) (ha : Sls txtE w va l) (hb : Sls txtE w vb l) (hl : l.length ≤ 1048576) :
    Calls Tryd.prog 30 #[va, vb] w fun e w' => e = .returned (.bool true) ∧ Grew w w' := by
  obtain ⟨a, ca, rfl, a1, a2, a3⟩ := ha.txt
  obtain ⟨b, cb, rfl, b1, b2, b3⟩ := hb.txt
  clear ha hb
  have hmx := mixed
  go_enter Tryd.func30, Tryd.ntmps30
  go_wp2
  go_loopw [5] (fun i wr => ∃ (k : Nat), k ≤ l.length ∧ i = .int .i64 k ∧ Grew w wr) (fun i _ => l.length - (intOf i).toNat)
  case atStart => exact ⟨0, Nat.zero_le _, rfl, Grew.refl _⟩
  case round =>
    obtain ⟨k, hk, rfl, hg⟩ := hrel
    by_cases hlt : k < l.length
    · obtain ⟨ga, oa, rfl, hga, hca⟩ := a3 (by omega)
      obtain ⟨gb, ob, rfl, hgb, hcb⟩ := b3 (by omega)
      have c1 := hg.cell (hca k hlt) hga
      have c3 := hg.cell (hcb k hlt) hgb
      generalize l[k] = f at c1 c3
      clear a3 b3 hca hcb
      go_wp2
      go_quiet (fail)
      have hg2 : Grew w (wr.drewN nq) := hg.drewN _
      generalize wr.drewN nq = w1 at hg2 ⊢
      go_wp2
      go_roundw
      case rel => exact ⟨k + 1, by omega, by go_num, hg2⟩
      case measure => simp [intOf]; omega
    · go_wp2
      go_ret
      exact ⟨rfl, hg⟩
def markedX (s : Nat) (l : List ByteArray) (k : Nat) : List ByteArray := (List.range k).map (fun j => mkT (s + j)) ++ l.drop k
def marksX (s n : Nat) : List ByteArray := (List.range n).map (fun j => mkT (s + j))
theorem markedX_length (s : Nat) (l : List ByteArray) (k : Nat) (h : k ≤ l.length) : (markedX s l k).length = l.length := by unfold markedX; simp; omega
theorem markedX_zero (s : Nat) (l : List ByteArray) : markedX s l 0 = l := by simp [markedX]
theorem markedX_all (s : Nat) (l : List ByteArray) : markedX s l l.length = marksX s l.length := by simp [markedX, marksX]
theorem markedX_next (s : Nat) (l : List ByteArray) (k : Nat) (h : k < l.length) : (markedX s l k).set k (mkT (s + k)) = markedX s l (k + 1) := by
  unfold markedX
  have e : ((List.range k).map (fun j => mkT (s + j))).length = k := by simp
  rw [List.set_append_right _ _ (by omega), e, Nat.sub_self, List.range_succ, List.map_append, List.append_assoc]
  congr 1
  rw [List.drop_eq_getElem_cons h, List.set_cons_zero]
  rfl
set_option maxHeartbeats 1000000 in
theorem markTxt (s : Nat) (hs1 : 1 ≤ s) (hs2 : s ≤ 5000000) (v : Value) (l : List ByteArray) (B : Nat) (w : World) (h : HasX w B v l) (hl : l.length ≤ 1048576) :
    Calls Tryd.prog 31 #[v, .int .i64 (s : Int)] w fun e w' => e = .returned (.int .i64 ((s : Int) + (l.length : Int))) ∧ HasX w' B v (marksX s l.length) ∧ w.grownBy w' v.ownBlock := by
  have hh := h
  obtain ⟨a, cap, rfl, h1, h2, h3⟩ := hh.form
  unfold maxLen at h2
  go_enter Tryd.func31, Tryd.ntmps31
  go_wp2
  go_loopw [1, 5] (fun m i wr => ∃ k : Nat, k ≤ l.length ∧ i = .int .i64 k ∧ m = .int .i64 ((s : Int) + (k : Int)) ∧ HasX wr B (.slice a l.length cap) (markedX s l k) ∧ w.grownBy wr (Value.slice a l.length cap).ownBlock) (fun _ i _ => l.length - (intOf i).toNat)
  case atStart => exact ⟨0, Nat.zero_le _, rfl, by simp, by rw [markedX_zero]; exact h, grownE_self _ _⟩
  case round =>
    clear h hh
    obtain ⟨k, hk, rfl, rfl, ho, hgr⟩ := hrel
    by_cases hlt : k < l.length
    · obtain ⟨g, rfl⟩ := h3 (by omega)
      have hml := markedX_length s l k hk
      have hnx := markedX_next s l k hlt
      generalize hl2 : markedX s l (k + 1) = l2 at hnx
      generalize markedX s l k = l1 at ho hml hnx
      have m1 := fun wx => markText (s + k) (by omega) (by omega) wx
      simp only [Int.natCast_add] at m1
      have hki : (k : Int) < (l.length : Int) := by omega
      clear h3
      go_wp2_with fail
      refine (m1 _).mono ?_
      rintro e w1 ⟨rfl, hb1⟩
      have ho1 := ho.kept hb1
      have d1 := hasX_at ho1 k (by omega)
      have f1 := ho1.free k
      have hg1 := grownE_below hgr hb1
      have ho2 := hasX_put ho1 (j := k) (by omega) (mkT (s + k))
      have hg2 := grownE_put hg1 k (.string (mkT (s + k)))
      rw [hnx] at ho2
      have HO : Hid (HasX (w1.setCell ⟨g, k, none⟩ (.string (mkT (s + k)))) B (.slice (some ⟨g, 0, none⟩) l.length cap) l2) := ho2
      have HG : Hid _ := hg2
      clear ho hgr hb1 ho1 hg1 ho2 hg2
      go_wp2
      go_roundw
      case rel => exact ⟨k + 1, by omega, by go_num, by go_num, by rw [hl2]; exact HO.out, HG.out⟩
      case measure => simp [intOf]; omega
    · obtain rfl : k = l.length := by omega
      rw [markedX_all] at ho
      go_wp2
      go_ret
      exact ⟨rfl, ho, hgr⟩
theorem toTxt (v : Value) (l : List ByteArray) (w : World) (h : Sls txtE w v l) (hl : l.length ≤ 1048576) :
    Calls Tryd.prog 29 #[v] w fun e w' => ∃ u, e = .returned u ∧ OwnsX w' w.heap.size u l ∧ Below w.heap.size w w' :=
  (lawToS v l w h.txt hl).mono fun e w' ⟨u, h1, h2, h3⟩ => ⟨u, h1, h2.x, h3⟩
theorem szTxt (v : Value) (l : List ByteArray) (w : World) (h : Sls txtE w v l) (hz : ∀ p ∈ l, p.size ≤ maxLen) :
    Calls Tryd.prog 28 #[v, .int .i64 1048576] w fun e w' => e = .returned (.int .i64 (szP l)) ∧ Below w.heap.size w w' :=
  lawSzS v l w h.txt hz
end Go.Proofs.YtdbeoloonoodkaaDoor
namespace Go.Proofs.YtdbeoloonoodkaaDoor
open Go.RowKit
set_option linter.unusedVariables false

/-- The block b holds just these cells, and may be written. -/
def Bx (W : World) (b : Nat) (ty : TypeId) (vs : Array Value) : Prop := W.heap[b]? = some (.cells vs ty (0, 0))
theorem Bx.new (W : World) (ty : TypeId) (vs : Array Value) : Bx (W.alloc (.cells vs ty)) W.heap.size ty vs := by
  show (W.heap.push _)[W.heap.size]? = _
  simp
theorem Bx.cell {W : World} {b : Nat} {ty : TypeId} {vs : Array Value} (h : Bx W b ty vs) (i : Nat) : W.cell? ⟨b, i, none⟩ = vs[i]? := by
  have h : W.heap[b]? = some (.cells vs ty (0, 0)) := h
  simp [World.cell?, h]
theorem Bx.free {W : World} {b : Nat} {ty : TypeId} {vs : Array Value} (h : Bx W b ty vs) (i : Nat) : W.frozen? ⟨b, i, none⟩ = false := by
  have h : W.heap[b]? = some (.cells vs ty (0, 0)) := h
  simp [World.frozen?, h]
theorem Bx.lt {W : World} {b : Nat} {ty : TypeId} {vs : Array Value} (h : Bx W b ty vs) : b < W.heap.size := (Array.getElem?_eq_some_iff.1 h).1
theorem Bx.low {W W' : World} {b B : Nat} {ty : TypeId} {vs : Array Value} (h : Bx W b ty vs) (hb : Below B W W') (hB : b < B) : Bx W' b ty vs := (hb.block b hB).trans h
theorem Bx.kept {W W' : World} {b : Nat} {ty : TypeId} {vs : Array Value} (h : Bx W b ty vs) (hb : Below W.heap.size W W') : Bx W' b ty vs := h.low hb h.lt
theorem Bx.grown {W W' : World} {b : Nat} {ty : TypeId} {vs : Array Value} {r : Option Nat} (h : Bx W b ty vs) (hg : W.grownBy W' r) (hr : r ≠ some b) : Bx W' b ty vs := (hg.block b h.lt fun e => hr e.symm).trans h
theorem Bx.put {W : World} {b : Nat} {ty : TypeId} {vs : Array Value} (h : Bx W b ty vs) (i : Nat) (v : Value) : Bx (W.setCell ⟨b, i, none⟩ v) b ty (vs.setIfInBounds i v) := heap_setCell_same W b i _ _ v h
theorem Bx.other {W : World} {b g : Nat} {ty : TypeId} {vs : Array Value} (h : Bx W b ty vs) (i : Nat) (v : Value) (hne : b ≠ g) : Bx (W.setCell ⟨g, i, none⟩ v) b ty vs := (Below.heap_setCell _ _ _ _ hne).trans h
theorem Bx.alloc {W : World} {b : Nat} {ty : TypeId} {vs : Array Value} (h : Bx W b ty vs) (o : Obj) : Bx (W.alloc o) b ty vs := h.kept ((Below.refl _ W).alloc (Nat.le_refl _) _)
theorem Bx.drew {W : World} {b : Nat} {ty : TypeId} {vs : Array Value} (h : Bx W b ty vs) : Bx W.drew b ty vs := h
end Go.Proofs.YtdbeoloonoodkaaDoor
