/-
  Rows of messages, and a replica, in memory.
  The laws' marks in rows of numbers, from any start; how much such a row holds.
  A block of cells of one's own: what lies in it, and for how long.
-/
import Derived.Test.YtlngleinegkoeaaGreatT10
import Derived.Test.YtlngleinegkoeaaGreatT15
import Derived.Test.YtlngleinegkoeaaGreatT13
import Derived.Test.YtlngleinegkoeaaGreatT14
import Derived.Test.YtlngleinegkoeaaGreatT17
import Derived.Test.YtlngleinegkoeaaGreatT18
namespace Go.Proofs.YtlngleinegkoeaaGreat.Rl
open Go.RowKit Go.Sort
set_option linter.unusedVariables false
set_option linter.unusedSimpArgs false

/-- A message and where its log lies. -/
structure Mx where
  m : Ms
  pl : Option Addr
  cl : Nat
def Mx.u (x : Mx) : Value := .slice x.pl x.m.l.length x.cl
def mxC (x : Mx) : List Value := [.int .i64 x.m.k, .int .i64 x.m.f, .int .i64 x.m.t, .int .i64 x.m.v, .int .i64 x.m.la, x.u, .int .i64 x.m.c]
def mxE : Enc Mx where
  k := 7
  pos := by decide
  c := mxC
  len := fun _ => rfl
  one := fun x u hu => by
    simp only [mxC, Mx.u, List.mem_cons, List.not_mem_nil, or_false] at hu
    rcases hu with rfl | rfl | rfl | rfl | rfl | rfl | rfl <;> rfl
/-- The cells of the j-th message of a row. -/
theorem mxCells {w : World} {g q n cap : Nat} {L : List Mx} (h : Sls mxE w (.slice (some ⟨g, q, none⟩) n cap) L) {j : Nat} (hj : j < L.length) :
    (w.cell? ⟨g, q + j * 7, none⟩ = some (.int .i64 L[j].m.k) ∧ w.cell? ⟨g, q + j * 7 + 1, none⟩ = some (.int .i64 L[j].m.f) ∧ w.cell? ⟨g, q + j * 7 + 2, none⟩ = some (.int .i64 L[j].m.t) ∧ w.cell? ⟨g, q + j * 7 + 3, none⟩ = some (.int .i64 L[j].m.v) ∧ w.cell? ⟨g, q + j * 7 + 4, none⟩ = some (.int .i64 L[j].m.la) ∧ w.cell? ⟨g, q + j * 7 + 5, none⟩ = some L[j].u ∧ w.cell? ⟨g, q + j * 7 + 6, none⟩ = some (.int .i64 L[j].m.c)) := by
  obtain ⟨a, cap', hv, h1, h2, h3⟩ := h
  obtain ⟨g', q', ha, hg, hc⟩ := h3 (by omega)
  cases hv
  cases ha
  have k : ∀ i (hi : i < 7) u, (mxC L[j])[i]? = some u → w.cell? ⟨g, q + j * 7 + i, none⟩ = some u := fun i hi u hu => by
    have := hc (j * 7 + i) u ((cellsE_at mxE L j hj i hi).trans hu)
    rw [← Nat.add_assoc] at this
    exact this
  exact ⟨k 0 (by decide) _ rfl, k 1 (by decide) _ rfl, k 2 (by decide) _ rfl, k 3 (by decide) _ rfl, k 4 (by decide) _ rfl, k 5 (by decide) _ rfl, k 6 (by decide) _ rfl⟩
theorem mxAt {w : World} {a : Option Addr} {n cap : Nat} {L : List Mx} (h : Sls mxE w (.slice a n cap) L) (hl : 0 < L.length) : ∃ g q, a = some ⟨g, q, none⟩ := by
  obtain ⟨a', cap', hv, _, _, h3⟩ := h
  obtain ⟨g, q, ha, _⟩ := h3 hl
  cases hv
  exact ⟨g, q, ha⟩
/-- A message as a value, its log at u. -/
def msA (m : Ms) (u : Value) : Value := .agg #[.int .i64 m.k, .int .i64 m.f, .int .i64 m.t, .int .i64 m.v, .int .i64 m.la, u, .int .i64 m.c]
def MsGot (w : World) (u : Value) (m : Ms) : Prop := Sls txtE w u m.l
theorem MsGot.kept {w w' : World} {u : Value} {m : Ms} (h : MsGot w u m) (hb : Below w.heap.size w w') : MsGot w' u m := Sls.kept h hb
theorem MsGot.alloc {w : World} {u : Value} {m : Ms} (h : MsGot w u m) (o : Obj) : MsGot (w.alloc o) u m := h.kept ((Below.refl _ w).alloc (Nat.le_refl _) o)
/-- A row of messages at v. -/
def TeGot (w : World) (v : Value) (T : List Mx) : Prop := Sls mxE w v T ∧ ∀ x ∈ T, MsGot w x.u x.m
theorem TeGot.kept {w w' : World} {v : Value} {T : List Mx} (h : TeGot w v T) (hb : Below w.heap.size w w') : TeGot w' v T := ⟨h.1.kept hb, fun x hx => (h.2 x hx).kept hb⟩
theorem TeGot.alloc {w : World} {v : Value} {T : List Mx} (h : TeGot w v T) (o : Obj) : TeGot (w.alloc o) v T := h.kept ((Below.refl _ w).alloc (Nat.le_refl _) o)
/-- Where the four slices of a replica lie. -/
structure Rv where
  l : Value
  ok : Value
  ch : Value
  te : Value
  T : List Mx
def rpA (r : Rp) (u : Rv) : Value := .agg #[.int .i64 r.id, .int .i64 r.p, .int .i64 r.v, .bool r.n, .int .i64 r.la, u.l, .int .i64 r.c, u.ok, u.ch, u.te]
structure RpGot (w : World) (u : Rv) (r : Rp) : Prop where
  l : Sls txtE w u.l r.l
  ok : Sls intE w u.ok r.ok
  ch : Sls intE w u.ch r.ch
  t : u.T.map (·.m) = r.te
  te : TeGot w u.te u.T
theorem RpGot.kept {w w' : World} {u : Rv} {r : Rp} (h : RpGot w u r) (hb : Below w.heap.size w w') : RpGot w' u r := ⟨h.l.kept hb, h.ok.kept hb, h.ch.kept hb, h.t, h.te.kept hb⟩
theorem RpGot.alloc {w : World} {u : Rv} {r : Rp} (h : RpGot w u r) (o : Obj) : RpGot (w.alloc o) u r := h.kept ((Below.refl _ w).alloc (Nat.le_refl _) o)
theorem RpGot.tlen {w : World} {u : Rv} {r : Rp} (h : RpGot w u r) : u.T.length = r.te.length := by rw [← h.t, List.length_map]
/-- Three values that are no replica's slices. -/
def rv0 : Rv := ⟨.slice none 0 0, .slice none 0 0, .slice none 0 0, .slice none 0 0, []⟩
theorem RpGot.none (w : World) : RpGot w rv0 noRp where
  l := Sls.nil (Nat.zero_le _)
  ok := Sls.nil (Nat.zero_le _)
  ch := Sls.nil (Nat.zero_le _)
  t := rfl
  te := ⟨Sls.nil (Nat.zero_le _), fun x hx => by cases hx⟩
end Go.Proofs.YtlngleinegkoeaaGreat.Rl
namespace Go.Proofs.YtlngleinegkoeaaGreat
open Go.RowKit Go.Sort
set_option linter.unusedVariables false
set_option linter.unusedSimpArgs false

def mkU (s j : Nat) : Int := (s : Int) + (j : Int)
def markedU (s : Nat) (l : List Int) (k : Nat) : List Int := (List.range k).map (mkU s) ++ l.drop k
def marksU (s n : Nat) : List Int := (List.range n).map (mkU s)
theorem markedU_length (s : Nat) (l : List Int) (k : Nat) (h : k ≤ l.length) : (markedU s l k).length = l.length := by unfold markedU; simp; omega
theorem markedU_zero (s : Nat) (l : List Int) : markedU s l 0 = l := by simp [markedU]
theorem markedU_all (s : Nat) (l : List Int) : markedU s l l.length = marksU s l.length := by simp [markedU, marksU]
theorem markedU_next (s : Nat) (l : List Int) (k : Nat) (h : k < l.length) : (markedU s l k).set k (mkU s k) = markedU s l (k + 1) := by
  unfold markedU
  have e : ((List.range k).map (mkU s)).length = k := by simp
  rw [List.set_append_right _ _ (by omega), e, Nat.sub_self, List.range_succ, List.map_append, List.append_assoc]
  congr 1
  rw [List.drop_eq_getElem_cons h, List.set_cons_zero]
  rfl
theorem marksU_length (s n : Nat) : (marksU s n).length = n := by simp [marksU]
theorem marksU_at (s n j : Nat) (h : j < (marksU s n).length) : (marksU s n)[j] = mkU s j := by simp [marksU]
def szU (left : Int) (l : List Int) : Int := if (l.length : Int) ≤ left then left - (l.length : Int) else -1
theorem szNu (v : Value) (l : List Int) (left : Int) (h0 : 0 ≤ left) (h1 : left ≤ 1048576) (w : World) (h : Sls intE w v l) :
    Calls Tryz.prog 136 #[v, .int .i64 left] w fun e w' => e = .returned (.int .i64 (szU left l)) ∧ w = w' := by
  obtain ⟨a, cap, rfl, _, h2, _⟩ := h.one
  unfold maxLen at h2
  have ew : IntKind.i64.wrap (left - (l.length : Int)) = left - (l.length : Int) := by rw [IntKind.wrap_i64]; omega
  clear h
  by_cases hf : (l.length : Int) ≤ left
  · have HE : Hid (left - (l.length : Int) = szU left l) := by show _ = _; unfold szU; rw [if_pos hf]
    have hn : ¬ (left - (l.length : Int) < 0) := by omega
    go_enter Tryz.func136, Tryz.ntmps136
    go_wp2
    go_ret
    exact ⟨congrArg (fun z => Ending.returned (.int .i64 z)) HE.out, rfl⟩
  · have HE : Hid (-1 = szU left l) := by show _ = _; unfold szU; rw [if_neg hf]
    have hn : left - (l.length : Int) < 0 := by omega
    go_enter Tryz.func136, Tryz.ntmps136
    go_wp2
    go_ret
    exact ⟨congrArg (fun z => Ending.returned (.int .i64 z)) HE.out, rfl⟩
set_option maxHeartbeats 1000000 in
theorem markNu (s : Nat) (hs2 : s ≤ 50000000) (v : Value) (l : List Int) (B : Nat) (w : World) (h : HasN w B v l) (hl : l.length ≤ 1048576) :
    Calls Tryz.prog 79 #[v, .int .i64 (s : Int)] w fun e w' => e = .returned (.int .i64 ((s : Int) + (l.length : Int))) ∧ HasN w' B v (marksU s l.length) ∧ w.grownBy w' v.ownBlock := by
  have hh := h
  obtain ⟨a, cap, rfl, h1, h2, h3⟩ := hh.form
  unfold maxLen at h2
  go_enter Tryz.func79, Tryz.ntmps79
  go_wp2
  go_loopw [1, 5] (fun m i wr => ∃ k : Nat, k ≤ l.length ∧ i = .int .i64 k ∧ m = .int .i64 ((s : Int) + (k : Int)) ∧ HasN wr B (.slice a l.length cap) (markedU s l k) ∧ w.grownBy wr (Value.slice a l.length cap).ownBlock) (fun _ i _ => l.length - (intOf i).toNat)
  case atStart => exact ⟨0, Nat.zero_le _, rfl, by simp, by rw [markedU_zero]; exact h, grownE_self _ _⟩
  case round =>
    clear h hh
    obtain ⟨k, hk, rfl, rfl, ho, hgr⟩ := hrel
    by_cases hlt : k < l.length
    · obtain ⟨g, rfl⟩ := h3 (by omega)
      have hml := markedU_length s l k hk
      have hnx := markedU_next s l k hlt
      generalize hl2 : markedU s l (k + 1) = l2 at hnx
      generalize markedU s l k = l1 at ho hml hnx
      have d1 := hasN_at ho k (by omega)
      have f1 := ho.free k
      have ho2 := hasN_put ho (j := k) (by omega) (mkU s k)
      have hg2 := grownE_put hgr k (.int .i64 (mkU s k))
      rw [hnx] at ho2
      unfold mkU at ho2 hg2
      have HO : Hid _ := ho2
      have HG : Hid _ := hg2
      clear ho hgr h3 ho2 hg2
      go_wp2
      go_roundw
      case rel => exact ⟨k + 1, by omega, by go_num, by go_num, by rw [hl2]; exact HO.out, HG.out⟩
      case measure => simp [intOf]; omega
    · obtain rfl : k = l.length := by omega
      rw [markedU_all] at ho
      go_wp2
      go_ret
      exact ⟨rfl, ho, hgr⟩
set_option maxHeartbeats 1000000 in
theorem heldNu (s : Nat) (hs2 : s ≤ 50000000) (v : Value) (n : Nat) (w : World) (h : Sls intE w v (marksU s n)) (hl : n ≤ 1048576) :
    Calls Tryz.prog 80 #[v, .int .i64 (s : Int)] w fun e w' => e = .returned (.int .i64 ((s : Int) + (n : Int))) ∧ w = w' := by
  have hml := marksU_length s n
  obtain ⟨a, cap, rfl, h1, h2, h3⟩ := h.one
  unfold maxLen at h2
  rw [hml] at h1 ⊢
  have hat : ∀ (j : Nat) (hj : j < n), ∃ g o, a = some ⟨g, o, Option.none⟩ ∧ w.cell? ⟨g, o + j, Option.none⟩ = some (.int .i64 ((s : Int) + (j : Int))) := fun j hj => by
    obtain ⟨g, o, ha, _, hc⟩ := h3 (by omega)
    have := hc j (by omega)
    rw [marksU_at] at this
    exact ⟨g, o, ha, this⟩
  clear h h3 hml
  go_enter Tryz.func80, Tryz.ntmps80
  go_wp2
  go_loop [1, 5] (fun m i => ∃ k : Nat, k ≤ n ∧ i = .int .i64 k ∧ m = .int .i64 ((s : Int) + (k : Int))) (fun _ i => n - (intOf i).toNat)
  case atStart => exact ⟨0, Nat.zero_le _, rfl, by simp⟩
  case round =>
    obtain ⟨k, hk, rfl, rfl⟩ := hrel
    by_cases hlt : k < n
    · obtain ⟨g, o, rfl, c1⟩ := hat k hlt
      clear hat
      go_wp2
      go_round
      case rel => exact ⟨k + 1, by omega, by go_num, by go_num⟩
      case measure => simp [intOf]; omega
    · obtain rfl : k = n := by omega
      go_wp2
      go_ret
      exact ⟨rfl, rfl⟩
end Go.Proofs.YtlngleinegkoeaaGreat
namespace Go.Proofs.YtlngleinegkoeaaGreat
open Go.RowKit
set_option linter.unusedVariables false

/-- The block b holds just these cells, and may be written. -/
def Bx (W : World) (b : Nat) (ty : TypeId) (vs : Array Value) : Prop := W.heap[b]? = some (.cells vs ty (0, 0))
theorem Bx.new (W : World) (ty : TypeId) (vs : Array Value) : Bx (W.alloc (.cells vs ty)) W.heap.size ty vs := by
  show (W.heap.push _)[W.heap.size]? = _
  simp
theorem Bx.cell {W : World} {b : Nat} {ty : TypeId} {vs : Array Value} (h : Bx W b ty vs) (i : Nat) : W.cell? ⟨b, i, none⟩ = vs[i]? := by
  have h : W.heap[b]? = some (.cells vs ty (0, 0)) := h
  simp [World.cell?, h]
theorem Bx.free {W : World} {b : Nat} {ty : TypeId} {vs : Array Value} (h : Bx W b ty vs) (i : Nat) : W.frozen? ⟨b, i, none⟩ = false := by
  have h : W.heap[b]? = some (.cells vs ty (0, 0)) := h
  simp [World.frozen?, h]
theorem Bx.lt {W : World} {b : Nat} {ty : TypeId} {vs : Array Value} (h : Bx W b ty vs) : b < W.heap.size := (Array.getElem?_eq_some_iff.1 h).1
theorem Bx.low {W W' : World} {b B : Nat} {ty : TypeId} {vs : Array Value} (h : Bx W b ty vs) (hb : Below B W W') (hB : b < B) : Bx W' b ty vs := (hb.block b hB).trans h
theorem Bx.kept {W W' : World} {b : Nat} {ty : TypeId} {vs : Array Value} (h : Bx W b ty vs) (hb : Below W.heap.size W W') : Bx W' b ty vs := h.low hb h.lt
theorem Bx.grown {W W' : World} {b : Nat} {ty : TypeId} {vs : Array Value} {r : Option Nat} (h : Bx W b ty vs) (hg : W.grownBy W' r) (hr : r ≠ some b) : Bx W' b ty vs := (hg.block b h.lt fun e => hr e.symm).trans h
theorem Bx.put {W : World} {b : Nat} {ty : TypeId} {vs : Array Value} (h : Bx W b ty vs) (i : Nat) (v : Value) : Bx (W.setCell ⟨b, i, none⟩ v) b ty (vs.setIfInBounds i v) := heap_setCell_same W b i _ _ v h
theorem Bx.other {W : World} {b g : Nat} {ty : TypeId} {vs : Array Value} (h : Bx W b ty vs) (i : Nat) (v : Value) (hne : b ≠ g) : Bx (W.setCell ⟨g, i, none⟩ v) b ty vs := (Below.heap_setCell _ _ _ _ hne).trans h
theorem Bx.alloc {W : World} {b : Nat} {ty : TypeId} {vs : Array Value} (h : Bx W b ty vs) (o : Obj) : Bx (W.alloc o) b ty vs := h.kept ((Below.refl _ W).alloc (Nat.le_refl _) _)
theorem Bx.drew {W : World} {b : Nat} {ty : TypeId} {vs : Array Value} (h : Bx W b ty vs) : Bx W.drew b ty vs := h
end Go.Proofs.YtlngleinegkoeaaGreat
