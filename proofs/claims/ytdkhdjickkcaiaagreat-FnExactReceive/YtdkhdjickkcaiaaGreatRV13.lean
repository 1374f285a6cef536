/-
  Rows of messages, and a replica, in memory.
  The laws' marks in rows of numbers, from any start; how much such a row holds.
  A block of cells of one's own: what lies in it, and for how long.
  What lives in some blocks of memory, and calls that change but those of one thing: for walks with many things in memory.
  The laws' measure of texts, messages, rows of messages.
  The laws' copy of messages and rows of them.
-/
import Derived.Test.YtdkhdjickkcaiaaGreatRVS
import Derived.Test.YtdkhdjickkcaiaaGreatRV09
import Derived.Test.YtdkhdjickkcaiaaGreatRV06
import Derived.Test.YtdkhdjickkcaiaaGreatRows
import Derived.Test.YtdkhdjickkcaiaaGreatRV05
import Derived.WalkKit
import Derived.WalkSpells
import Derived.Test.YtdkhdjickkcaiaaGreatRV04
import Derived.Laws.RangeAny
import Derived.Deep.RegionWith
import Derived.Lib.AppendStr
import Derived.Test.YtdkhdjickkcaiaaGreatRV08
import Derived.Test.YtdkhdjickkcaiaaGreatRV07
import Derived.Lib.ItoaNum
import Derived.Test.YtdkhdjickkcaiaaGreatRV10
import Derived.StillTail
import Derived.Deep.QuietTactic
import Derived.Lib.QuietBelow
import Derived.BigQuiet
import Derived.Test.YtdkhdjickkcaiaaGreatRV12
import Derived.Deep.DeepCutAuto
set_option linter.unusedVariables false
set_option linter.unusedSimpArgs false
set_option maxRecDepth 100000
set_option maxHeartbeats 64000000
namespace Go.Proofs.YtdkhdjickkcaiaaGreat.Rl
open Go.RowKit Go.Sort

structure Mx where
 m : Ms
 pl : Option Addr
 cl : Nat
def Mx.u (x : Mx) : Value := .slice x.pl x.m.l.length x.cl
def mxC (x : Mx) : List Value := [.int .i64 x.m.k, .int .i64 x.m.f, .int .i64 x.m.t, .int .i64 x.m.v, .int .i64 x.m.la, x.u, .int .i64 x.m.c]
def mxE : Enc Mx where
 k := 7
 pos := by decide
 c := mxC
 len := fun _ => rfl
 one := fun x u hu => by
  simp only [mxC, Mx.u, List.mem_cons, List.not_mem_nil, or_false] at hu
  rcases hu with rfl | rfl | rfl | rfl | rfl | rfl | rfl <;> rfl
theorem mxCells {w : World} {g q n cap : Nat} {L : List Mx} (h : Sls mxE w (.slice (some ⟨g, q, none⟩) n cap) L) {j : Nat} (hj : j < L.length) :
  (w.cell? ⟨g, q + j * 7, none⟩ = some (.int .i64 L[j].m.k) ∧ w.cell? ⟨g, q + j * 7 + 1, none⟩ = some (.int .i64 L[j].m.f) ∧ w.cell? ⟨g, q + j * 7 + 2, none⟩ = some (.int .i64 L[j].m.t) ∧ w.cell? ⟨g, q + j * 7 + 3, none⟩ = some (.int .i64 L[j].m.v) ∧ w.cell? ⟨g, q + j * 7 + 4, none⟩ = some (.int .i64 L[j].m.la) ∧ w.cell? ⟨g, q + j * 7 + 5, none⟩ = some L[j].u ∧ w.cell? ⟨g, q + j * 7 + 6, none⟩ = some (.int .i64 L[j].m.c)) := by
 obtain ⟨a, cap', hv, h1, h2, h3⟩ := h
 obtain ⟨g', q', ha, hg, hc⟩ := h3 (by omega)
 cases hv
 cases ha
 have k : ∀ i (hi : i < 7) u, (mxC L[j])[i]? = some u → w.cell? ⟨g, q + j * 7 + i, none⟩ = some u := fun i hi u hu => by
  have := hc (j * 7 + i) u ((cellsE_at mxE L j hj i hi).trans hu)
  rw [← Nat.add_assoc] at this
  exact this
 exact ⟨k 0 (by decide) _ rfl, k 1 (by decide) _ rfl, k 2 (by decide) _ rfl, k 3 (by decide) _ rfl, k 4 (by decide) _ rfl, k 5 (by decide) _ rfl, k 6 (by decide) _ rfl⟩
theorem mxAt {w : World} {a : Option Addr} {n cap : Nat} {L : List Mx} (h : Sls mxE w (.slice a n cap) L) (hl : 0 < L.length) : ∃ g q, a = some ⟨g, q, none⟩ := by
 obtain ⟨a', cap', hv, _, _, h3⟩ := h
 obtain ⟨g, q, ha, _⟩ := h3 hl
 cases hv
 exact ⟨g, q, ha⟩
def msA (m : Ms) (u : Value) : Value := .agg #[.int .i64 m.k, .int .i64 m.f, .int .i64 m.t, .int .i64 m.v, .int .i64 m.la, u, .int .i64 m.c]
def MsGot (w : World) (u : Value) (m : Ms) : Prop := Sls txtE w u m.l
theorem MsGot.kept {w w' : World} {u : Value} {m : Ms} (h : MsGot w u m) (hb : Below w.heap.size w w') : MsGot w' u m := Sls.kept h hb
def TeGot (w : World) (v : Value) (T : List Mx) : Prop := Sls mxE w v T ∧ ∀ x ∈ T, MsGot w x.u x.m
theorem TeGot.kept {w w' : World} {v : Value} {T : List Mx} (h : TeGot w v T) (hb : Below w.heap.size w w') : TeGot w' v T := ⟨h.1.kept hb, fun x hx => (h.2 x hx).kept hb⟩
structure Rv where
 l : Value
 ok : Value
 ch : Value
 te : Value
 T : List Mx
def rpA (r : Rp) (u : Rv) : Value := .agg #[.int .i64 r.id, .int .i64 r.p, .int .i64 r.v, .bool r.n, .int .i64 r.la, u.l, .int .i64 r.c, u.ok, u.ch, u.te]
structure RpGot (w : World) (u : Rv) (r : Rp) : Prop where
 l : Sls txtE w u.l r.l
 ok : Sls intE w u.ok r.ok
 ch : Sls intE w u.ch r.ch
 t : u.T.map (·.m) = r.te
 te : TeGot w u.te u.T
theorem RpGot.kept {w w' : World} {u : Rv} {r : Rp} (h : RpGot w u r) (hb : Below w.heap.size w w') : RpGot w' u r := ⟨h.l.kept hb, h.ok.kept hb, h.ch.kept hb, h.t, h.te.kept hb⟩
theorem RpGot.tlen {w : World} {u : Rv} {r : Rp} (h : RpGot w u r) : u.T.length = r.te.length := by rw [← h.t, List.length_map]
def rv0 : Rv := ⟨.slice none 0 0, .slice none 0 0, .slice none 0 0, .slice none 0 0, []⟩
end Go.Proofs.YtdkhdjickkcaiaaGreat.Rl
namespace Go.Proofs.YtdkhdjickkcaiaaGreat
open Go.RowKit Go.Sort

def mkU (s j : Nat) : Int := (s : Int) + (j : Int)
def markedU (s : Nat) (l : List Int) (k : Nat) : List Int := (List.range k).map (mkU s) ++ l.drop k
def marksU (s n : Nat) : List Int := (List.range n).map (mkU s)
theorem markedU_length (s : Nat) (l : List Int) (k : Nat) (h : k ≤ l.length) : (markedU s l k).length = l.length := by unfold markedU; simp; omega
theorem markedU_zero (s : Nat) (l : List Int) : markedU s l 0 = l := by simp [markedU]
theorem markedU_all (s : Nat) (l : List Int) : markedU s l l.length = marksU s l.length := by simp [markedU, marksU]
theorem markedU_next (s : Nat) (l : List Int) (k : Nat) (h : k < l.length) : (markedU s l k).set k (mkU s k) = markedU s l (k + 1) := by
 unfold markedU
 have e : ((List.range k).map (mkU s)).length = k := by simp
 rw [List.set_append_right _ _ (by omega), e, Nat.sub_self, List.range_succ, List.map_append, List.append_assoc]
 congr 1
 rw [List.drop_eq_getElem_cons h, List.set_cons_zero]
 rfl
theorem marksU_length (s n : Nat) : (marksU s n).length = n := by simp [marksU]
theorem marksU_at (s n j : Nat) (h : j < (marksU s n).length) : (marksU s n)[j] = mkU s j := by simp [marksU]
def szU (left : Int) (l : List Int) : Int := if (l.length : Int) ≤ left then left - (l.length : Int) else -1
theorem szNu (v : Value) (l : List Int) (left : Int) (h0 : 0 ≤ left) (h1 : left ≤ 1048576) (w : World) (h : Sls intE w v l) :
  Calls Tryz.prog 81 #[v, .int .i64 left] w fun e w' => e = .returned (.int .i64 (szU left l)) ∧ w = w' := by
 obtain ⟨a, cap, rfl, _, h2, _⟩ := h.one
 unfold maxLen at h2
 have ew : IntKind.i64.wrap (left - (l.length : Int)) = left - (l.length : Int) := by rw [IntKind.wrap_i64]; omega
 clear h
 by_cases hf : (l.length : Int) ≤ left
 ·
  have HE : Hid (left - (l.length : Int) = szU left l) := by show _ = _; unfold szU; rw [if_pos hf]
  have hn : ¬ (left - (l.length : Int) < 0) := by omega
  go_enter Tryz.func81, Tryz.ntmps81
  go_wp2
  go_ret
  exact ⟨congrArg (fun z => Ending.returned (.int .i64 z)) HE.out, rfl⟩
 ·
  have HE : Hid (-1 = szU left l) := by show _ = _; unfold szU; rw [if_neg hf]
  have hn : left - (l.length : Int) < 0 := by omega
  go_enter Tryz.func81, Tryz.ntmps81
  go_wp2
  go_ret
  exact ⟨congrArg (fun z => Ending.returned (.int .i64 z)) HE.out, rfl⟩
theorem markNu (s : Nat) (hs2 : s ≤ 50000000) (v : Value) (l : List Int) (B : Nat) (w : World) (h : HasN w B v l) (hl : l.length ≤ 1048576) :
  Calls Tryz.prog 89 #[v, .int .i64 (s : Int)] w fun e w' => e = .returned (.int .i64 ((s : Int) + (l.length : Int))) ∧ HasN w' B v (marksU s l.length) ∧ w.grownBy w' v.ownBlock := by
 have hh := h
 obtain ⟨a, cap, rfl, h1, h2, h3⟩ := hh.form
 unfold maxLen at h2
 go_enter Tryz.func89, Tryz.ntmps89
 go_wp2
 go_loopw [1, 5] (fun m i wr => ∃ k : Nat, k ≤ l.length ∧ i = .int .i64 k ∧ m = .int .i64 ((s : Int) + (k : Int)) ∧ HasN wr B (.slice a l.length cap) (markedU s l k) ∧ w.grownBy wr (Value.slice a l.length cap).ownBlock) (fun _ i _ => l.length - (intOf i).toNat)
 case atStart => exact ⟨0, Nat.zero_le _, rfl, by simp, by rw [markedU_zero]; exact h, grownE_self _ _⟩
 case round =>
  clear h hh
  obtain ⟨k, hk, rfl, rfl, ho, hgr⟩ := hrel
  by_cases hlt : k < l.length
  ·
   obtain ⟨g, rfl⟩ := h3 (by omega)
   have hml := markedU_length s l k hk
   have hnx := markedU_next s l k hlt
   generalize hl2 : markedU s l (k + 1) = l2 at hnx
   generalize markedU s l k = l1 at ho hml hnx
   have d1 := hasN_at ho k (by omega)
   have f1 := ho.free k
   have ho2 := hasN_put ho (j := k) (by omega) (mkU s k)
   have hg2 := grownE_put hgr k (.int .i64 (mkU s k))
   rw [hnx] at ho2
   unfold mkU at ho2 hg2
   have HO : Hid _ := ho2
   have HG : Hid _ := hg2
   clear ho hgr h3 ho2 hg2
   go_wp2
   go_roundw
   case rel => exact ⟨k + 1, by omega, by go_num, by go_num, by rw [hl2]; exact HO.out, HG.out⟩
   case measure => simp [intOf]; omega
  ·
   obtain rfl : k = l.length := by omega
   rw [markedU_all] at ho
   go_wp2
   go_ret
   exact ⟨rfl, ho, hgr⟩
theorem heldNu (s : Nat) (hs2 : s ≤ 50000000) (v : Value) (n : Nat) (w : World) (h : Sls intE w v (marksU s n)) (hl : n ≤ 1048576) :
  Calls Tryz.prog 91 #[v, .int .i64 (s : Int)] w fun e w' => e = .returned (.int .i64 ((s : Int) + (n : Int))) ∧ w = w' := by
 have hml := marksU_length s n
 obtain ⟨a, cap, rfl, h1, h2, h3⟩ := h.one
 unfold maxLen at h2
 rw [hml] at h1 ⊢
 have hat : ∀ (j : Nat) (hj : j < n), ∃ g o, a = some ⟨g, o, Option.none⟩ ∧ w.cell? ⟨g, o + j, Option.none⟩ = some (.int .i64 ((s : Int) + (j : Int))) := fun j hj => by
  obtain ⟨g, o, ha, _, hc⟩ := h3 (by omega)
  have := hc j (by omega)
  rw [marksU_at] at this
  exact ⟨g, o, ha, this⟩
 clear h h3 hml
 go_enter Tryz.func91, Tryz.ntmps91
 go_wp2
 go_loop [1, 5] (fun m i => ∃ k : Nat, k ≤ n ∧ i = .int .i64 k ∧ m = .int .i64 ((s : Int) + (k : Int))) (fun _ i => n - (intOf i).toNat)
 case atStart => exact ⟨0, Nat.zero_le _, rfl, by simp⟩
 case round =>
  obtain ⟨k, hk, rfl, rfl⟩ := hrel
  by_cases hlt : k < n
  ·
   obtain ⟨g, o, rfl, c1⟩ := hat k hlt
   clear hat
   go_wp2
   go_round
   case rel => exact ⟨k + 1, by omega, by go_num, by go_num⟩
   case measure => simp [intOf]; omega
  ·
   obtain rfl : k = n := by omega
   go_wp2
   go_ret
   exact ⟨rfl, rfl⟩
open Go.RowKit

def Bx (W : World) (b : Nat) (ty : TypeId) (vs : Array Value) : Prop := W.heap[b]? = some (.cells vs ty (0, 0))
theorem Bx.new (W : World) (ty : TypeId) (vs : Array Value) : Bx (W.alloc (.cells vs ty)) W.heap.size ty vs := by
 show (W.heap.push _)[W.heap.size]? = _
 simp
theorem Bx.cell {W : World} {b : Nat} {ty : TypeId} {vs : Array Value} (h : Bx W b ty vs) (i : Nat) : W.cell? ⟨b, i, none⟩ = vs[i]? := by
 have h : W.heap[b]? = some (.cells vs ty (0, 0)) := h
 simp [World.cell?, h]
theorem Bx.free {W : World} {b : Nat} {ty : TypeId} {vs : Array Value} (h : Bx W b ty vs) (i : Nat) : W.frozen? ⟨b, i, none⟩ = false := by
 have h : W.heap[b]? = some (.cells vs ty (0, 0)) := h
 simp [World.frozen?, h]
theorem Bx.lt {W : World} {b : Nat} {ty : TypeId} {vs : Array Value} (h : Bx W b ty vs) : b < W.heap.size := (Array.getElem?_eq_some_iff.1 h).1
theorem Bx.low {W W' : World} {b B : Nat} {ty : TypeId} {vs : Array Value} (h : Bx W b ty vs) (hb : Below B W W') (hB : b < B) : Bx W' b ty vs := (hb.block b hB).trans h
theorem Bx.kept {W W' : World} {b : Nat} {ty : TypeId} {vs : Array Value} (h : Bx W b ty vs) (hb : Below W.heap.size W W') : Bx W' b ty vs := h.low hb h.lt
theorem Bx.grown {W W' : World} {b : Nat} {ty : TypeId} {vs : Array Value} {r : Option Nat} (h : Bx W b ty vs) (hg : W.grownBy W' r) (hr : r ≠ some b) : Bx W' b ty vs := (hg.block b h.lt fun e => hr e.symm).trans h
theorem Bx.put {W : World} {b : Nat} {ty : TypeId} {vs : Array Value} (h : Bx W b ty vs) (i : Nat) (v : Value) : Bx (W.setCell ⟨b, i, none⟩ v) b ty (vs.setIfInBounds i v) := heap_setCell_same W b i _ _ v h
theorem Bx.other {W : World} {b g : Nat} {ty : TypeId} {vs : Array Value} (h : Bx W b ty vs) (i : Nat) (v : Value) (hne : b ≠ g) : Bx (W.setCell ⟨g, i, none⟩ v) b ty vs := (Below.heap_setCell _ _ _ _ hne).trans h
theorem Bx.alloc {W : World} {b : Nat} {ty : TypeId} {vs : Array Value} (h : Bx W b ty vs) (o : Obj) : Bx (W.alloc o) b ty vs := h.kept ((Below.refl _ W).alloc (Nat.le_refl _) _)
open Go.RowKit

structure Chg (lo hi : Nat) (W W' : World) : Prop where
 os : W'.os = W.os
 tape : W'.tape = W.tape
 output : W'.output = W.output
 size : W.heap.size ≤ W'.heap.size
 block : ∀ k, k < W.heap.size → ¬ (lo ≤ k ∧ k < hi) → W'.heap[k]? = W.heap[k]?
theorem Chg.below {lo hi B : Nat} {w W W' : World} (h : Chg lo hi W W') (hb : Below B w W) (h1 : B ≤ W.heap.size) (h2 : B ≤ lo) : Below B w W' :=
 ⟨h.os.trans hb.os, h.tape.trans hb.tape, h.output.trans hb.output, Nat.le_trans hb.size h.size, fun k hk => (h.block k (by omega) (by omega)).trans (hb.block k hk)⟩
structure Liv (lo hi : Nat) (F : World → Prop) (W : World) : Prop where
 now : F W
 top : hi ≤ W.heap.size
 mov : ∀ W', (∀ k, lo ≤ k → k < hi → W'.heap[k]? = W.heap[k]?) → W.heap.size ≤ W'.heap.size → F W'
theorem Liv.kept {lo hi : Nat} {F : World → Prop} {W W' : World} (h : Liv lo hi F W) (hb : Below W.heap.size W W') : Liv lo hi F W' := by
 have e : ∀ k, lo ≤ k → k < hi → W'.heap[k]? = W.heap[k]? := fun k _ hk => hb.block k (Nat.lt_of_lt_of_le hk h.top)
 exact ⟨h.mov W' e hb.size, Nat.le_trans h.top hb.size, fun V hV hz => h.mov V (fun k h1 h2 => (hV k h1 h2).trans (e k h1 h2)) (Nat.le_trans hb.size hz)⟩
theorem Liv.off {lo hi a b : Nat} {F : World → Prop} {W W' : World} (h : Liv lo hi F W) (hc : Chg a b W W') (hd : hi ≤ a ∨ b ≤ lo) : Liv lo hi F W' := by
 have e : ∀ k, lo ≤ k → k < hi → W'.heap[k]? = W.heap[k]? := fun k h1 h2 => hc.block k (Nat.lt_of_lt_of_le h2 h.top) (by omega)
 exact ⟨h.mov W' e hc.size, Nat.le_trans h.top hc.size, fun V hV hz => h.mov V (fun k h1 h2 => (hV k h1 h2).trans (e k h1 h2)) (Nat.le_trans hc.size hz)⟩
theorem Liv.turn {lo hi : Nat} {F G : World → Prop} {W : World} (h : Liv lo hi F W) (hg : ∀ V, F V → G V) : Liv lo hi G W := ⟨hg _ h.now, h.top, fun V h1 h2 => hg V (h.mov V h1 h2)⟩
theorem Liv.box {W : World} {b : Nat} {ty : TypeId} {vs : Array Value} (h : Bx W b ty vs) : Liv b (b + 1) (fun V => Bx V b ty vs) W :=
 ⟨h, h.lt, fun V hV _ => (hV b (Nat.le_refl _) (Nat.lt_succ_self _)).trans h⟩
theorem HasE.off {α : Type} {E : Enc α} {ty : TypeId} {w w' : World} {B : Nat} {v : Value} {l : List α} (h : HasE E ty w B v l) (hk : ∀ k, v.ownBlock = some k → w'.heap[k]? = w.heap[k]?) : HasE E ty w' B v l := by
 rcases h with h0 | ⟨g, cap, cur, hv, hbg, hh, rest⟩
 ·
  exact .inl h0
 ·
  exact .inr ⟨g, cap, cur, hv, hbg, by rw [hk g (by rw [hv]; rfl)]; exact hh, rest⟩
end Go.Proofs.YtdkhdjickkcaiaaGreat
namespace Go.Proofs.YtdkhdjickkcaiaaGreat.Rl
open Go.RowKit Go.Sort

def Sm (l : List ByteArray) : Prop := l.length ≤ 1048576 ∧ ∀ x ∈ l, x.size ≤ 1048576
structure Fit (r : Rp) : Prop where
 l : Sm r.l
 ok : r.ok.length ≤ 1048576
 ch : r.ch.length ≤ 1048576
 te : r.te.length ≤ 1048576 ∧ ∀ m ∈ r.te, Sm m.l
def Mea (left : Int) (n : Nat) (F : Prop) (e : Ending) : Prop := ∃ z : Int, e = .returned (.int .i64 z) ∧ z ≤ left ∧ (z < 0 → z = -1) ∧ (0 ≤ z → F ∧ (n : Int) + z ≤ left)
def cL (T : List Mx) : Nat := (T.map fun x => x.m.l.length).sum
theorem cL_next {T : List Mx} {k : Nat} (h : k < T.length) : cL (T.take (k + 1)) = cL (T.take k) + T[k].m.l.length := by
 unfold cL
 rw [List.take_succ_eq_append_getElem h, List.map_append, List.sum_append]
 simp
theorem szTx (v : Value) (l : List ByteArray) (left : Int) (h0 : 0 ≤ left) (h1 : left ≤ 1048576) (w : World) (h : Sls txtE w v l) (hz : ∀ p ∈ l, p.size ≤ maxLen) (hn : l.length ≤ maxLen) :
  Calls Tryz.prog 80 #[v, .int .i64 left] w fun e w' => Mea left l.length (Sm l) e ∧ Below w.heap.size w w' := by
 obtain ⟨a, cap, rfl, h3, h4, h5⟩ := h.txt
 have HC : Hid (0 < l.length → ∃ g o, a = some ⟨g, o, Option.none⟩ ∧ g < w.heap.size ∧ ∀ j (hj : j < l.length), w.cell? ⟨g, o + j, Option.none⟩ = some (.string l[j])) := h5
 have HZ : Hid (∀ p ∈ l, p.size ≤ maxLen) := hz
 unfold maxLen at h4 hn
 have ew : IntKind.i64.wrap (left - (l.length : Int)) = left - (l.length : Int) := by rw [IntKind.wrap_i64]; omega
 clear h h5 hz
 by_cases hlen : left < (l.length : Int)
 ·
  have hneg : left - (l.length : Int) < 0 := by omega
  go_enter Tryz.func80, Tryz.ntmps80
  go_wp2
  go_ret
  exact ⟨⟨_, rfl, by omega, fun _ => rfl, fun h => by omega⟩, Below.refl _ _⟩
 have hpos : ¬ left - (l.length : Int) < 0 := by omega
 go_enter Tryz.func80, Tryz.ntmps80
 go_wp2_with fail
 go_loopw [1, 5] (fun r i wr => ∃ (k : Nat) (y : Int), k ≤ l.length ∧ i = .int .i64 k ∧ r = .int .i64 y ∧ 0 ≤ y ∧ y ≤ left - (l.length : Int) ∧ Hid (∀ x ∈ l.take k, x.size ≤ 1048576) ∧ Hid (Below w.heap.size w wr)) (fun _ i _ => l.length - (intOf i).toNat)
 case atStart => exact ⟨0, left - (l.length : Int), Nat.zero_le _, rfl, rfl, by omega, by omega, (fun x hx => by cases hx), Below.refl _ _⟩
 case round =>
  obtain ⟨k, y, hk, rfl, rfl, hy0, hy1, hsm, hb⟩ := hrel
  by_cases hlt : k < l.length
  ·
   obtain ⟨g, o, rfl, hg, hc⟩ := HC.out (by omega)
   have c1 := (hb.out.cell (p := ⟨g, o + k, none⟩) hg).trans (hc k hlt)
   have hzk := HZ.out l[k] (List.getElem_mem hlt)
   have HT : Hid (∀ x ∈ l.take (k + 1), x ∈ l.take k ∨ x = l[k]) := fun x hx => by
    rw [← List.take_append_getElem hlt] at hx
    rcases List.mem_append.1 hx with h | h
    ·
     exact .inl h
    ·
     exact .inr (List.mem_singleton.1 h)
   have hki : (k : Int) < (l.length : Int) := by omega
   unfold maxLen at hzk
   generalize l[k] = x at c1 hzk HT
   have ey : IntKind.i64.wrap (y - (x.size : Int)) = y - (x.size : Int) := by rw [IntKind.wrap_i64]; omega
   clear hc
   by_cases hs : y < (x.size : Int)
   ·
    have hq : y - (x.size : Int) < 0 := by omega
    go_wp2
    go_ret
    exact ⟨⟨_, rfl, by omega, fun _ => rfl, fun h => by omega⟩, hb.out⟩
   ·
    have hq : ¬ y - (x.size : Int) < 0 := by omega
    have HS : Hid (∀ t ∈ l.take (k + 1), t.size ≤ 1048576) := fun t ht => by
     rcases HT.out t ht with h | h
     ·
      exact hsm.out t h
     ·
      rw [h]; omega
    clear hsm HT
    go_wp2
    go_roundw
    case rel => exact ⟨k + 1, y - (x.size : Int), by omega, by go_num, rfl, by omega, by omega, HS, hb⟩
    case measure => simp [intOf]; omega
  ·
   have HS : Hid (Sm l) := ⟨by omega, fun t ht => hsm.out t (by rw [List.take_of_length_le (by omega)]; exact ht)⟩
   go_wp2
   go_ret
   exact ⟨⟨y, rfl, by omega, fun h => by omega, fun _ => ⟨HS.out, by omega⟩⟩, hb.out⟩
theorem szMs (m : Ms) (u : Value) (left : Int) (h0 : 0 ≤ left) (h1 : left ≤ 1048576) (w : World) (h : Sls txtE w u m.l) (hz : ∀ p ∈ m.l, p.size ≤ maxLen) (hn : m.l.length ≤ maxLen) :
  Calls Tryz.prog 30 #[msA m u, .int .i64 left] w fun e w' => Mea left m.l.length (Sm m.l) e ∧ Below w.heap.size w w' := by
 have j1 := fun W hW => szTx u m.l left h0 h1 W hW hz hn
 have HH : Hid (Sls txtE w u m.l) := h
 obtain ⟨a, cap, rfl, _⟩ := h
 unfold msA
 go_enter Tryz.func30, Tryz.ntmps30
 go_wp2_with fail
 refine (j1 _ (HH.out.kept (by repeat (first | exact Below.refl _ _ | refine Below.alloc ?_ (by simp <;> omega) _)))).mono ?_
 rintro e w1 ⟨⟨z, rfl, z1, z2, z3⟩, hb⟩
 have B1 : Hid (Below w.heap.size w w1) := (((Below.refl _ w).alloc (Nat.le_refl _) _).trans (hb.mono (by simp)))
 have Z3 : Hid (0 ≤ z → Sm m.l ∧ (m.l.length : Int) + z ≤ left) := z3
 clear hb z3
 by_cases hneg : z < 0
 ·
  go_wp2
  go_ret
  exact ⟨⟨_, rfl, by omega, fun _ => rfl, fun h => by omega⟩, B1.out⟩
 ·
  go_wp2
  go_ret
  exact ⟨⟨z, rfl, z1, z2, Z3.out⟩, B1.out⟩
theorem szMsS (v : Value) (L : List Mx) (left : Int) (h0 : 0 ≤ left) (h1 : left ≤ 1048576) (w : World) (h : TeGot w v L) (hz : ∀ x ∈ L, x.m.l.length ≤ maxLen ∧ ∀ p ∈ x.m.l, p.size ≤ maxLen) (hn : L.length ≤ maxLen) :
  Calls Tryz.prog 82 #[v, .int .i64 left] w fun e w' => Mea left (L.length + cL L) (L.length ≤ 1048576 ∧ ∀ x ∈ L, Sm x.m.l) e ∧ Below w.heap.size w w' := by
 have HL : Hid (TeGot w v L) := h
 obtain ⟨⟨a, cap, rfl, _⟩, _⟩ := id h
 have HZ : Hid (∀ x ∈ L, x.m.l.length ≤ maxLen ∧ ∀ p ∈ x.m.l, p.size ≤ maxLen) := hz
 unfold maxLen at hn
 have ew : IntKind.i64.wrap (left - (L.length : Int)) = left - (L.length : Int) := by rw [IntKind.wrap_i64]; omega
 clear h hz
 by_cases hlen : left < (L.length : Int)
 ·
  have hneg : left - (L.length : Int) < 0 := by omega
  go_enter Tryz.func82, Tryz.ntmps82
  go_wp2
  go_ret
  exact ⟨⟨_, rfl, by omega, fun _ => rfl, fun h => by omega⟩, Below.refl _ _⟩
 have hpos : ¬ left - (L.length : Int) < 0 := by omega
 go_enter Tryz.func82, Tryz.ntmps82
 go_wp2_with fail
 go_loopw [1, 5] (fun r i wr => ∃ (k : Nat) (y : Int), k ≤ L.length ∧ i = .int .i64 k ∧ r = .int .i64 y ∧ 0 ≤ y ∧ y ≤ left - (L.length : Int) - (cL (L.take k) : Int) ∧ Hid (∀ x ∈ L.take k, Sm x.m.l) ∧ Hid (Below w.heap.size w wr)) (fun _ i _ => L.length - (intOf i).toNat)
 case atStart => exact ⟨0, left - (L.length : Int), Nat.zero_le _, rfl, rfl, by omega, by simp [cL], (fun x hx => by cases hx), Below.refl _ _⟩
 case round =>
  obtain ⟨k, y, hk, rfl, rfl, hy0, hy1, hsm, hb⟩ := hrel
  by_cases hlt : k < L.length
  ·
   have HL2 := HL.out.kept hb.out
   obtain ⟨g, q, rfl⟩ := mxAt HL2.1 (by omega)
   have CK := mxCells HL2.1 hlt
   have hob := HL2.2 L[k] (List.getElem_mem hlt)
   have hzk := HZ.out L[k] (List.getElem_mem hlt)
   have hsz := szMs L[k].m L[k].u y hy0 (by omega) wr hob hzk.2 hzk.1
   have HT : Hid (∀ x ∈ L.take (k + 1), x ∈ L.take k ∨ x = L[k]) := fun x hx => by
    rw [← List.take_append_getElem hlt] at hx
    rcases List.mem_append.1 hx with h | h
    ·
     exact .inl h
    ·
     exact .inr (List.mem_singleton.1 h)
   have HCN : Hid ((cL (L.take (k + 1)) : Int) = (cL (L.take k) : Int) + (L[k].m.l.length : Int)) := by show _ = _; rw [cL_next hlt]; omega
   unfold msA at hsz
   unfold Mx.u at CK hsz
   have hki : (k : Int) < (L.length : Int) := by omega
   generalize L[k] = x at CK hsz HT HCN
   obtain ⟨c0, c1, c2, c3, c4, c5, c6⟩ := CK
   clear HL2 hob hzk
   go_wp2_with fail
   refine hsz.mono ?_
   rintro e w2 ⟨⟨z, rfl, z1, z2, z3⟩, hb2⟩
   have B2 := hH_ (hb.out.trans (hb2.mono hb.out.size))
   have Z3 : Hid (0 ≤ z → Sm x.m.l ∧ (x.m.l.length : Int) + z ≤ y) := z3
   clear hb2 hb c0 c1 c2 c3 c4 c5 c6 hsz z3
   by_cases hneg : z < 0
   ·
    go_wp2
    go_ret
    exact ⟨⟨_, rfl, by omega, fun _ => rfl, fun h => by omega⟩, B2.out⟩
   ·
    have HS : Hid (∀ t ∈ L.take (k + 1), Sm t.m.l) := fun t ht => by
     rcases HT.out t ht with h | h
     ·
      exact hsm.out t h
     ·
      rw [h]; exact (Z3.out (by omega)).1
    have hcn : (cL (L.take (k + 1)) : Int) = (cL (L.take k) : Int) + (x.m.l.length : Int) := HCN.out
    have hzl := (Z3.out (by omega)).2
    clear HT hsm
    go_wp2_with fail
    go_roundw
    case rel => exact ⟨k + 1, z, by omega, by go_num, rfl, by omega, by omega, HS, B2⟩
    case measure => simp [intOf]; omega
  ·
   have hcl : L.take k = L := List.take_of_length_le (by omega)
   rw [hcl] at hy1
   have HS : Hid (L.length ≤ 1048576 ∧ ∀ x ∈ L, Sm x.m.l) := ⟨by omega, fun t ht => hsm.out t (by rw [List.take_of_length_le (by omega)]; exact ht)⟩
   go_wp2
   go_ret
   exact ⟨⟨y, rfl, by omega, fun h => by omega, fun _ => ⟨HS.out, by omega⟩⟩, hb.out⟩
open Go.RowKit Go.Sort

def ap (v v' : Value) : Prop := ∀ k, v.ownBlock = some k → v'.ownBlock ≠ some k
theorem _root_.Go.Proofs.YtdkhdjickkcaiaaGreat.Bx.at {W : World} {b : Nat} (ty : TypeId) (vs : Array Value) (o : W.heap.size = b) : Bx (W.alloc (.cells vs ty)) b ty vs := o ▸ Bx.new W ty vs
def SameH (L M : List Mx) : Prop := M.map (·.m) = L.map (·.m)
theorem SameH.len {L M : List Mx} (h : SameH L M) : M.length = L.length := by have := congrArg List.length h; simpa using this
def setsM : List Value → List Value → Nat → List Value
 | l, [], _ => l
 | l, v :: vs, i => setsM (l.set i v) vs (i + 1)
theorem putM_heap {g : Nat} {T : TypeId} : ∀ (vs : List Value) (i : Nat) (x : World) (c : Array Value), x.heap[g]? = some (Obj.cells c T (0, 0)) → ∃ c' : Array Value, (putL x g vs i).heap[g]? = some (Obj.cells c' T (0, 0)) ∧ c'.toList = setsM c.toList vs i ∧ c'.size = c.size
 | [], _, x, c, h => ⟨c, h, rfl, rfl⟩
 | v :: vs, i, x, c, h => by
  obtain ⟨c', h1, h2, h3⟩ := putM_heap vs (i + 1) _ _ (heap_setCell_same x g i c T v h)
  refine ⟨c', h1, ?_, by rw [h3]; simp⟩
  rw [h2]
  show setsM (c.setIfInBounds i v).toList vs (i + 1) = setsM (c.toList.set i v) vs (i + 1)
  rw [Array.toList_setIfInBounds]
theorem setsM_mid : ∀ (vs pre mid post : List Value), mid.length = vs.length → setsM (pre ++ mid ++ post) vs pre.length = pre ++ vs ++ post
 | [], pre, mid, post, h => by
  have : mid = [] := List.eq_nil_of_length_eq_zero h
  subst this
  rfl
 | v :: vs, pre, [], post, h => by simp at h
 | v :: vs, pre, m :: mid, post, h => by
  have e : (pre ++ m :: mid ++ post).set pre.length v = (pre ++ [v]) ++ mid ++ post := by simp
  have e2 := setsM_mid vs (pre ++ [v]) mid post (by simpa using h)
  rw [List.length_append] at e2
  show setsM ((pre ++ m :: mid ++ post).set pre.length v) vs (pre.length + 1) = _
  rw [e]
  have e3 : pre.length + [v].length = pre.length + 1 := rfl
  rw [e3] at e2
  rw [e2]
  simp
theorem HasM.puts {α : Type} {E : Enc α} {ty : TypeId} {w : World} {B g n cap : Nat} {l : List α} (h : HasE E ty w B (.slice (some ⟨g, 0, Option.none⟩) n cap) l) {j : Nat} (hj : j < l.length) (y : α) : HasE E ty (putL w g (E.c y) (j * E.k)) B (.slice (some ⟨g, 0, Option.none⟩) n cap) (l.set j y) := by
 rcases h with ⟨h0, _⟩ | ⟨g', cap', cur, hv, hB, hg, h1, h2, h3, h4⟩
 ·
  cases h0
 ·
  cases hv
  obtain ⟨c', k1, k2, k3⟩ := putM_heap (E.c y) (j * E.k) w cur hg
  refine .inr ⟨g, cap, c', by rw [List.length_set], hB, k1, by rw [List.length_set]; exact h1, h2, by rw [k3]; exact h3, ?_⟩
  rw [List.length_set, k2]
  have hsplit : cur.toList = cellsE E l ++ cur.toList.drop (l.length * E.k) := by rw [← h4, List.take_append_drop]
  have hl : l = l.take j ++ [l[j]] ++ l.drop (j + 1) := by simp
  have hc : cellsE E l = cellsE E (l.take j) ++ E.c l[j] ++ cellsE E (l.drop (j + 1)) := by
   conv => lhs; rw [hl]
   rw [cellsE_append, cellsE_append, cellsE_single]
  have hpl : (cellsE E (l.take j)).length = j * E.k := by rw [cellsE_length, List.length_take]; congr 1; omega
  have hs : l.set j y = l.take j ++ [y] ++ l.drop (j + 1) := by rw [List.set_eq_take_append_cons_drop, if_pos hj]; simp
  rw [hsplit, hc, List.append_assoc, ← hpl, setsM_mid _ _ _ _ (by rw [E.len, E.len]), hs, cellsE_append, cellsE_append, cellsE_single]
  rw [← List.append_assoc]
  refine List.take_left' ?_
  have hlen := cellsE_length E l
  rw [hc] at hlen
  simp only [List.length_append, E.len] at hlen ⊢
  exact hlen
theorem toMs (m : Ms) (u : Value) (w : World) (h : Sls txtE w u m.l) (hl : m.l.length ≤ 1048576) :
  Calls Tryz.prog 32 #[msA m u] w fun e w' => ∃ u', e = .returned (msA m u') ∧ OwnsX w' w.heap.size u' m.l ∧ Below w.heap.size w w' := by
 have HH : Hid (Sls txtE w u m.l) := h
 have j1 := fun W hW => toTxt u m.l W hW hl
 obtain ⟨a, ca, rfl, _⟩ := h
 unfold msA
 obtain ⟨k, f, t, v, la, l, c⟩ := m
 simp only at j1 HH ⊢
 go_enter Tryz.func32, Tryz.ntmps32
 go_wp2_with fail
 refine (j1 _ (HH.out.kept (by repeat (first | exact Below.refl _ _ | refine Below.alloc ?_ (by simp <;> omega) _ | refine Below.setCell ?_ (by simp <;> omega) _)))).mono ?_
 rintro e w1 ⟨u', rfl, ho, hb⟩
 obtain ⟨a', c', rfl, _⟩ := ho.form
 simp [go_sem] at hb ho
 have BZ : Bx w1 (w.heap.size + 1 + 1) 30 #[.int .i64 k, .int .i64 f, .int .i64 t, .int .i64 v, .int .i64 la, .slice none 0 0, .int .i64 0] := Bx.low (Bx.at _ _ (by simp)) hb (by omega)
 have BY : Bx w1 (w.heap.size + 1) 30 #[.int .i64 0, .int .i64 0, .int .i64 0, .int .i64 0, .int .i64 0, .slice none 0 0, .int .i64 0] := Bx.low ((Bx.at _ _ (by simp)).alloc _) hb (by omega)
 have BX : Bx w1 w.heap.size 54 #[.int .i64 k, .int .i64 f, .int .i64 t, .int .i64 v, .int .i64 la, .slice a l.length ca, .int .i64 c] := Bx.low (((Bx.at _ _ rfl).alloc _).alloc _) hb (by omega)
 have BB : Hid (Below w.heap.size w w1) := ((((Below.refl _ w).alloc (Nat.le_refl _) _).alloc (by simp) _).alloc (by simp <;> omega) _).trans (hb.mono (by omega))
 have HO : Hid (OwnsX w1 (w.heap.size + 3) (.slice a' l.length c') l) := ho
 have sz : w.heap.size + 3 ≤ w1.heap.size := by have := hb.size; simp at this; omega
 have x6 := BX.cell 6
 have z0 := BZ.cell 0
 have zf0 := BZ.free 0
 have z1 := BZ.cell 1
 have zf1 := BZ.free 1
 have z2 := BZ.cell 2
 have zf2 := BZ.free 2
 have z3 := BZ.cell 3
 have zf3 := BZ.free 3
 have z4 := BZ.cell 4
 have zf4 := BZ.free 4
 have z5 := BZ.cell 5
 have zf5 := BZ.free 5
 have z6 := BZ.cell 6
 have zf6 := BZ.free 6
 have y0 := BY.cell 0
 have yf0 := BY.free 0
 have y1 := BY.cell 1
 have yf1 := BY.free 1
 have y2 := BY.cell 2
 have yf2 := BY.free 2
 have y3 := BY.cell 3
 have yf3 := BY.free 3
 have y4 := BY.cell 4
 have yf4 := BY.free 4
 have y5 := BY.cell 5
 have yf5 := BY.free 5
 have y6 := BY.cell 6
 have yf6 := BY.free 6
 clear BX BY BZ hb ho
 have hk : Hid (∀ k, (Value.slice a' l.length c').ownBlock = some k → w.heap.size + 3 ≤ k) := HO.out.from
 go_wp2
 refine bodyPost_ret (v := .agg #[.int .i64 k, .int .i64 f, .int .i64 t, .int .i64 v, .int .i64 la, .slice a' l.length c', .int .i64 c]) (by simp [results, Tryz.results32, go_sem, y0, y1, y2, y3, y4, y5, y6]) rfl ⟨_, rfl, ?_, ?_⟩
 ·
  refine OwnsE.low (B := w.heap.size + 3) ?_ (by omega)
  repeat (refine OwnsE.other ?_ _ _ (fun k h => by have := hk.out k h; simp <;> omega))
  exact HO.out
 ·
  repeat (refine Below.setCell ?_ (by simp <;> omega) _)
  exact BB.out
def mxZ : Mx := ⟨⟨0, 0, 0, 0, 0, [], 0⟩, none, 0⟩
theorem Tryz.infoMSV : (Tryz.prog.info? 30).map (fun i => (i.zero, i.size, i.bytes)) = some (some (.agg #[.int .i64 0, .int .i64 0, .int .i64 0, .int .i64 0, .int .i64 0, .slice none 0 0, .int .i64 0]), 7, 72) := by kernel_rfl
theorem madeMx (n : Nat) : (madeCells (Value.cells (.agg #[.int .i64 0, .int .i64 0, .int .i64 0, .int .i64 0, .int .i64 0, .slice none 0 0, .int .i64 0])) (n * 7)).toList = cellsE mxE (List.replicate n mxZ) := by
 apply List.ext_getElem?
 intro j
 by_cases hj : j < n * 7
 ·
  have e : (cellsE mxE (List.replicate n mxZ))[j]? = (mxC mxZ)[j % 7]? := by
   have := cellsE_at mxE (List.replicate n mxZ) (j / 7) (by simp; omega) (j % 7) (Nat.mod_lt _ (by decide))
   rw [List.getElem_replicate, show j / 7 * mxE.k + j % 7 = j from by show j / 7 * 7 + j % 7 = j; omega] at this
   exact this
  rw [e]
  have hm : j % 7 = 0 ∨ j % 7 = 1 ∨ j % 7 = 2 ∨ j % 7 = 3 ∨ j % 7 = 4 ∨ j % 7 = 5 ∨ j % 7 = 6 := by omega
  rcases hm with h2 | h2 | h2 | h2 | h2 | h2 | h2 <;> simp [madeCells, hj, Value.cells, h2, mxC, mxZ, Mx.u]
 ·
  rw [List.getElem?_eq_none (by simp [madeCells]; omega), List.getElem?_eq_none (by rw [cellsE_length]; show _ ≤ j; simp; show n * 7 ≤ j; omega)]
abbrev HasM := HasE mxE 30
abbrev OwnsM := OwnsE mxE 30
theorem turnM_next (M : List Mx) (n : Nat) (y : Mx) (h : M.length < n) : (M ++ List.replicate (n - M.length) mxZ).set M.length y = (M ++ [y]) ++ List.replicate (n - (M.length + 1)) mxZ := by
 rw [List.set_append_right _ _ (Nat.le_refl _), Nat.sub_self, List.append_assoc]
 congr 1
 rw [show n - M.length = (n - (M.length + 1)) + 1 from by omega, List.replicate_succ, List.set_cons_zero]
 rfl
structure Logs (w : World) (B : Nat) (T : List Mx) : Prop where
 l : ∀ x ∈ T, HasX w B x.u x.m.l
 ap : (T.map Mx.u).Pairwise ap
theorem Logs.kept {w w' : World} {B : Nat} {T : List Mx} (h : Logs w B T) (hb : Below w.heap.size w w') : Logs w' B T := ⟨fun x hx => (h.l x hx).kept hb, h.ap⟩
theorem Logs.low {w : World} {B B' : Nat} {T : List Mx} (h : Logs w B T) (hB : B' ≤ B) : Logs w B' T := ⟨fun x hx => (h.l x hx).low hB, h.ap⟩
theorem Logs.nil (w : World) (B : Nat) : Logs w B [] := ⟨fun x hx => (by cases hx), List.Pairwise.nil⟩
theorem Logs.under {w : World} {B : Nat} {T : List Mx} (h : Logs w B T) : ∀ x ∈ T, ∀ k, x.u.ownBlock = some k → k < w.heap.size := fun x hx => (h.l x hx).under
theorem Logs.snoc {w : World} {B : Nat} {T : List Mx} (h : Logs w B T) {y : Mx} {C : Nat} (hy : HasX w B y.u y.m.l) (h1 : ∀ x ∈ T, ∀ k, x.u.ownBlock = some k → k < C) (h2 : ∀ k, y.u.ownBlock = some k → C ≤ k) : Logs w B (T ++ [y]) where
 l := fun x hx => by
  rcases List.mem_append.1 hx with hx | hx
  ·
   exact h.l x hx
  ·
   obtain rfl := List.mem_singleton.1 hx; exact hy
 ap := by
  rw [List.map_append, List.pairwise_append]
  refine ⟨h.ap, List.pairwise_singleton _ _, fun a ha b hb => ?_⟩
  obtain ⟨x, hx, rfl⟩ := List.mem_map.1 ha
  simp at hb
  subst hb
  intro k hk hk'
  have := h1 x hx k hk
  have := h2 k hk'
  omega
theorem Logs.same {w w' : World} {B : Nat} {T : List Mx} (h : Logs w B T) (hk : ∀ k, B ≤ k → k < w.heap.size → w'.heap[k]? = w.heap[k]?) : Logs w' B T := ⟨fun x hx => (h.l x hx).off fun k hk' => hk k ((h.l x hx).from k hk') ((h.l x hx).under k hk'), h.ap⟩
theorem Logs.puts {w : World} {B g : Nat} {T : List Mx} (h : Logs w B T) (hg : g < B) (vs : List Value) (i : Nat) : Logs (putL w g vs i) B T := h.same fun k h1 h2 => putL_block _ _ _ _ _ (by omega)
theorem toMsS (v : Value) (L : List Mx) (w : World) (h : TeGot w v L) (hsm : ∀ x ∈ L, x.m.l.length ≤ 1048576) (hl : L.length ≤ 1048576) :
  Calls Tryz.prog 85 #[v] w fun e w' => ∃ u M, e = .returned u ∧ HasM w' w.heap.size u M ∧ SameH L M ∧ Logs w' (w.heap.size + 1) M ∧ (∀ k, u.ownBlock = some k → k = w.heap.size) ∧ Below w.heap.size w w' := by
 have HL : Hid (TeGot w v L) := h
 obtain ⟨⟨a, cap, rfl, _⟩, _⟩ := h
 have HSM : Hid (∀ x ∈ L, x.m.l.length ≤ 1048576) := hsm
 clear hsm
 obtain ⟨i0, hi, hz0, hz1, hz2⟩ := info_parts Tryz.infoMSV
 obtain ⟨w0, hrun, hown, hgr⟩ := run_make_full (P := Tryz.prog) w w.heap.size 26 30 i0 (.agg #[.int .i64 0, .int .i64 0, .int .i64 0, .int .i64 0, .int .i64 0, .slice none 0 0, .int .i64 0]) 7 Tryz.underlying26 hi hz0 hz1 .i64 .i64 L.length (by rw [hz2]; omega) (by unfold maxLen; omega) (Nat.le_refl _)
 rw [madeMx] at hown
 have hown0 : Hid (HasM w0 w.heap.size (.slice (some ⟨w.heap.size, 0, Option.none⟩) L.length L.length) ([] ++ List.replicate (L.length - 0) mxZ)) := by
  have : OwnsM w0 w.heap.size (.slice (some ⟨w.heap.size, 0, Option.none⟩) L.length L.length) (List.replicate L.length mxZ) := by
   show w0.ownsRow _ _ 7 _ _ _
   rw [List.length_replicate]
   exact hown
  exact this.has
 have hb0 : Hid (Below w.heap.size w w0) := (Below.refl _ w).grown hgr (Nat.le_refl _) (fun j hj => by cases hj)
 clear hown hgr hi hz0 hz1 hz2
 go_enter Tryz.func85, Tryz.ntmps85
 go_wp2
 go_loopw [4] (fun i wr => ∃ (M : List Mx), M.length ≤ L.length ∧ i = .int .i64 M.length ∧ Hid (HasM wr w.heap.size (.slice (some ⟨w.heap.size, 0, Option.none⟩) L.length L.length) (M ++ List.replicate (L.length - M.length) mxZ)) ∧ Hid (SameH (L.take M.length) M) ∧ Hid (Logs wr (w.heap.size + 1) M) ∧ Hid (Below w.heap.size w wr)) (fun i _ => L.length - (intOf i).toNat)
 case atStart => exact ⟨[], Nat.zero_le _, rfl, hown0, (show SameH (L.take 0) [] from rfl), (show Hid _ from Logs.nil _ _), hb0⟩
 case round =>
  clear hown0 hb0 hrun
  obtain ⟨M, hk, rfl, ho, hs, hm, hb⟩ := hrel
  by_cases hlt : M.length < L.length
  ·
   have HA2 := HL.out.kept hb.out
   obtain ⟨g, q, rfl⟩ := mxAt HA2.1 (by omega)
   have CK := mxCells HA2.1 hlt
   have rx := HA2.2 L[M.length] (List.getElem_mem hlt)
   have sx := HSM.out L[M.length] (List.getElem_mem hlt)
   have hnx : Hid (∀ y : Mx, y.m = L[M.length].m → SameH (L.take (M.length + 1)) (M ++ [y])) := fun y hy => by
    unfold SameH
    rw [List.take_succ_eq_append_getElem hlt, List.map_append, List.map_append, ← hs.out]
    simp [hy]
   generalize L[M.length] = x at CK rx sx hnx
   obtain ⟨mx, pax, pcx⟩ := x
   have ht := fun W (hW : Below wr.heap.size wr W) => toMs mx _ W (MsGot.kept rx hW) sx
   have hlw : w.heap.size < wr.heap.size := ho.out.under _ rfl
   unfold msA at ht
   unfold Mx.u at CK ht
   simp only at CK ht hnx
   obtain ⟨c0, c1, c2, c3, c4, c5, c6⟩ := CK
   clear rx sx HA2
   go_wp2_with (go_at_call 32; refine (ht _ (Below.refl _ _)).mono ?_; rintro e w1 ⟨v2, rfl, hv2, hb1⟩; obtain ⟨a1, p1, rfl, _⟩ := hv2.form; have ho1 : Hid (HasM w1 w.heap.size (.slice (some ⟨w.heap.size, 0, Option.none⟩) L.length L.length) (M ++ List.replicate (L.length - M.length) mxZ)) := ho.out.kept hb1; have fz := ho1.out.free; have dz := mxCells ho1.out.sls (j := M.length) (by simp; omega); have f0 := fz (M.length * 7); have f1 := fz (M.length * 7 + 1); have f2 := fz (M.length * 7 + 2); have f3 := fz (M.length * 7 + 3); have f4 := fz (M.length * 7 + 4); have f5 := fz (M.length * 7 + 5); have f6 := fz (M.length * 7 + 6); clear fz; simp only [Nat.zero_add] at dz; obtain ⟨d0, d1, d2, d3, d4, d5, d6⟩ := dz)
   have hp := HasM.puts ho1.out (j := M.length) (by simp; omega) ⟨mx, a1, p1⟩
   rw [turnM_next _ _ _ hlt] at hp
   have hq := ((hm.out.kept hb1).snoc (y := ⟨mx, a1, p1⟩) (hv2.has.low (by omega)) (fun x hx k hk => hm.out.under x hx k hk) (fun k hk => hv2.from k hk)).puts (Nat.lt_succ_self w.heap.size) (mxC ⟨mx, a1, p1⟩) (M.length * 7)
   have hB := putL_below (Nat.le_refl w.heap.size) (mxC ⟨mx, a1, p1⟩) (M.length * 7) (hb.out.trans (hb1.mono hb.out.size))
   have hN := hnx.out ⟨mx, a1, p1⟩ rfl
   have hlen : (M ++ [(⟨mx, a1, p1⟩ : Mx)]).length = M.length + 1 := by simp
   rw [← hlen] at hp hN
   go_roundw
   case rel =>
    refine ⟨M ++ [(⟨mx, a1, p1⟩ : Mx)], by omega, by rw [hlen]; go_num, ?_, ?_, ?_, ?_⟩
    ·
     exact hp
    ·
     exact hN
    ·
     exact hq
    ·
     exact hB
   case measure => simp [intOf]; omega
  ·
   have hkk : M.length = L.length := by omega
   go_wp2
   go_ret
   refine ⟨_, M, rfl, ?_, ?_, hm.out, ?_, hb.out⟩
   ·
    have := ho.out
    rw [hkk, Nat.sub_self, List.replicate_zero, List.append_nil] at this
    exact this
   ·
    have := hs.out
    rw [hkk, List.take_length] at this
    exact this
   ·
    intro k hk
    simp [Value.ownBlock] at hk
    exact hk.symm
end Go.Proofs.YtdkhdjickkcaiaaGreat.Rl
