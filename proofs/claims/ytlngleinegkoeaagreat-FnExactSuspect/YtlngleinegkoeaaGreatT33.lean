/-
  What a row of messages of a call lives in; the walk of FnExactSpread, given both sides' Spread.
  Numbers that the library hands on one by one and gathers (slices.Values, slices.Collect at int64).
  Numbers gathered and put in order by the library; the middle of an odd many.
-/
import Derived.Test.YtlngleinegkoeaaGreatT30
import Derived.Test.YtlngleinegkoeaaGreatT32
import Derived.Test.YtlngleinegkoeaaGreatT17
import Derived.Test.YtlngleinegkoeaaGreatT20
import Derived.RangeFuncNested
import Derived.RangeFuncBound
import Derived.RangeFuncCalls
import Derived.RangeFuncLeaves
import Derived.RangeFuncBox
import Derived.Shelf.Abstract
import Derived.WalkKit
import Derived.OwnWalkIn
import Derived.TacticsInMore
import Derived.LoopNIn
import Derived.LoopIn
import Derived.Test.YtlngleinegkoeaaGreatShelfN
import Derived.Sort.OwnSortedInts
namespace Go.Proofs.YtlngleinegkoeaaGreat.Rl
open Go.RowKit Go.Sort
set_option linter.unusedVariables false
set_option linter.unusedSimpArgs false

/-- A row of messages whose blocks lie from lo to hi. -/
structure MsF (lo hi : Nat) (v : Value) (T : List Mx) (W : World) : Prop where
  row : HasM W lo v T
  logs : Logs W lo T
  ap : ∀ x ∈ T, ap v x.u
  top : ∀ k, Bl (v :: T.map Mx.u) k → k < hi
theorem MsF.got {lo hi : Nat} {v : Value} {T : List Mx} {W : World} (h : MsF lo hi v T W) : TeGot W v T := ⟨h.row.sls, fun x hx => (h.logs.l x hx).sls⟩
theorem MsF.low {lo hi : Nat} {v : Value} {T : List Mx} {W : World} (h : MsF lo hi v T W) : ∀ k, Bl (v :: T.map Mx.u) k → lo ≤ k ∧ k < hi := fun k hk => ⟨by
    obtain ⟨y, hy, hk⟩ := hk
    rcases List.mem_cons.1 hy with rfl | hy
    · exact h.row.from k hk
    · obtain ⟨x, hx, rfl⟩ := List.mem_map.1 hy
      exact (h.logs.l x hx).from k hk, h.top k hk⟩
theorem Liv.ms {W : World} {lo hi : Nat} {v : Value} {T : List Mx} (h : MsF lo hi v T W) (ht : hi ≤ W.heap.size) : Liv lo hi (MsF lo hi v T) W :=
  ⟨h, ht, fun W' hW _ => ⟨h.row.off fun k hk => hW k (h.low k (Bl.of (List.mem_cons_self ..) hk)).1 (h.top k (Bl.of (List.mem_cons_self ..) hk)),
    ⟨fun x hx => (h.logs.l x hx).off fun k hk => hW k (h.low k (Bl.of (List.mem_cons_of_mem _ (List.mem_map.2 ⟨x, hx, rfl⟩)) hk)).1 (h.top k (Bl.of (List.mem_cons_of_mem _ (List.mem_map.2 ⟨x, hx, rfl⟩)) hk)), h.logs.ap⟩, h.ap, h.top⟩⟩
theorem MsF.of {W : World} {lo : Nat} {v : Value} {T : List Mx} {L : List Ms} (h : MsOwn W lo v T L) : MsF lo W.heap.size v T W :=
  ⟨h.row.has, h.logs, h.ap, fun k hk => by
    obtain ⟨y, hy, hk⟩ := hk
    rcases List.mem_cons.1 hy with rfl | hy
    · exact h.row.under k hk
    · obtain ⟨x, hx, rfl⟩ := List.mem_map.1 hy
      exact (h.logs.l x hx).under k hk⟩
theorem Liv.newMs {W : World} {lo : Nat} {v : Value} {T : List Mx} {L : List Ms} (h : MsOwn W lo v T L) : Liv lo W.heap.size (MsF lo W.heap.size v T) W := Liv.ms (MsF.of h) (Nat.le_refl _)
def kR (r : Rp) : Int := ((1 : Nat) : Int) + (cR r : Int)
theorem kR_nn (r : Rp) : ¬ kR r < 0 := by unfold kR; omega
/-- Few messages, none with a log beyond bounds. -/
structure Few (L : List Ms) : Prop where
  n : L.length ≤ 6
  l : ∀ m ∈ L, m.l.length ≤ 1048576
theorem Few.each {L : List Ms} (h : Few L) {T : List Mx} (i : T.map (·.m) = L) : ∀ x ∈ T, x.m.l.length ≤ 1048576 := fun x hx => h.l _ (by rw [← i]; exact List.mem_map.2 ⟨x, hx, rfl⟩)
theorem Few.len {L : List Ms} (h : Few L) {T : List Mx} (i : T.map (·.m) = L) : T.length ≤ 6 := by have := h.n; rw [← i, List.length_map] at this; exact this
theorem sum_few (l : List Nat) (h : ∀ x ∈ l, x ≤ 1048576) : l.sum ≤ l.length * 1048576 := by
  induction l with
  | nil => simp
  | cons a t ih =>
    have h1 := h a (List.mem_cons_self ..)
    have h2 := ih fun x hx => h x (List.mem_cons_of_mem _ hx)
    simp only [List.sum_cons, List.length_cons]
    omega
theorem Few.cT {L : List Ms} (h : Few L) {T : List Mx} (i : T.map (·.m) = L) : 1 + cT T ≤ 50000000 := by
  rw [cT_of i]
  have h1 := sum_few (L.map fun m => m.l.length) (fun x hx => by obtain ⟨m, hm, rfl⟩ := List.mem_map.1 hx; exact h.l m hm)
  rw [List.length_map] at h1
  have h2 := h.n
  have h3 : L.length * 1048576 ≤ 6 * 1048576 := Nat.mul_le_mul_right _ h2
  omega
theorem allM_each {r : Rp} {m : Ms} (h : m.l.length ≤ 1048576) : ∀ x ∈ allM r m, x.l.length ≤ 1048576 := fun x hx => by
  unfold allM at hx
  obtain ⟨q, _, rfl⟩ := List.mem_map.1 hx
  exact h
theorem sprA_few (r : Rp) (hl : r.l.length ≤ 1048576) : Few (sprA r) := by
  by_cases ho : RpOk r
  · have e : sprA r = sprL r := by unfold sprA; rw [if_pos ho]
    rw [e]
    have n1 := fun m => allM_len r m ho.p
    unfold sprL
    split
    · exact ⟨Nat.le_trans (n1 _) (by decide), allM_each hl⟩
    · split
      · exact ⟨by simp, fun m hm => nomatch hm⟩
      · split
        · refine ⟨by have := n1 ⟨3, 0, 0, r.v, 0, [], 0⟩; simp only [List.length_append, List.length_singleton]; omega, fun m hm => ?_⟩
          rcases List.mem_append.1 hm with hm | hm
          · exact allM_each (by simp) m hm
          · rw [List.mem_singleton.1 hm]
            exact hl
        · exact ⟨by have := n1 ⟨3, 0, 0, r.v, 0, [], 0⟩; simp only [List.length_append, List.length_nil]; omega, fun m hm => by rw [List.append_nil] at hm; exact allM_each (by simp) m hm⟩
  · have e : sprA r = [] := by unfold sprA; rw [if_neg ho]
    rw [e]
    exact ⟨by simp, fun m hm => nomatch hm⟩
theorem eqMs1 {L : List Ms} (hL : Few L) {lo hi lo2 hi2 : Nat} {v v2 : Value} {T T2 : List Mx} (W : World) (h : MsF lo hi v T W) (h2 : MsF lo2 hi2 v2 T2 W) (i : T.map (·.m) = L) (i2 : T2.map (·.m) = L) :
    Calls Tryz.prog 58 #[v, v2] W fun e w' => e = .returned (.bool true) ∧ Below W.heap.size W w' :=
  eqMsS v v2 T T2 W h.got h2.got (i2.trans i.symm) (hL.each i) (by have := hL.len i; omega)
def GRsp (r : Rp) (pl4 : Option Addr) (ql4 : Nat) (po4 : Option Addr) (qo4 : Nat) (pc4 : Option Addr) (qc4 : Nat) (pt4 : Option Addr) (qt4 : Nat) (plA : Option Addr) (qlA : Nat) (poA : Option Addr) (qoA : Nat) (pcA : Option Addr) (qcA : Nat) (ptA : Option Addr) (qtA : Nat) (i : Nat) (x : World) (v : Value) : Prop := match i with
  | 0 => v = .agg #[.int .i64 r.id, .int .i64 r.p, .int .i64 r.v, .bool r.n, .int .i64 r.la, .slice pl4 r.l.length ql4, .int .i64 r.c, .slice po4 r.ok.length qo4, .slice pc4 r.ch.length qc4, .slice pt4 r.te.length qt4]
  | 1 => v = .agg #[.int .i64 r.id, .int .i64 r.p, .int .i64 r.v, .bool r.n, .int .i64 r.la, .slice plA r.l.length qlA, .int .i64 r.c, .slice poA r.ok.length qoA, .slice pcA r.ch.length qcA, .slice ptA r.te.length qtA]
  | 2 => ∃ (p1 : Option Addr) (d1 : Nat) (p2 : Option Addr) (d2 : Nat) (p3 : Option Addr) (d3 : Nat) (p4 : Option Addr) (d4 : Nat), v = .agg #[.int .i64 r.id, .int .i64 r.p, .int .i64 r.v, .bool r.n, .int .i64 r.la, .slice p1 r.l.length d1, .int .i64 r.c, .slice p2 r.ok.length d2, .slice p3 r.ch.length d3, .slice p4 r.te.length d4] ∧ GotM x r p1 d1 p2 d2 p3 d3 p4 d4
  | 3 => v = .bool true
  | _ => True
theorem GRsp.keep {r : Rp} {pl4 : Option Addr} {ql4 : Nat} {po4 : Option Addr} {qo4 : Nat} {pc4 : Option Addr} {qc4 : Nat} {pt4 : Option Addr} {qt4 : Nat} {plA : Option Addr} {qlA : Nat} {poA : Option Addr} {qoA : Nat} {pcA : Option Addr} {qcA : Nat} {ptA : Option Addr} {qtA : Nat} {x y : World} (hb : Below x.heap.size x y) (j : Nat) (v : Value) (hj : j < 4) (h : GRsp r pl4 ql4 po4 qo4 pc4 qc4 pt4 qt4 plA qlA poA qoA pcA qcA ptA qtA j x v) : GRsp r pl4 ql4 po4 qo4 pc4 qc4 pt4 qt4 plA qlA poA qoA pcA qcA ptA qtA j y v := by
  rcases (show j = 0 ∨ j = 1 ∨ j = 2 ∨ j = 3 by omega) with rfl | rfl | rfl | rfl
  · exact h
  · exact h
  · obtain ⟨p1, d1, p2, d2, p3, d3, p4, d4, h1, h2⟩ := h; exact ⟨p1, d1, p2, d2, p3, d3, p4, d4, h1, h2.kept hb⟩
  · exact h
end Go.Proofs.YtlngleinegkoeaaGreat.Rl
namespace Go.Proofs.YtlngleinegkoeaaGreat.Rl
open Go.RowKit Go.Sort Go.Shelf
set_option linter.unusedVariables false
set_option linter.unusedSimpArgs false

attribute [local go_sem] Oper.semAt_some
/-- Blocks below B lie as they lay. -/
def KeepL (B : Nat) (W W' : World) : Prop := ∀ k, k < B → W'.heap[k]? = W.heap[k]?
theorem KeepL.trans {B : Nat} {X Y Z : World} (h : KeepL B X Y) (h' : KeepL B Y Z) : KeepL B X Z := fun k hk => (h' k hk).trans (h k hk)
theorem KeepL.book {B : Nat} {w : World} (hB : B ≤ w.heap.size) (W : World) (l : Nat) (o o' : Obj) (hl : w.heap.size ≤ l) (_ : W.heap[l]? = some o) (_ : o.isCells = false) (_ : o.isWalk = false) : KeepL B W (W.putObj l o') :=
  fun k hk => World.putObj_heap_other (by omega)
theorem KeepL.below {B : Nat} {W W' : World} (h : Below W.heap.size W W') (hB : B ≤ W.heap.size) : KeepL B W W' := fun k hk => h.block k (by omega)

set_option maxRecDepth 100000 in
set_option maxHeartbeats 4000000 in
/-- What the library's function over numbers hands on. -/
theorem valIter (n : Nat) (hn : 1 ≤ n) (B g cap : Nat) (L : List Int) (l Bv : Nat) (J Jx : List Int → World → Prop) (W : World) (hJ : AbidesFrom W.heap.size J) (hg : g < B) (hlen : L.length ≤ 1048576)
    (hY : ∀ pre x W1, J pre W1 → pre.length < L.length → YieldAt Fence.wide (n - 1) Tryz.prog l #[.int .i64 x] W1 fun e W' =>
      (e = .returned (.bool true) ∧ J (pre ++ [x]) W' ∧ KeepL B W1 W') ∨ (e = .returned (.bool false) ∧ Jx (pre ++ [x]) W'))
    (hBv : W.cell? ⟨Bv, 0, none⟩ = some (.slice (some ⟨g, 0, none⟩) L.length cap)) (hc : ∀ j (h : j < L.length), W.cell? ⟨g, j, none⟩ = some (.int .i64 L[j])) (h0 : J [] W) :
    Calls Tryz.prog 245 #[.func (.yield l) #[] #[], .pointer (some ⟨Bv, 0, none⟩)] W fun e W' => (∃ v, e = .returned v) ∧
      ((∃ ys, ys = L ∧ J ys W') ∨ (∃ pre, pre <+: L ∧ Jx pre W')) := by
  have hY' : Hid (∀ pre x W1, J pre W1 → pre.length < L.length → YieldAt Fence.wide (n - 1) Tryz.prog l #[.int .i64 x] W1 fun e W' => (e = .returned (.bool true) ∧ J (pre ++ [x]) W' ∧ KeepL B W1 W') ∨ (e = .returned (.bool false) ∧ Jx (pre ++ [x]) W')) := hY
  have HC : Hid (∀ j (h : j < L.length), W.cell? ⟨g, j, none⟩ = some (.int .i64 L[j])) := hc
  have J0 : Hid (J [] W.drew) := hJ [] W W.drew none h0 ⟨rfl, rfl, rfl, Nat.le_refl _, fun _ _ _ => rfl⟩ (fun r e => by cases e)
  have J1 : Hid (J [] W) := h0
  clear hY hc h0 hJ
  go_enter Tryz.func245, Tryz.ntmps245
  go_wp2
  refine (wpIn_wide (n := n)).1 ?_
  gi_loopw [7] (fun i wr => ∃ k : Nat, k ≤ L.length ∧ i = .int .i64 k ∧ Hid (J (L.take k) wr) ∧ Hid (wr.heap[g]? = W.heap[g]?)) (fun i _ => L.length - (intOf i).toNat)
  case atStart => exact ⟨0, Nat.zero_le _, rfl, by rw [List.take_zero]; first | exact J1 | exact J0, (show Hid _ from rfl)⟩
  case round =>
    obtain ⟨k, hk, rfl, hJs, hgg⟩ := hrel
    by_cases hlt : k < L.length
    · have hc0 : wr.cell? ⟨g, k, none⟩ = some (.int .i64 L[k]) := (World.cell?_of_block (a := ⟨g, k, none⟩) hgg.out).trans (HC.out k hlt)
      obtain ⟨fn, tmps, assign, body, hy, hR⟩ := hY'.out _ L[k] wr hJs.out (by rw [List.length_take]; omega)
      have HT : Hid (L.take (k + 1) = L.take k ++ [L[k]]) := (show _ = _ from List.take_succ_eq_append_getElem hlt)
      have hR' : RoundIn Fence.wide (n - 1) Tryz.prog l fn tmps assign body wr fun e W' => (e = .returned (.bool true) ∧ Hid (J (L.take (k + 1)) W') ∧ Hid (KeepL B wr W')) ∨ (e = .returned (.bool false) ∧ Hid (Jx (L.take (k + 1)) W')) := by
        rw [HT.out]; exact hR
      clear hR hJs HT hk
      gi_wp2
      refine hR'.mono ?_
      rintro e W3 (⟨rfl, hJ3, hk3⟩ | ⟨rfl, hJx3⟩)
      · gi_wp2
        go_roundw
        case rel => exact ⟨k + 1, hlt, by go_num, hJ3, (show Hid _ from (hk3.out g hg).trans hgg.out)⟩
        case measure => simp [intOf]; omega
      · gi_wp2
        refine bodyPost_ret (results_none rfl _ _ _) rfl ?_
        exact ⟨⟨_, rfl⟩, .inr ⟨_, List.take_prefix _ _, hJx3.out⟩⟩
    · obtain rfl : k = L.length := by omega
      have HJ : Hid (J L wr) := by
        have := hJs.out
        rw [List.take_of_length_le (Nat.le_refl _)] at this
        exact this
      gi_wp2
      go_end0
      exact ⟨⟨_, rfl⟩, .inl ⟨_, rfl, HJ.out⟩⟩
/-- The library's value of a function over a row. -/
theorem implVals (a : Option Addr) (n c : Nat) (w : World) :
    Calls Tryz.prog 210 #[.slice a n c] w fun e w' => e = .returned (.func (.func 245) #[] #[.pointer (some ⟨w.heap.size, 0, none⟩)]) ∧ w' = w.alloc (.cells #[.slice a n c] 25) := by
  go_enter Tryz.func210, Tryz.ntmps210
  go_wp2
  go_ret
  exact ⟨rfl, rfl⟩
theorem vals_stops (n : Nat) (hn : 1 ≤ n) (B g cap : Nat) (L : List Int) (Bv : Nat) (w : World) (hg : g < B) (hB : B ≤ w.heap.size) (hBv : Bv < w.heap.size) (hlen : L.length ≤ 1048576)
    (hv : w.cell? ⟨Bv, 0, none⟩ = some (.slice (some ⟨g, 0, none⟩) L.length cap)) (hc : ∀ j (h : j < L.length), w.cell? ⟨g, j, none⟩ = some (.int .i64 L[j])) :
    SeqStopsK Fence.wide n Tryz.prog 245 #[.pointer (some ⟨Bv, 0, none⟩)] (fun x : Int => #[Value.int .i64 x]) (KeepL B) (fun ys => ys = L) (fun pre => pre <+: L) L.length w := fun l J Jx W hW hJ _ hY h0 =>
  callsIn_wide.2 (valIter n hn B g cap L l Bv J Jx W hJ hg hlen hY ((hW.cell (p := ⟨Bv, 0, none⟩) hBv).trans hv) (fun j h => (hW.cell (p := ⟨g, j, none⟩) (by show g < w.heap.size; omega)).trans (hc j h)) h0)
/-- What a call gathers, between two rounds. -/
structure ApI (w : World) (S : Nat) (W : World) (v : Value) (l : List Int) : Prop where
  box : Boxed W S 25 v
  own : OwnsN W w.heap.size v l
  low : Below w.heap.size w W
theorem cellsN_is (l : List Int) : cellsE intE l = l.map (Value.int .i64) := by
  induction l with
  | nil => rfl
  | cons a t ih => rw [cellsE_cons, ih]; rfl
theorem ApI.push {w : World} {S : Nat} {W w1 : World} {v v' : Value} {l l' : List Int} (h : ApI w S W v l) (hS : w.heap.size ≤ S) (ho : OwnsN w1 w.heap.size v' l') (hg : W.grownBy w1 v.ownBlock) :
    (w1.cell? ⟨S, 0, none⟩ = some v ∧ w1.frozen? ⟨S, 0, none⟩ = false) ∧ ApI w S (w1.setCell ⟨S, 0, none⟩ v') v' l' ∧ KeepsOthers W (w1.setCell ⟨S, 0, none⟩ v') ∧ KeepL w.heap.size W (w1.setCell ⟨S, 0, none⟩ v') := by
  have hne : some S ≠ v.ownBlock := h.box.not_row (by decide) h.own
  have hb1 : Boxed w1 S 25 v := h.box.kept hg hne
  have ko : KeepsOthers W w1 := KeepsOthers.of_grownBy hg fun j o ej hj => by
    rcases h.own.2 with ⟨rfl, _⟩ | ⟨g, cap, cur, rfl, _, hgb, _⟩
    · simp [Value.ownBlock] at ej
    · obtain rfl : g = j := by simpa [Value.ownBlock] using ej
      rw [hgb] at hj; cases hj; rfl
  have lo : Below w.heap.size w w1 := h.low.grown hg h.low.size (fun k ek => OwnsE.from h.own k ek)
  have lo2 := lo.setCell (p := ⟨S, 0, none⟩) (by show w.heap.size ≤ S; exact hS) v'
  refine ⟨⟨hb1.cell, hb1.frozen⟩, ⟨hb1.set v', ?_, lo2⟩, ko.trans (KeepsOthers.setCell _ _ _), fun k hk => (lo2.block k hk).trans (h.low.block k hk).symm⟩
  exact World.ownsRow.kept ho (grownBy_setCell' w1 S v') (.inr (hb1.not_row (by decide) ho).symm)
theorem ApI.form {w : World} {B : Nat} {v : Value} {l : List Int} (h : OwnsN w B v l) : ∃ a cap, v = .slice a l.length cap := by
  rcases h.2 with ⟨rfl, h0⟩ | ⟨g, cap, cur, rfl, _⟩
  · exact ⟨none, 0, by rw [h0]⟩
  · exact ⟨_, cap, rfl⟩
set_option maxRecDepth 100000 in
set_option maxHeartbeats 4000000 in
/-- What is handed on, gathered. -/
theorem implApp (g cap : Nat) (L : List Int) (Bv : Nat) (w : World) (hg : g < w.heap.size) (hBv : Bv < w.heap.size) (hlen : L.length ≤ 1048576)
    (hv : w.cell? ⟨Bv, 0, none⟩ = some (.slice (some ⟨g, 0, none⟩) L.length cap)) (hc : ∀ j (h : j < L.length), w.cell? ⟨g, j, none⟩ = some (.int .i64 L[j])) :
    Calls Tryz.prog 260 #[.slice none 0 0, .func (.func 245) #[] #[.pointer (some ⟨Bv, 0, none⟩)]] w fun e w' => ∃ v, e = .returned v ∧ OwnsN w' w.heap.size v L ∧ Below w.heap.size w w' := by
  obtain ⟨i0, hi, hz0, hz1, hz2⟩ := info_parts Tryz.infoN2
  have S0 : Hid (ApI w w.heap.size (w.alloc (.cells #[.slice none 0 0] 25)) (.slice none 0 0) []) := ⟨Boxed.new w 25 _, OwnsE.none _ _, (Below.refl _ w).alloc (Nat.le_refl _) _⟩
  have hst := fun n hn => vals_stops n hn w.heap.size g cap L Bv (w.alloc (.cells #[.slice none 0 0] 25)) hg (by simp) (by simp; omega) hlen (by rw [World.cell?_alloc_old _ _ _ (by show Bv ≠ w.heap.size; omega)]; exact hv) (fun j h => by rw [World.cell?_alloc_old _ _ _ (by show g ≠ w.heap.size; omega)]; exact hc j h)
  refine (callsIn_wide (n := 5)).1 ?_
  refine callsIn_of_wp_marks Tryz.func260 rfl trivial ?_ rfl
  simp only [Tryz.ntmps260, List.size_toArray, List.length_cons, List.length_nil, Nat.reduceAdd, Nat.reduceSub, Array.replicate_succ, Array.replicate_zero, List.push_toArray, List.append_toArray, List.nil_append, List.cons_append]
  refine wpIn_wide.2 ?_
  clear hv hc
  go_wp2
  refine (wpIn_wide (n := 5)).1 ?_
  refine wpIn_rangeFunc_ownG (α := Int) rfl (by decide) (gf := 245) (lb := #[.pointer (some ⟨Bv, 0, none⟩)]) rfl trivial (enters_of Tryz.func245 (by kernel_rfl) rfl)
    (hst 4 (by decide)) KeepL.trans (KeepL.book (by simp)) (Below.refl _ _) (fun _ => rfl)
    (fun pre W => (∃ v, Boxed W w.heap.size 25 v ∧ W.ownsRow w.heap.size 2 1 v pre.length (cellsE intE pre) ∧ True) ∧ Below w.heap.size w W)
    (fun c pre W => False)
    (OwnFrom.and (Own.from (holdsRow_own w.heap.size w.heap.size 25 2 1 (fun pre : List Int => pre.length) (fun pre => cellsE intE pre) (fun pre _ => True)) _) (ownFrom_below (Nat.le_refl _) (by simp)))
    (fun c => ownFrom_pure _ (fun pre : List Int => False))
    ⟨⟨_, S0.out.box, S0.out.own, trivial⟩, S0.out.low⟩
    (fun x => { tmps := #[.slice none 0 0, .func (.func 245) #[] #[.pointer (some ⟨Bv, 0, none⟩)], .pointer (some ⟨w.heap.size, 0, none⟩), undef, .slice none 0 0, .int .i64 x, .func (.func 245) #[] #[.pointer (some ⟨Bv, 0, none⟩)], .int .i64 x, undef, undef, undef, undef, undef], defers := [] }) ?assign ?body ?done ?stop
  case assign =>
    intro lo x W K hK
    gi_wp2
    exact hK
  case body =>
    rintro lo pre x W ⟨⟨v, hv, hrow, _⟩, hB⟩ hlt
    have S1 : Hid (ApI w w.heap.size W v pre) := ⟨hv, hrow, hB⟩
    obtain ⟨va, vc, rfl⟩ := ApI.form S1.out.own
    have cS := hv.cell
    have hpl : pre.length ≤ 1048576 := by omega
    clear hv hrow hB hst hlt
    gi_wp2_with (
      gi_at_builtin
      refine wpListIn_append_own _ rfl (.tmp 8) (.tmp 10) 25 rfl w.heap.size 2 i0 (.int .i64 0) 1 8 Tryz.underlying25 hi hz0 hz1 hz2 rfl (by decide) (.slice va pre.length vc) pre.length (cellsE intE pre) rfl (OwnsE.alloc S1.out.own _) ⟨W.heap.size, 0, none⟩ 1 1 [.int .i64 x] rfl rfl (cell_one_new _ _ _) (by intro u hu; simp at hu; subst hu; rfl) (by unfold maxLen; omega) (by omega) (by have := S1.out.low.size; simp; omega) ?_
      intro v' w2 ho hg hnil
      have hg2 : Hid (W.grownBy w2 (Value.slice va pre.length vc).ownBlock) := ⟨hg.os, hg.tape, hg.output, by have := hg.size; simp at this; omega, fun k hk hne => by rw [hg.block k (by simp; omega) hne]; exact Below.heap_alloc _ _ _ hk⟩
      have ho2 : Hid (OwnsN w2 w.heap.size v' (pre ++ [x])) := (show w2.ownsRow _ _ _ _ _ _ from by rw [cellsE_append, cellsE_single, List.length_append]; exact ho)
      clear ho hg hnil
      obtain ⟨a9, n9, c9, rfl⟩ : ∃ a n c, v' = .slice a n c := by
        obtain ⟨a9, c9, e9⟩ := ApI.form ho2.out
        exact ⟨a9, _, c9, e9⟩
      obtain ⟨⟨c8, f8⟩, hS2, hK2, hN2⟩ := S1.out.push (Nat.le_refl _) ho2.out hg2.out
      have S2 : Hid (ApI w w.heap.size (w2.setCell ⟨w.heap.size, 0, none⟩ (.slice a9 n9 c9)) (.slice a9 n9 c9) (pre ++ [x])) := hS2
      have K2 : Hid (KeepsOthers W (w2.setCell ⟨w.heap.size, 0, none⟩ (.slice a9 n9 c9))) := hK2
      have N2 : Hid (KeepL w.heap.size W (w2.setCell ⟨w.heap.size, 0, none⟩ (.slice a9 n9 c9))) := hN2
      clear hS2 hK2 hN2)
    exact ⟨K2.out.from _, N2.out, ⟨_, S2.out.box, S2.out.own, trivial⟩, S2.out.low⟩
  case done =>
    rintro D ys W hD rfl ⟨⟨v, hv, hrow, _⟩, hB⟩ hK
    have hD' : w.heap.size + 1 ≤ D := by simpa using hD
    have ho : OwnsN W w.heap.size v ys := hrow
    obtain ⟨va, vc, rfl⟩ := ApI.form ho
    have cS := hv.cell
    have HO : Hid (OwnsN W w.heap.size (.slice va ys.length vc) ys) := ho
    have HB : Hid (Below w.heap.size w W) := hB
    have HK : Hid (W.heap[D]? = some (.deferred (some []))) := hK
    clear hrow ho hB hv hst S0
    go_wp2
    refine ⟨by simp, .inl ⟨_, _, rfl, run_takeDeferred HK.out, ?_⟩⟩
    refine ⟨_, results_tmp rfl _ _ _, _, rfl, ?_, HB.out.trans (belowK_b (w := w) (Nat.le_refl _) W D _ _ (by omega) HK.out rfl rfl)⟩
    exact World.ownsRow.kept HO.out (grownBy_putObj' W D (.deferred none)) (.inr (fun e => by
      rcases HO.out.2 with ⟨e0, _⟩ | ⟨g', cap', cur, e0, _, hgb, _⟩
      · rw [e0] at e; cases e
      · rw [e0] at e
        obtain rfl : D = g' := by simpa [Value.ownBlock] using e.symm
        rw [HK.out] at hgb
        cases hgb))
  case stop =>
    rintro D c pre W hD hpre hF hK
    exact hF.elim
/-- Gathered anew. -/
theorem implColl (g cap : Nat) (L : List Int) (Bv : Nat) (w : World) (hg : g < w.heap.size) (hBv : Bv < w.heap.size) (hlen : L.length ≤ 1048576)
    (hv : w.cell? ⟨Bv, 0, none⟩ = some (.slice (some ⟨g, 0, none⟩) L.length cap)) (hc : ∀ j (h : j < L.length), w.cell? ⟨g, j, none⟩ = some (.int .i64 L[j])) :
    Calls Tryz.prog 243 #[.func (.func 245) #[] #[.pointer (some ⟨Bv, 0, none⟩)]] w fun e w' => ∃ v, e = .returned v ∧ OwnsN w' w.heap.size v L ∧ Below w.heap.size w w' := by
  have j1 := implApp g cap L Bv w hg hBv hlen hv hc
  clear hv hc
  go_enter Tryz.func243, Tryz.ntmps243
  go_wp2_with fail
  refine j1.mono ?_
  rintro e w2 ⟨v, rfl, ho, hb⟩
  have HO : Hid (OwnsN w2 w.heap.size v L) := ho
  have HB : Hid (Below w.heap.size w w2) := hb
  clear ho hb j1
  go_wp2
  go_ret
  exact ⟨_, rfl, HO.out, HB.out⟩
end Go.Proofs.YtlngleinegkoeaaGreat.Rl
namespace Go.Proofs.YtlngleinegkoeaaGreat.Rl
open Go.RowKit Go.Sort Go.Shelf
set_option linter.unusedVariables false
set_option linter.unusedSimpArgs false

/-- Numbers in order. -/
def srtI (L : List Int) : List Int := L.mergeSort fun x y => decide (x ≤ y)
theorem srtI_len (L : List Int) : (srtI L).length = L.length := by unfold srtI; rw [List.length_mergeSort]
theorem srtI_perm (L : List Int) : (srtI L).Perm L := List.mergeSort_perm _ _
theorem srtI_up (L : List Int) : (srtI L).Pairwise (· ≤ ·) := by
  have h := List.pairwise_mergeSort (le := fun x y : Int => decide (x ≤ y)) (fun a b c h1 h2 => by simp at *; omega) (fun a b => by simp; omega) L
  unfold srtI
  simpa using h
theorem cntF_srt (L : List Int) (n : Int) : cntF (srtI L) n = cntF L n := by
  unfold cntF
  exact ((srtI_perm L).filter _).length_eq
/-- The one in the middle. -/
def midI (L : List Int) : Int := (srtI L).getD (L.length / 2) 0
theorem mid_maj {L : List Int} {p : Int} (hp : pOk p) (hl : (L.length : Int) = p) (n : Int) : maj (cntF L n) p ↔ n ≤ midI L := by
  have hs := srtI_len L
  have hu := srtI_up L
  rw [← cntF_srt]
  unfold midI
  generalize srtI L = s at hs hu
  rw [← hs]
  rw [← hs] at hl
  unfold maj cntF
  clear hs
  rcases hp with h | h | h
  · obtain ⟨a, rfl⟩ : ∃ a, s = [a] := by
      match s, (show s.length = 1 by omega) with
      | [a], _ => exact ⟨a, rfl⟩
    subst h
    by_cases h1 : n ≤ a <;> simp [List.filter, h1]
  · obtain ⟨a, b, c, rfl⟩ : ∃ a b c, s = [a, b, c] := by
      match s, (show s.length = 3 by omega) with
      | [a, b, c], _ => exact ⟨a, b, c, rfl⟩
    subst h
    simp at hu
    by_cases h1 : n ≤ a <;> by_cases h2 : n ≤ b <;> by_cases h3 : n ≤ c <;> simp [List.filter, h1, h2, h3] <;> omega
  · obtain ⟨a, b, c, d, e, rfl⟩ : ∃ a b c d e, s = [a, b, c, d, e] := by
      match s, (show s.length = 5 by omega) with
      | [a, b, c, d, e], _ => exact ⟨a, b, c, d, e, rfl⟩
    subst h
    simp at hu
    by_cases h1 : n ≤ a <;> by_cases h2 : n ≤ b <;> by_cases h3 : n ≤ c <;> by_cases h4 : n ≤ d <;> by_cases h5 : n ≤ e <;> simp [List.filter, h1, h2, h3, h4, h5] <;> omega
theorem mid_mem {L : List Int} (h : 0 < L.length) : midI L ∈ L := by
  have hs := srtI_len L
  have hj : L.length / 2 < (srtI L).length := by rw [hs]; omega
  unfold midI
  rw [List.getD_eq_getElem?_getD, List.getElem?_eq_getElem hj]
  exact (srtI_perm L).subset (List.getElem_mem hj)
theorem cmF_mid {L : List Int} {p c : Int} (hp : pOk p) (hl : (L.length : Int) = p) (hc : 0 ≤ c) : ∀ N : Nat, cmF L p c N = max c (min (midI L) N)
  | 0 => by unfold cmF; omega
  | N + 1 => by
    have ih := cmF_mid hp hl hc N
    unfold cmF
    rw [mid_maj hp hl]
    split
    · rename_i hh
      omega
    · rename_i hh
      rw [ih]
      omega
theorem cmF_is {L : List Int} {p c : Int} {N : Nat} (hp : pOk p) (hl : (L.length : Int) = p) (hc : 0 ≤ c) (hx : ∀ x ∈ L, x ≤ (N : Int)) : cmF L p c N = max c (midI L) := by
  rw [cmF_mid hp hl hc]
  have : midI L ≤ (N : Int) := hx _ (mid_mem (by rcases hp with h | h | h <;> omega))
  omega
set_option maxRecDepth 100000 in
set_option maxHeartbeats 4000000 in
/-- Gathered anew and put in order. -/
theorem implSorted (g cap : Nat) (L : List Int) (Bv : Nat) (w : World) (hg : g < w.heap.size) (hBv : Bv < w.heap.size) (h0 : 0 < L.length) (hlen : L.length ≤ 1048576)
    (hv : w.cell? ⟨Bv, 0, none⟩ = some (.slice (some ⟨g, 0, none⟩) L.length cap)) (hc : ∀ j (h : j < L.length), w.cell? ⟨g, j, none⟩ = some (.int .i64 L[j])) :
    Calls Tryz.prog 209 #[.func (.func 245) #[] #[.pointer (some ⟨Bv, 0, none⟩)]] w fun e w' => ∃ a c, e = .returned (.slice a L.length c) ∧ OwnsN w' w.heap.size (.slice a L.length c) (srtI L) ∧ Below w.heap.size w w' := by
  have j1 := implColl g cap L Bv w hg hBv hlen hv hc
  clear hv hc
  go_enter Tryz.func209, Tryz.ntmps209
  go_wp2_with fail
  refine j1.mono ?_
  rintro e w2 ⟨v, rfl, ho, hb⟩
  rcases ho.2 with ⟨e0, e1⟩ | ⟨g2, c2, cur, rfl, hbase, hgb, r1, r2, r3, r4⟩
  · omega
  have ht : cur.toList.take L.length = L.map (Value.int .i64) := by rw [← cellsN_is]; have e : L.length * intE.k = L.length := Nat.mul_one _; rw [e] at r4; exact r4
  have HH : Holds (Value.int .i64) w2 g2 0 L.toArray := holds_of_blockI hgb ht
  have j2 := Tryz.slices_Sort_int g2 0 c2 L w2 HH (Array.getElem?_eq_some_iff.1 hgb).1 (by omega)
  have HR : Hid (∀ n os, OwnsN (grow (putRow (Value.int .i64) (Sort.ahead w2 n) g2 0 (srtI L).toArray) os) w.heap.size (.slice (some ⟨g2, 0, none⟩) L.length c2) (srtI L)) := (show ∀ _ _, _ from fun n os => by
    have := ownsRow_sortedI (n := n) (os := os) (ts := srtI L) (srtI_len L) hbase hgb r1 r2 r3
    unfold OwnsN OwnsE
    rw [cellsN_is, srtI_len]
    exact this)
  have HB : Hid (∀ n os, Below w.heap.size w (grow (putRow (Value.int .i64) (Sort.ahead w2 n) g2 0 (srtI L).toArray) os)) := (show ∀ _ _, _ from fun n os => hb.grown (grownBy_sortedI _) hb.size (fun j hj => by cases hj; exact hbase))
  clear ho hb j1 HH ht hgb r1 r2 r3 r4
  go_wp2_with fail
  refine j2.mono ?_
  rintro e w3 ⟨rfl, n, os, rfl⟩
  have h1 := HR.out n os
  have h2 := HB.out n os
  unfold srtI at h1 h2
  generalize grow (putRow (Value.int .i64) (Sort.ahead w2 n) g2 0 (L.mergeSort fun x y => decide (x ≤ y)).toArray) os = w4 at h1 h2 ⊢
  clear j2 HR HB
  go_wp2
  go_ret
  exact ⟨_, _, rfl, h1, h2⟩
end Go.Proofs.YtlngleinegkoeaaGreat.Rl
