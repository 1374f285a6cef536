/-
  The program's spread; both sides' Spread.
  What a row of messages of a call lives in; the walk of FnExactSpread, given both sides' Spread.
  Numbers that the library hands on one by one and gathers (slices.Values, slices.Collect at int64).
  Numbers gathered and put in order by the library; the middle of an odd many.
  The program's count.
  The program's countAnew: who leads counts, who does not counts nothing.
-/
import Derived.Test.YtdkhdjickkcaiaaGreatRVS
import Derived.Test.YtdkhdjickkcaiaaGreatRV19
import Derived.Test.YtdkhdjickkcaiaaGreatRV18
import Derived.Test.YtdkhdjickkcaiaaGreatRV12
import Derived.Test.YtdkhdjickkcaiaaGreatRV13
import Derived.RangeFuncNested
import Derived.RangeFuncBound
import Derived.RangeFuncCalls
import Derived.RangeFuncLeaves
import Derived.RangeFuncBox
import Derived.Shelf.Abstract
import Derived.WalkKit
import Derived.OwnWalkIn
import Derived.TacticsInMore
import Derived.LoopNIn
import Derived.LoopIn
import Derived.Test.YtdkhdjickkcaiaaGreatShelfN
import Derived.Sort.OwnSortedInts
set_option linter.unusedVariables false
set_option linter.unusedSimpArgs false
set_option maxRecDepth 100000
set_option maxHeartbeats 64000000
namespace Go.Proofs.YtdkhdjickkcaiaaGreat.Rl
open Go.RowKit Go.Sort Pg

def SpOwn (x : World) (lo : Nat) (p1 : Option Addr) (d1 : Nat) (r : Rp) : Prop := ∃ T, MsOwn x lo (.slice p1 (allM r ⟨3, 0, 0, r.v, 0, [], 0⟩).length d1) T (allM r ⟨3, 0, 0, r.v, 0, [], 0⟩)
theorem SpOwn.kept {x y : World} {lo : Nat} {p1 : Option Addr} {d1 : Nat} {r : Rp} (h : SpOwn x lo p1 d1 r) (hb : Below x.heap.size x y) : SpOwn y lo p1 d1 r := by
 obtain ⟨T, h⟩ := h
 exact ⟨T, h.kept hb⟩
theorem SpOwn.of {x : World} {lo : Nat} {p1 : Option Addr} {d1 : Nat} {r : Rp} {T : List Mx} (h : MsOwn x lo (.slice p1 T.length d1) T (allM r ⟨3, 0, 0, r.v, 0, [], 0⟩)) : SpOwn x lo p1 d1 r := ⟨T, by have e := h.len; rw [← e]; exact h⟩
def frSq (s t : Nat → Value) : Act := { tmps := #[s 0, s 1, s 2, s 3, s 4, s 5, s 6, s 7, s 8, s 9, s 10, s 11, s 12, s 13, s 14, t 15, t 16, t 17, t 18, t 19, t 20, t 21, t 22, t 23, t 24, t 25, s 26, s 27, s 28, s 29, s 30, s 31, s 32, s 33, s 34, s 35, s 36, s 37, s 38, s 39, s 40, s 41, s 42, s 43], defers := [] }
def dSq (i : Nat) : Nat := i + 15
def GSq (r : Rp) (b lo : Nat) (i : Nat) (x : World) (v : Value) : Prop := match i with
 | 0 => v = .pointer (some ⟨b, 0, none⟩)
 | 1 => v = .pointer (some ⟨b, 0, none⟩)
 | 2 => v = .pointer (some ⟨b, 0, none⟩)
 | 3 => v = .pointer (some ⟨b, 0, none⟩)
 | 4 => v = .int .i64 r.id
 | 5 => v = .pointer (some ⟨b, 0, none⟩)
 | 6 => v = .pointer (some ⟨b, 0, none⟩)
 | 7 => v = .pointer (some ⟨b, 2, none⟩)
 | 8 => v = .int .i64 r.v
 | 9 => v = .agg #[.int .i64 3, .int .i64 r.id, .int .i64 0, .int .i64 r.v, .int .i64 0, .slice none 0 0, .int .i64 0]
 | 10 => ∃ (p1 : Option Addr) (d1 : Nat), v = .slice p1 (allM r ⟨3, 0, 0, r.v, 0, [], 0⟩).length d1 ∧ SpOwn x lo p1 d1 r
 | _ => True
theorem GSq.keep {r : Rp} {b lo : Nat} {x y : World} (hb : Below x.heap.size x y) (j : Nat) (v : Value) (hj : j < 11) (h : GSq r b lo j x v) : GSq r b lo j y v := by
 iterate 11 rcases ltS hj with hj | rfl
 cases hj
 ·
  exact h
 ·
  exact h
 ·
  exact h
 ·
  exact h
 ·
  exact h
 ·
  exact h
 ·
  exact h
 ·
  exact h
 ·
  exact h
 ·
  exact h
 ·
  obtain ⟨p1, d1, h1, h2⟩ := h; exact ⟨p1, d1, h1, h2.kept hb⟩
theorem implSpr (r : Rp) (u : Rv) (b : Nat) (w : World) (hB : RpB w b r u) (hv : 0 ≤ r.v ∧ r.v ≤ 20000) (hp : pOk r.p) (hl : Sls txtE w u.l r.l) (hc : Sls intE w u.ch r.ch) (hlen : r.l.length ≤ 1048576) (hch : r.ch.length ≤ 1048576) (hs : ∀ x ∈ r.l, x.size ≤ 1048576) :
  Calls Tryz.prog 77 #[.pointer (some ⟨b, 0, none⟩)] w fun e w' => ∃ v T, e = .returned v ∧ MsOwn w' w.heap.size v T (sprL r) ∧ Below w.heap.size w w' := by
 obtain ⟨ca, cc, hcv⟩ := Sls.slen0 hc
 have HB : Hid (RpB w b r u) := hB
 have HL : Hid (Sls txtE w u.l r.l) := hl
 have HCV : Hid (u.ch = .slice ca r.ch.length cc) := hcv
 have jL := fun W hW => implLeads r u b W hW hv hp
 have jS := fun kd W hW hl => implStd r u b kd W hW hv hp hl hlen hs
 have jT := fun m um W hW hm hl hs hf => implTo r u b m um W hW hp hm hl hs hf
 have jM := fun W hW => implMaj r.ch.length r u b W hW hch
 have jN := fun W hW => implNx r u b W hW hv hp
 have HP2 : Hid (pOk r.p) := hp
 have HLEN : Hid (r.l.length ≤ 1048576 ∧ ∀ x ∈ r.l, x.size ≤ 1048576) := ⟨hlen, hs⟩
 clear hB hv hp hl hc hlen hch hs hcv
 go_enter Tryz.func77, Tryz.ntmps77
 go_wp2_with fail
 refine (jL _ HB.out).mono ?_
 rintro e w2 ⟨rfl, hb⟩
 have B2 : Hid (Below w.heap.size w w2) := hb
 have Z2 : Hid (w.heap.size ≤ w2.heap.size) := hb.size
 have HB2 : Hid (RpB w2 b r u) := hH_ (Bx.kept HB.out hb)
 have HL2 := hH_ (HL.out.kept hb)
 clear hb HB HL jL
 have c3 := HB2.out.cells.2.2.2.1
 cases hld : dB (leads r) with
 | true =>
  have HS : Hid (sprL r = allM r (stdM r 1)) := (show _ = _ by unfold sprL; rw [if_pos (dB_is hld)]; rfl)
  clear hld jM jN c3
  go_wp2_with fail
  refine (jS 1 _ HB2.out HL2.out).mono ?_
  rintro e w3 ⟨v3, rfl, ho, hb⟩
  have B3 := hH_ (B2.out.trans (hb.mono B2.out.size))
  have HO3 : Hid (OwnsX w3 w2.heap.size v3 r.l) := ho
  have HB3 : Hid (RpB w3 b r u) := hH_ (Bx.kept HB2.out hb)
  clear ho hb jS
  have j2 := jT (stdM r 1) v3 w3 HB3.out HO3.out.sls HLEN.out.1 HLEN.out.2 rfl
  unfold msA at j2 ⊢
  clear jT
  go_wp2_with fail
  refine j2.mono ?_
  rintro e w4 ⟨v, T, rfl, ho, hb⟩
  have HO : Hid (MsOwn w4 w.heap.size v T (sprL r)) := hH_ (by rw [HS.out]; exact ho.low B3.out.size)
  have B4 := hH_ (B3.out.trans (hb.mono B3.out.size))
  clear ho hb j2
  go_wp2
  go_ret
  exact ⟨_, T, rfl, HO.out, B4.out⟩
 | false =>
 have HNL : Hid (¬ leads r) := dB_not hld
 clear hld
 cases hn : r.n with
 | true =>
  have HS : Hid (sprL r = []) := (show _ = _ by unfold sprL; rw [if_neg HNL.out, if_pos hn])
  rw [hn] at c3
  clear hn jM jN jT jS
  have HO : Hid (MsOwn (w2.alloc (.cells #[] 30)) w.heap.size (.slice (some ⟨w2.heap.size, 0, none⟩) 0 0) [] (sprL r)) := hH_ (by rw [HS.out]; exact (MsOwn.born w2).low B2.out.size)
  have B3 : Hid (Below w.heap.size w (w2.alloc (.cells #[] 30))) := hH_ (B2.out.alloc B2.out.size _)
  go_wp2
  go_ret
  exact ⟨_, [], rfl, HO.out, B3.out⟩
 | false =>
 have HN : Hid (r.n = false) := hn
 rw [hn] at c3
 clear hn
 have HSf : Hid (¬ (maj r.ch.length r.p ∧ ¬ mine r) → sprL r = allM r ⟨3, 0, 0, r.v, 0, [], 0⟩) := (show _ → _ = _ from fun hh => by
  unfold sprL
  rw [if_neg HNL.out, if_neg (by rw [HN.out]; decide), if_neg hh, List.append_nil])
 have HSt : Hid (maj r.ch.length r.p ∧ ¬ mine r → sprL r = allM r ⟨3, 0, 0, r.v, 0, [], 0⟩ ++ [stdM r 4]) := (show _ → _ = _ from fun hh => by
  unfold sprL
  rw [if_neg HNL.out, if_neg (by rw [HN.out]; decide), if_pos hh]
  rfl)
 go_upto_region 5 with fail
 clear c3
 have jt := fun x (hS : Below w2.heap.size w2 x) => jT ⟨3, r.id, 0, r.v, 0, [], 0⟩ (.slice none 0 0) x (Bx.kept HB2.out hS) (Sls.nil (Nat.zero_le _)) (Nat.zero_le _) (fun x hx => nomatch hx) rfl
 have CB := fun x (hS : Below w2.heap.size w2 x) => (show x.cell? ⟨b, 0, none⟩ = some (.int .i64 r.id) ∧ x.cell? ⟨b, 1, none⟩ = some (.int .i64 r.p) ∧ x.cell? ⟨b, 2, none⟩ = some (.int .i64 r.v) ∧ True from by
  have HH := (show RpB x b r u from Bx.kept HB2.out hS).cells
  exact ⟨HH.1, HH.2.1, HH.2.2.1, trivial⟩)
 have S0 := dwB w2
 obtain ⟨lo, hlo⟩ : ∃ lo, lo = w2.heap.size := ⟨_, rfl⟩
 unfold msA at jt
 generalize hA : Act.mk _ _ = A
 obtain ⟨s, hs9, s0_⟩ : ∃ s : Nat → Value, A = frSq s (fun _ => undef) ∧ s 0 = .pointer (some ⟨b, 0, none⟩) := by
  refine ⟨fun i => A.tmps.getD i undef, ?_, ?_⟩ <;> rw [← hA] <;> rfl
 rw [hs9]
 clear hs9 hA
 refine region_heads 11 mixed (by decide) (by kernel_rfl) (by kernel_rfl) (by kernel_rfl) (by kernel_rfl) (frSq s) dSq (fun x => Below w2.heap.size w2 x) (GSq r b lo) (fun i j hi hj h => by unfold dSq; omega) ?put (fun _ => undef) rfl S0 ?step ?done
 case put =>
  intro i o hi ho t v
  iterate 11 rcases ltS hi with hi | rfl
  cases hi
  all_goals
   obtain rfl := Option.some.inj ho
   rfl
 case step =>
  intro i o hi ho t x hS hdep K hK
  iterate 11 rcases ltS hi with hi | rfl
  cases hi
  all_goals obtain rfl := Option.some.inj ho
  iterate 10
   ·
    have y0 := (CB x hS).1
    have y1 := (CB x hS).2.2.1
    have h2 := hK _ x hS kI_ rfl
    try simp [Region.binds, GSq, dSq] at hdep
    unfold frSq at h2 ⊢
    clear hK
    go_simp
    first | simpa [Act.put, hdep, y0, y1, s0_] using h2 | simpa [Act.put, y0, y1, s0_] using h2
  ·
   have e0 : t 15 = .pointer (some ⟨b, 0, none⟩) := hdep ⟨0, .data⟩ (by simp) rfl
   have e9 : t 24 = .agg #[.int .i64 3, .int .i64 r.id, .int .i64 0, .int .i64 r.v, .int .i64 0, .slice none 0 0, .int .i64 0] := hdep ⟨9, .data⟩ (by simp) rfl
   refine callG2 (by rfl) 126 (.tmp 15) (.tmp 24) _ rfl (.pointer (some ⟨b, 0, none⟩)) (.agg #[.int .i64 3, .int .i64 r.id, .int .i64 0, .int .i64 r.v, .int .i64 0, .slice none 0 0, .int .i64 0]) e0 e9 (Go.Proofs.enters_of Tryz.func126 (by kernel_rfl) rfl _) (fun v y => (∃ (p1 : Option Addr) (d1 : Nat), v = .slice p1 (allM r ⟨3, 0, 0, r.v, 0, [], 0⟩).length d1 ∧ SpOwn y lo p1 d1 r) ∧ Below x.heap.size x y) ((jt x hS).mono ?_) ?_
   ·
    rintro e0 y0 ⟨u0, T0, h0, h1, h2⟩
    obtain ⟨q1, g1, rfl, _⟩ := h1.row.form
    exact ⟨_, h0, ⟨q1, g1, by rw [h1.len]; rfl, SpOwn.of (h1.low (by rw [hlo]; exact hS.size))⟩, h2⟩
   ·
    rintro v y ⟨h0, hb2⟩
    exact hK v y ((show Below w2.heap.size w2 y from hS.trans (hb2.mono hS.size))) (fun j u hj hne h => GSq.keep hb2 j u hj h) h0
 case done =>
  intro t w3 hS hG
  obtain ⟨va, vc, eb, kb⟩ : ∃ (p1 : Option Addr) (d1 : Nat), t 25 = .slice p1 (allM r ⟨3, 0, 0, r.v, 0, [], 0⟩).length d1 ∧ SpOwn w3 lo p1 d1 r := hG 10 (by decide)
  obtain ⟨T, ho⟩ := kb
  have eT := ho.len
  rw [← eT] at ho eb
  have HO : Hid (MsOwn w3 w2.heap.size (.slice va T.length vc) T (allM r ⟨3, 0, 0, r.v, 0, [], 0⟩)) := hH_ (by rw [← hlo]; exact ho)
  have B3 := hH_ (B2.out.trans (hS.mono B2.out.size))
  have HB3 : Hid (RpB w3 b r u) := hH_ (Bx.kept HB2.out hS)
  have HL3 := hH_ (HL2.out.kept hS)
  have Z3 : Hid (w2.heap.size ≤ w3.heap.size) := hS.size
  clear hG hS S0 ho eT jt CB hlo jT HB2 HL2
  show wpList Tryz.prog _ _ [_] _ w3
  unfold frSq
  simp only [eb, s0_]
  clear eb s0_
  have c8 := HB3.out.cells.2.2.2.2.2.2.2.2.1
  rw [HCV.out] at c8
  cases hmj : dB (maj r.ch.length r.p) with
  | false =>
   have HO3 : Hid (MsOwn w3 w.heap.size (.slice va T.length vc) T (sprL r)) := hH_ (by rw [HSf.out (fun h => dB_not hmj h.1)]; exact HO.out.low Z2.out)
   go_wp2_with fail
   refine (jM _ HB3.out).mono ?_
   rintro e w4 ⟨rfl, rfl⟩
   go_wp2
   go_ret
   exact ⟨_, T, rfl, HO3.out, B3.out⟩
  | true =>
  go_wp2_with fail
  refine (jM _ HB3.out).mono ?_
  rintro e w4 ⟨rfl, rfl⟩
  clear jM
  cases hmi : dB (mine r) with
  | true =>
   go_wp2_with fail
   refine (jN _ HB3.out).mono ?_
   rintro e w4 ⟨rfl, hb⟩
   have HO3 : Hid (MsOwn w4 w.heap.size (.slice va T.length vc) T (sprL r)) := hH_ (by rw [HSf.out (fun h => h.2 (dB_is hmi))]; exact (HO.out.low Z2.out).kept hb)
   have B4 := hH_ (B3.out.trans (hb.mono B3.out.size))
   clear hb
   go_wp2
   go_ret
   exact ⟨_, T, rfl, HO3.out, B4.out⟩
  | false =>
  have HSR : Hid (sprL r = allM r ⟨3, 0, 0, r.v, 0, [], 0⟩ ++ [stdM r 4]) := hH_ (HSt.out ⟨dB_is hmj, dB_not hmi⟩)
  clear HSf HSt
  go_wp2_with fail
  refine (jN _ HB3.out).mono ?_
  rintro e w4 ⟨rfl, hb⟩
  have HB4 : Hid (RpB w4 b r u) := hH_ (Bx.kept HB3.out hb)
  have HL4 := hH_ (HL3.out.kept hb)
  have HO4 := hH_ (HO.out.kept hb)
  have B4 := hH_ (B3.out.trans (hb.mono B3.out.size))
  have Z4 : Hid (w3.heap.size ≤ w4.heap.size) := hb.size
  clear hb HB3 HL3 HO B3 jN c8
  go_wp2_with fail
  refine (jS 4 _ HB4.out HL4.out).mono ?_
  rintro e w5 ⟨v5, rfl, ho, hb⟩
  obtain ⟨pa, pc, rfl, _⟩ := ho.form
  have HU : Hid (OwnsX w5 w4.heap.size (.slice pa r.l.length pc) r.l) := ho
  have HO5 := hH_ (HO4.out.kept hb)
  have B5 := hH_ (B4.out.trans (hb.mono B4.out.size))
  have HTL : Hid (T.length ≤ 5) := (show T.length ≤ 5 from by rw [HO5.out.len]; exact allM_len r _ HP2.out)
  have HC1 : Hid (∀ y ∈ T, ∀ k, y.u.ownBlock = some k → k < w4.heap.size) := hH_ (fun y hy k hk => (HO4.out.logs.l y hy).under k hk)
  have HC2 : Hid (∀ k, (Value.slice va T.length vc).ownBlock = some k → k < w4.heap.size) := hH_ (fun k hk => HO4.out.row.under k hk)
  have HZW : Hid (w2.heap.size ≤ w5.heap.size ∧ w2.heap.size ≤ w4.heap.size) := hH_ (by have := hb.size; have:=Z4.out;have:=Z3.out;omega)
  clear ho hb jS HO4 B4 HB4 HL4
  unfold msA stdM
  simp only
  have htl := HTL.out
  have hzw := HZW.out
  go_wp2_with (
   at_builtin
   refine wpList_pushM w5 rfl (.tmp 38) (.tmp 41) rfl w2.heap.size (.slice va T.length vc) T _ ⟨stdM r 4, pa, pc⟩ (by simp [Act.eval, Act.put]) HO5.out (HU.out.has.low HZW.out.2) w4.heap.size HC1.out HC2.out HU.out.from (by simp [Act.eval, Act.put]) (by omega) (by omega) ?_
   intro v' w6 ho3 hg3)
  have HO6 : Hid (MsOwn w6 w.heap.size v' (T ++ [⟨stdM r 4, pa, pc⟩]) (sprL r)) := hH_ (by rw [HSR.out]; exact ho3.low Z2.out)
  have B6 : Hid (Below w.heap.size w w6) := hH_ (B5.out.grown hg3 B5.out.size (fun q hq => by have := HO5.out.row.from q hq; have:=Z2.out;omega))
  clear ho3 hg3
  go_wp2
  go_ret
  exact ⟨_, rfl, ⟨_, HO6.out⟩, B6.out⟩
noncomputable def sprA (r : Rp) : List Ms := @ite _ (RpOk r) (Classical.propDecidable _) (sprL r) []
open Go.RowKit Go.Sort

structure MsF (lo hi : Nat) (v : Value) (T : List Mx) (W : World) : Prop where
 row : HasM W lo v T
 logs : Logs W lo T
 ap : ∀ x ∈ T, ap v x.u
 top : ∀ k, Bl (v :: T.map Mx.u) k → k < hi
theorem MsF.got {lo hi : Nat} {v : Value} {T : List Mx} {W : World} (h : MsF lo hi v T W) : TeGot W v T := ⟨h.row.sls, fun x hx => (h.logs.l x hx).sls⟩
theorem MsF.low {lo hi : Nat} {v : Value} {T : List Mx} {W : World} (h : MsF lo hi v T W) : ∀ k, Bl (v :: T.map Mx.u) k → lo ≤ k ∧ k < hi := fun k hk => ⟨by
  obtain ⟨y, hy, hk⟩ := hk
  rcases List.mem_cons.1 hy with rfl | hy
  ·
   exact h.row.from k hk
  ·
   obtain ⟨x, hx, rfl⟩ := List.mem_map.1 hy
   exact (h.logs.l x hx).from k hk, h.top k hk⟩
theorem Liv.ms {W : World} {lo hi : Nat} {v : Value} {T : List Mx} (h : MsF lo hi v T W) (ht : hi ≤ W.heap.size) : Liv lo hi (MsF lo hi v T) W :=
 ⟨h, ht, fun W' hW _ => ⟨h.row.off fun k hk => hW k (h.low k (Bl.of (List.mem_cons_self ..) hk)).1 (h.top k (Bl.of (List.mem_cons_self ..) hk)),
  ⟨fun x hx => (h.logs.l x hx).off fun k hk => hW k (h.low k (Bl.of (List.mem_cons_of_mem _ (List.mem_map.2 ⟨x, hx, rfl⟩)) hk)).1 (h.top k (Bl.of (List.mem_cons_of_mem _ (List.mem_map.2 ⟨x, hx, rfl⟩)) hk)), h.logs.ap⟩, h.ap, h.top⟩⟩
theorem MsF.of {W : World} {lo : Nat} {v : Value} {T : List Mx} {L : List Ms} (h : MsOwn W lo v T L) : MsF lo W.heap.size v T W :=
 ⟨h.row.has, h.logs, h.ap, fun k hk => by
  obtain ⟨y, hy, hk⟩ := hk
  rcases List.mem_cons.1 hy with rfl | hy
  ·
   exact h.row.under k hk
  ·
   obtain ⟨x, hx, rfl⟩ := List.mem_map.1 hy
   exact (h.logs.l x hx).under k hk⟩
def kR (r : Rp) : Int := ((1 : Nat) : Int) + (cR r : Int)
theorem kR_nn (r : Rp) : ¬ kR r < 0 := by unfold kR; omega
structure Few (L : List Ms) : Prop where
 n : L.length ≤ 6
 l : ∀ m ∈ L, m.l.length ≤ 1048576
theorem Few.each {L : List Ms} (h : Few L) {T : List Mx} (i : T.map (·.m) = L) : ∀ x ∈ T, x.m.l.length ≤ 1048576 := fun x hx => h.l _ (by rw [← i]; exact List.mem_map.2 ⟨x, hx, rfl⟩)
theorem Few.len {L : List Ms} (h : Few L) {T : List Mx} (i : T.map (·.m) = L) : T.length ≤ 6 := by have := h.n; rw [← i, List.length_map] at this; exact this
theorem sum_few (l : List Nat) (h : ∀ x ∈ l, x ≤ 1048576) : l.sum ≤ l.length * 1048576 := by
 induction l with
 | nil => simp
 | cons a t ih =>
  have h1 := h a (List.mem_cons_self ..)
  have h2 := ih fun x hx => h x (List.mem_cons_of_mem _ hx)
  simp only [List.sum_cons, List.length_cons]
  omega
theorem allM_each {r : Rp} {m : Ms} (h : m.l.length ≤ 1048576) : ∀ x ∈ allM r m, x.l.length ≤ 1048576 := fun x hx => by
 unfold allM at hx
 obtain ⟨q, _, rfl⟩ := List.mem_map.1 hx
 exact h
theorem sprA_few (r : Rp) (hl : r.l.length ≤ 1048576) : Few (sprA r) := by
 by_cases ho : RpOk r
 ·
  have e : sprA r = sprL r := by unfold sprA; rw [if_pos ho]
  rw [e]
  have n1 := fun m => allM_len r m ho.p
  unfold sprL
  split
  ·
   exact ⟨Nat.le_trans (n1 _) (by decide), allM_each hl⟩
  ·
   split
   ·
    exact ⟨by simp, fun m hm => nomatch hm⟩
   ·
    split
    ·
     refine ⟨by have := n1 ⟨3, 0, 0, r.v, 0, [], 0⟩; simp only [List.length_append, List.length_singleton]; omega, fun m hm => ?_⟩
     rcases List.mem_append.1 hm with hm | hm
     ·
      exact allM_each (by simp) m hm
     ·
      rw [List.mem_singleton.1 hm]
      exact hl
    ·
     exact ⟨by have := n1 ⟨3, 0, 0, r.v, 0, [], 0⟩; simp only [List.length_append, List.length_nil]; omega, fun m hm => by rw [List.append_nil] at hm; exact allM_each (by simp) m hm⟩
 ·
  have e : sprA r = [] := by unfold sprA; rw [if_neg ho]
  rw [e]
  exact ⟨by simp, fun m hm => nomatch hm⟩
open Go.RowKit Go.Sort Go.Shelf

attribute [local go_sem] Oper.semAt_some
def KeepL (B : Nat) (W W' : World) : Prop := ∀ k, k < B → W'.heap[k]? = W.heap[k]?
theorem KeepL.trans {B : Nat} {X Y Z : World} (h : KeepL B X Y) (h' : KeepL B Y Z) : KeepL B X Z := fun k hk => (h' k hk).trans (h k hk)
theorem KeepL.book {B : Nat} {w : World} (hB : B ≤ w.heap.size) (W : World) (l : Nat) (o o' : Obj) (hl : w.heap.size ≤ l) (_ : W.heap[l]? = some o) (_ : o.isCells = false) (_ : o.isWalk = false) : KeepL B W (W.putObj l o') :=
 fun k hk => World.putObj_heap_other (by omega)
theorem valIter (n : Nat) (hn : 1 ≤ n) (B g cap : Nat) (L : List Int) (l Bv : Nat) (J Jx : List Int → World → Prop) (W : World) (hJ : AbidesFrom W.heap.size J) (hg : g < B) (hlen : L.length ≤ 1048576)
  (hY : ∀ pre x W1, J pre W1 → pre.length < L.length → YieldAt Fence.wide (n - 1) Tryz.prog l #[.int .i64 x] W1 fun e W' =>
   (e = .returned (.bool true) ∧ J (pre ++ [x]) W' ∧ KeepL B W1 W') ∨ (e = .returned (.bool false) ∧ Jx (pre ++ [x]) W'))
  (hBv : W.cell? ⟨Bv, 0, none⟩ = some (.slice (some ⟨g, 0, none⟩) L.length cap)) (hc : ∀ j (h : j < L.length), W.cell? ⟨g, j, none⟩ = some (.int .i64 L[j])) (h0 : J [] W) :
  Calls Tryz.prog 165 #[.func (.yield l) #[] #[], .pointer (some ⟨Bv, 0, none⟩)] W fun e W' => (∃ v, e = .returned v) ∧
   ((∃ ys, ys = L ∧ J ys W') ∨ (∃ pre, pre <+: L ∧ Jx pre W')) := by
 have hY' : Hid (∀ pre x W1, J pre W1 → pre.length < L.length → YieldAt Fence.wide (n - 1) Tryz.prog l #[.int .i64 x] W1 fun e W' => (e = .returned (.bool true) ∧ J (pre ++ [x]) W' ∧ KeepL B W1 W') ∨ (e = .returned (.bool false) ∧ Jx (pre ++ [x]) W')) := hY
 have HC : Hid (∀ j (h : j < L.length), W.cell? ⟨g, j, none⟩ = some (.int .i64 L[j])) := hc
 have J0 : Hid (J [] W.drew) := hJ [] W W.drew none h0 ⟨rfl, rfl, rfl, Nat.le_refl _, fun _ _ _ => rfl⟩ (fun r e => by cases e)
 have J1 : Hid (J [] W) := h0
 clear hY hc h0 hJ
 go_enter Tryz.func165, Tryz.ntmps165
 go_wp2
 refine (wpIn_wide (n := n)).1 ?_
 gi_loopw [7] (fun i wr => ∃ k : Nat, k ≤ L.length ∧ i = .int .i64 k ∧ Hid (J (L.take k) wr) ∧ Hid (wr.heap[g]? = W.heap[g]?)) (fun i _ => L.length - (intOf i).toNat)
 case atStart => exact ⟨0, Nat.zero_le _, rfl, by rw [List.take_zero]; first | exact J1 | exact J0, (show Hid _ from rfl)⟩
 case round =>
  obtain ⟨k, hk, rfl, hJs, hgg⟩ := hrel
  by_cases hlt : k < L.length
  ·
   have hc0 : wr.cell? ⟨g, k, none⟩ = some (.int .i64 L[k]) := (World.cell?_of_block (a := ⟨g, k, none⟩) hgg.out).trans (HC.out k hlt)
   obtain ⟨fn, tmps, assign, body, hy, hR⟩ := hY'.out _ L[k] wr hJs.out (by rw [List.length_take]; omega)
   have HT : Hid (L.take (k + 1) = L.take k ++ [L[k]]) := hH_ (List.take_succ_eq_append_getElem hlt)
   have hR' : RoundIn Fence.wide (n - 1) Tryz.prog l fn tmps assign body wr fun e W' => (e = .returned (.bool true) ∧ Hid (J (L.take (k + 1)) W') ∧ Hid (KeepL B wr W')) ∨ (e = .returned (.bool false) ∧ Hid (Jx (L.take (k + 1)) W')) := by
    rw [HT.out]; exact hR
   clear hR hJs HT hk
   gi_wp2
   refine hR'.mono ?_
   rintro e W3 (⟨rfl, hJ3, hk3⟩ | ⟨rfl, hJx3⟩)
   ·
    gi_wp2
    go_roundw
    case rel => exact ⟨k + 1, hlt, by go_num, hJ3, (show Hid _ from (hk3.out g hg).trans hgg.out)⟩
    case measure => simp [intOf]; omega
   ·
    gi_wp2
    refine bodyPost_ret (results_none rfl _ _ _) rfl ?_
    exact ⟨⟨_, rfl⟩, .inr ⟨_, List.take_prefix _ _, hJx3.out⟩⟩
  ·
   obtain rfl : k = L.length := by omega
   have HJ : Hid (J L wr) := by
    have := hJs.out
    rw [List.take_of_length_le (Nat.le_refl _)] at this
    exact this
   gi_wp2
   go_end0
   exact ⟨⟨_, rfl⟩, .inl ⟨_, rfl, HJ.out⟩⟩
theorem implVals (a : Option Addr) (n c : Nat) (w : World) :
  Calls Tryz.prog 149 #[.slice a n c] w fun e w' => e = .returned (.func (.func 165) #[] #[.pointer (some ⟨w.heap.size, 0, none⟩)]) ∧ w' = w.alloc (.cells #[.slice a n c] 25) := by
 go_enter Tryz.func149, Tryz.ntmps149
 go_wp2
 go_ret
 exact ⟨rfl, rfl⟩
theorem vals_stops (n : Nat) (hn : 1 ≤ n) (B g cap : Nat) (L : List Int) (Bv : Nat) (w : World) (hg : g < B) (hB : B ≤ w.heap.size) (hBv : Bv < w.heap.size) (hlen : L.length ≤ 1048576)
  (hv : w.cell? ⟨Bv, 0, none⟩ = some (.slice (some ⟨g, 0, none⟩) L.length cap)) (hc : ∀ j (h : j < L.length), w.cell? ⟨g, j, none⟩ = some (.int .i64 L[j])) :
  SeqStopsK Fence.wide n Tryz.prog 165 #[.pointer (some ⟨Bv, 0, none⟩)] (fun x : Int => #[Value.int .i64 x]) (KeepL B) (fun ys => ys = L) (fun pre => pre <+: L) L.length w := fun l J Jx W hW hJ _ hY h0 =>
 callsIn_wide.2 (valIter n hn B g cap L l Bv J Jx W hJ hg hlen hY ((hW.cell (p := ⟨Bv, 0, none⟩) hBv).trans hv) (fun j h => (hW.cell (p := ⟨g, j, none⟩) (by show g < w.heap.size; omega)).trans (hc j h)) h0)
structure ApI (w : World) (S : Nat) (W : World) (v : Value) (l : List Int) : Prop where
 box : Boxed W S 25 v
 own : OwnsN W w.heap.size v l
 low : Below w.heap.size w W
theorem cellsN_is (l : List Int) : cellsE intE l = l.map (Value.int .i64) := by
 induction l with
 | nil => rfl
 | cons a t ih => rw [cellsE_cons, ih]; rfl
theorem ApI.push {w : World} {S : Nat} {W w1 : World} {v v' : Value} {l l' : List Int} (h : ApI w S W v l) (hS : w.heap.size ≤ S) (ho : OwnsN w1 w.heap.size v' l') (hg : W.grownBy w1 v.ownBlock) :
  (w1.cell? ⟨S, 0, none⟩ = some v ∧ w1.frozen? ⟨S, 0, none⟩ = false) ∧ ApI w S (w1.setCell ⟨S, 0, none⟩ v') v' l' ∧ KeepsOthers W (w1.setCell ⟨S, 0, none⟩ v') ∧ KeepL w.heap.size W (w1.setCell ⟨S, 0, none⟩ v') := by
 have hne : some S ≠ v.ownBlock := h.box.not_row (by decide) h.own
 have hb1 : Boxed w1 S 25 v := h.box.kept hg hne
 have ko : KeepsOthers W w1 := KeepsOthers.of_grownBy hg fun j o ej hj => by
  rcases h.own.2 with ⟨rfl, _⟩ | ⟨g, cap, cur, rfl, _, hgb, _⟩
  ·
   simp [Value.ownBlock] at ej
  ·
   obtain rfl : g = j := by simpa [Value.ownBlock] using ej
   rw [hgb] at hj; cases hj; rfl
 have lo : Below w.heap.size w w1 := h.low.grown hg h.low.size (fun k ek => OwnsE.from h.own k ek)
 have lo2 := lo.setCell (p := ⟨S, 0, none⟩) (by show w.heap.size ≤ S; exact hS) v'
 refine ⟨⟨hb1.cell, hb1.frozen⟩, ⟨hb1.set v', ?_, lo2⟩, ko.trans (KeepsOthers.setCell _ _ _), fun k hk => (lo2.block k hk).trans (h.low.block k hk).symm⟩
 exact World.ownsRow.kept ho (grownBy_setCell' w1 S v') (.inr (hb1.not_row (by decide) ho).symm)
theorem ApI.form {w : World} {B : Nat} {v : Value} {l : List Int} (h : OwnsN w B v l) : ∃ a cap, v = .slice a l.length cap := by
 rcases h.2 with ⟨rfl, h0⟩ | ⟨g, cap, cur, rfl, _⟩
 ·
  exact ⟨none, 0, by rw [h0]⟩
 ·
  exact ⟨_, cap, rfl⟩
theorem implApp (g cap : Nat) (L : List Int) (Bv : Nat) (w : World) (hg : g < w.heap.size) (hBv : Bv < w.heap.size) (hlen : L.length ≤ 1048576)
  (hv : w.cell? ⟨Bv, 0, none⟩ = some (.slice (some ⟨g, 0, none⟩) L.length cap)) (hc : ∀ j (h : j < L.length), w.cell? ⟨g, j, none⟩ = some (.int .i64 L[j])) :
  Calls Tryz.prog 176 #[.slice none 0 0, .func (.func 165) #[] #[.pointer (some ⟨Bv, 0, none⟩)]] w fun e w' => ∃ v, e = .returned v ∧ OwnsN w' w.heap.size v L ∧ Below w.heap.size w w' := by
 obtain ⟨i0, hi, hz0, hz1, hz2⟩ := info_parts Tryz.infoN2
 have S0 : Hid (ApI w w.heap.size (w.alloc (.cells #[.slice none 0 0] 25)) (.slice none 0 0) []) := ⟨Boxed.new w 25 _, OwnsE.none _ _, (Below.refl _ w).alloc (Nat.le_refl _) _⟩
 have hst := fun n hn => vals_stops n hn w.heap.size g cap L Bv (w.alloc (.cells #[.slice none 0 0] 25)) hg (by simp) (by simp; omega) hlen (by rw [World.cell?_alloc_old _ _ _ (by show Bv ≠ w.heap.size; omega)]; exact hv) (fun j h => by rw [World.cell?_alloc_old _ _ _ (by show g ≠ w.heap.size; omega)]; exact hc j h)
 refine (callsIn_wide (n := 5)).1 ?_
 refine callsIn_of_wp_marks Tryz.func176 rfl trivial ?_ rfl
 simp only [Tryz.ntmps176, List.size_toArray, List.length_cons, List.length_nil, Nat.reduceAdd, Nat.reduceSub, Array.replicate_succ, Array.replicate_zero, List.push_toArray, List.append_toArray, List.nil_append, List.cons_append]
 refine wpIn_wide.2 ?_
 clear hv hc
 go_wp2
 refine (wpIn_wide (n := 5)).1 ?_
 refine wpIn_rangeFunc_ownG (α := Int) rfl (by decide) (gf := 165) (lb := #[.pointer (some ⟨Bv, 0, none⟩)]) rfl trivial (enters_of Tryz.func165 (by kernel_rfl) rfl)
  (hst 4 (by decide)) KeepL.trans (KeepL.book (by simp)) (Below.refl _ _) (fun _ => rfl)
  (fun pre W => (∃ v, Boxed W w.heap.size 25 v ∧ W.ownsRow w.heap.size 2 1 v pre.length (cellsE intE pre) ∧ True) ∧ Below w.heap.size w W)
  (fun c pre W => False)
  (OwnFrom.and (Own.from (holdsRow_own w.heap.size w.heap.size 25 2 1 (fun pre : List Int => pre.length) (fun pre => cellsE intE pre) (fun pre _ => True)) _) (ownFrom_below (Nat.le_refl _) (by simp)))
  (fun c => ownFrom_pure _ (fun pre : List Int => False))
  ⟨⟨_, S0.out.box, S0.out.own, trivial⟩, S0.out.low⟩
  (fun x => { tmps := #[.slice none 0 0, .func (.func 165) #[] #[.pointer (some ⟨Bv, 0, none⟩)], .pointer (some ⟨w.heap.size, 0, none⟩), undef, .slice none 0 0, .int .i64 x, .func (.func 165) #[] #[.pointer (some ⟨Bv, 0, none⟩)], .int .i64 x, undef, undef, undef, undef, undef], defers := [] }) ?assign ?body ?done ?stop
 case assign =>
  intro lo x W K hK
  gi_wp2
  exact hK
 case body =>
  rintro lo pre x W ⟨⟨v, hv, hrow, _⟩, hB⟩ hlt
  have S1 : Hid (ApI w w.heap.size W v pre) := ⟨hv, hrow, hB⟩
  obtain ⟨va, vc, rfl⟩ := ApI.form S1.out.own
  have cS := hv.cell
  have hpl : pre.length ≤ 1048576 := by omega
  clear hv hrow hB hst hlt
  gi_wp2_with (
   gi_at_builtin
   refine wpListIn_append_own _ rfl (.tmp 8) (.tmp 10) 25 rfl w.heap.size 2 i0 (.int .i64 0) 1 8 Tryz.underlying25 hi hz0 hz1 hz2 rfl (by decide) (.slice va pre.length vc) pre.length (cellsE intE pre) rfl (OwnsE.alloc S1.out.own _) ⟨W.heap.size, 0, none⟩ 1 1 [.int .i64 x] rfl rfl (cell_one_new _ _ _) (by intro u hu; simp at hu; subst hu; rfl) (by unfold maxLen; omega) (by omega) (by have := S1.out.low.size; simp; omega) ?_
   intro v' w2 ho hg hnil
   have hg2 : Hid (W.grownBy w2 (Value.slice va pre.length vc).ownBlock) := ⟨hg.os, hg.tape, hg.output, by have := hg.size; simp at this; omega, fun k hk hne => by rw [hg.block k (by simp; omega) hne]; exact Below.heap_alloc _ _ _ hk⟩
   have ho2 : Hid (OwnsN w2 w.heap.size v' (pre ++ [x])) := (show w2.ownsRow _ _ _ _ _ _ from by rw [cellsE_append, cellsE_single, List.length_append]; exact ho)
   clear ho hg hnil
   obtain ⟨a9, n9, c9, rfl⟩ : ∃ a n c, v' = .slice a n c := by
    obtain ⟨a9, c9, e9⟩ := ApI.form ho2.out
    exact ⟨a9, _, c9, e9⟩
   obtain ⟨⟨c8, f8⟩, hS2, hK2, hN2⟩ := S1.out.push (Nat.le_refl _) ho2.out hg2.out
   have S2 : Hid (ApI w w.heap.size (w2.setCell ⟨w.heap.size, 0, none⟩ (.slice a9 n9 c9)) (.slice a9 n9 c9) (pre ++ [x])) := hS2
   have K2 : Hid (KeepsOthers W (w2.setCell ⟨w.heap.size, 0, none⟩ (.slice a9 n9 c9))) := hK2
   have N2 : Hid (KeepL w.heap.size W (w2.setCell ⟨w.heap.size, 0, none⟩ (.slice a9 n9 c9))) := hN2
   clear hS2 hK2 hN2)
  exact ⟨K2.out.from _, N2.out, ⟨_, S2.out.box, S2.out.own, trivial⟩, S2.out.low⟩
 case done =>
  rintro D ys W hD rfl ⟨⟨v, hv, hrow, _⟩, hB⟩ hK
  have hD' : w.heap.size + 1 ≤ D := by simpa using hD
  have ho : OwnsN W w.heap.size v ys := hrow
  obtain ⟨va, vc, rfl⟩ := ApI.form ho
  have cS := hv.cell
  have HO : Hid (OwnsN W w.heap.size (.slice va ys.length vc) ys) := ho
  have HB : Hid (Below w.heap.size w W) := hB
  have HK : Hid (W.heap[D]? = some (.deferred (some []))) := hK
  clear hrow ho hB hv hst S0
  go_wp2
  refine ⟨by simp, .inl ⟨_, _, rfl, run_takeDeferred HK.out, ?_⟩⟩
  refine ⟨_, results_tmp rfl _ _ _, _, rfl, ?_, HB.out.trans (belowK_b (w := w) (Nat.le_refl _) W D _ _ (by omega) HK.out rfl rfl)⟩
  exact World.ownsRow.kept HO.out (grownBy_putObj' W D (.deferred none)) (.inr (fun e => by
   rcases HO.out.2 with ⟨e0, _⟩ | ⟨g', cap', cur, e0, _, hgb, _⟩
   ·
    rw [e0] at e; cases e
   ·
    rw [e0] at e
    obtain rfl : D = g' := by simpa [Value.ownBlock] using e.symm
    rw [HK.out] at hgb
    cases hgb))
 case stop =>
  rintro D c pre W hD hpre hF hK
  exact hF.elim
theorem implColl (g cap : Nat) (L : List Int) (Bv : Nat) (w : World) (hg : g < w.heap.size) (hBv : Bv < w.heap.size) (hlen : L.length ≤ 1048576)
  (hv : w.cell? ⟨Bv, 0, none⟩ = some (.slice (some ⟨g, 0, none⟩) L.length cap)) (hc : ∀ j (h : j < L.length), w.cell? ⟨g, j, none⟩ = some (.int .i64 L[j])) :
  Calls Tryz.prog 163 #[.func (.func 165) #[] #[.pointer (some ⟨Bv, 0, none⟩)]] w fun e w' => ∃ v, e = .returned v ∧ OwnsN w' w.heap.size v L ∧ Below w.heap.size w w' := by
 have j1 := implApp g cap L Bv w hg hBv hlen hv hc
 clear hv hc
 go_enter Tryz.func163, Tryz.ntmps163
 go_wp2_with fail
 refine j1.mono ?_
 rintro e w2 ⟨v, rfl, ho, hb⟩
 have HO : Hid (OwnsN w2 w.heap.size v L) := ho
 have HB : Hid (Below w.heap.size w w2) := hb
 clear ho hb j1
 go_wp2
 go_ret
 exact ⟨_, rfl, HO.out, HB.out⟩
open Go.RowKit Go.Sort Go.Shelf

def srtI (L : List Int) : List Int := L.mergeSort fun x y => decide (x ≤ y)
theorem srtI_len (L : List Int) : (srtI L).length = L.length := by unfold srtI; rw [List.length_mergeSort]
theorem srtI_perm (L : List Int) : (srtI L).Perm L := List.mergeSort_perm _ _
theorem srtI_up (L : List Int) : (srtI L).Pairwise (· ≤ ·) := by
 have h := List.pairwise_mergeSort (le := fun x y : Int => decide (x ≤ y)) (fun a b c h1 h2 => by simp at *; omega) (fun a b => by simp; omega) L
 unfold srtI
 simpa using h
theorem cntF_srt (L : List Int) (n : Int) : cntF (srtI L) n = cntF L n := by
 unfold cntF
 exact ((srtI_perm L).filter _).length_eq
def midI (L : List Int) : Int := (srtI L).getD (L.length / 2) 0
theorem mid_maj {L : List Int} {p : Int} (hp : pOk p) (hl : (L.length : Int) = p) (n : Int) : maj (cntF L n) p ↔ n ≤ midI L := by
 have hs := srtI_len L
 have hu := srtI_up L
 rw [← cntF_srt]
 unfold midI
 generalize srtI L = s at hs hu
 rw [← hs]
 rw [← hs] at hl
 unfold maj cntF
 clear hs
 rcases hp with h | h | h
 ·
  obtain ⟨a, rfl⟩ : ∃ a, s = [a] := by
   match s, (show s.length = 1 by omega) with
   | [a], _ => exact ⟨a, rfl⟩
  subst h
  by_cases h1 : n ≤ a <;> simp [List.filter, h1]
 ·
  obtain ⟨a, b, c, rfl⟩ : ∃ a b c, s = [a, b, c] := by
   match s, (show s.length = 3 by omega) with
   | [a, b, c], _ => exact ⟨a, b, c, rfl⟩
  subst h
  simp at hu
  by_cases h1 : n ≤ a <;> by_cases h2 : n ≤ b <;> by_cases h3 : n ≤ c <;> simp [List.filter, h1, h2, h3] <;> omega
 ·
  obtain ⟨a, b, c, d, e, rfl⟩ : ∃ a b c d e, s = [a, b, c, d, e] := by
   match s, (show s.length = 5 by omega) with
   | [a, b, c, d, e], _ => exact ⟨a, b, c, d, e, rfl⟩
  subst h
  simp at hu
  by_cases h1 : n ≤ a <;> by_cases h2 : n ≤ b <;> by_cases h3 : n ≤ c <;> by_cases h4 : n ≤ d <;> by_cases h5 : n ≤ e <;> simp [List.filter, h1, h2, h3, h4, h5] <;> omega
theorem mid_mem {L : List Int} (h : 0 < L.length) : midI L ∈ L := by
 have hs := srtI_len L
 have hj : L.length / 2 < (srtI L).length := by rw [hs]; omega
 unfold midI
 rw [List.getD_eq_getElem?_getD, List.getElem?_eq_getElem hj]
 exact (srtI_perm L).subset (List.getElem_mem hj)
theorem cmF_mid {L : List Int} {p c : Int} (hp : pOk p) (hl : (L.length : Int) = p) (hc : 0 ≤ c) : ∀ N : Nat, cmF L p c N = max c (min (midI L) N)
 | 0 => by unfold cmF; omega
 | N + 1 => by
  have ih := cmF_mid hp hl hc N
  unfold cmF
  rw [mid_maj hp hl]
  split
  ·
   rename_i hh
   omega
  ·
   rename_i hh
   rw [ih]
   omega
theorem cmF_is {L : List Int} {p c : Int} {N : Nat} (hp : pOk p) (hl : (L.length : Int) = p) (hc : 0 ≤ c) (hx : ∀ x ∈ L, x ≤ (N : Int)) : cmF L p c N = max c (midI L) := by
 rw [cmF_mid hp hl hc]
 have : midI L ≤ (N : Int) := hx _ (mid_mem (by rcases hp with h | h | h <;> omega))
 omega
theorem implSorted (g cap : Nat) (L : List Int) (Bv : Nat) (w : World) (hg : g < w.heap.size) (hBv : Bv < w.heap.size) (h0 : 0 < L.length) (hlen : L.length ≤ 1048576)
  (hv : w.cell? ⟨Bv, 0, none⟩ = some (.slice (some ⟨g, 0, none⟩) L.length cap)) (hc : ∀ j (h : j < L.length), w.cell? ⟨g, j, none⟩ = some (.int .i64 L[j])) :
  Calls Tryz.prog 148 #[.func (.func 165) #[] #[.pointer (some ⟨Bv, 0, none⟩)]] w fun e w' => ∃ a c, e = .returned (.slice a L.length c) ∧ OwnsN w' w.heap.size (.slice a L.length c) (srtI L) ∧ Below w.heap.size w w' := by
 have j1 := implColl g cap L Bv w hg hBv hlen hv hc
 clear hv hc
 go_enter Tryz.func148, Tryz.ntmps148
 go_wp2_with fail
 refine j1.mono ?_
 rintro e w2 ⟨v, rfl, ho, hb⟩
 rcases ho.2 with ⟨e0, e1⟩ | ⟨g2, c2, cur, rfl, hbase, hgb, r1, r2, r3, r4⟩
 ·
  omega
 have ht : cur.toList.take L.length = L.map (Value.int .i64) := by rw [← cellsN_is]; have e : L.length * intE.k = L.length := Nat.mul_one _; rw [e] at r4; exact r4
 have HH : Holds (Value.int .i64) w2 g2 0 L.toArray := holds_of_blockI hgb ht
 have j2 := Tryz.slices_Sort_int g2 0 c2 L w2 HH (Array.getElem?_eq_some_iff.1 hgb).1 (by omega)
 have HR : Hid (∀ n os, OwnsN (grow (putRow (Value.int .i64) (Sort.ahead w2 n) g2 0 (srtI L).toArray) os) w.heap.size (.slice (some ⟨g2, 0, none⟩) L.length c2) (srtI L)) := (show ∀ _ _, _ from fun n os => by
  have := ownsRow_sortedI (n := n) (os := os) (ts := srtI L) (srtI_len L) hbase hgb r1 r2 r3
  unfold OwnsN OwnsE
  rw [cellsN_is, srtI_len]
  exact this)
 have HB : Hid (∀ n os, Below w.heap.size w (grow (putRow (Value.int .i64) (Sort.ahead w2 n) g2 0 (srtI L).toArray) os)) := hH_ (fun n os => hb.grown (grownBy_sortedI _) hb.size (fun j hj => by cases hj; exact hbase))
 clear ho hb j1 HH ht hgb r1 r2 r3 r4
 go_wp2_with fail
 refine j2.mono ?_
 rintro e w3 ⟨rfl, n, os, rfl⟩
 have h1 := HR.out n os
 have h2 := HB.out n os
 unfold srtI at h1 h2
 generalize grow (putRow (Value.int .i64) (Sort.ahead w2 n) g2 0 (L.mergeSort fun x y => decide (x ≤ y)).toArray) os = w4 at h1 h2 ⊢
 clear j2 HR HB
 go_wp2
 go_ret
 exact ⟨_, _, rfl, h1, h2⟩
open Go.RowKit Go.Sort Go.Shelf

theorem then_gen {K : Act → World → Prop} {Q : Exit → Act → World → Prop} {x : Exit} {a : Act} {w : World} (h : ∀ W, W = w → Exit.then K Q x a W) : Exit.then K Q x a w := h _ rfl
theorem cntd_ok (r : Rp) : (cntd r).ok = r.ok.set r.id.toNat (r.l.length : Int) := rfl
theorem implCnt (r : Rp) (u : Rv) (b B : Nat) (w : World) (hB : RpB w b r u) (hO : HasN w B u.ok r.ok) (hl : ∃ a c, u.l = .slice a r.l.length c) (hne : ∀ k, u.ok.ownBlock = some k → k ≠ b) (hp : pOk r.p) (hol : (r.ok.length : Int) = r.p) (hid : 0 ≤ r.id ∧ r.id < r.p) (hc : 0 ≤ r.c) (hx : ∀ x ∈ r.ok, x ≤ (r.l.length : Int)) (hlen : r.l.length ≤ 1048576) :
  Calls Tryz.prog 120 #[.pointer (some ⟨b, 0, none⟩)] w fun e w' => e = .returned (.tuple #[]) ∧ RpB w' b (cntd r) u ∧ HasN w' B u.ok (cntd r).ok ∧ ChS (fun k => k = b ∨ u.ok.ownBlock = some k) w w' := by
 obtain ⟨la, lc, hul⟩ := hl
 have h0 : 0 < r.ok.length := by rcases hp with h | h | h <;> omega
 obtain ⟨g, cap, huo, hgB, hgz⟩ : ∃ g cap, u.ok = .slice (some ⟨g, 0, none⟩) r.ok.length cap ∧ B ≤ g ∧ g < w.heap.size := by
  rcases hO with ⟨_, h1⟩ | ⟨g, cap, cur, h1, h2, h3, _⟩
  ·
   rw [h1] at h0; exact absurd h0 (by simp)
  ·
   exact ⟨g, cap, h1, h2, (Array.getElem?_eq_some_iff.1 h3).1⟩
 have hgb : g ≠ b := hne g (by rw [huo]; rfl)
 have HB : Hid (RpB w b r u) := hB
 rw [huo] at hO
 have HO : Hid (HasN w B (.slice (some ⟨g, 0, none⟩) r.ok.length cap) r.ok) := hO
 obtain ⟨i, hi⟩ : ∃ i : Nat, (i : Int) = r.id := ⟨r.id.toNat, by omega⟩
 have hit : r.id.toNat = i := by omega
 have hil : i < r.ok.length := by omega
 have HW1 : Hid (RpB (w.setCell ⟨g, i, none⟩ (.int .i64 (r.l.length : Int))) b r u) := (show Bx _ _ _ _ from Bx.other HB.out _ _ (fun e => hgb (by first | exact e | exact e.symm)))
 have HO1 : Hid (HasN (w.setCell ⟨g, i, none⟩ (.int .i64 (r.l.length : Int))) B (.slice (some ⟨g, 0, none⟩) r.ok.length cap) (r.ok.set i (r.l.length : Int))) := (show Hid _ from by
  have := HasE.put HO.out hil (i := 0) (by decide) (.int .i64 (r.l.length : Int)) (r.l.length : Int) rfl
  rw [show i * intE.k + 0 = i from by show i * 1 + 0 = i; omega] at this
  exact this)
 have C1 : Hid (ChS (fun k => k = b ∨ u.ok.ownBlock = some k) w (w.setCell ⟨g, i, none⟩ (.int .i64 (r.l.length : Int)))) := hH_ ((ChS.refl _ _).set _ _ (.inr (by rw [huo]; rfl)))
 have q0 := HB.out.cells.1
 have q5 := HB.out.cells.2.2.2.2.2.1
 have q7 := HB.out.cells.2.2.2.2.2.2.2.1
 rw [hul] at q5
 rw [huo] at q7
 rw [← hi] at q0
 have qf : w.frozen? ⟨g, i, none⟩ = false := by
  rcases HO.out with ⟨e, _⟩ | ⟨g', cap', cur, e, _, hh, _⟩
  ·
   cases e
  ·
   obtain rfl : g = g' := by injection e with e; injection e with e; injection e with e
   simp [World.frozen?, hh]
 have qi := hasN_at HO.out i hil
 obtain ⟨m, hm⟩ : ∃ m : Nat, m = r.ok.length / 2 := ⟨_, rfl⟩
 have HM : Hid (Int.tdiv r.p 2 = (m : Int) ∧ wrap64 (m : Int) = (m : Int) ∧ m < r.ok.length) := (show _ ∧ _ ∧ _ from by
  have h2 : m ≤ 2 := by rcases hp with h | h | h <;> omega
  refine ⟨?_, by unfold wrap64; omega, by omega⟩
  rcases hp with h | h | h
  ·
   obtain rfl : m = 0 := by omega
   rw [h]; decide
  ·
   obtain rfl : m = 1 := by omega
   rw [h]; decide
  ·
   obtain rfl : m = 2 := by omega
   rw [h]; decide)
 have HMM : Hid (m = r.ok.length / 2) := hm
 have HP : Hid (pOk r.p ∧ (r.ok.length : Int) = r.p ∧ 0 ≤ r.c ∧ r.l.length ≤ 1048576 ∧ ∀ x ∈ r.ok, x ≤ (r.l.length : Int)) := ⟨hp, hol, hc, hlen, hx⟩
 clear hB hO hm hp hol hc hx hlen
 go_enter Tryz.func120, Tryz.ntmps120
 go_upto_region 0 with fail
 go_region
 clear q0 q5 q7 qf qi
 refine then_gen ?_
 intro W1 hW1
 have hl : Below (w.setCell ⟨g, i, none⟩ (.int .i64 (r.l.length : Int))).heap.size (w.setCell ⟨g, i, none⟩ (.int .i64 (r.l.length : Int))) W1 := by
  rw [hW1]
  exact ⟨rfl, rfl, rfl, Nat.le_refl _, fun _ _ => rfl⟩
 have hz1 : w.heap.size ≤ W1.heap.size := by have := hl.size; simpa using this
 have HB2 : Hid (RpB W1 b r u) := hH_ (Bx.kept HW1.out hl)
 have HO2 := hH_ (HO1.out.kept hl)
 have C2 := hH_ (C1.out.trans (ChS.of_below hl))
 clear hW1 hl HW1 HO1 C1 HB HO
 have q7 := HB2.out.cells.2.2.2.2.2.2.2.1
 rw [huo] at q7
 have j2 := implSorted g cap (r.ok.set i (r.l.length : Int)) W1.heap.size (W1.alloc (.cells #[.slice (some ⟨g, 0, none⟩) r.ok.length cap] 25)) (by simp; omega) (by simp) (by rw [List.length_set]; exact h0) (by rw [List.length_set]; have := HP.out.1; have := HP.out.2.1; rcases HP.out.1 with h | h | h <;> omega) (by rw [List.length_set]; exact (Boxed.new W1 25 _).cell) (fun j h => by rw [World.cell?_alloc_old _ _ _ (by show g ≠ W1.heap.size; omega)]; exact hasN_at HO2.out j h)
 rw [List.length_set] at j2
 go_wp2_with fail
 refine (implVals _ _ _ _).mono ?_
 rintro e w2 ⟨rfl, rfl⟩
 go_wp2_with fail
 refine j2.mono ?_
 rintro e w3 ⟨a3, c3, rfl, ho, hb⟩
 have hb3 : Below W1.heap.size W1 w3 := ((Below.refl _ W1).alloc (Nat.le_refl _) _).trans (hb.mono (by simp))
 rcases ho.2 with ⟨e0, e1⟩ | ⟨g3, c3', cur, e0, hbase, hgb3, r1, r2, r3, r4⟩
 ·
  rw [srtI_len, List.length_set] at e1; omega
 obtain ⟨rfl⟩ : a3 = some ⟨g3, 0, none⟩ := by injection e0
 have hmi : m < (srtI (r.ok.set i (r.l.length : Int))).length := by rw [srtI_len, List.length_set]; exact HM.out.2.2
 have HMD : Hid (midI (r.ok.set i (r.l.length : Int)) = (srtI (r.ok.set i (r.l.length : Int)))[m]) := (show _ = _ by
  unfold midI
  rw [List.length_set, ← HMM.out, List.getD_eq_getElem?_getD, List.getElem?_eq_getElem hmi]
  rfl)
 have q3 := ownsN_at ho m hmi
 have HB4 : Hid (RpB w3 b r u) := hH_ (Bx.kept HB2.out hb3)
 have HO4 := hH_ (HO2.out.kept hb3)
 have C4 := hH_ (C2.out.trans (ChS.of_below hb3))
 clear q7 j2 ho hb hb3 e0 hgb3 r1 r2 r3 r4 hbase HB2 HO2 C2
 rw [← HMD.out] at q3
 have hmd : (cntd r).c = max r.c (midI (r.ok.set i (r.l.length : Int))) := by
  unfold cntd
  simp only
  rw [hit]
  refine cmF_is HP.out.1 (by rw [List.length_set]; exact HP.out.2.1) HP.out.2.2.1 (fun x hx => ?_)
  rcases List.mem_or_eq_of_mem_set hx with h | h
  ·
   exact HP.out.2.2.2.2 x h
  ·
   rw [h]; exact Int.le_refl _
 generalize midI (r.ok.set i (r.l.length : Int)) = md at q3 hmd HMD
 have HCC : Hid ((cntd r).c = max r.c md) := hmd
 clear hmd HMD
 have q6 := HB4.out.cells.2.2.2.2.2.2.1
 have q1 := HB4.out.cells.2.1
 have qf := HB4.out.free 6
 have hq := HM.out.1
 have hqw := HM.out.2.1
 have hml := HM.out.2.2
 go_upto_region 2 with fail
 go_region
 clear q3 q6 q1 qf hq hqw hml
 have hbb : Below (w3.setCell ⟨b, 6, none⟩ (.int .i64 (max r.c md))).heap.size (w3.setCell ⟨b, 6, none⟩ (.int .i64 (max r.c md))) (w3.setCell ⟨b, 6, none⟩ (.int .i64 (max r.c md))).drew := ⟨rfl, rfl, rfl, Nat.le_refl _, fun _ _ => rfl⟩
 have HB5 : Hid (RpB (w3.setCell ⟨b, 6, none⟩ (.int .i64 (max r.c md))).drew b (cntd r) u) := (show Bx _ b 28 #[.int .i64 r.id, .int .i64 r.p, .int .i64 r.v, .bool r.n, .int .i64 r.la, u.l, .int .i64 (cntd r).c, u.ok, u.ch, u.te] from by
  rw [HCC.out]
  exact Bx.kept (Bx.put HB4.out 6 _) hbb)
 have HO5 : Hid (HasN (w3.setCell ⟨b, 6, none⟩ (.int .i64 (max r.c md))).drew B u.ok (cntd r).ok) := (show Hid _ from by
  rw [cntd_ok, hit, huo]
  exact HasE.kept (HasE.oth HO4.out _ _ (fun k hk => by
   obtain rfl : g = k := by simpa [Value.ownBlock] using hk
   exact hgb)) hbb)
 have C5 : Hid (ChS (fun k => k = b ∨ u.ok.ownBlock = some k) w (w3.setCell ⟨b, 6, none⟩ (.int .i64 (max r.c md))).drew) := hH_ ((C4.out.set _ _ (.inl rfl)).trans (ChS.of_below hbb))
 generalize (w3.setCell ⟨b, 6, none⟩ (.int .i64 (max r.c md))).drew = w5 at HB5 HO5 C5 ⊢
 clear hbb
 go_end0
 exact ⟨rfl, HB5.out, HO5.out, C5.out⟩
open Go.RowKit Go.Sort Go.Shelf

noncomputable def anew (r : Rp) : Rp := @ite _ (leads r) (Classical.propDecidable _) (cntd { r with ok := List.replicate r.p.toNat 0 }) { r with ok := [] }
theorem implAnew (r : Rp) (u : Rv) (b : Nat) (w : World) (hB : RpB w b r u) (hl : ∃ a c, u.l = .slice a r.l.length c) (hp : pOk r.p) (hid : 0 ≤ r.id ∧ r.id < r.p) (hv : 0 ≤ r.v ∧ r.v ≤ 20000) (hc : 0 ≤ r.c) (hlen : r.l.length ≤ 1048576) :
  Calls Tryz.prog 79 #[.pointer (some ⟨b, 0, none⟩)] w fun e w' => e = .returned (.tuple #[]) ∧ ∃ v, RpB w' b (anew r) { u with ok := v } ∧ HasN w' w.heap.size v (anew r).ok ∧ ChS (fun k => k = b) w w' := by
 obtain ⟨i0, hi, hz0, hz1, hz2⟩ := info_parts Tryz.infoN2
 have HB : Hid (RpB w b r u) := hB
 have hbz : b < w.heap.size := Bx.lt hB
 have W1B : Hid (RpB ((w.setCell ⟨b, 7, none⟩ (.slice (some ⟨w.heap.size, 0, none⟩) 0 0)).alloc (.cells #[] 2)) b { r with ok := [] } { u with ok := .slice (some ⟨w.heap.size, 0, none⟩) 0 0 }) := hH_ (Bx.alloc (Bx.put HB.out 7 _) _)
 have O1 : Hid (OwnsN ((w.setCell ⟨b, 7, none⟩ (.slice (some ⟨w.heap.size, 0, none⟩) 0 0)).alloc (.cells #[] 2)) w.heap.size (.slice (some ⟨w.heap.size, 0, none⟩) 0 0) []) := (show Hid _ from by
  have := OwnsE.born (E := intE) (ty := 2) (w.setCell ⟨b, 7, none⟩ (.slice (some ⟨w.heap.size, 0, none⟩) 0 0))
  rw [show (w.setCell ⟨b, 7, none⟩ (.slice (some ⟨w.heap.size, 0, none⟩) 0 0)).heap.size = w.heap.size from by simp] at this
  exact this)
 have C1 : Hid (ChS (fun k => k = b) w ((w.setCell ⟨b, 7, none⟩ (.slice (some ⟨w.heap.size, 0, none⟩) 0 0)).alloc (.cells #[] 2))) := hH_ (((ChS.refl (fun k => k = b) w).set ⟨b, 7, none⟩ _ rfl).trans (ChS.of_below ((Below.refl _ _).alloc (Nat.le_refl _) _)))
 have q7 := Bx.cell (Bx.alloc HB.out (.cells #[] 2)) 7
 have qf := Bx.free (Bx.alloc HB.out (.cells #[] 2)) 7
 have jL := fun W hW => implLeads { r with ok := [] } { u with ok := .slice (some ⟨w.heap.size, 0, none⟩) 0 0 } b W hW hv hp
 have Z1 : Hid (w.heap.size ≤ ((w.setCell ⟨b, 7, none⟩ (.slice (some ⟨w.heap.size, 0, none⟩) 0 0)).alloc (.cells #[] 2)).heap.size) := C1.out.size
 obtain ⟨n, hn⟩ : ∃ n : Nat, (n : Int) = r.p := ⟨r.p.toNat, by rcases hp with h | h | h <;> omega⟩
 have hn5 : n ≤ 5 := by rcases hp with h | h | h <;> omega
 have hnn : r.p.toNat = n := by omega
 have jc := fun W (hW : RpB W b { r with ok := List.replicate n 0 } { u with ok := .slice (some ⟨W.heap.size, 0, none⟩) n n }) => hW
 clear jc hB
 have HX : Hid (pOk r.p ∧ (0 ≤ r.id ∧ r.id < r.p) ∧ 0 ≤ r.c ∧ r.l.length ≤ 1048576 ∧ ∃ a c, u.l = .slice a r.l.length c) := ⟨hp, hid, hc, hlen, hl⟩
 clear hp hid hc hlen hl hv
 change (w.alloc (.cells #[] 2)).cell? ⟨b, 7, none⟩ = some u.ok at q7
 change (w.alloc (.cells #[] 2)).frozen? ⟨b, 7, none⟩ = false at qf
 go_enter Tryz.func79, Tryz.ntmps79
 go_wp2_with fail
 clear q7 qf
 generalize (w.setCell ⟨b, 7, none⟩ (.slice (some ⟨w.heap.size, 0, none⟩) 0 0)).alloc (.cells #[] 2) = w1 at W1B O1 C1 Z1 ⊢
 refine (jL _ W1B.out).mono ?_
 rintro e w2 ⟨rfl, hb⟩
 have W2B : Hid (RpB w2 b { r with ok := [] } { u with ok := .slice (some ⟨w.heap.size, 0, none⟩) 0 0 }) := hH_ (Bx.kept W1B.out hb)
 have O2 := hH_ (O1.out.kept hb)
 have C2 := hH_ (C1.out.trans (ChS.of_below hb))
 have Z2 : Hid (w.heap.size ≤ w2.heap.size) := hH_ (Nat.le_trans Z1.out hb.size)
 clear hb W1B O1 C1 Z1 jL
 cases hld : dB (leads { r with ok := [] }) with
 | false =>
  have HA : Hid (anew r = { r with ok := [] }) := (show _ = _ by unfold anew; exact if_neg (dB_not hld))
  go_wp2
  go_end0
  refine ⟨rfl, .slice (some ⟨w.heap.size, 0, none⟩) 0 0, ?_, ?_, C2.out⟩
  ·
   rw [HA.out]; exact W2B.out
  ·
   rw [HA.out]; exact O2.out.has
 | true =>
  have HA : Hid (anew r = cntd { r with ok := List.replicate n 0 }) := (show _ = _ by unfold anew; rw [hnn]; exact if_pos (dB_is hld))
  obtain ⟨w3, hrun, hown, hgr⟩ := run_make_full (P := Tryz.prog) w2 w.heap.size 25 2 i0 (.int .i64 0) 1 Tryz.underlying25 hi hz0 hz1 .i64 .i64 n (by rw [hz2]; omega) (by unfold maxLen; omega) Z2.out
  rw [madeN] at hown
  have hb3 : Below w2.heap.size w2 w3 := (Below.refl _ w2).grown hgr (Nat.le_refl _) (fun j hj => by cases hj)
  have hbz2 : b < w2.heap.size := Bx.lt W2B.out
  have O3 : Hid (OwnsN w3 w.heap.size (.slice (some ⟨w2.heap.size, 0, none⟩) n n) (List.replicate n 0)) := (show w3.ownsRow _ _ 1 _ _ _ from by rw [List.length_replicate]; exact hown)
  have W3B : Hid (RpB (w3.setCell ⟨b, 7, none⟩ (.slice (some ⟨w2.heap.size, 0, none⟩) n n)) b { r with ok := List.replicate n 0 } { u with ok := .slice (some ⟨w2.heap.size, 0, none⟩) n n }) := hH_ (Bx.put (Bx.kept W2B.out hb3) 7 _)
  have O4 : Hid (OwnsN (w3.setCell ⟨b, 7, none⟩ (.slice (some ⟨w2.heap.size, 0, none⟩) n n)) w.heap.size (.slice (some ⟨w2.heap.size, 0, none⟩) n n) (List.replicate n 0)) := (show Hid _ from OwnsE.other O3.out _ _ (fun k hk => by
   have : w2.heap.size = k := by simpa [Value.ownBlock] using hk
   show k ≠ b
   omega))
  have C3 : Hid (ChS (fun k => k = b) w (w3.setCell ⟨b, 7, none⟩ (.slice (some ⟨w2.heap.size, 0, none⟩) n n))) := hH_ ((C2.out.trans (ChS.of_below hb3)).set _ _ rfl)
  have q1 := Bx.cell W2B.out 1
  change w2.cell? ⟨b, 1, none⟩ = some (.int .i64 r.p) at q1
  rw [hn] at hrun
  have q7 := Bx.cell (Bx.kept W2B.out hb3) 7
  have qf := Bx.free (Bx.kept W2B.out hb3) 7
  change w3.cell? ⟨b, 7, none⟩ = some (.slice (some ⟨w.heap.size, 0, none⟩) 0 0) at q7
  change w3.frozen? ⟨b, 7, none⟩ = false at qf
  have j3 := implCnt { r with ok := List.replicate n 0 } { u with ok := .slice (some ⟨w2.heap.size, 0, none⟩) n n } b w.heap.size _ W3B.out O4.out.has HX.out.2.2.2.2 (fun k hk => by
   have : w2.heap.size = k := by simpa [Value.ownBlock] using hk
   omega) HX.out.1 (by rw [List.length_replicate]; exact hn) HX.out.2.1 HX.out.2.2.1 (fun x hx => by rw [(List.mem_replicate.1 hx).2]; show (0 : Int) ≤ (r.l.length : Int); omega) HX.out.2.2.2.1
  clear O3 hown hgr W2B O2 C2 hi hz0 hz1 hz2 hld hb3
  go_wp2_with fail
  clear q1 q7 qf hrun
  refine j3.mono ?_
  rintro e w5 ⟨rfl, h1, h2, h3⟩
  have HB5 : Hid (RpB w5 b (anew r) { u with ok := .slice (some ⟨w2.heap.size, 0, none⟩) n n }) := hH_ (by rw [HA.out]; exact h1)
  have HO5 : Hid (HasN w5 w.heap.size (.slice (some ⟨w2.heap.size, 0, none⟩) n n) (anew r).ok) := hH_ (by rw [HA.out]; exact h2)
  have C5 : Hid (ChS (fun k => k = b) w w5) := ⟨h3.os.trans C3.out.os, h3.tape.trans C3.out.tape, h3.output.trans C3.out.output, Nat.le_trans C3.out.size h3.size, fun k hk hn => by
   rw [h3.block k (Nat.lt_of_lt_of_le hk C3.out.size) (fun e => by
    rcases e with e | e
    ·
     exact hn e
    ·
     have : w2.heap.size = k := by simpa [Value.ownBlock] using e
     have := Z2.out
     omega)]
   exact C3.out.block k hk hn⟩
  clear h1 h2 h3 j3
  go_wp2
  go_end0
  exact ⟨rfl, _, HB5.out, HO5.out, C5.out⟩
end Go.Proofs.YtdkhdjickkcaiaaGreat.Rl
