/-
  Texts and messages copied; who leads; what is a majority.
  Rows of messages of a call: what is pushed; the same message to all others.
  The specification's Spread, by contract.
-/
import Derived.Test.YtdahfhkeeemdiaaGreatS28
import Derived.Test.YtdahfhkeeemdiaaGreatS21
import Derived.Test.YtdahfhkeeemdiaaGreatS30
import Derived.Test.YtdahfhkeeemdiaaGreatS25
import Derived.Deep.RegionWith
import Derived.Test.YtdahfhkeeemdiaaGreatS22
namespace Go.Proofs.YtdahfhkeeemdiaaGreat.Rl
open Go.RowKit Go.Sort Pg
set_option linter.unusedVariables false
set_option linter.unusedSimpArgs false

theorem Tryz.infoX9 : (Tryz.prog.info? 9).map (fun i => (i.zero, i.size, i.bytes)) = some (some (.string ⟨#[]⟩), 1, 16) := by kernel_rfl
set_option maxHeartbeats 1000000 in
theorem specTxs (v : Value) (l : List ByteArray) (w : World) (h : Sls txtE w v l) (hl : l.length ≤ 1048576) :
    Calls Tryz.prog 101 #[v] w fun e w' => ∃ u, e = .returned u ∧ OwnsX w' w.heap.size u l ∧ Below w.heap.size w w' := by
  have S1 : Hid (Sls txtE (w.alloc (.cells #[] 9)) v l) := h.kept ((Below.refl _ w).alloc (Nat.le_refl _) _)
  have O1 : Hid (OwnsX (w.alloc (.cells #[] 9)) w.heap.size (.slice (some ⟨w.heap.size, 0, none⟩) 0 0) []) := OwnsE.born w
  have B1 : Hid (Below w.heap.size w (w.alloc (.cells #[] 9))) := (Below.refl _ w).alloc (Nat.le_refl _) _
  obtain ⟨a, cap, hv⟩ := Sls.slen0 h
  subst hv
  clear h
  go_enter Tryz.func101, Tryz.ntmps101
  go_wp2_with (
    at_builtin
    refine wpList_rowS (E := txtE) _ rfl (.tmp 3) (.tmp 4) 24 9 (.string ⟨#[]⟩) 16 Tryz.underlying24 Tryz.infoX9 rfl rfl w.heap.size (.slice (some ⟨w.heap.size, 0, none⟩) 0 0) [] rfl O1.out (.slice a l.length cap) l rfl S1.out (by simp only [List.length_nil]; unfold maxLen; omega) (by simp only [List.length_nil]; omega) (by simp) ?_
    intro u w2 ho hg _
    rw [List.nil_append] at ho
    have B2 : Hid (Below w.heap.size w w2) := (show Hid _ from B1.out.grown hg (by simp) (fun k hk => by simp [Value.ownBlock] at hk; omega))
    obtain ⟨b, c, rfl, _⟩ := ho.form
    have HO : Hid (OwnsX w2 w.heap.size (.slice b l.length c) l) := ho
    clear ho hg S1 O1 B1)
  go_ret
  exact ⟨_, rfl, HO.out, B2.out⟩

theorem turnX_next (M : List ByteArray) (n : Nat) (y : ByteArray) (h : M.length < n) : (M ++ List.replicate (n - M.length) (⟨#[]⟩ : ByteArray)).set M.length y = (M ++ [y]) ++ List.replicate (n - (M.length + 1)) (⟨#[]⟩ : ByteArray) := by
  rw [List.set_append_right _ _ (Nat.le_refl _), Nat.sub_self, List.append_assoc]
  congr 1
  rw [show n - M.length = (n - (M.length + 1)) + 1 from by omega, List.replicate_succ, List.set_cons_zero]
  rfl
theorem madeX (n : Nat) : (madeCells (Value.cells (.string ⟨#[]⟩)) (n * 1)).toList = cellsE txtE (List.replicate n (⟨#[]⟩ : ByteArray)) := by
  rw [Nat.mul_one]
  apply List.ext_getElem?
  intro j
  by_cases hj : j < n
  · have e : (madeCells (Value.cells (.string ⟨#[]⟩)) n).toList[j]? = some (.string ⟨#[]⟩) := by simp [madeCells, hj, Value.cells, Nat.mod_one]
    rw [e, cellsX_at (List.replicate n (⟨#[]⟩ : ByteArray)) j (by simpa using hj)]
    simp
  · rw [List.getElem?_eq_none (by simp [madeCells]; omega), List.getElem?_eq_none (by rw [cellsE_length]; simp; show n * 1 ≤ j; omega)]
set_option maxRecDepth 100000 in
set_option maxHeartbeats 2000000 in
theorem implNlg (v : Value) (L : List ByteArray) (w : World) (h : Sls txtE w v L) (hl : L.length ≤ 1048576) (hs : ∀ x ∈ L, x.size ≤ 1048576) :
    Calls Tryz.prog 103 #[v] w fun e w' => ∃ u, e = .returned u ∧ OwnsX w' w.heap.size u L ∧ Below w.heap.size w w' := by
  obtain ⟨a, cap, rfl, h1, h2, h3⟩ := h.txt
  have H3 : Hid (0 < L.length → ∃ g o, a = some ⟨g, o, Option.none⟩ ∧ g < w.heap.size ∧ ∀ j (hj : j < L.length), w.cell? ⟨g, o + j, Option.none⟩ = some (.string L[j])) := h3
  have HS : Hid (∀ x ∈ L, x.size ≤ 1048576) := hs
  clear h h3 hs
  unfold maxLen at h2
  obtain ⟨i0, hi, hz0, hz1, hz2⟩ := info_parts Tryz.infoX9
  obtain ⟨w0, hrun, hown, hgr⟩ := run_make_full (P := Tryz.prog) w w.heap.size 24 9 i0 (.string ⟨#[]⟩) 1 Tryz.underlying24 hi hz0 hz1 .i64 .i64 L.length (by rw [hz2]; omega) (by unfold maxLen; omega) (Nat.le_refl _)
  rw [madeX] at hown
  have hown0 : Hid (OwnsX w0 w.heap.size (.slice (some ⟨w.heap.size, 0, Option.none⟩) L.length L.length) ([] ++ List.replicate (L.length - 0) (⟨#[]⟩ : ByteArray))) := by
    show w0.ownsRow _ _ 1 _ _ _
    rw [List.nil_append, Nat.sub_zero, List.length_replicate]
    exact hown
  have hb0 : Hid (Below w.heap.size w w0) := (Below.refl _ w).grown hgr (Nat.le_refl _) (fun j hj => by cases hj)
  clear hown hgr hi hz0 hz1 hz2
  go_enter Tryz.func103, Tryz.ntmps103
  go_wp2
  go_loopw [11] (fun i wr => ∃ (M : List ByteArray), M.length ≤ L.length ∧ i = .int .i64 M.length ∧ Hid (M = L.take M.length) ∧ Hid (OwnsX wr w.heap.size (.slice (some ⟨w.heap.size, 0, Option.none⟩) L.length L.length) (M ++ List.replicate (L.length - M.length) (⟨#[]⟩ : ByteArray))) ∧ Hid (Below w.heap.size w wr)) (fun i _ => L.length - (intOf i).toNat)
  case atStart => exact ⟨[], Nat.zero_le _, rfl, (show Hid _ from rfl), hown0, hb0⟩
  case round =>
    clear hown0 hb0 hrun
    obtain ⟨M, hk, rfl, hM, ho, hb⟩ := hrel
    by_cases hlt : M.length < L.length
    · obtain ⟨g, q, rfl, hg, hc⟩ := H3.out (by omega)
      have c1 := (hb.out.cell (p := ⟨g, q + M.length, none⟩) hg).trans (hc M.length hlt)
      have hx := HS.out _ (List.getElem_mem hlt)
      have HN : Hid (L.take (M.length + 1) = M ++ [L[M.length]]) := (show _ = _ by rw [List.take_succ_eq_append_getElem hlt, ← hM.out])
      have hki : (M.length : Int) < (L.length : Int) := by omega
      have jc := fun W => clonP L[M.length] W hx
      generalize L[M.length] = x at c1 HN jc
      clear hc hx
      go_wp2_with fail
      refine (jc _).mono ?_
      rintro e w1 ⟨rfl, hb1⟩
      have ho1 := ho.out.kept hb1
      have hlen : (M ++ List.replicate (L.length - M.length) (⟨#[]⟩ : ByteArray)).length = L.length := by simp; omega
      have d1 := hasX_at ho1.has M.length (by omega)
      have f1 := OwnsE.free hlen.symm ho1 M.length
      obtain ⟨y0, hy0⟩ : ∃ y0, w1.cell? ⟨w.heap.size, M.length, none⟩ = some y0 := ⟨_, d1⟩
      clear d1
      have ho2 := OwnsE.put hlen.symm ho1 (j := M.length) (i := 0) (by omega) (by decide) (.string x) x rfl
      rw [turnX_next _ _ _ hlt] at ho2
      have e0 : M.length * txtE.k + 0 = M.length := by show M.length * 1 + 0 = M.length; omega
      rw [e0] at ho2
      have HO : Hid (OwnsX (w1.setCell ⟨w.heap.size, M.length, none⟩ (.string x)) w.heap.size (.slice (some ⟨w.heap.size, 0, none⟩) L.length L.length) ((M ++ [x]) ++ List.replicate (L.length - (M.length + 1)) (⟨#[]⟩ : ByteArray))) := ho2
      have B2 : Hid (Below w.heap.size w (w1.setCell ⟨w.heap.size, M.length, none⟩ (.string x))) := (show Hid _ from (hb.out.trans (hb1.mono hb.out.size)).setCell (p := ⟨w.heap.size, M.length, none⟩) (Nat.le_refl _) _)
      clear ho ho1 ho2 hb1 e0 hlen
      go_wp2_with fail
      go_roundw
      case rel =>
        refine ⟨M ++ [x], (by simp <;> omega), (by simp <;> go_num), ?_, ?_, B2⟩
        · show _ = _
          rw [show (M ++ [x]).length = M.length + 1 by simp, HN.out]
        · have := HO.out
          rw [show (M ++ [x]).length = M.length + 1 by simp]
          exact this
      case measure => simp [intOf]; omega
    · have hkk : M.length = L.length := by omega
      have HE : Hid (M = L) := (show _ = _ by rw [hM.out, hkk]; exact List.take_length)
      go_wp2
      go_ret
      refine ⟨_, rfl, ?_, hb.out⟩
      have := ho.out
      rw [hkk, Nat.sub_self, List.replicate_zero, List.append_nil, HE.out] at this
      exact this

set_option maxRecDepth 100000 in
set_option maxHeartbeats 2000000 in
theorem implNms (m : Ms) (u : Value) (w : World) (h : Sls txtE w u m.l) (hl : m.l.length ≤ 1048576) (hs : ∀ x ∈ m.l, x.size ≤ 1048576) :
    Calls Tryz.prog 102 #[msA m u] w fun e w' => ∃ u', e = .returned (msA m u') ∧ OwnsX w' w.heap.size u' m.l ∧ Below w.heap.size w w' := by
  have HH : Hid (Sls txtE w u m.l) := h
  have j1 := fun W hW => implNlg u m.l W hW hl hs
  obtain ⟨a, ca, rfl, _⟩ := h
  unfold msA
  obtain ⟨k, f, t, v, la, l, c⟩ := m
  simp only at j1 HH ⊢
  go_enter Tryz.func102, Tryz.ntmps102
  go_wp2_with fail
  refine (j1 _ (HH.out.kept (by repeat (first | exact Below.refl _ _ | refine Below.alloc ?_ (by simp <;> omega) _)))).mono ?_
  rintro e w1 ⟨u', rfl, ho, hb⟩
  obtain ⟨a', c', rfl, _⟩ := ho.form
  simp [go_sem] at hb ho
  have BX : Bx w1 w.heap.size 30 #[.int .i64 k, .int .i64 f, .int .i64 t, .int .i64 v, .int .i64 la, .slice a l.length ca, .int .i64 c] := Bx.low ((Bx.at _ _ rfl).alloc _) hb (by omega)
  have BY : Bx w1 (w.heap.size + 1) 30 #[.int .i64 0, .int .i64 0, .int .i64 0, .int .i64 0, .int .i64 0, .slice none 0 0, .int .i64 0] := Bx.low (Bx.at _ _ (by simp)) hb (by omega)
  have BB : Hid (Below w.heap.size w w1) := (((Below.refl _ w).alloc (Nat.le_refl _) _).alloc (by simp) _).trans (hb.mono (by omega))
  have HO : Hid (OwnsX w1 (w.heap.size + 2) (.slice a' l.length c') l) := ho
  have sz : w.heap.size + 2 ≤ w1.heap.size := by have := hb.size; simp at this; omega
  have x0 := BX.cell 0
  have xf0 := BX.free 0
  have y0 := BY.cell 0
  have yf0 := BY.free 0
  have x1 := BX.cell 1
  have xf1 := BX.free 1
  have y1 := BY.cell 1
  have yf1 := BY.free 1
  have x2 := BX.cell 2
  have xf2 := BX.free 2
  have y2 := BY.cell 2
  have yf2 := BY.free 2
  have x3 := BX.cell 3
  have xf3 := BX.free 3
  have y3 := BY.cell 3
  have yf3 := BY.free 3
  have x4 := BX.cell 4
  have xf4 := BX.free 4
  have y4 := BY.cell 4
  have yf4 := BY.free 4
  have x5 := BX.cell 5
  have xf5 := BX.free 5
  have y5 := BY.cell 5
  have yf5 := BY.free 5
  have x6 := BX.cell 6
  have xf6 := BX.free 6
  have y6 := BY.cell 6
  have yf6 := BY.free 6
  clear BX BY hb ho
  have hk : Hid (∀ k, (Value.slice a' l.length c').ownBlock = some k → w.heap.size + 2 ≤ k) := HO.out.from
  go_wp2
  refine bodyPost_ret (v := .agg #[.int .i64 k, .int .i64 f, .int .i64 t, .int .i64 v, .int .i64 la, .slice a' l.length c', .int .i64 c]) (by simp [results, Tryz.results102, go_sem, y0, y1, y2, y3, y4, y5, y6]) rfl ⟨_, rfl, ?_, ?_⟩
  · refine OwnsE.low (B := w.heap.size + 2) ?_ (by omega)
    repeat (refine OwnsE.other ?_ _ _ (fun k h => by have := hk.out k h; simp <;> omega))
    exact HO.out
  · repeat (refine Below.setCell ?_ (by simp <;> omega) _)
    exact BB.out
theorem majI {n : Nat} {p : Int} : (decide (p < 2 * (n : Int))) = dB (maj n p) := by
  by_cases h : p < 2 * (n : Int)
  · rw [decide_eq_true h]; exact (dB_yes (P := maj n p) h).symm
  · rw [decide_eq_false h]; exact (dB_no (P := maj n p) h).symm
theorem specMaj (n : Nat) (p : Int) (w : World) (hn : n ≤ 1048576) :
    Calls Tryz.prog 112 #[.int .i64 (n : Int), .int .i64 p] w fun e w' => e = .returned (.bool (dB (maj n p))) ∧ w = w' := by
  have HM : Hid (_ = dB (maj n p)) := majI
  go_enter Tryz.func112, Tryz.ntmps112
  go_wp2
  go_ret
  exact ⟨congrArg (fun b => Ending.returned (.bool b)) HM.out, rfl⟩
set_option maxRecDepth 100000 in
set_option maxHeartbeats 2000000 in
theorem specLds (r : Rp) (u : Rv) (w : World) (hv : 0 ≤ r.v ∧ r.v ≤ 20000) (hp : pOk r.p) :
    Calls Tryz.prog 67 #[rpA r u] w fun e w' => e = .returned (.bool (dB (leads r))) ∧ Below w.heap.size w w' := by
  have XB : RpB (w.alloc (.cells #[.int .i64 r.id, .int .i64 r.p, .int .i64 r.v, .bool r.n, .int .i64 r.la, u.l, .int .i64 r.c, u.ok, u.ch, u.te] 28)) w.heap.size r u := Bx.new _ _ _
  have B0 : Hid (Below w.heap.size w (w.alloc (.cells #[.int .i64 r.id, .int .i64 r.p, .int .i64 r.v, .bool r.n, .int .i64 r.la, u.l, .int .i64 r.c, u.ok, u.ch, u.te] 28))) := (show Hid _ from (Below.refl _ w).alloc (Nat.le_refl _) _)
  obtain ⟨c0, c1, c2, c3, c4, c5, c6, c7, c8, c9⟩ := XB.cells
  unfold rpA
  clear XB c4 c5 c6 c7 c8 c9
  cases hn : r.n with
  | false =>
    have HL : Hid (false = dB (leads r)) := (show _ = _ from (dB_no (fun hl => by have := hl.1; rw [hn] at this; cases this)).symm)
    rw [hn] at c3 B0 c0 c1 c2
    clear hn
    go_enter Tryz.func67, Tryz.ntmps67
    generalize hw1 : (w.alloc (.cells #[.int .i64 r.id, .int .i64 r.p, .int .i64 r.v, .bool false, .int .i64 r.la, u.l, .int .i64 r.c, u.ok, u.ch, u.te] 28)) = w1 at B0 c0 c1 c2 c3
    go_upto_region 1 with fail
    clear hw1
    go_quiet (fail)
    have BN : Hid (Below w.heap.size w (w1.drewN nq)) := (show Hid _ from B0.out.trans ⟨rfl, rfl, rfl, Nat.le_refl _, fun _ _ => rfl⟩)
    generalize w1.drewN nq = wn at BN ⊢
    go_wp2
    go_ret
    exact ⟨congrArg (fun b => Ending.returned (.bool b)) HL.out, BN.out⟩
  | true =>
    have HL : Hid ((r.v % r.p == r.id) = dB (leads r)) := (show _ = _ by
      have e1 : dB (leads r) = dB (mine r) := by
        by_cases hm : mine r
        · rw [dB_yes hm, dB_yes (show leads r from ⟨hn, hm⟩)]
        · rw [dB_no hm, dB_no (fun hl : leads r => hm hl.2)]
      rw [e1, ← dB_mine]
      by_cases hh : r.v % r.p = r.id <;> simp [hh])
    rw [hn] at c3 B0 c0 c1 c2
    clear hn
    have em : Int.tmod r.v r.p = r.v % r.p := modE hv.1
    have hpz : ¬ r.p = 0 := by rcases hp with h | h | h <;> rw [h] <;> decide
    have ew : wrap64 (r.v % r.p) = r.v % r.p := by unfold wrap64; rcases hp with h | h | h <;> rw [h] <;> omega
    go_enter Tryz.func67, Tryz.ntmps67
    generalize r.v % r.p = q at em ew HL
    generalize hw1 : (w.alloc (.cells #[.int .i64 r.id, .int .i64 r.p, .int .i64 r.v, .bool true, .int .i64 r.la, u.l, .int .i64 r.c, u.ok, u.ch, u.te] 28)) = w1 at B0 c0 c1 c2 c3
    go_upto_region 1 with fail
    clear hw1
    go_quiet (fail)
    have BN : Hid (Below w.heap.size w (w1.drewN nq)) := (show Hid _ from B0.out.trans ⟨rfl, rfl, rfl, Nat.le_refl _, fun _ _ => rfl⟩)
    generalize w1.drewN nq = wn at BN ⊢
    go_wp2
    go_ret
    exact ⟨congrArg (fun b => Ending.returned (.bool b)) HL.out, BN.out⟩
end Go.Proofs.YtdahfhkeeemdiaaGreat.Rl
namespace Go.Proofs.YtdahfhkeeemdiaaGreat.Rl
open Go.RowKit Go.Sort Pg
set_option linter.unusedVariables false
set_option linter.unusedSimpArgs false

/-- A row of messages of the call's own, each log in a block of its own. -/
structure MsOwn (w : World) (B : Nat) (v : Value) (T : List Mx) (L : List Ms) : Prop where
  row : OwnsM w B v T
  logs : Logs w B T
  ap : ∀ x ∈ T, ap v x.u
  is : T.map (·.m) = L
theorem MsOwn.kept {w w' : World} {B : Nat} {v : Value} {T : List Mx} {L : List Ms} (h : MsOwn w B v T L) (hb : Below w.heap.size w w') : MsOwn w' B v T L := ⟨h.row.kept hb, h.logs.kept hb, h.ap, h.is⟩
theorem MsOwn.low {w : World} {B B' : Nat} {v : Value} {T : List Mx} {L : List Ms} (h : MsOwn w B v T L) (hB : B' ≤ B) : MsOwn w B' v T L := ⟨h.row.low hB, h.logs.low hB, h.ap, h.is⟩
theorem MsOwn.len {w : World} {B : Nat} {v : Value} {T : List Mx} {L : List Ms} (h : MsOwn w B v T L) : T.length = L.length := by rw [← h.is, List.length_map]
theorem MsOwn.got {w : World} {B : Nat} {v : Value} {T : List Mx} {L : List Ms} (h : MsOwn w B v T L) : TeGot w v T := ⟨h.row.sls, fun x hx => (h.logs.l x hx).sls⟩
theorem MsOwn.born (w : World) : MsOwn (w.alloc (.cells #[] 30)) w.heap.size (.slice (some ⟨w.heap.size, 0, none⟩) 0 0) [] [] := ⟨OwnsE.born w, Logs.nil _ _, fun x hx => (by cases hx), rfl⟩
theorem MsOwn.alloc {w : World} {B : Nat} {v : Value} {T : List Mx} {L : List Ms} (h : MsOwn w B v T L) (o : Obj) : MsOwn (w.alloc o) B v T L := h.kept ((Below.refl _ w).alloc (Nat.le_refl _) o)
/-- A block of another type is none of its rows. -/
theorem OwnsE.ne_of {α : Type} {E : Enc α} {ty ty' : TypeId} {w : World} {B g : Nat} {v : Value} {l : List α} {c : Array Value} {fz : Nat × Nat} (h : HasE E ty w B v l) (hg : w.heap[g]? = some (.cells c ty' fz)) (hne : ty' ≠ ty) : ∀ k, v.ownBlock = some k → k ≠ g := by
  intro k hk e
  rcases h with ⟨h0, _⟩ | ⟨g', cap', cur, hv, _, hh, _⟩
  · rw [h0] at hk; cases hk
  · rw [hv] at hk
    have : g' = k := by simpa [Value.ownBlock] using hk
    rw [this, e, hg] at hh
    injection hh with hh
    injection hh with _ hh _
    exact hne hh
end Go.Proofs.YtdahfhkeeemdiaaGreat.Rl
namespace Go.Proofs.YtdahfhkeeemdiaaGreat.Rl
open Go.RowKit Go.Sort Pg
set_option linter.unusedVariables false
set_option linter.unusedSimpArgs false

/-- One message that tells, in a block of its own. -/
structure TlB (x : World) (lo g : Nat) (p1 : Option Addr) (d1 : Nat) (r : Rp) (q : Int) : Prop where
  b : Bx x g 30 #[.int .i64 4, .int .i64 r.id, .int .i64 q, .int .i64 r.v, .int .i64 r.la, .slice p1 r.l.length d1, .int .i64 r.c]
  l : OwnsX x lo (.slice p1 r.l.length d1) r.l
theorem TlB.kept {x y : World} {lo g : Nat} {p1 : Option Addr} {d1 : Nat} {r : Rp} {q : Int} (h : TlB x lo g p1 d1 r q) (hb : Below x.heap.size x y) : TlB y lo g p1 d1 r q := ⟨h.b.kept hb, h.l.kept hb⟩
def GSp (r : Rp) (q : Int) (b lo : Nat) (la : Option Addr) (lc : Nat) (vv : Value) (i : Nat) (x : World) (v : Value) : Prop := match i with
  | 0 => v = vv
  | 1 => v = .pointer (some ⟨b, 0, none⟩)
  | 2 => v = .int .i64 r.id
  | 3 => v = .int .i64 q
  | 4 => v = .pointer (some ⟨b, 2, none⟩)
  | 5 => v = .int .i64 r.v
  | 6 => v = .pointer (some ⟨b, 4, none⟩)
  | 7 => v = .int .i64 r.la
  | 8 => v = .pointer (some ⟨b, 5, none⟩)
  | 9 => v = .slice la r.l.length lc
  | 10 => ∃ (p1 : Option Addr) (d1 : Nat), v = .slice p1 r.l.length d1 ∧ OwnsX x lo (.slice p1 r.l.length d1) r.l
  | 11 => v = .pointer (some ⟨b, 6, none⟩)
  | 12 => v = .int .i64 r.c
  | 13 => ∃ (p1 : Option Addr) (d1 : Nat), v = .agg #[.int .i64 4, .int .i64 r.id, .int .i64 q, .int .i64 r.v, .int .i64 r.la, .slice p1 r.l.length d1, .int .i64 r.c] ∧ OwnsX x lo (.slice p1 r.l.length d1) r.l
  | 14 => ∃ (p1 : Option Addr) (d1 : Nat) (p0 : Option Addr) (g1 : Nat), v = .slice (some ⟨g1, 0, none⟩) 1 1 ∧ TlB x lo g1 p1 d1 r q
  | _ => True
theorem GSp.keep {r : Rp} {q : Int} {b lo : Nat} {la : Option Addr} {lc : Nat} {vv : Value} {x y : World} (hb : Below x.heap.size x y) (j : Nat) (v : Value) (hj : j < 15) (h : GSp r q b lo la lc vv j x v) : GSp r q b lo la lc vv j y v := by
  rcases (show j = 0 ∨ j = 1 ∨ j = 2 ∨ j = 3 ∨ j = 4 ∨ j = 5 ∨ j = 6 ∨ j = 7 ∨ j = 8 ∨ j = 9 ∨ j = 10 ∨ j = 11 ∨ j = 12 ∨ j = 13 ∨ j = 14 by omega) with rfl | rfl | rfl | rfl | rfl | rfl | rfl | rfl | rfl | rfl | rfl | rfl | rfl | rfl | rfl
  · exact h
  · exact h
  · exact h
  · exact h
  · exact h
  · exact h
  · exact h
  · exact h
  · exact h
  · exact h
  · obtain ⟨p1, d1, h1, h2⟩ := h; exact ⟨p1, d1, h1, h2.kept hb⟩
  · exact h
  · exact h
  · obtain ⟨p1, d1, h1, h2⟩ := h; exact ⟨p1, d1, h1, h2.kept hb⟩
  · obtain ⟨p1, d1, p0, g1, h1, h2⟩ := h; exact ⟨p1, d1, p0, g1, h1, h2.kept hb⟩
end Go.Proofs.YtdahfhkeeemdiaaGreat.Rl
