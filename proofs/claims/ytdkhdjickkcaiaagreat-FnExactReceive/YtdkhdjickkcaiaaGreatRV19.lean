/-
  A slice that lies anywhere, nil or not, appended to a row of one's own.
  Texts and messages copied; who leads; what is a majority.
  Rows of messages of a call: what is pushed; the same message to all others.
  The specification's Spread, by contract.
  The program's messages to all others; what it has, told.
  What a replica has, told: the program's standing.
-/
import Derived.Test.YtdkhdjickkcaiaaGreatRVS
import Derived.Test.YtdkhdjickkcaiaaGreatRV09
import Derived.Tactics
import Derived.Test.YtdkhdjickkcaiaaGreatRV17
import Derived.Test.YtdkhdjickkcaiaaGreatRV14
import Derived.Test.YtdkhdjickkcaiaaGreatRV16
import Derived.Deep.RegionWith
import Derived.Test.YtdkhdjickkcaiaaGreatRV18
set_option linter.unusedVariables false
set_option linter.unusedSimpArgs false
set_option maxRecDepth 100000
set_option maxHeartbeats 64000000
namespace Go.Proofs.YtdkhdjickkcaiaaGreat
open Go.RowKit

theorem Sls.form0 {α : Type} {E : Enc α} {w : World} {v : Value} {m : List α} (h : Sls E w v m) : ∃ a cap, v = .slice a m.length cap ∧ m.length ≤ cap := by
 obtain ⟨a, cap, e, h1, _⟩ := h
 exact ⟨a, cap, e, h1⟩
theorem Sls.cells {α : Type} {E : Enc α} {w : World} {ad : Addr} {n c : Nat} {m : List α} (h : Sls E w (.slice (some ad) n c) m) : ∀ j u, (cellsE E m)[j]? = some u → w.cell? (ad.add j) = some u := by
 intro j u hu
 obtain ⟨a, cap, e, _, _, h3⟩ := h
 injection e with e1 _ _
 have h0 : 0 < m.length := by
  rcases Nat.eq_zero_or_pos m.length with h0 | h0
  ·
   rw [List.eq_nil_of_length_eq_zero h0] at hu
   simp [cellsE] at hu
  ·
   exact h0
 obtain ⟨g, o, ha, _, hc⟩ := h3 h0
 rw [ha] at e1
 injection e1 with e1
 subst e1
 rw [addr_add]
 exact hc j u hu
theorem run_noneS {α : Type} {P : Program} {ts te ot : TypeId} {w : World} {B : Nat} {v : Value} {l : List α} {c : Nat} (En : Enc α) (i0 : TypeInfo) (hts : P.underlying ts = some (.slice te)) (hi : P.info? te = some i0) (hown : OwnsE En te w B v l) : (Builtin.append_ #[ts, ts] ot #[v, .slice none 0 c]).run P w = .ok v w := by
 rcases hown.2 with ⟨rfl, hz⟩ | ⟨g, cap, cur, rfl, _, _, hnc, _⟩
 ·
  simp [Builtin.append_, run_underlying hts, sizeOf, typeInfo, hi, Builtin.lenOf, Builtin.firstCells]
 ·
  simp [Builtin.append_, run_underlying hts, sizeOf, typeInfo, hi, Builtin.lenOf, Builtin.firstCells, hnc, storeCells]
theorem wpList_rowS {α : Type} {E : Enc α} {P : Program} {ops : Array Oper} {rest : List Oper} {o : Oper} {a : Act} {Q : Exit → Act → World → Prop} (w : World) (hgd : o.guard = Option.none) (s x : Operand) (ts te : TypeId) (z : Value) (bytes : Nat)
  (hts : P.underlying ts = some (.slice te)) (hinfo : (P.info? te).map (fun i => (i.zero, i.size, i.bytes)) = some (some z, E.k, bytes)) (hz : z.cells.size = E.k)
  (ho : o.op = .call { callee := .builtin .append, args := #[s, x], argTypes := #[ts, ts] }) (B : Nat) (v : Value) (l : List α) (hs : a.eval s = v) (hown : OwnsE E te w B v l)
  (vx : Value) (m : List α) (hx : a.eval x = vx) (hsl : Sls E w vx m)
  (h63 : l.length + m.length ≤ maxLen) (hbytes : (l.length + m.length) * bytes ≤ 140737488355328) (hB : B ≤ w.heap.size)
  (h : ∀ v' w', OwnsE E te w' B v' (l ++ m) → w.grownBy w' v.ownBlock → (v' = .slice Option.none 0 0 → v = .slice Option.none 0 0) → wpList P ops Q rest (a.put o.dst v') w') :
  wpList P ops Q (o :: rest) a w := by
 obtain ⟨ax, cx, rfl, _⟩ := hsl.form0
 cases ax with
 | none =>
  have hm : m = [] := by
   obtain ⟨a', c', e, _, _, h3⟩ := hsl
   injection e with e1 _ _
   rcases Nat.eq_zero_or_pos m.length with h0 | h0
   ·
    exact List.eq_nil_of_length_eq_zero h0
   ·
    obtain ⟨g, o', ha, _⟩ := h3 h0
    rw [ha] at e1
    cases e1
  subst hm
  obtain ⟨i0, hi, _⟩ := info_parts hinfo
  refine wpList_plain hgd fun K hK => ?_
  have hrun := run_noneS (c := cx) (ot := o.type) E i0 hts hi hown
  have hx' : a.eval x = .slice none 0 cx := hx
  unfold Oper.wp
  simp [execOp, ho, resolve, invoke, builtin, hs, hx', hrun, Result.andThen]
  refine hK _ _ (h v w (by rw [List.append_nil]; exact hown) (grownE_self _ _) id)
 | some ad =>
  refine wpList_rowE (E := E) w hgd s x ts te z bytes hts hinfo hz ho B v l hs hown ad cx m hx hsl.cells h63 hbytes hB ?_
  intro v' w' h1 h2 h3
  exact h v' w' h1 h2 (fun e => (h3.1 e).1)
end Go.Proofs.YtdkhdjickkcaiaaGreat
namespace Go.Proofs.YtdkhdjickkcaiaaGreat.Rl
open Go.RowKit Go.Sort Pg

theorem Tryz.infoX9 : (Tryz.prog.info? 9).map (fun i => (i.zero, i.size, i.bytes)) = some (some (.string ⟨#[]⟩), 1, 16) := by kernel_rfl
theorem specTxs (v : Value) (l : List ByteArray) (w : World) (h : Sls txtE w v l) (hl : l.length ≤ 1048576) :
  Calls Tryz.prog 98 #[v] w fun e w' => ∃ u, e = .returned u ∧ OwnsX w' w.heap.size u l ∧ Below w.heap.size w w' := by
 have S1 : Hid (Sls txtE (w.alloc (.cells #[] 9)) v l) := h.kept ((Below.refl _ w).alloc (Nat.le_refl _) _)
 have O1 : Hid (OwnsX (w.alloc (.cells #[] 9)) w.heap.size (.slice (some ⟨w.heap.size, 0, none⟩) 0 0) []) := OwnsE.born w
 have B1 : Hid (Below w.heap.size w (w.alloc (.cells #[] 9))) := (Below.refl _ w).alloc (Nat.le_refl _) _
 obtain ⟨a, cap, hv⟩ := Sls.slen0 h
 subst hv
 clear h
 go_enter Tryz.func98, Tryz.ntmps98
 go_wp2_with (
  at_builtin
  refine wpList_rowS (E := txtE) _ rfl (.tmp 3) (.tmp 4) 24 9 (.string ⟨#[]⟩) 16 Tryz.underlying24 Tryz.infoX9 rfl rfl w.heap.size (.slice (some ⟨w.heap.size, 0, none⟩) 0 0) [] rfl O1.out (.slice a l.length cap) l rfl S1.out (by simp only [List.length_nil]; unfold maxLen; omega) (by simp only [List.length_nil]; omega) (by simp) ?_
  intro u w2 ho hg _
  rw [List.nil_append] at ho
  have B2 : Hid (Below w.heap.size w w2) := hH_ (B1.out.grown hg (by simp) (fun k hk => by simp [Value.ownBlock] at hk; omega))
  obtain ⟨b, c, rfl, _⟩ := ho.form
  have HO : Hid (OwnsX w2 w.heap.size (.slice b l.length c) l) := ho
  clear ho hg S1 O1 B1)
 go_ret
 exact ⟨_, rfl, HO.out, B2.out⟩

theorem specMcp (m : Ms) (u : Value) (w : World) (h : Sls txtE w u m.l) (hl : m.l.length ≤ 1048576) :
  Calls Tryz.prog 112 #[msA m u] w fun e w' => ∃ u', e = .returned (msA m u') ∧ OwnsX w' w.heap.size u' m.l ∧ Below w.heap.size w w' := by
 have HH : Hid (Sls txtE w u m.l) := h
 have j1 := fun W hW => specTxs u m.l W hW hl 
 obtain ⟨a, ca, rfl, _⟩ := h
 unfold msA
 obtain ⟨k, f, t, v, la, l, c⟩ := m
 simp only at j1 HH ⊢
 go_enter Tryz.func112, Tryz.ntmps112
 go_wp2_with fail
 refine (j1 _ (HH.out.kept (by repeat (first | exact Below.refl _ _ | refine Below.alloc ?_ (by simp <;> omega) _)))).mono ?_
 rintro e w1 ⟨u', rfl, ho, hb⟩
 obtain ⟨a', c', rfl, _⟩ := ho.form
 simp [go_sem] at hb ho
 have BX : Bx w1 w.heap.size 30 #[.int .i64 k, .int .i64 f, .int .i64 t, .int .i64 v, .int .i64 la, .slice a l.length ca, .int .i64 c] := Bx.low ((Bx.at _ _ rfl).alloc _) hb (by omega)
 have BY : Bx w1 (w.heap.size + 1) 30 #[.int .i64 0, .int .i64 0, .int .i64 0, .int .i64 0, .int .i64 0, .slice none 0 0, .int .i64 0] := Bx.low (Bx.at _ _ (by simp)) hb (by omega)
 have BB : Hid (Below w.heap.size w w1) := (((Below.refl _ w).alloc (Nat.le_refl _) _).alloc (by simp) _).trans (hb.mono (by omega))
 have HO : Hid (OwnsX w1 (w.heap.size + 2) (.slice a' l.length c') l) := ho
 have sz : w.heap.size + 2 ≤ w1.heap.size := by have := hb.size; simp at this; omega
 have x0 := BX.cell 0
 have xf0 := BX.free 0
 have y0 := BY.cell 0
 have yf0 := BY.free 0
 have x1 := BX.cell 1
 have xf1 := BX.free 1
 have y1 := BY.cell 1
 have yf1 := BY.free 1
 have x2 := BX.cell 2
 have xf2 := BX.free 2
 have y2 := BY.cell 2
 have yf2 := BY.free 2
 have x3 := BX.cell 3
 have xf3 := BX.free 3
 have y3 := BY.cell 3
 have yf3 := BY.free 3
 have x4 := BX.cell 4
 have xf4 := BX.free 4
 have y4 := BY.cell 4
 have yf4 := BY.free 4
 have x5 := BX.cell 5
 have xf5 := BX.free 5
 have y5 := BY.cell 5
 have yf5 := BY.free 5
 have x6 := BX.cell 6
 have xf6 := BX.free 6
 have y6 := BY.cell 6
 have yf6 := BY.free 6
 clear BX BY hb ho
 have hk : Hid (∀ k, (Value.slice a' l.length c').ownBlock = some k → w.heap.size + 2 ≤ k) := HO.out.from
 go_wp2
 refine bodyPost_ret (v := .agg #[.int .i64 k, .int .i64 f, .int .i64 t, .int .i64 v, .int .i64 la, .slice a' l.length c', .int .i64 c]) (by simp [results, Tryz.results112, go_sem, y0, y1, y2, y3, y4, y5, y6]) rfl ⟨_, rfl, ?_, ?_⟩
 ·
  refine OwnsE.low (B := w.heap.size + 2) ?_ (by omega)
  repeat (refine OwnsE.other ?_ _ _ (fun k h => by have := hk.out k h; simp <;> omega))
  exact HO.out
 ·
  repeat (refine Below.setCell ?_ (by simp <;> omega) _)
  exact BB.out
theorem turnX_next (M : List ByteArray) (n : Nat) (y : ByteArray) (h : M.length < n) : (M ++ List.replicate (n - M.length) (⟨#[]⟩ : ByteArray)).set M.length y = (M ++ [y]) ++ List.replicate (n - (M.length + 1)) (⟨#[]⟩ : ByteArray) := by
 rw [List.set_append_right _ _ (Nat.le_refl _), Nat.sub_self, List.append_assoc]
 congr 1
 rw [show n - M.length = (n - (M.length + 1)) + 1 from by omega, List.replicate_succ, List.set_cons_zero]
 rfl
theorem madeX (n : Nat) : (madeCells (Value.cells (.string ⟨#[]⟩)) (n * 1)).toList = cellsE txtE (List.replicate n (⟨#[]⟩ : ByteArray)) := by
 rw [Nat.mul_one]
 apply List.ext_getElem?
 intro j
 by_cases hj : j < n
 ·
  have e : (madeCells (Value.cells (.string ⟨#[]⟩)) n).toList[j]? = some (.string ⟨#[]⟩) := by simp [madeCells, hj, Value.cells, Nat.mod_one]
  rw [e, cellsX_at (List.replicate n (⟨#[]⟩ : ByteArray)) j (by simpa using hj)]
  simp
 ·
  rw [List.getElem?_eq_none (by simp [madeCells]; omega), List.getElem?_eq_none (by rw [cellsE_length]; simp; show n * 1 ≤ j; omega)]
theorem implNlg (v : Value) (L : List ByteArray) (w : World) (h : Sls txtE w v L) (hl : L.length ≤ 1048576) (hs : ∀ x ∈ L, x.size ≤ 1048576) :
  Calls Tryz.prog 100 #[v] w fun e w' => ∃ u, e = .returned u ∧ OwnsX w' w.heap.size u L ∧ Below w.heap.size w w' := by
 obtain ⟨a, cap, rfl, h1, h2, h3⟩ := h.txt
 have H3 : Hid (0 < L.length → ∃ g o, a = some ⟨g, o, Option.none⟩ ∧ g < w.heap.size ∧ ∀ j (hj : j < L.length), w.cell? ⟨g, o + j, Option.none⟩ = some (.string L[j])) := h3
 have HS : Hid (∀ x ∈ L, x.size ≤ 1048576) := hs
 clear h h3 hs
 unfold maxLen at h2
 obtain ⟨i0, hi, hz0, hz1, hz2⟩ := info_parts Tryz.infoX9
 obtain ⟨w0, hrun, hown, hgr⟩ := run_make_full (P := Tryz.prog) w w.heap.size 24 9 i0 (.string ⟨#[]⟩) 1 Tryz.underlying24 hi hz0 hz1 .i64 .i64 L.length (by rw [hz2]; omega) (by unfold maxLen; omega) (Nat.le_refl _)
 rw [madeX] at hown
 have hown0 : Hid (OwnsX w0 w.heap.size (.slice (some ⟨w.heap.size, 0, Option.none⟩) L.length L.length) ([] ++ List.replicate (L.length - 0) (⟨#[]⟩ : ByteArray))) := by
  show w0.ownsRow _ _ 1 _ _ _
  rw [List.nil_append, Nat.sub_zero, List.length_replicate]
  exact hown
 have hb0 : Hid (Below w.heap.size w w0) := (Below.refl _ w).grown hgr (Nat.le_refl _) (fun j hj => by cases hj)
 clear hown hgr hi hz0 hz1 hz2
 go_enter Tryz.func100, Tryz.ntmps100
 go_wp2
 go_loopw [11] (fun i wr => ∃ (M : List ByteArray), M.length ≤ L.length ∧ i = .int .i64 M.length ∧ Hid (M = L.take M.length) ∧ Hid (OwnsX wr w.heap.size (.slice (some ⟨w.heap.size, 0, Option.none⟩) L.length L.length) (M ++ List.replicate (L.length - M.length) (⟨#[]⟩ : ByteArray))) ∧ Hid (Below w.heap.size w wr)) (fun i _ => L.length - (intOf i).toNat)
 case atStart => exact ⟨[], Nat.zero_le _, rfl, (show Hid _ from rfl), hown0, hb0⟩
 case round =>
  clear hown0 hb0 hrun
  obtain ⟨M, hk, rfl, hM, ho, hb⟩ := hrel
  by_cases hlt : M.length < L.length
  ·
   obtain ⟨g, q, rfl, hg, hc⟩ := H3.out (by omega)
   have c1 := (hb.out.cell (p := ⟨g, q + M.length, none⟩) hg).trans (hc M.length hlt)
   have hx := HS.out _ (List.getElem_mem hlt)
   have HN : Hid (L.take (M.length + 1) = M ++ [L[M.length]]) := (show _ = _ by rw [List.take_succ_eq_append_getElem hlt, ← hM.out])
   have hki : (M.length : Int) < (L.length : Int) := by omega
   have jc := fun W => clonP L[M.length] W hx
   generalize L[M.length] = x at c1 HN jc
   clear hc hx
   go_wp2_with fail
   refine (jc _).mono ?_
   rintro e w1 ⟨rfl, hb1⟩
   have ho1 := ho.out.kept hb1
   have hlen : (M ++ List.replicate (L.length - M.length) (⟨#[]⟩ : ByteArray)).length = L.length := by simp; omega
   have d1 := hasX_at ho1.has M.length (by omega)
   have f1 := OwnsE.free hlen.symm ho1 M.length
   obtain ⟨y0, hy0⟩ : ∃ y0, w1.cell? ⟨w.heap.size, M.length, none⟩ = some y0 := ⟨_, d1⟩
   clear d1
   have ho2 := OwnsE.put hlen.symm ho1 (j := M.length) (i := 0) (by omega) (by decide) (.string x) x rfl
   rw [turnX_next _ _ _ hlt] at ho2
   have e0 : M.length * txtE.k + 0 = M.length := by show M.length * 1 + 0 = M.length; omega
   rw [e0] at ho2
   have HO : Hid (OwnsX (w1.setCell ⟨w.heap.size, M.length, none⟩ (.string x)) w.heap.size (.slice (some ⟨w.heap.size, 0, none⟩) L.length L.length) ((M ++ [x]) ++ List.replicate (L.length - (M.length + 1)) (⟨#[]⟩ : ByteArray))) := ho2
   have B2 : Hid (Below w.heap.size w (w1.setCell ⟨w.heap.size, M.length, none⟩ (.string x))) := hH_ ((hb.out.trans (hb1.mono hb.out.size)).setCell (p := ⟨w.heap.size, M.length, none⟩) (Nat.le_refl _) _)
   clear ho ho1 ho2 hb1 e0 hlen
   go_wp2_with fail
   go_roundw
   case rel =>
    refine ⟨M ++ [x], (by simp <;> omega), (by simp <;> go_num), ?_, ?_, B2⟩
    ·
     show _ = _
     rw [show (M ++ [x]).length = M.length + 1 by simp, HN.out]
    ·
     have := HO.out
     rw [show (M ++ [x]).length = M.length + 1 by simp]
     exact this
   case measure => simp [intOf]; omega
  ·
   have hkk : M.length = L.length := by omega
   have HE : Hid (M = L) := (show _ = _ by rw [hM.out, hkk]; exact List.take_length)
   go_wp2
   go_ret
   refine ⟨_, rfl, ?_, hb.out⟩
   have := ho.out
   rw [hkk, Nat.sub_self, List.replicate_zero, List.append_nil, HE.out] at this
   exact this

theorem implNms (m : Ms) (u : Value) (w : World) (h : Sls txtE w u m.l) (hl : m.l.length ≤ 1048576) (hs : ∀ x ∈ m.l, x.size ≤ 1048576) :
  Calls Tryz.prog 99 #[msA m u] w fun e w' => ∃ u', e = .returned (msA m u') ∧ OwnsX w' w.heap.size u' m.l ∧ Below w.heap.size w w' := by
 have HH : Hid (Sls txtE w u m.l) := h
 have j1 := fun W hW => implNlg u m.l W hW hl hs
 obtain ⟨a, ca, rfl, _⟩ := h
 unfold msA
 obtain ⟨k, f, t, v, la, l, c⟩ := m
 simp only at j1 HH ⊢
 go_enter Tryz.func99, Tryz.ntmps99
 go_wp2_with fail
 refine (j1 _ (HH.out.kept (by repeat (first | exact Below.refl _ _ | refine Below.alloc ?_ (by simp <;> omega) _)))).mono ?_
 rintro e w1 ⟨u', rfl, ho, hb⟩
 obtain ⟨a', c', rfl, _⟩ := ho.form
 simp [go_sem] at hb ho
 have BX : Bx w1 w.heap.size 30 #[.int .i64 k, .int .i64 f, .int .i64 t, .int .i64 v, .int .i64 la, .slice a l.length ca, .int .i64 c] := Bx.low ((Bx.at _ _ rfl).alloc _) hb (by omega)
 have BY : Bx w1 (w.heap.size + 1) 30 #[.int .i64 0, .int .i64 0, .int .i64 0, .int .i64 0, .int .i64 0, .slice none 0 0, .int .i64 0] := Bx.low (Bx.at _ _ (by simp)) hb (by omega)
 have BB : Hid (Below w.heap.size w w1) := (((Below.refl _ w).alloc (Nat.le_refl _) _).alloc (by simp) _).trans (hb.mono (by omega))
 have HO : Hid (OwnsX w1 (w.heap.size + 2) (.slice a' l.length c') l) := ho
 have sz : w.heap.size + 2 ≤ w1.heap.size := by have := hb.size; simp at this; omega
 have x0 := BX.cell 0
 have xf0 := BX.free 0
 have y0 := BY.cell 0
 have yf0 := BY.free 0
 have x1 := BX.cell 1
 have xf1 := BX.free 1
 have y1 := BY.cell 1
 have yf1 := BY.free 1
 have x2 := BX.cell 2
 have xf2 := BX.free 2
 have y2 := BY.cell 2
 have yf2 := BY.free 2
 have x3 := BX.cell 3
 have xf3 := BX.free 3
 have y3 := BY.cell 3
 have yf3 := BY.free 3
 have x4 := BX.cell 4
 have xf4 := BX.free 4
 have y4 := BY.cell 4
 have yf4 := BY.free 4
 have x5 := BX.cell 5
 have xf5 := BX.free 5
 have y5 := BY.cell 5
 have yf5 := BY.free 5
 have x6 := BX.cell 6
 have xf6 := BX.free 6
 have y6 := BY.cell 6
 have yf6 := BY.free 6
 clear BX BY hb ho
 have hk : Hid (∀ k, (Value.slice a' l.length c').ownBlock = some k → w.heap.size + 2 ≤ k) := HO.out.from
 go_wp2
 refine bodyPost_ret (v := .agg #[.int .i64 k, .int .i64 f, .int .i64 t, .int .i64 v, .int .i64 la, .slice a' l.length c', .int .i64 c]) (by simp [results, Tryz.results99, go_sem, y0, y1, y2, y3, y4, y5, y6]) rfl ⟨_, rfl, ?_, ?_⟩
 ·
  refine OwnsE.low (B := w.heap.size + 2) ?_ (by omega)
  repeat (refine OwnsE.other ?_ _ _ (fun k h => by have := hk.out k h; simp <;> omega))
  exact HO.out
 ·
  repeat (refine Below.setCell ?_ (by simp <;> omega) _)
  exact BB.out
theorem majI {n : Nat} {p : Int} : (decide (p < 2 * (n : Int))) = dB (maj n p) := by
 by_cases h : p < 2 * (n : Int)
 ·
  rw [decide_eq_true h]; exact (dB_yes (P := maj n p) h).symm
 ·
  rw [decide_eq_false h]; exact (dB_no (P := maj n p) h).symm
theorem specMaj (n : Nat) (p : Int) (w : World) (hn : n ≤ 1048576) :
  Calls Tryz.prog 109 #[.int .i64 (n : Int), .int .i64 p] w fun e w' => e = .returned (.bool (dB (maj n p))) ∧ w = w' := by
 have HM : Hid (_ = dB (maj n p)) := majI
 go_enter Tryz.func109, Tryz.ntmps109
 go_wp2
 go_ret
 exact ⟨congrArg (fun b => Ending.returned (.bool b)) HM.out, rfl⟩
theorem implMaj (n : Nat) (r : Rp) (u : Rv) (b : Nat) (w : World) (h : RpB w b r u) (hn : n ≤ 1048576) :
  Calls Tryz.prog 128 #[.pointer (some ⟨b, 0, none⟩), .int .i64 (n : Int)] w fun e w' => e = .returned (.bool (dB (maj n r.p))) ∧ w = w' := by
 have HM : Hid (_ = dB (maj n r.p)) := majI
 have c1 := h.cells.2.1
 clear h
 go_enter Tryz.func128, Tryz.ntmps128
 go_wp2
 go_ret
 exact ⟨congrArg (fun b => Ending.returned (.bool b)) HM.out, rfl⟩
theorem specLds (r : Rp) (u : Rv) (w : World) (hv : 0 ≤ r.v ∧ r.v ≤ 20000) (hp : pOk r.p) :
  Calls Tryz.prog 64 #[rpA r u] w fun e w' => e = .returned (.bool (dB (leads r))) ∧ Below w.heap.size w w' := by
 have XB : RpB (w.alloc (.cells #[.int .i64 r.id, .int .i64 r.p, .int .i64 r.v, .bool r.n, .int .i64 r.la, u.l, .int .i64 r.c, u.ok, u.ch, u.te] 28)) w.heap.size r u := Bx.new _ _ _
 have B0 : Hid (Below w.heap.size w (w.alloc (.cells #[.int .i64 r.id, .int .i64 r.p, .int .i64 r.v, .bool r.n, .int .i64 r.la, u.l, .int .i64 r.c, u.ok, u.ch, u.te] 28))) := hH_ ((Below.refl _ w).alloc (Nat.le_refl _) _)
 obtain ⟨c0, c1, c2, c3, c4, c5, c6, c7, c8, c9⟩ := XB.cells
 unfold rpA
 clear XB c4 c5 c6 c7 c8 c9
 cases hn : r.n with
 | false =>
  have HL : Hid (false = dB (leads r)) := hH_ ((dB_no (fun hl => by have := hl.1; rw [hn] at this; cases this)).symm)
  rw [hn] at c3 B0 c0 c1 c2
  clear hn
  go_enter Tryz.func64, Tryz.ntmps64
  generalize hw1 : (w.alloc (.cells #[.int .i64 r.id, .int .i64 r.p, .int .i64 r.v, .bool false, .int .i64 r.la, u.l, .int .i64 r.c, u.ok, u.ch, u.te] 28)) = w1 at B0 c0 c1 c2 c3
  go_upto_region 1 with fail
  clear hw1
  go_quiet (fail)
  have BN : Hid (Below w.heap.size w (w1.drewN nq)) := hH_ (B0.out.trans ⟨rfl, rfl, rfl, Nat.le_refl _, fun _ _ => rfl⟩)
  generalize w1.drewN nq = wn at BN ⊢
  go_wp2
  go_ret
  exact ⟨congrArg (fun b => Ending.returned (.bool b)) HL.out, BN.out⟩
 | true =>
  have HL : Hid ((r.v % r.p == r.id) = dB (leads r)) := (show _ = _ by
   have e1 : dB (leads r) = dB (mine r) := by
    by_cases hm : mine r
    ·
     rw [dB_yes hm, dB_yes (show leads r from ⟨hn, hm⟩)]
    ·
     rw [dB_no hm, dB_no (fun hl : leads r => hm hl.2)]
   rw [e1, ← dB_mine]
   by_cases hh : r.v % r.p = r.id <;> simp [hh])
  rw [hn] at c3 B0 c0 c1 c2
  clear hn
  have em : Int.tmod r.v r.p = r.v % r.p := modE hv.1
  have hpz : ¬ r.p = 0 := by rcases hp with h | h | h <;> rw [h] <;> decide
  have ew : wrap64 (r.v % r.p) = r.v % r.p := by unfold wrap64; rcases hp with h | h | h <;> rw [h] <;> omega
  go_enter Tryz.func64, Tryz.ntmps64
  generalize r.v % r.p = q at em ew HL
  generalize hw1 : (w.alloc (.cells #[.int .i64 r.id, .int .i64 r.p, .int .i64 r.v, .bool true, .int .i64 r.la, u.l, .int .i64 r.c, u.ok, u.ch, u.te] 28)) = w1 at B0 c0 c1 c2 c3
  go_upto_region 1 with fail
  clear hw1
  go_quiet (fail)
  have BN : Hid (Below w.heap.size w (w1.drewN nq)) := hH_ (B0.out.trans ⟨rfl, rfl, rfl, Nat.le_refl _, fun _ _ => rfl⟩)
  generalize w1.drewN nq = wn at BN ⊢
  go_wp2
  go_ret
  exact ⟨congrArg (fun b => Ending.returned (.bool b)) HL.out, BN.out⟩
open Go.RowKit Go.Sort Pg

structure MsOwn (w : World) (B : Nat) (v : Value) (T : List Mx) (L : List Ms) : Prop where
 row : OwnsM w B v T
 logs : Logs w B T
 ap : ∀ x ∈ T, ap v x.u
 is : T.map (·.m) = L
theorem MsOwn.kept {w w' : World} {B : Nat} {v : Value} {T : List Mx} {L : List Ms} (h : MsOwn w B v T L) (hb : Below w.heap.size w w') : MsOwn w' B v T L := ⟨h.row.kept hb, h.logs.kept hb, h.ap, h.is⟩
theorem MsOwn.low {w : World} {B B' : Nat} {v : Value} {T : List Mx} {L : List Ms} (h : MsOwn w B v T L) (hB : B' ≤ B) : MsOwn w B' v T L := ⟨h.row.low hB, h.logs.low hB, h.ap, h.is⟩
theorem MsOwn.len {w : World} {B : Nat} {v : Value} {T : List Mx} {L : List Ms} (h : MsOwn w B v T L) : T.length = L.length := by rw [← h.is, List.length_map]
theorem MsOwn.born (w : World) : MsOwn (w.alloc (.cells #[] 30)) w.heap.size (.slice (some ⟨w.heap.size, 0, none⟩) 0 0) [] [] := ⟨OwnsE.born w, Logs.nil _ _, fun x hx => (by cases hx), rfl⟩
theorem MsOwn.alloc {w : World} {B : Nat} {v : Value} {T : List Mx} {L : List Ms} (h : MsOwn w B v T L) (o : Obj) : MsOwn (w.alloc o) B v T L := h.kept ((Below.refl _ w).alloc (Nat.le_refl _) o)
theorem OwnsE.ne_of {α : Type} {E : Enc α} {ty ty' : TypeId} {w : World} {B g : Nat} {v : Value} {l : List α} {c : Array Value} {fz : Nat × Nat} (h : HasE E ty w B v l) (hg : w.heap[g]? = some (.cells c ty' fz)) (hne : ty' ≠ ty) : ∀ k, v.ownBlock = some k → k ≠ g := by
 intro k hk e
 rcases h with ⟨h0, _⟩ | ⟨g', cap', cur, hv, _, hh, _⟩
 ·
  rw [h0] at hk; cases hk
 ·
  rw [hv] at hk
  have : g' = k := by simpa [Value.ownBlock] using hk
  rw [this, e, hg] at hh
  injection hh with hh
  injection hh with _ hh _
  exact hne hh
theorem wpList_pushM {ops : Array Oper} {rest : List Oper} {o : Oper} {a : Act} {Q : Exit → Act → World → Prop} (w : World) (hgd : o.guard = none) (s x : Operand)
  (ho : o.op = .call { callee := .builtin .append, args := #[s, x], argTypes := #[26, 26] }) (B : Nat) (v : Value) (T : List Mx) (L : List Ms) (f : Mx) (hs : a.eval s = v) (h : MsOwn w B v T L)
  (hf : HasX w B f.u f.m.l) (C : Nat) (hC1 : ∀ y ∈ T, ∀ k, y.u.ownBlock = some k → k < C) (hC2 : ∀ k, v.ownBlock = some k → k < C) (hC3 : ∀ k, f.u.ownBlock = some k → C ≤ k)
  (hx : a.eval x = .slice (some ⟨w.heap.size, 0, none⟩) 1 1) (hlen : T.length ≤ 1100000) (hB : B ≤ w.heap.size)
  (hh : ∀ v' w', MsOwn w' B v' (T ++ [f]) (L ++ [f.m]) → w.grownBy w' v.ownBlock → wpList Tryz.prog ops Q rest (a.put o.dst v') w') :
  wpList Tryz.prog ops Q (o :: rest) a (w.alloc (.cells #[.int .i64 f.m.k, .int .i64 f.m.f, .int .i64 f.m.t, .int .i64 f.m.v, .int .i64 f.m.la, f.u, .int .i64 f.m.c] 30)) := by
 refine wpList_rowE_at (E := mxE) _ hgd s x 26 30 _ 72 Tryz.underlying26 Tryz.infoMSV rfl ho B v T hs (h.row.alloc _) ⟨w.heap.size, 0, none⟩ 1 [f] hx ?_ (by unfold maxLen; simp; omega) (by simp; omega) (by simp; omega) ?_
 ·
  intro j u hu
  rw [cellsE_single] at hu
  rw [addr_add, Nat.zero_add, World.cell?_alloc_mark]
  simpa [mxE, mxC] using hu
 intro v' w' h1 h2 h3 h4
 have hg : w.grownBy w' v.ownBlock := ⟨h2.os, h2.tape, h2.output, by have := h2.size; simp at this; omega, fun k hk hne => by rw [h2.block k (by simp; omega) hne]; exact Below.heap_alloc _ _ _ hk⟩
 have hfu := hf.under
 have hTu := fun y hy => (h.logs.l y hy).under
 have L1 : Logs w B (T ++ [f]) := h.logs.snoc hf hC1 hC3
 have apv : ∀ y ∈ T ++ [f], ap v y.u := fun y hy k hk hk' => by
  rcases List.mem_append.1 hy with hy | hy
  ·
   exact h.ap y hy k hk hk'
  ·
   rw [List.mem_singleton.1 hy] at hk'
   have := hC2 k hk
   have := hC3 k hk'
   omega
 have hsz : (w.alloc (.cells #[.int .i64 f.m.k, .int .i64 f.m.f, .int .i64 f.m.t, .int .i64 f.m.v, .int .i64 f.m.la, f.u, .int .i64 f.m.c] 30)).heap.size = w.heap.size + 1 := by simp
 refine hh v' w' ⟨h1, ⟨fun y hy => (L1.l y hy).grown hg (fun k hk hk' => apv y hy k hk' hk), L1.ap⟩, fun y hy k hk hk' => ?_, by rw [List.map_append, h.is]; rfl⟩ hg
 rcases h4 with h4 | h4
 ·
  rw [h4] at hk
  exact apv y hy k hk hk'
 ·
  rw [h4, hsz] at hk
  have e : w.heap.size + 1 = k := by simpa using hk
  have := (L1.l y hy).under k hk'
  omega
def allK (r : Rp) (m : Ms) (k : Nat) : List Ms := ((List.range k).filter fun (q : Nat) => decide ((q : Int) ≠ r.id)).map fun (q : Nat) => { m with f := r.id, t := (q : Int) }
theorem allK_skip {r : Rp} {m : Ms} {k : Nat} (h : (k : Int) = r.id) : allK r m (k + 1) = allK r m k := by
 unfold allK
 rw [List.range_succ, List.filter_append, List.map_append]
 simp [h]
theorem allK_next {r : Rp} {m : Ms} {k : Nat} (h : (k : Int) ≠ r.id) : allK r m (k + 1) = allK r m k ++ [{ m with f := r.id, t := (k : Int) }] := by
 unfold allK
 rw [List.range_succ, List.filter_append, List.map_append]
 simp [h]
theorem specAll (r : Rp) (u : Rv) (m : Ms) (um : Value) (w : World) (hp : pOk r.p) (hm : Sls txtE w um m.l) (hl : m.l.length ≤ 1048576) :
  Calls Tryz.prog 125 #[rpA r u, msA m um] w fun e w' => ∃ v T, e = .returned v ∧ MsOwn w' w.heap.size v T (allM r m) ∧ Below w.heap.size w w' := by
 obtain ⟨a, cap, hv⟩ := Sls.slen0 hm
 subst hv
 have HP : Hid (0 ≤ r.p ∧ r.p ≤ 5) := (show _ ∧ _ by rcases hp with h | h | h <;> omega)
 have HM : Hid (Sls txtE w (.slice a m.l.length cap) m.l) := hm
 obtain ⟨mk, mf, mt, mv, ma, ml, mc⟩ := m
 simp only at HM hl hm
 unfold rpA msA
 simp only
 obtain ⟨W0, hW0⟩ : ∃ W0, W0 = (((w.alloc (.cells #[.int .i64 r.id, .int .i64 r.p, .int .i64 r.v, .bool r.n, .int .i64 r.la, u.l, .int .i64 r.c, u.ok, u.ch, u.te] 28)).alloc (.cells #[.int .i64 mk, .int .i64 mf, .int .i64 mt, .int .i64 mv, .int .i64 ma, .slice a ml.length cap, .int .i64 mc] 30)).alloc (.cells #[] 30)) := ⟨_, rfl⟩
 have hs0 : W0.heap.size = w.heap.size + 3 := by rw [hW0]; simp
 have XR : Hid (Bx W0 w.heap.size 28 #[.int .i64 r.id, .int .i64 r.p, .int .i64 r.v, .bool r.n, .int .i64 r.la, u.l, .int .i64 r.c, u.ok, u.ch, u.te]) := hH_ (by rw [hW0]; exact ((Bx.new _ _ _).alloc _).alloc _)
 have XM : Hid (Bx W0 (w.heap.size + 1) 30 #[.int .i64 mk, .int .i64 mf, .int .i64 mt, .int .i64 mv, .int .i64 ma, .slice a ml.length cap, .int .i64 mc]) := hH_ (by rw [hW0]; exact (Bx.at _ _ (by simp)).alloc _)
 have O0 : Hid (MsOwn W0 (w.heap.size + 2) (.slice (some ⟨w.heap.size + 2, 0, none⟩) 0 0) [] []) := (show MsOwn W0 (w.heap.size + 2) (.slice (some ⟨w.heap.size + 2, 0, none⟩) 0 0) [] [] by
  rw [hW0]
  have := MsOwn.born ((w.alloc (.cells #[.int .i64 r.id, .int .i64 r.p, .int .i64 r.v, .bool r.n, .int .i64 r.la, u.l, .int .i64 r.c, u.ok, u.ch, u.te] 28)).alloc (.cells #[.int .i64 mk, .int .i64 mf, .int .i64 mt, .int .i64 mv, .int .i64 ma, .slice a ml.length cap, .int .i64 mc] 30))
  simpa using this)
 have B0 : Hid (Below w.heap.size w W0) := hH_ (by rw [hW0]; exact (((Below.refl _ w).alloc (Nat.le_refl _) _).alloc (by simp) _).alloc (by simp <;> omega) _)
 have S0 : Hid (W0.heap.size = w.heap.size + 3) := hs0
 clear hm hs0 hp
 go_enter Tryz.func125, Tryz.ntmps125
 go_wp2_with fail
 rw [← hW0]
 clear hW0
 go_loopw [5, 6] (fun v i wr => ∃ (k : Nat) (T : List Mx) (ff tt : Int), (k : Int) ≤ r.p ∧ i = .int .i64 k ∧ Hid (MsOwn wr (w.heap.size + 2) v T (allK r ⟨mk, mf, mt, mv, ma, ml, mc⟩ k)) ∧ Hid (Bx wr w.heap.size 28 #[.int .i64 r.id, .int .i64 r.p, .int .i64 r.v, .bool r.n, .int .i64 r.la, u.l, .int .i64 r.c, u.ok, u.ch, u.te]) ∧ Hid (Bx wr (w.heap.size + 1) 30 #[.int .i64 mk, .int .i64 ff, .int .i64 tt, .int .i64 mv, .int .i64 ma, .slice a ml.length cap, .int .i64 mc]) ∧ Hid (Below w.heap.size w wr) ∧ Hid (w.heap.size + 3 ≤ wr.heap.size)) (fun _ i _ => r.p.toNat - (intOf i).toNat)
 case atStart => exact ⟨0, [], mf, mt, HP.out.1, rfl, O0, XR, XM, B0, (show Hid _ from Nat.le_of_eq S0.out.symm)⟩
 case round =>
  obtain ⟨k, T, ff, tt, hk, rfl, hO, hR, hX, hb, hsz⟩ := hrel
  have hp5 := HP.out
  have r0 := hR.out.cell 0
  have r1 := hR.out.cell 1
  change wr.cell? ⟨w.heap.size, 0, none⟩ = some (.int .i64 r.id) at r0
  change wr.cell? ⟨w.heap.size, 1, none⟩ = some (.int .i64 r.p) at r1
  by_cases hlt : (k : Int) < r.p
  ·
   by_cases hid : (k : Int) = r.id
   ·
    have hne : ((k : Int) != r.id) = false := by simpa using hid
    have HA : Hid _ := (allK_skip (m := ⟨mk, mf, mt, mv, ma, ml, mc⟩) hid)
    go_wp2_with fail
    go_roundw
    case rel => exact ⟨k + 1, T, ff, tt, by omega, by go_num, by rw [HA.out]; exact hO, hR, hX, hb, hsz⟩
    case measure => simp [intOf]; omega
   ·
    have hne : ((k : Int) != r.id) = true := by simpa using hid
    have HA : Hid _ := (allK_next (m := ⟨mk, mf, mt, mv, ma, ml, mc⟩) hid)
    obtain ⟨va, vc, hvv, hvl, _⟩ := hO.out.row.form
    subst hvv
    have HX2 : Hid (Bx ((wr.setCell ⟨w.heap.size + 1, 1, none⟩ (.int .i64 r.id)).setCell ⟨w.heap.size + 1, 2, none⟩ (.int .i64 (k : Int))) (w.heap.size + 1) 30 #[.int .i64 mk, .int .i64 r.id, .int .i64 (k : Int), .int .i64 mv, .int .i64 ma, .slice a ml.length cap, .int .i64 mc]) := hH_ ((hX.out.put 1 _).put 2 _)
    have HR2 : Hid (Bx ((wr.setCell ⟨w.heap.size + 1, 1, none⟩ (.int .i64 r.id)).setCell ⟨w.heap.size + 1, 2, none⟩ (.int .i64 (k : Int))) w.heap.size 28 #[.int .i64 r.id, .int .i64 r.p, .int .i64 r.v, .bool r.n, .int .i64 r.la, u.l, .int .i64 r.c, u.ok, u.ch, u.te]) := hH_ ((hR.out.other _ _ (by omega)).other _ _ (by omega))
    have HB2 : Hid (Below w.heap.size w ((wr.setCell ⟨w.heap.size + 1, 1, none⟩ (.int .i64 r.id)).setCell ⟨w.heap.size + 1, 2, none⟩ (.int .i64 (k : Int)))) := hH_ ((hb.out.setCell (p := ⟨w.heap.size + 1, 1, none⟩) (by simp) _).setCell (p := ⟨w.heap.size + 1, 2, none⟩) (by simp) _)
    have HN2 : Hid (∀ q, (w.heap.size + 2) ≤ q → ((wr.setCell ⟨w.heap.size + 1, 1, none⟩ (.int .i64 r.id)).setCell ⟨w.heap.size + 1, 2, none⟩ (.int .i64 (k : Int))).heap[q]? = wr.heap[q]?) := hH_ (fun q hq => (Below.heap_setCell _ _ _ _ (by simp <;> omega)).trans (Below.heap_setCell _ _ _ _ (by simp <;> omega)))
    have HO2 : Hid (MsOwn ((wr.setCell ⟨w.heap.size + 1, 1, none⟩ (.int .i64 r.id)).setCell ⟨w.heap.size + 1, 2, none⟩ (.int .i64 (k : Int))) (w.heap.size + 2) (.slice va T.length vc) T (allK r ⟨mk, mf, mt, mv, ma, ml, mc⟩ k)) := hH_ (⟨OwnsE.other (OwnsE.other hO.out.row _ _ (fun q hq => by have := hO.out.row.from q hq; simp <;> omega)) _ _ (fun q hq => by have := hO.out.row.from q hq; simp <;> omega), ⟨fun x hx => (hO.out.logs.l x hx).off (fun q hq => HN2.out q ((hO.out.logs.l x hx).from q hq)), hO.out.logs.ap⟩, hO.out.ap, hO.out.is⟩)
    have j1 := fun W hW => specMcp ⟨mk, r.id, (k : Int), mv, ma, ml, mc⟩ (.slice a ml.length cap) W hW hl
    unfold msA at j1
    simp only at j1
    have x0 := hX.out.cell 0
    have x1 := hX.out.cell 1
    have x2 := hX.out.cell 2
    have x3 := hX.out.cell 3
    have x4 := hX.out.cell 4
    have x5 := hX.out.cell 5
    have x6 := hX.out.cell 6
    have f1 := hX.out.free 1
    have f2 := hX.out.free 2
    have hks : k < 5 := by omega
    go_wp2_with fail
    clear x0 x1 x2 x3 x4 x5 x6 f1 f2 r0 r1 hO hR hX hb
    refine (j1 _ (HM.out.kept (HB2.out.mono (by simp)))).mono ?_
    rintro e w2 ⟨u2, rfl, hu, hb⟩
    obtain ⟨pa, pc, rfl, _⟩ := hu.form
    have HX3 := hH_ (HX2.out.kept hb)
    have HR3 := hH_ (HR2.out.kept hb)
    have HO3 := hH_ (HO2.out.kept hb)
    have HB3 := hH_ (HB2.out.trans (hb.mono HB2.out.size))
    simp at hu
    have HU : Hid (OwnsX w2 wr.heap.size (.slice pa ml.length pc) ml) := hu
    have Z1 : Hid (wr.heap.size ≤ w2.heap.size) := (show wr.heap.size ≤ w2.heap.size by have := hb.size; simp at this; exact this)
    have HC1 : Hid (∀ y ∈ T, ∀ q, y.u.ownBlock = some q → q < wr.heap.size) := hH_ (fun y hy q hq => by have := (HO2.out.logs.l y hy).under q hq; simpa using this)
    have HC2 : Hid (∀ q, (Value.slice va T.length vc).ownBlock = some q → q < wr.heap.size) := hH_ (fun q hq => by have := HO2.out.row.under q hq; simpa using this)
    have HTL : Hid (T.length ≤ 5) := (show T.length ≤ 5 by
     have := HO2.out.len
     unfold allK at this
     rw [List.length_map] at this
     have h2 := List.length_filter_le (fun (q : Nat) => decide ((q : Int) ≠ r.id)) (List.range k)
     rw [List.length_range] at h2
     omega)
    clear hb hu HX2 HR2 HO2 HB2 j1
    have hz1 := Z1.out
    have hz2 := hsz.out
    have htl := HTL.out
    go_wp2_with (
     at_builtin
     refine wpList_pushM w2 rfl (.tmp 23) (.tmp 26) rfl (w.heap.size + 2) (.slice va T.length vc) T _ ⟨⟨mk, r.id, (k : Int), mv, ma, ml, mc⟩, pa, pc⟩ (by simp [Act.eval, Act.put]) HO3.out (HU.out.has.low (by omega)) wr.heap.size HC1.out HC2.out HU.out.from (by simp [Act.eval, Act.put]) (by omega) (by omega) ?_
     intro v' w3 ho3 hg3)
    have HX4 : Hid (Bx w3 (w.heap.size + 1) 30 _) := hH_ (HX3.out.grown hg3 (fun e => by have := HO3.out.row.from _ e; omega))
    have HR4 : Hid (Bx w3 w.heap.size 28 #[.int .i64 r.id, .int .i64 r.p, .int .i64 r.v, .bool r.n, .int .i64 r.la, u.l, .int .i64 r.c, u.ok, u.ch, u.te]) := hH_ (HR3.out.grown hg3 (fun e => by have := HO3.out.row.from _ e; omega))
    have HB4 : Hid (Below w.heap.size w w3) := hH_ (HB3.out.grown hg3 HB3.out.size (fun q hq => by have := HO3.out.row.from q hq; omega))
    have HO4 : Hid (MsOwn w3 (w.heap.size + 2) v' (T ++ [⟨⟨mk, r.id, (k : Int), mv, ma, ml, mc⟩, pa, pc⟩]) (allK r ⟨mk, mf, mt, mv, ma, ml, mc⟩ (k + 1))) := hH_ (by rw [HA.out]; exact ho3)
    have Z4 : Hid (w.heap.size + 3 ≤ w3.heap.size) := (show w.heap.size + 3 ≤ w3.heap.size by have := hg3.size; omega)
    clear ho3 hg3 HX3 HR3 HO3 HB3
    go_roundw
    case rel => exact ⟨k + 1, _, r.id, (k : Int), by omega, by go_num, HO4, HR4, HX4, HB4, Z4⟩
    case measure => simp [intOf]; omega
  ·
   have hkk : k = r.p.toNat := by omega
   subst hkk
   go_wp2
   go_ret
   exact ⟨_, rfl, ⟨T, hO.out.low (by omega)⟩, hb.out⟩
open Go.RowKit Go.Sort Pg

theorem wpList_pushMg {ops : Array Oper} {rest : List Oper} {o : Oper} {a : Act} {Q : Exit → Act → World → Prop} (w : World) (hgd : o.guard = none) (s x : Operand)
  (ho : o.op = .call { callee := .builtin .append, args := #[s, x], argTypes := #[26, 26] }) (B : Nat) (v : Value) (T : List Mx) (L : List Ms) (f : Mx) (hs : a.eval s = v) (h : MsOwn w B v T L)
  (hf : HasX w B f.u f.m.l) (C : Nat) (hC1 : ∀ y ∈ T, ∀ k, y.u.ownBlock = some k → k < C) (hC2 : ∀ k, v.ownBlock = some k → k < C) (hC3 : ∀ k, f.u.ownBlock = some k → C ≤ k)
  (g : Nat) (hg : Bx w g 30 #[.int .i64 f.m.k, .int .i64 f.m.f, .int .i64 f.m.t, .int .i64 f.m.v, .int .i64 f.m.la, f.u, .int .i64 f.m.c])
  (hx : a.eval x = .slice (some ⟨g, 0, none⟩) 1 1) (hlen : T.length ≤ 1100000) (hB : B ≤ w.heap.size)
  (hh : ∀ v' w', MsOwn w' B v' (T ++ [f]) (L ++ [f.m]) → w.grownBy w' v.ownBlock → wpList Tryz.prog ops Q rest (a.put o.dst v') w') :
  wpList Tryz.prog ops Q (o :: rest) a w := by
 refine wpList_rowE_at (E := mxE) _ hgd s x 26 30 _ 72 Tryz.underlying26 Tryz.infoMSV rfl ho B v T hs h.row ⟨g, 0, none⟩ 1 [f] hx ?_ (by unfold maxLen; simp; omega) (by simp; omega) hB ?_
 ·
  intro j u hu
  rw [cellsE_single] at hu
  rw [addr_add, Nat.zero_add, hg.cell j]
  simpa [mxE, mxC] using hu
 intro v' w' h1 h2 h3 h4
 have L1 : Logs w B (T ++ [f]) := h.logs.snoc hf hC1 hC3
 have apv : ∀ y ∈ T ++ [f], ap v y.u := fun y hy k hk hk' => by
  rcases List.mem_append.1 hy with hy | hy
  ·
   exact h.ap y hy k hk hk'
  ·
   rw [List.mem_singleton.1 hy] at hk'
   have := hC2 k hk
   have := hC3 k hk'
   omega
 refine hh v' w' ⟨h1, ⟨fun y hy => (L1.l y hy).grown h2 (fun k hk hk' => apv y hy k hk' hk), L1.ap⟩, fun y hy k hk hk' => ?_, by rw [List.map_append, h.is]; rfl⟩ h2
 rcases h4 with h4 | h4
 ·
  rw [h4] at hk
  exact apv y hy k hk hk'
 ·
  rw [h4] at hk
  have e : w.heap.size = k := by simpa using hk
  have := (L1.l y hy).under k hk'
  omega
theorem allM_len (r : Rp) (m : Ms) (hp : pOk r.p) : (allM r m).length ≤ 5 := by
 unfold allM
 rw [List.length_map]
 have h2 := List.length_filter_le (fun (q : Nat) => decide ((q : Int) ≠ r.id)) (List.range r.p.toNat)
 rw [List.length_range] at h2
 rcases hp with h | h | h <;> omega
structure TlB (x : World) (lo g : Nat) (p1 : Option Addr) (d1 : Nat) (r : Rp) (q : Int) : Prop where
 b : Bx x g 30 #[.int .i64 4, .int .i64 r.id, .int .i64 q, .int .i64 r.v, .int .i64 r.la, .slice p1 r.l.length d1, .int .i64 r.c]
 l : OwnsX x lo (.slice p1 r.l.length d1) r.l
theorem TlB.kept {x y : World} {lo g : Nat} {p1 : Option Addr} {d1 : Nat} {r : Rp} {q : Int} (h : TlB x lo g p1 d1 r q) (hb : Below x.heap.size x y) : TlB y lo g p1 d1 r q := ⟨h.b.kept hb, h.l.kept hb⟩
def frSp (s t : Nat → Value) : Act := { tmps := #[s 0, s 1, s 2, s 3, s 4, s 5, s 6, s 7, s 8, s 9, s 10, s 11, s 12, s 13, s 14, s 15, s 16, s 17, s 18, s 19, s 20, s 21, s 22, s 23, s 24, s 25, s 26, s 27, s 28, s 29, s 30, s 31, s 32, s 33, s 34, s 35, s 36, s 37, s 38, s 39, s 40, s 41, s 42, s 43, s 44, t 45, t 46, t 47, t 48, t 49, t 50, t 51, t 52, t 53, t 54, t 55, t 56, t 57, t 58, t 59, s 60, s 61], defers := [] }
def dSp (i : Nat) : Nat := i + 45
def GSp (r : Rp) (q : Int) (b lo : Nat) (la : Option Addr) (lc : Nat) (vv : Value) (i : Nat) (x : World) (v : Value) : Prop := match i with
 | 0 => v = vv
 | 1 => v = .pointer (some ⟨b, 0, none⟩)
 | 2 => v = .int .i64 r.id
 | 3 => v = .int .i64 q
 | 4 => v = .pointer (some ⟨b, 2, none⟩)
 | 5 => v = .int .i64 r.v
 | 6 => v = .pointer (some ⟨b, 4, none⟩)
 | 7 => v = .int .i64 r.la
 | 8 => v = .pointer (some ⟨b, 5, none⟩)
 | 9 => v = .slice la r.l.length lc
 | 10 => ∃ (p1 : Option Addr) (d1 : Nat), v = .slice p1 r.l.length d1 ∧ OwnsX x lo (.slice p1 r.l.length d1) r.l
 | 11 => v = .pointer (some ⟨b, 6, none⟩)
 | 12 => v = .int .i64 r.c
 | 13 => ∃ (p1 : Option Addr) (d1 : Nat), v = .agg #[.int .i64 4, .int .i64 r.id, .int .i64 q, .int .i64 r.v, .int .i64 r.la, .slice p1 r.l.length d1, .int .i64 r.c] ∧ OwnsX x lo (.slice p1 r.l.length d1) r.l
 | 14 => ∃ (p1 : Option Addr) (d1 : Nat) (p0 : Option Addr) (g1 : Nat), v = .slice (some ⟨g1, 0, none⟩) 1 1 ∧ TlB x lo g1 p1 d1 r q
 | _ => True
theorem GSp.keep {r : Rp} {q : Int} {b lo : Nat} {la : Option Addr} {lc : Nat} {vv : Value} {x y : World} (hb : Below x.heap.size x y) (j : Nat) (v : Value) (hj : j < 15) (h : GSp r q b lo la lc vv j x v) : GSp r q b lo la lc vv j y v := by
 iterate 15 rcases ltS hj with hj | rfl
 cases hj
 ·
  exact h
 ·
  exact h
 ·
  exact h
 ·
  exact h
 ·
  exact h
 ·
  exact h
 ·
  exact h
 ·
  exact h
 ·
  exact h
 ·
  exact h
 ·
  obtain ⟨p1, d1, h1, h2⟩ := h; exact ⟨p1, d1, h1, h2.kept hb⟩
 ·
  exact h
 ·
  exact h
 ·
  obtain ⟨p1, d1, h1, h2⟩ := h; exact ⟨p1, d1, h1, h2.kept hb⟩
 ·
  obtain ⟨p1, d1, p0, g1, h1, h2⟩ := h; exact ⟨p1, d1, p0, g1, h1, h2.kept hb⟩
theorem specSpr (r : Rp) (u : Rv) (w : World) (h : RpGot w u r) (hv : 0 ≤ r.v ∧ r.v ≤ 20000) (hp : pOk r.p) (hlen : r.l.length ≤ 1048576) (hch : r.ch.length ≤ 1048576) :
  Calls Tryz.prog 73 #[rpA r u] w fun e w' => ∃ v T, e = .returned v ∧ MsOwn w' w.heap.size v T (sprL r) ∧ Below w.heap.size w w' := by
 obtain ⟨la, lc, oa, oc, ca, cc, ta, tc, MM, rfl⟩ := h.form
 have HG : Hid (RpGot w _ r) := h
 have jl := fun W => specLds r ⟨.slice la r.l.length lc, .slice oa r.ok.length oc, .slice ca r.ch.length cc, .slice ta r.te.length tc, MM⟩ W hv hp
 have ja := fun m um W hm hl => specAll r ⟨.slice la r.l.length lc, .slice oa r.ok.length oc, .slice ca r.ch.length cc, .slice ta r.te.length tc, MM⟩ m um W hp hm hl
 have jm := fun W => specMaj r.ch.length r.p W hch
 have HLEN : Hid (r.l.length ≤ 1048576) := hlen
 have HP : Hid (pOk r.p) := hp
 have HV : Hid (0 ≤ r.v ∧ r.v ≤ 20000) := hv
 unfold rpA at *
 simp only at jl ja ⊢
 obtain ⟨w1, hw1⟩ : ∃ w1, w1 = w.alloc (.cells #[.int .i64 r.id, .int .i64 r.p, .int .i64 r.v, .bool r.n, .int .i64 r.la, .slice la r.l.length lc, .int .i64 r.c, .slice oa r.ok.length oc, .slice ca r.ch.length cc, .slice ta r.te.length tc] 28) := ⟨_, rfl⟩
 have HB1 : Hid (Bx w1 w.heap.size 28 #[.int .i64 r.id, .int .i64 r.p, .int .i64 r.v, .bool r.n, .int .i64 r.la, .slice la r.l.length lc, .int .i64 r.c, .slice oa r.ok.length oc, .slice ca r.ch.length cc, .slice ta r.te.length tc]) := hH_ (by rw [hw1]; exact Bx.new _ _ _)
 have B1 : Hid (Below w.heap.size w w1) := hH_ (by rw [hw1]; exact (Below.refl _ w).alloc (Nat.le_refl _) _)
 clear h hlen hch
 go_enter Tryz.func73, Tryz.ntmps73
 go_upto_region 1 with fail
 rw [← hw1]
 clear hw1
 have x0 := HB1.out.cell 0
 have x1 := HB1.out.cell 1
 have x2 := HB1.out.cell 2
 have x3 := HB1.out.cell 3
 have x4 := HB1.out.cell 4
 have x5 := HB1.out.cell 5
 have x6 := HB1.out.cell 6
 have x7 := HB1.out.cell 7
 have x8 := HB1.out.cell 8
 have x9 := HB1.out.cell 9
 go_wp2_with fail
 refine (jl _).mono ?_
 rintro e w2 ⟨rfl, hb⟩
 have HB2 := hH_ (HB1.out.kept hb)
 have B2 := hH_ (B1.out.trans (hb.mono B1.out.size))
 clear hb jl HB1 B1 x0 x1 x2 x3 x4 x5 x6 x7 x8 x9
 have x0 := HB2.out.cell 0
 have x1 := HB2.out.cell 1
 have x2 := HB2.out.cell 2
 have x3 := HB2.out.cell 3
 have x4 := HB2.out.cell 4
 have x5 := HB2.out.cell 5
 have x6 := HB2.out.cell 6
 have x7 := HB2.out.cell 7
 have x8 := HB2.out.cell 8
 have x9 := HB2.out.cell 9
 cases hld : dB (leads r) with
 | true =>
  have HS : Hid (sprL r = allM r ⟨1, 0, 0, r.v, r.la, r.l, r.c⟩) := (show _ = _ by unfold sprL; rw [if_pos (dB_is hld)])
  have j2 := ja ⟨1, 0, 0, r.v, r.la, r.l, r.c⟩ (.slice la r.l.length lc)
  unfold msA at j2
  simp only at j2
  clear hld ja jm
  go_wp2_with fail
  refine (j2 _ (HG.out.l.kept B2.out) HLEN.out).mono ?_
  rintro e w3 ⟨v, T, rfl, ho, hb⟩
  have HO : Hid (MsOwn w3 w.heap.size v T (sprL r)) := hH_ (by rw [HS.out]; exact ho.low B2.out.size)
  have B3 := hH_ (B2.out.trans (hb.mono B2.out.size))
  clear ho hb j2
  go_wp2
  go_ret
  exact ⟨_, T, rfl, HO.out, B3.out⟩
 | false =>
 have HNL : Hid (¬ leads r) := dB_not hld
 clear hld
 cases hn : r.n with
 | true =>
  have HS : Hid (sprL r = []) := (show _ = _ by unfold sprL; rw [if_neg HNL.out, if_pos hn])
  rw [hn] at x3
  clear hn ja jm
  have HO : Hid (MsOwn (w2.alloc (.cells #[] 30)) w.heap.size (.slice (some ⟨w2.heap.size, 0, none⟩) 0 0) [] (sprL r)) := hH_ (by rw [HS.out]; exact (MsOwn.born w2).low B2.out.size)
  have B3 : Hid (Below w.heap.size w (w2.alloc (.cells #[] 30))) := hH_ (B2.out.alloc B2.out.size _)
  go_wp2
  go_ret
  exact ⟨_, [], rfl, HO.out, B3.out⟩
 | false =>
 have HN : Hid (r.n = false) := hn
 rw [hn] at x3
 have j2 := ja ⟨3, 0, 0, r.v, 0, [], 0⟩ (.slice none 0 0)
 unfold msA at j2
 simp only at j2
 have hn2 := hn
 clear ja hn hn2
 rw [HN.out] at j2
 go_wp2_with fail
 refine (j2 _ (Sls.nil (Nat.zero_le _)) (Nat.zero_le _)).mono ?_
 rintro e w3 ⟨v, T, rfl, ho, hb⟩
 have HO : Hid (MsOwn w3 w2.heap.size v T (allM r ⟨3, 0, 0, r.v, 0, [], 0⟩)) := ho
 have HB3 := hH_ (HB2.out.kept hb)
 have B3 := hH_ (B2.out.trans (hb.mono B2.out.size))
 have Z2 : Hid (w.heap.size ≤ w2.heap.size) := B2.out.size
 have Z3 : Hid (w2.heap.size ≤ w3.heap.size) := hb.size
 obtain ⟨va, vc, rfl, _⟩ := ho.row.form
 clear ho hb j2 HB2 B2 x0 x1 x2 x3 x4 x5 x6 x7 x8 x9
 have x0 := HB3.out.cell 0
 have x1 := HB3.out.cell 1
 have x2 := HB3.out.cell 2
 have x3 := HB3.out.cell 3
 have x4 := HB3.out.cell 4
 have x5 := HB3.out.cell 5
 have x6 := HB3.out.cell 6
 have x7 := HB3.out.cell 7
 have x8 := HB3.out.cell 8
 have x9 := HB3.out.cell 9
 have HP2 : Hid (pOk r.p) := HP.out
 have B9 : Hid (w2.heap.size ≤ w3.heap.size) := Z3.out
 have em : Int.tmod r.v r.p = r.v % r.p := modE HV.out.1
 have hpz : ¬ r.p = 0 := by rcases HP.out with h | h | h <;> rw [h] <;> decide
 have ew : wrap64 (r.v % r.p) = r.v % r.p := by have:=HV.out;unfold wrap64; rcases HP.out with h | h | h <;> rw [h] <;> omega
 have HSf : Hid (¬ (maj r.ch.length r.p ∧ ¬ mine r) → sprL r = allM r ⟨3, 0, 0, r.v, 0, [], 0⟩) := (show _ → _ = _ from fun hh => by
  unfold sprL
  rw [if_neg HNL.out, if_neg (by rw [HN.out]; decide), if_neg hh, List.append_nil])
 have HSt : Hid (maj r.ch.length r.p ∧ ¬ mine r → sprL r = allM r ⟨3, 0, 0, r.v, 0, [], 0⟩ ++ [tellM r (r.v % r.p)]) := (show _ → _ = _ from fun hh => by
  unfold sprL
  rw [if_neg HNL.out, if_neg (by rw [HN.out]; decide), if_pos hh])
 cases hmj : dB (maj r.ch.length r.p) with
 | false =>
  have HO3 : Hid (MsOwn w3 w.heap.size (.slice va T.length vc) T (sprL r)) := hH_ (by rw [HSf.out (fun h => dB_not hmj h.1)]; exact HO.out.low Z2.out)
  go_wp2_with fail
  refine (jm _).mono ?_
  rintro e w4 ⟨rfl, rfl⟩
  go_wp2
  go_ret
  exact ⟨_, T, rfl, HO3.out, B3.out⟩
 | true =>
 by_cases hmi : r.v % r.p = r.id
 ·
  have hne : (r.v % r.p != r.id) = false := by simpa using hmi
  have HO3 : Hid (MsOwn w3 w.heap.size (.slice va T.length vc) T (sprL r)) := hH_ (by rw [HSf.out (fun h => h.2 hmi)]; exact HO.out.low Z2.out)
  go_wp2_with fail
  refine (jm _).mono ?_
  rintro e w4 ⟨rfl, rfl⟩
  go_wp2
  go_ret
  exact ⟨_, T, rfl, HO3.out, B3.out⟩
 have hne : (r.v % r.p != r.id) = true := by simpa using hmi
 have HSR : Hid (sprL r = allM r ⟨3, 0, 0, r.v, 0, [], 0⟩ ++ [tellM r (r.v % r.p)]) := hH_ (HSt.out ⟨dB_is hmj, hmi⟩)
 clear HSf HSt
 go_wp2_with fail
 refine (jm _).mono ?_
 rintro e w4 ⟨rfl, rfl⟩
 clear jm
 go_upto_region 8 with fail
 have HSL : Hid (Sls txtE w3 (.slice la r.l.length lc) r.l) := hH_ (HG.out.l.kept B3.out)
 have jn := fun x (hS : Below w3.heap.size w3 x) => specTxs (.slice la r.l.length lc) r.l x (HSL.out.kept hS) HLEN.out
 obtain ⟨b, hz⟩ : ∃ b, b = w.heap.size := ⟨_, rfl⟩
 have HZ9 : Hid (b = w.heap.size) := hz
 obtain ⟨q, hq⟩ : ∃ q, q = r.v % r.p := ⟨_, rfl⟩
 have HQ9 : Hid (q = r.v % r.p) := hq
 obtain ⟨vv, hvv⟩ : ∃ vv, vv = Value.slice va T.length vc := ⟨_, rfl⟩
 have HV9 : Hid (vv = Value.slice va T.length vc) := hvv
 have CB := fun x (hS : Below w3.heap.size w3 x) => (show x.cell? ⟨b, 0, none⟩ = some (.int .i64 r.id) ∧ x.cell? ⟨b, 1, none⟩ = some (.int .i64 r.p) ∧ x.cell? ⟨b, 2, none⟩ = some (.int .i64 r.v) ∧ x.cell? ⟨b, 3, none⟩ = some (.bool r.n) ∧ x.cell? ⟨b, 4, none⟩ = some (.int .i64 r.la) ∧ x.cell? ⟨b, 5, none⟩ = some (.slice la r.l.length lc) ∧ x.cell? ⟨b, 6, none⟩ = some (.int .i64 r.c) ∧ True from by
  have HH := HB3.out.kept hS
  rw [← HZ9.out] at HH
  exact ⟨HH.cell 0, HH.cell 1, HH.cell 2, HH.cell 3, HH.cell 4, HH.cell 5, HH.cell 6, trivial⟩)
 rw [← hz, ← hq, ← hvv]
 clear x0 x1 x2 x3 x4 x5 x6 x7 x8 x9 hmj hne hmi em ew hpz HP HV hz hq hvv
 have S0 := dwB w3
 obtain ⟨lo, hlo⟩ : ∃ lo, lo = w3.heap.size := ⟨_, rfl⟩
 generalize hA : Act.mk _ _ = A
 obtain ⟨s, hs9, s1_, s3_, s4_⟩ : ∃ s : Nat → Value, A = frSp s (fun _ => undef) ∧ s 1 = .pointer (some ⟨b, 0, none⟩) ∧ s 3 = vv ∧ s 4 = .int .i64 q := by
  refine ⟨fun i => A.tmps.getD i undef, ?_, ?_, ?_, ?_⟩ <;> rw [← hA] <;> rfl
 rw [hs9]
 clear hs9 hA
 refine region_heads 15 mixed (by decide) (by kernel_rfl) (by kernel_rfl) (by kernel_rfl) (by kernel_rfl) (frSp s) dSp (fun x => Below w3.heap.size w3 x) (GSp r q b lo la lc vv) (fun i j hi hj h => by unfold dSp; omega) ?put (fun _ => undef) rfl S0 ?step ?done
 case put =>
  intro i o hi ho t v
  iterate 15 rcases ltS hi with hi | rfl
  cases hi
  all_goals
   obtain rfl := Option.some.inj ho
   rfl
 case step =>
  intro i o hi ho t x hS hdep K hK
  iterate 15 rcases ltS hi with hi | rfl
  cases hi
  all_goals obtain rfl := Option.some.inj ho
  iterate 10
   ·
    have y0 := (CB x hS).1
    have y1 := (CB x hS).2.2.1
    have y2 := (CB x hS).2.2.2.2.1
    have y3 := (CB x hS).2.2.2.2.2.1
    have h2 := hK _ x hS kI_ rfl
    try simp [Region.binds, GSp, dSp] at hdep
    unfold frSp at h2 ⊢
    clear hK
    go_simp
    first | simpa [Act.put, hdep, y0, y1, y2, y3, s1_, s3_, s4_] using h2 | simpa [Act.put, y0, y1, y2, y3, s1_, s3_, s4_] using h2
  ·
   have e9 : t 54 = .slice la r.l.length lc := hdep ⟨9, .data⟩ (by simp) rfl
   refine callG1 (by rfl) 98 (.tmp 54) _ rfl (.slice la r.l.length lc) e9 (Go.Proofs.enters_of Tryz.func98 (by kernel_rfl) rfl _) (fun v y => (∃ (p1 : Option Addr) (d1 : Nat), v = .slice p1 r.l.length d1 ∧ OwnsX y lo (.slice p1 r.l.length d1) r.l) ∧ Below x.heap.size x y) ((jn x hS).mono ?_) ?_
   ·
    rintro e0 y0 ⟨u0, h0, h1, h2⟩
    obtain ⟨q1, g1, rfl, _⟩ := h1.form
    exact ⟨_, h0, ⟨q1, g1, rfl, h1.low (by rw [hlo]; exact hS.size)⟩, h2⟩
   ·
    rintro v y ⟨h0, hb2⟩
    exact hK v y ((show Below w3.heap.size w3 y from hS.trans (hb2.mono hS.size))) (fun j u hj hne h => GSp.keep hb2 j u hj h) h0
  iterate 2
   ·
    have y0 := (CB x hS).2.2.2.2.2.2.1
    have h2 := hK _ x hS kI_ rfl
    try simp [Region.binds, GSp, dSp] at hdep
    unfold frSp at h2 ⊢
    clear hK
    go_simp
    first | simpa [Act.put, hdep, y0, s1_, s3_, s4_] using h2 | simpa [Act.put, y0, s1_, s3_, s4_] using h2
  ·
   have e2 : t 47 = .int .i64 r.id := hdep ⟨2, .data⟩ (by simp) rfl
   have e3 : t 48 = .int .i64 q := hdep ⟨3, .data⟩ (by simp) rfl
   have e5 : t 50 = .int .i64 r.v := hdep ⟨5, .data⟩ (by simp) rfl
   have e7 : t 52 = .int .i64 r.la := hdep ⟨7, .data⟩ (by simp) rfl
   obtain ⟨p1_10, d1_10, e10, k10⟩ : ∃ (p1 : Option Addr) (d1 : Nat), t 55 = .slice p1 r.l.length d1 ∧ OwnsX x lo (.slice p1 r.l.length d1) r.l := hdep ⟨10, .data⟩ (by simp) rfl
   have e12 : t 57 = .int .i64 r.c := hdep ⟨12, .data⟩ (by simp) rfl
   have h2 := hK (.agg #[.int .i64 4, .int .i64 r.id, .int .i64 q, .int .i64 r.v, .int .i64 r.la, .slice p1_10 r.l.length d1_10, .int .i64 r.c]) x hS kI_ ⟨_, _, rfl, k10⟩
   unfold frSp at h2 ⊢
   clear hK
   go_simp
   simpa [Act.put, e2, e3, e5, e7, e10, e12, s1_, s3_, s4_] using h2
  ·
   obtain ⟨p1_13, d1_13, e13, k13⟩ : ∃ (p1 : Option Addr) (d1 : Nat), t 58 = .agg #[.int .i64 4, .int .i64 r.id, .int .i64 q, .int .i64 r.v, .int .i64 r.la, .slice p1 r.l.length d1, .int .i64 r.c] ∧ OwnsX x lo (.slice p1 r.l.length d1) r.l := hdep ⟨13, .data⟩ (by simp) rfl
   have hb2 : Below x.heap.size x (x.alloc (.cells #[.int .i64 4, .int .i64 r.id, .int .i64 q, .int .i64 r.v, .int .i64 r.la, .slice p1_13 r.l.length d1_13, .int .i64 r.c] 30)) := (Below.refl _ x).alloc (Nat.le_refl _) _
   have h2 := hK (.slice (some ⟨x.heap.size, 0, none⟩) 1 1) (x.alloc (.cells #[.int .i64 4, .int .i64 r.id, .int .i64 q, .int .i64 r.v, .int .i64 r.la, .slice p1_13 r.l.length d1_13, .int .i64 r.c] 30)) (hS.trans (hb2.mono hS.size)) (fun j u hj hne h => GSp.keep hb2 j u hj h) ⟨p1_13, d1_13, none, x.heap.size, rfl, ⟨Bx.new _ _ _, k13.kept hb2⟩⟩
   unfold frSp at h2 ⊢
   clear hK
   go_simp
   simpa [Act.put, e13, s1_, s3_, s4_] using h2
 case done =>
  intro t w5 hS hG
  obtain ⟨p1, d1, p0, g1, eb, kb⟩ : ∃ (p1 : Option Addr) (d1 : Nat) (p0 : Option Addr) (g1 : Nat), t 59 = .slice (some ⟨g1, 0, none⟩) 1 1 ∧ TlB w5 lo g1 p1 d1 r q := hG 14 (by decide)
  have e0 : t 45 = vv := hG 0 (by decide)
  have HO5 := hH_ (HO.out.kept hS)
  have B5 := hH_ (B3.out.trans (hS.mono B3.out.size))
  have KB : Hid (TlB w5 w3.heap.size g1 p1 d1 r (r.v % r.p)) := hH_ (by rw [← hlo, ← HQ9.out]; exact kb)
  have HTL : Hid (T.length ≤ 5) := (show T.length ≤ 5 from by rw [HO.out.len]; exact allM_len r _ HP2.out)
  have HC1 : Hid (∀ y ∈ T, ∀ k, y.u.ownBlock = some k → k < w3.heap.size) := hH_ (fun y hy k hk => (HO.out.logs.l y hy).under k hk)
  have HC2 : Hid (∀ k, (Value.slice va T.length vc).ownBlock = some k → k < w3.heap.size) := hH_ (fun k hk => HO.out.row.under k hk)
  have HZW : Hid (w2.heap.size ≤ w5.heap.size ∧ w2.heap.size ≤ w3.heap.size) := hH_ (⟨by have:=B9.out;have := hS.size; omega, B9.out⟩)
  clear hG hS S0 kb jn CB HSL HB3 B3 HO hlo
  unfold frSp
  simp only [eb, e0, s1_, s3_, s4_]
  clear eb e0 s1_ s3_ s4_
  rw [HV9.out]
  have htl := HTL.out
  show wpList Tryz.prog _ _ [_, _] _ w5
  refine wpList_pushMg w5 rfl (.tmp 45) (.tmp 59) rfl w2.heap.size (.slice va T.length vc) T _ ⟨⟨4, r.id, r.v % r.p, r.v, r.la, r.l, r.c⟩, p1, d1⟩ (by simp [Act.eval]) HO5.out (KB.out.l.has.low HZW.out.2) w3.heap.size HC1.out HC2.out KB.out.l.from g1 KB.out.b (by simp [Act.eval]) (by omega) HZW.out.1 ?_
  intro v' w6 ho3 hg3
  have HO6 : Hid (MsOwn w6 w.heap.size v' (T ++ [⟨⟨4, r.id, r.v % r.p, r.v, r.la, r.l, r.c⟩, p1, d1⟩]) (sprL r)) := hH_ (by rw [HSR.out]; exact ho3.low Z2.out)
  have B6 : Hid (Below w.heap.size w w6) := hH_ (B5.out.grown hg3 B5.out.size (fun q hq => by have := HO5.out.row.from q hq; have:=Z2.out;omega))
  clear ho3 hg3
  go_wp2
  go_ret
  exact ⟨_, _, rfl, HO6.out, B6.out⟩
open Go.RowKit Go.Sort Pg

theorem implTo (r : Rp) (u : Rv) (b : Nat) (m : Ms) (um : Value) (w : World) (hB : RpB w b r u) (hp : pOk r.p) (hm : Sls txtE w um m.l) (hl : m.l.length ≤ 1048576) (hs : ∀ x ∈ m.l, x.size ≤ 1048576) (hf : m.f = r.id) :
  Calls Tryz.prog 126 #[.pointer (some ⟨b, 0, none⟩), msA m um] w fun e w' => ∃ v T, e = .returned v ∧ MsOwn w' w.heap.size v T (allM r m) ∧ Below w.heap.size w w' := by
 obtain ⟨a, cap, hv⟩ := Sls.slen0 hm
 subst hv
 have HP : Hid (0 ≤ r.p ∧ r.p ≤ 5) := (show _ ∧ _ by rcases hp with h | h | h <;> omega)
 have HM : Hid (Sls txtE w (.slice a m.l.length cap) m.l) := hm
 obtain ⟨mk, mf, mt, mv, ma, ml, mc⟩ := m
 simp only at HM hl hm hs hf
 subst hf
 have HS : Hid (∀ x ∈ ml, x.size ≤ 1048576) := hs
 unfold msA
 simp only
 have hbl : b < w.heap.size := hB.lt
 obtain ⟨W0, hW0⟩ : ∃ W0, W0 = ((w.alloc (.cells #[.int .i64 mk, .int .i64 r.id, .int .i64 mt, .int .i64 mv, .int .i64 ma, .slice a ml.length cap, .int .i64 mc] 30)).alloc (.cells #[] 30)) := ⟨_, rfl⟩
 have hs0 : W0.heap.size = w.heap.size + 2 := by rw [hW0]; simp
 have XR : Hid (RpB W0 b r u) := hH_ (by rw [hW0]; exact (Bx.alloc hB _).alloc _)
 have XM : Hid (Bx W0 w.heap.size 30 #[.int .i64 mk, .int .i64 r.id, .int .i64 mt, .int .i64 mv, .int .i64 ma, .slice a ml.length cap, .int .i64 mc]) := hH_ (by rw [hW0]; exact (Bx.new _ _ _).alloc _)
 have O0 : Hid (MsOwn W0 (w.heap.size + 1) (.slice (some ⟨w.heap.size + 1, 0, none⟩) 0 0) [] []) := (show MsOwn W0 (w.heap.size + 1) (.slice (some ⟨w.heap.size + 1, 0, none⟩) 0 0) [] [] by
  rw [hW0]
  have := MsOwn.born (w.alloc (.cells #[.int .i64 mk, .int .i64 r.id, .int .i64 mt, .int .i64 mv, .int .i64 ma, .slice a ml.length cap, .int .i64 mc] 30))
  simpa using this)
 have B0 : Hid (Below w.heap.size w W0) := hH_ (by rw [hW0]; exact ((Below.refl _ w).alloc (Nat.le_refl _) _).alloc (by simp) _)
 have S0 : Hid (W0.heap.size = w.heap.size + 2) := hs0
 have y1 := XR.out.cells.2.1
 clear hm hs0 hp hB hs
 go_enter Tryz.func126, Tryz.ntmps126
 go_upto_region 2 with fail
 rw [← hW0]
 clear hW0
 go_wp2_with fail
 clear y1
 go_loopw [5, 13] (fun v i wr => ∃ (k : Nat) (T : List Mx), (k : Int) ≤ r.p ∧ i = .int .i64 k ∧ Hid (MsOwn wr (w.heap.size + 1) v T (allK r ⟨mk, r.id, mt, mv, ma, ml, mc⟩ k)) ∧ Hid (RpB wr b r u) ∧ Hid (Bx wr w.heap.size 30 #[.int .i64 mk, .int .i64 r.id, .int .i64 mt, .int .i64 mv, .int .i64 ma, .slice a ml.length cap, .int .i64 mc]) ∧ Hid (Below w.heap.size w wr) ∧ Hid (w.heap.size + 2 ≤ wr.heap.size)) (fun _ i _ => r.p.toNat - (intOf i).toNat)
 case atStart => exact ⟨0, [], HP.out.1, rfl, O0, XR, XM, B0, (show Hid _ from Nat.le_of_eq S0.out.symm)⟩
 case round =>
  obtain ⟨k, T, hk, rfl, hO, hR, hX, hb, hsz⟩ := hrel
  have hp5 := HP.out
  have r0 := hR.out.cells.1
  by_cases hlt : (k : Int) < r.p
  ·
   by_cases hid : (k : Int) = r.id
   ·
    have hne : ((k : Int) != r.id) = false := by simpa using hid
    have HA : Hid _ := (allK_skip (m := ⟨mk, r.id, mt, mv, ma, ml, mc⟩) hid)
    go_wp2_with fail
    go_roundw
    case rel => exact ⟨k + 1, T, by omega, by go_num, by rw [HA.out]; exact hO, hR, hX, hb, hsz⟩
    case measure => simp [intOf]; omega
   ·
    have hne : ((k : Int) != r.id) = true := by simpa using hid
    have HA : Hid _ := (allK_next (m := ⟨mk, r.id, mt, mv, ma, ml, mc⟩) hid)
    obtain ⟨va, vc, hvv, hvl, _⟩ := hO.out.row.form
    subst hvv
    have j1 := fun W hW => implNms ⟨mk, r.id, mt, mv, ma, ml, mc⟩ (.slice a ml.length cap) W hW hl HS.out
    unfold msA at j1
    simp only at j1
    have x0 := hX.out.cell 0
    have x1 := hX.out.cell 1
    have x2 := hX.out.cell 2
    have x3 := hX.out.cell 3
    have x4 := hX.out.cell 4
    have x5 := hX.out.cell 5
    have x6 := hX.out.cell 6
    have hks : k < 5 := by omega
    go_wp2_with fail
    clear x0 x1 x2 x3 x4 x5 x6 r0
    refine (j1 _ (HM.out.kept hb.out)).mono ?_
    rintro e w2 ⟨u2, rfl, hu, hb2⟩
    obtain ⟨pa, pc, rfl, _⟩ := hu.form
    have HX3 := hH_ (hX.out.kept hb2)
    have HR3 := hH_ (hR.out.kept hb2)
    have HO3 := hH_ (hO.out.kept hb2)
    have HB3 := hH_ (hb.out.trans (hb2.mono hb.out.size))
    have HU : Hid (OwnsX w2 wr.heap.size (.slice pa ml.length pc) ml) := hu
    have Z1 : Hid (wr.heap.size ≤ w2.heap.size) := (show wr.heap.size ≤ w2.heap.size from hb2.size)
    have HC1 : Hid (∀ y ∈ T, ∀ q, y.u.ownBlock = some q → q < wr.heap.size) := hH_ (fun y hy q hq => (hO.out.logs.l y hy).under q hq)
    have HC2 : Hid (∀ q, (Value.slice va T.length vc).ownBlock = some q → q < wr.heap.size) := hH_ (fun q hq => hO.out.row.under q hq)
    have HTL : Hid (T.length ≤ 5) := (show T.length ≤ 5 by
     have := hO.out.len
     unfold allK at this
     rw [List.length_map] at this
     have h2 := List.length_filter_le (fun (q : Nat) => decide ((q : Int) ≠ r.id)) (List.range k)
     rw [List.length_range] at h2
     omega)
    clear hb2 hu hX hR hO hb j1
    obtain ⟨W4, hW4⟩ : ∃ W4, W4 = w2.alloc (.cells #[.int .i64 mk, .int .i64 r.id, .int .i64 (k : Int), .int .i64 mv, .int .i64 ma, .slice pa ml.length pc, .int .i64 mc] 30) := ⟨_, rfl⟩
    have HX5 : Hid (Bx W4 w.heap.size 30 #[.int .i64 mk, .int .i64 r.id, .int .i64 mt, .int .i64 mv, .int .i64 ma, .slice a ml.length cap, .int .i64 mc]) := hH_ (by rw [hW4]; exact HX3.out.alloc _)
    have HR5 : Hid (RpB W4 b r u) := hH_ (by rw [hW4]; exact Bx.alloc HR3.out _)
    have HO5 : Hid (MsOwn W4 (w.heap.size + 1) (.slice va T.length vc) T (allK r ⟨mk, r.id, mt, mv, ma, ml, mc⟩ k)) := hH_ (by rw [hW4]; exact HO3.out.alloc _)
    have HB5 : Hid (Below w.heap.size w W4) := hH_ (by rw [hW4]; exact HB3.out.alloc HB3.out.size _)
    have HU5 : Hid (OwnsX W4 wr.heap.size (.slice pa ml.length pc) ml) := hH_ (by rw [hW4]; exact HU.out.alloc _)
    have Z5 : Hid (W4.heap.size = w2.heap.size + 1) := (show _ = _ by rw [hW4]; simp)
    clear HX3 HR3 HO3 HB3 HU
    have hz1 := Z1.out
    have hz2 := hsz.out
    have hz5 := Z5.out
    have htl := HTL.out
    go_wp2_with (
     at_builtin
     rw [← hW4]
     refine wpList_pushM W4 rfl (.tmp 26) (.tmp 28) rfl (w.heap.size + 1) (.slice va T.length vc) T _ ⟨⟨mk, r.id, (k : Int), mv, ma, ml, mc⟩, pa, pc⟩ (by simp [Act.eval, Act.put]) HO5.out (HU5.out.has.low (by omega)) wr.heap.size HC1.out HC2.out HU5.out.from (by simp [Act.eval, Act.put, hW4]) (by omega) (by omega) ?_
     intro v' w3 ho3 hg3)
    have HX6 : Hid (Bx w3 w.heap.size 30 #[.int .i64 mk, .int .i64 r.id, .int .i64 mt, .int .i64 mv, .int .i64 ma, .slice a ml.length cap, .int .i64 mc]) := hH_ (HX5.out.grown hg3 (fun e => by have := HO5.out.row.from _ e; omega))
    have HR6 : Hid (RpB w3 b r u) := hH_ (Bx.grown HR5.out hg3 (fun e => by have := HO5.out.row.from _ e; omega))
    have HB6 : Hid (Below w.heap.size w w3) := hH_ (HB5.out.grown hg3 HB5.out.size (fun q hq => by have := HO5.out.row.from q hq; omega))
    have HO6 : Hid (MsOwn w3 (w.heap.size + 1) v' (T ++ [⟨⟨mk, r.id, (k : Int), mv, ma, ml, mc⟩, pa, pc⟩]) (allK r ⟨mk, r.id, mt, mv, ma, ml, mc⟩ (k + 1))) := hH_ (by rw [HA.out]; exact ho3)
    have Z6 : Hid (w.heap.size + 2 ≤ w3.heap.size) := (show w.heap.size + 2 ≤ w3.heap.size by have := hg3.size; omega)
    clear ho3 hg3 HX5 HR5 HO5 HB5 hW4
    go_roundw
    case rel => exact ⟨k + 1, _, by omega, by go_num, HO6, HR6, HX6, HB6, Z6⟩
    case measure => simp [intOf]; omega
  ·
   have hkk : k = r.p.toNat := by omega
   subst hkk
   go_wp2
   go_ret
   exact ⟨_, rfl, ⟨T, hO.out.low (by omega)⟩, hb.out⟩
open Go.RowKit Go.Sort Pg

def frSd (s t : Nat → Value) : Act := { tmps := #[s 0, s 1, s 2, s 3, s 4, t 5, t 6, t 7, t 8, t 9, t 10, t 11, t 12, t 13, t 14, t 15, t 16, t 17, t 18, t 19, t 20, t 21, t 22, t 23, t 24, t 25, t 26, t 27, t 28, t 29, t 30, t 31, t 32, t 33, t 34, t 35, t 36], defers := [] }
def dSd (i : Nat) : Nat := i + 5
def GSd (r : Rp) (kd : Int) (b z lo : Nat) (la : Option Addr) (lc : Nat) (i : Nat) (x : World) (v : Value) : Prop := match i with
 | 0 => v = .int .i64 kd
 | 1 => v = .pointer (some ⟨b, 0, none⟩)
 | 2 => v = .pointer (some ⟨b, 0, none⟩)
 | 3 => v = .pointer (some ⟨b, 0, none⟩)
 | 4 => v = .int .i64 r.id
 | 5 => v = .pointer (some ⟨b, 0, none⟩)
 | 6 => v = .pointer (some ⟨b, 0, none⟩)
 | 7 => v = .pointer (some ⟨b, 2, none⟩)
 | 8 => v = .int .i64 r.v
 | 9 => v = .pointer (some ⟨b, 0, none⟩)
 | 10 => v = .pointer (some ⟨b, 0, none⟩)
 | 11 => v = .pointer (some ⟨b, 1, none⟩)
 | 12 => v = .int .i64 r.p
 | 13 => v = .int .i64 (r.v % r.p)
 | 14 => v = .pointer (some ⟨b, 0, none⟩)
 | 15 => v = .pointer (some ⟨b, 0, none⟩)
 | 16 => v = .pointer (some ⟨b, 2, none⟩)
 | 17 => v = .int .i64 r.v
 | 18 => v = .pointer (some ⟨b, 0, none⟩)
 | 19 => v = .pointer (some ⟨b, 0, none⟩)
 | 20 => v = .pointer (some ⟨b, 4, none⟩)
 | 21 => v = .int .i64 r.la
 | 22 => v = .pointer (some ⟨b, 0, none⟩)
 | 23 => v = .pointer (some ⟨b, 0, none⟩)
 | 24 => v = .pointer (some ⟨b, 5, none⟩)
 | 25 => v = .slice la r.l.length lc
 | 26 => ∃ (p1 : Option Addr) (d1 : Nat), v = .slice p1 r.l.length d1 ∧ OwnsX x lo (.slice p1 r.l.length d1) r.l
 | 27 => v = .pointer (some ⟨b, 0, none⟩)
 | 28 => v = .pointer (some ⟨b, 0, none⟩)
 | 29 => v = .pointer (some ⟨b, 6, none⟩)
 | 30 => v = .int .i64 r.c
 | 31 => ∃ (p1 : Option Addr) (d1 : Nat), v = .agg #[.int .i64 kd, .int .i64 r.id, .int .i64 (r.v % r.p), .int .i64 r.v, .int .i64 r.la, .slice p1 r.l.length d1, .int .i64 r.c] ∧ OwnsX x lo (.slice p1 r.l.length d1) r.l
 | _ => True
theorem GSd.keep {r : Rp} {kd : Int} {b z lo : Nat} {la : Option Addr} {lc : Nat} {x y : World} (hb : Below x.heap.size x y) (j : Nat) (v : Value) (hj : j < 32) (h : GSd r kd b z lo la lc j x v) : GSd r kd b z lo la lc j y v := by
 iterate 32 rcases ltS hj with hj | rfl
 cases hj
 ·
  exact h
 ·
  exact h
 ·
  exact h
 ·
  exact h
 ·
  exact h
 ·
  exact h
 ·
  exact h
 ·
  exact h
 ·
  exact h
 ·
  exact h
 ·
  exact h
 ·
  exact h
 ·
  exact h
 ·
  exact h
 ·
  exact h
 ·
  exact h
 ·
  exact h
 ·
  exact h
 ·
  exact h
 ·
  exact h
 ·
  exact h
 ·
  exact h
 ·
  exact h
 ·
  exact h
 ·
  exact h
 ·
  exact h
 ·
  obtain ⟨p1, d1, h1, h2⟩ := h; exact ⟨p1, d1, h1, h2.kept hb⟩
 ·
  exact h
 ·
  exact h
 ·
  exact h
 ·
  exact h
 ·
  obtain ⟨p1, d1, h1, h2⟩ := h; exact ⟨p1, d1, h1, h2.kept hb⟩
def stdM (r : Rp) (kd : Int) : Ms := ⟨kd, r.id, r.v % r.p, r.v, r.la, r.l, r.c⟩
theorem implStd (r : Rp) (u : Rv) (b : Nat) (kd : Int) (w : World) (hB : RpB w b r u) (hv : 0 ≤ r.v ∧ r.v ≤ 20000) (hp : pOk r.p) (hl : Sls txtE w u.l r.l) (hlen : r.l.length ≤ 1048576) (hs : ∀ x ∈ r.l, x.size ≤ 1048576) :
  Calls Tryz.prog 127 #[.pointer (some ⟨b, 0, none⟩), .int .i64 kd] w fun e w' => ∃ v, e = .returned (msA (stdM r kd) v) ∧ OwnsX w' w.heap.size v r.l ∧ Below w.heap.size w w' := by
 obtain ⟨la, lc, hvl⟩ := Sls.slen0 hl
 obtain ⟨w1, hw1⟩ : ∃ w1, w1 = w.alloc (.cells #[.int .i64 0, .int .i64 0, .int .i64 0, .int .i64 0, .int .i64 0, .slice none 0 0, .int .i64 0] 30) := ⟨_, rfl⟩
 have HB1 : Hid (RpB w1 b r u) := hH_ (by rw [hw1]; exact Bx.alloc hB _)
 have HZ1 : Hid (Bx w1 w.heap.size 30 #[.int .i64 0, .int .i64 0, .int .i64 0, .int .i64 0, .int .i64 0, .slice none 0 0, .int .i64 0]) := hH_ (by rw [hw1]; exact Bx.new _ _ _)
 have B1 : Hid (Below w.heap.size w w1) := hH_ (by rw [hw1]; exact (Below.refl _ w).alloc (Nat.le_refl _) _)
 have SZ : Hid (w1.heap.size = w.heap.size + 1) := (show _ = _ by rw [hw1]; simp)
 have HS1 : Hid (Sls txtE w1 (.slice la r.l.length lc) r.l) := hH_ (by rw [hw1, ← hvl]; exact hl.kept ((Below.refl _ w).alloc (Nat.le_refl _) _))
 have jl := fun x => implLd r.v r.p x hv hp
 have jn := fun x (hS : Below w1.heap.size w1 x) => implNlg (.slice la r.l.length lc) r.l x (HS1.out.kept hS) hlen hs
 have CB := fun x (hS : Below w1.heap.size w1 x) => (show x.cell? ⟨b, 0, none⟩ = some (.int .i64 r.id) ∧ x.cell? ⟨b, 1, none⟩ = some (.int .i64 r.p) ∧ x.cell? ⟨b, 2, none⟩ = some (.int .i64 r.v) ∧ x.cell? ⟨b, 3, none⟩ = some (.bool r.n) ∧ x.cell? ⟨b, 4, none⟩ = some (.int .i64 r.la) ∧ x.cell? ⟨b, 5, none⟩ = some (.slice la r.l.length lc) ∧ x.cell? ⟨b, 6, none⟩ = some (.int .i64 r.c) ∧ True from by
  obtain ⟨c0, c1, c2, c3, c4, c5, c6, _⟩ := (HB1.out.kept hS).cells
  rw [hvl] at c5
  exact ⟨c0, c1, c2, c3, c4, c5, c6, trivial⟩)
 obtain ⟨z, hz⟩ : ∃ z, z = w.heap.size := ⟨_, rfl⟩
 have HZ9 : Hid (z = w.heap.size) := hz
 clear hB hl hvl
 go_enter Tryz.func127, Tryz.ntmps127
 go_upto_region 1 with fail
 rw [← hw1, ← hz]
 clear hw1 hz
 have S0 := dwB w1
 obtain ⟨lo, hlo⟩ : ∃ lo, lo = w1.heap.size := ⟨_, rfl⟩
 generalize hA : Act.mk _ _ = A
 obtain ⟨s, hs9, s0_, s1_, s4_⟩ : ∃ s : Nat → Value, A = frSd s (fun _ => undef) ∧ s 0 = .pointer (some ⟨b, 0, none⟩) ∧ s 1 = .int .i64 kd ∧ s 4 = .pointer (some ⟨z, 0, none⟩) := by
  refine ⟨fun i => A.tmps.getD i undef, ?_, ?_, ?_, ?_⟩ <;> rw [← hA] <;> rfl
 rw [hs9]
 clear hs9 hA
 refine region_heads 32 mixed (by decide) (by kernel_rfl) (by kernel_rfl) (by kernel_rfl) (by kernel_rfl) (frSd s) dSd (fun x => Below w1.heap.size w1 x) (GSd r kd b z lo la lc) (fun i j hi hj h => by unfold dSd; omega) ?put (fun _ => undef) rfl S0 ?step ?done
 case put =>
  intro i o hi ho t v
  iterate 32 rcases ltS hi with hi | rfl
  cases hi
  all_goals
   obtain rfl := Option.some.inj ho
   rfl
 case step =>
  intro i o hi ho t x hS hdep K hK
  iterate 32 rcases ltS hi with hi | rfl
  cases hi
  all_goals obtain rfl := Option.some.inj ho
  iterate 13
   ·
    have y0 := (CB x hS).1
    have y1 := (CB x hS).2.2.1
    have y2 := (CB x hS).2.1
    have h2 := hK _ x hS kI_ rfl
    try simp [Region.binds, GSd, dSd] at hdep
    unfold frSd at h2 ⊢
    clear hK
    go_simp
    first | simpa [Act.put, hdep, y0, y1, y2, s0_, s1_, s4_] using h2 | simpa [Act.put, y0, y1, y2, s0_, s1_, s4_] using h2
  ·
   have e8 : t 13 = .int .i64 r.v := hdep ⟨8, .data⟩ (by simp) rfl
   have e12 : t 17 = .int .i64 r.p := hdep ⟨12, .data⟩ (by simp) rfl
   refine callG2 (by rfl) 134 (.tmp 13) (.tmp 17) _ rfl (.int .i64 r.v) (.int .i64 r.p) e8 e12 (Go.Proofs.enters_of Tryz.func134 (by kernel_rfl) rfl _) (fun v y => (v = .int .i64 (r.v % r.p)) ∧ Below x.heap.size x y) ((jl x).mono ?_) ?_
   ·
    rintro e0 y0 ⟨h0, h1⟩
    exact ⟨_, h0, rfl, h1 ▸ Below.refl _ _⟩
   ·
    rintro v y ⟨h0, hb2⟩
    exact hK v y ((show Below w1.heap.size w1 y from hS.trans (hb2.mono hS.size))) (fun j u hj hne h => GSd.keep hb2 j u hj h) h0
  iterate 12
   ·
    have y0 := (CB x hS).2.2.1
    have y1 := (CB x hS).2.2.2.2.1
    have y2 := (CB x hS).2.2.2.2.2.1
    have h2 := hK _ x hS kI_ rfl
    try simp [Region.binds, GSd, dSd] at hdep
    unfold frSd at h2 ⊢
    clear hK
    go_simp
    first | simpa [Act.put, hdep, y0, y1, y2, s0_, s1_, s4_] using h2 | simpa [Act.put, y0, y1, y2, s0_, s1_, s4_] using h2
  ·
   have e25 : t 30 = .slice la r.l.length lc := hdep ⟨25, .data⟩ (by simp) rfl
   refine callG1 (by rfl) 100 (.tmp 30) _ rfl (.slice la r.l.length lc) e25 (Go.Proofs.enters_of Tryz.func100 (by kernel_rfl) rfl _) (fun v y => (∃ (p1 : Option Addr) (d1 : Nat), v = .slice p1 r.l.length d1 ∧ OwnsX y lo (.slice p1 r.l.length d1) r.l) ∧ Below x.heap.size x y) ((jn x hS).mono ?_) ?_
   ·
    rintro e0 y0 ⟨u0, h0, h1, h2⟩
    obtain ⟨q1, g1, rfl, _⟩ := h1.form
    exact ⟨_, h0, ⟨q1, g1, rfl, h1.low (by rw [hlo]; exact hS.size)⟩, h2⟩
   ·
    rintro v y ⟨h0, hb2⟩
    exact hK v y ((show Below w1.heap.size w1 y from hS.trans (hb2.mono hS.size))) (fun j u hj hne h => GSd.keep hb2 j u hj h) h0
  iterate 4
   ·
    have y0 := (CB x hS).2.2.2.2.2.2.1
    have h2 := hK _ x hS kI_ rfl
    try simp [Region.binds, GSd, dSd] at hdep
    unfold frSd at h2 ⊢
    clear hK
    go_simp
    first | simpa [Act.put, hdep, y0, s0_, s1_, s4_] using h2 | simpa [Act.put, y0, s0_, s1_, s4_] using h2
  ·
   have e0 : t 5 = .int .i64 kd := hdep ⟨0, .data⟩ (by simp) rfl
   have e4 : t 9 = .int .i64 r.id := hdep ⟨4, .data⟩ (by simp) rfl
   have e13 : t 18 = .int .i64 (r.v % r.p) := hdep ⟨13, .data⟩ (by simp) rfl
   have e17 : t 22 = .int .i64 r.v := hdep ⟨17, .data⟩ (by simp) rfl
   have e21 : t 26 = .int .i64 r.la := hdep ⟨21, .data⟩ (by simp) rfl
   obtain ⟨p1_26, d1_26, e26, k26⟩ : ∃ (p1 : Option Addr) (d1 : Nat), t 31 = .slice p1 r.l.length d1 ∧ OwnsX x lo (.slice p1 r.l.length d1) r.l := hdep ⟨26, .data⟩ (by simp) rfl
   have e30 : t 35 = .int .i64 r.c := hdep ⟨30, .data⟩ (by simp) rfl
   have h2 := hK (.agg #[.int .i64 kd, .int .i64 r.id, .int .i64 (r.v % r.p), .int .i64 r.v, .int .i64 r.la, .slice p1_26 r.l.length d1_26, .int .i64 r.c]) x hS kI_ ⟨_, _, rfl, k26⟩
   unfold frSd at h2 ⊢
   clear hK
   go_simp
   simpa [Act.put, e0, e4, e13, e17, e21, e26, e30, s0_, s1_, s4_] using h2
 case done =>
  intro t w2 hS hG
  obtain ⟨p1, d1, eb, kb⟩ : ∃ (p1 : Option Addr) (d1 : Nat), t 36 = .agg #[.int .i64 kd, .int .i64 r.id, .int .i64 (r.v % r.p), .int .i64 r.v, .int .i64 r.la, .slice p1 r.l.length d1, .int .i64 r.c] ∧ OwnsX w2 lo (.slice p1 r.l.length d1) r.l := hG 31 (by decide)
  have HZ2 := hH_ (HZ1.out.kept hS)
  have B2 := hH_ (B1.out.trans (hS.mono B1.out.size))
  have KO : Hid (OwnsX w2 (w.heap.size + 1) (.slice p1 r.l.length d1) r.l) := hH_ (by rw [← SZ.out, ← hlo]; exact kb)
  clear hG hS S0 kb jl jn CB HB1 HZ1 HS1
  show wpList Tryz.prog _ _ [_] _ w2
  unfold frSd
  simp only [eb, s0_, s1_, s4_]
  clear eb s0_ s1_ s4_
  rw [HZ9.out]
  have z0 := HZ2.out.cell 0
  have zf0 := HZ2.out.free 0
  have z1 := HZ2.out.cell 1
  have zf1 := HZ2.out.free 1
  have z2 := HZ2.out.cell 2
  have zf2 := HZ2.out.free 2
  have z3 := HZ2.out.cell 3
  have zf3 := HZ2.out.free 3
  have z4 := HZ2.out.cell 4
  have zf4 := HZ2.out.free 4
  have z5 := HZ2.out.cell 5
  have zf5 := HZ2.out.free 5
  have z6 := HZ2.out.cell 6
  have zf6 := HZ2.out.free 6
  go_wp2
  refine bodyPost_ret (v := .agg #[.int .i64 kd, .int .i64 r.id, .int .i64 (r.v % r.p), .int .i64 r.v, .int .i64 r.la, .slice p1 r.l.length d1, .int .i64 r.c]) (by simp [results, Tryz.results127, go_sem, z0, z1, z2, z3, z4, z5, z6]) rfl ⟨_, rfl, ?_, ?_⟩
  ·
   refine OwnsE.low (B := w.heap.size + 1) ?_ (by omega)
   repeat (refine OwnsE.other ?_ _ _ (fun k h => by have := KO.out.from k h; simp <;> omega))
   exact KO.out
  ·
   repeat (refine Below.setCell ?_ (by simp <;> omega) _)
   exact B2.out
end Go.Proofs.YtdkhdjickkcaiaaGreat.Rl
