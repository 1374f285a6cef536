/-
  The laws' comparison and copy of messages and rows of them.
  The laws' helpers on replicas: compared, measured, turned.
  The laws' helpers on replicas: turned, marked, held.
-/
import Derived.Test.YtdkhdjickkcaiaaRN09
import Derived.Test.YtdkhdjickkcaiaaRN10
namespace Go.Proofs.Ytdkhdjickkcaiaa.Rl
open Go.RowKit Go.Sort
set_option linter.unusedVariables false
set_option linter.unusedSimpArgs false

set_option maxRecDepth 100000 in
set_option maxHeartbeats 2000000 in
theorem eqMs (m : Ms) (ua ub : Value) (w : World) (ha : Sls txtE w ua m.l) (hb : Sls txtE w ub m.l) (hl : m.l.length ≤ 1048576) :
    Calls Try.prog 63 #[msA m ua, msA m ub] w fun e w' => e = .returned (.bool true) ∧ Below w.heap.size w w' := by
  have HA : Hid (Sls txtE w ua m.l) := ha
  have HB : Hid (Sls txtE w ub m.l) := hb
  have hE := fun W (hW : Below w.heap.size w W) => eqTxt ua ub m.l W (HA.out.kept hW) (HB.out.kept hW) hl
  obtain ⟨a, ca, rfl, _⟩ := ha
  obtain ⟨b, cb, rfl, _⟩ := hb
  unfold msA
  generalize m.l.length = n at hE ⊢
  obtain ⟨k, f, t, v, la, l, c⟩ := m
  simp only
  have d0 : (k != k) = false := by simp
  have d1 : (f != f) = false := by simp
  have d2 : (t != t) = false := by simp
  have d3 : (v != v) = false := by simp
  have d4 : (la != la) = false := by simp
  have d5 : (c != c) = false := by simp
  clear HA HB
  go_enter Try.func63, Try.ntmps63
  go_wp2_with fail
  refine (hE _ (by repeat (first | exact Below.refl _ _ | refine Below.alloc ?_ (by simp <;> omega) _))).mono ?_
  rintro e w1 ⟨rfl, hg⟩
  have GG : Hid (Grew w w1) := ((((Grew.refl w).alloc _).alloc _)).trans hg
  have f2 : w1.cell? ⟨w.heap.size, 6, none⟩ = some (.int .i64 c) := hg.cell (by simp [go_sem]) (by simp <;> omega)
  have f3 : w1.cell? ⟨w.heap.size + 1, 6, none⟩ = some (.int .i64 c) := hg.cell (by simp [go_sem]) (by simp <;> omega)
  clear hg hE
  go_wp2
  go_ret
  exact ⟨rfl, GG.out.low⟩
/-- The same messages. -/
def SameM (L M : List Mx) : Prop := M.map (·.m) = L.map (·.m)
theorem SameM.len {L M : List Mx} (h : SameM L M) : M.length = L.length := by have := congrArg List.length h; simpa using this
theorem SameM.at {L M : List Mx} (h : SameM L M) {j : Nat} (h1 : j < M.length) (h2 : j < L.length) : M[j].m = L[j].m := by
  have := congrArg (fun l => l[j]?) h
  simpa [h1, h2] using this
set_option maxRecDepth 100000 in
set_option maxHeartbeats 4000000 in
theorem eqMsS (va vb : Value) (L M : List Mx) (w : World) (ha : TeGot w va L) (hb : TeGot w vb M) (hs : SameM L M) (hsm : ∀ x ∈ L, x.m.l.length ≤ 1048576) (hn : L.length ≤ 1048576) :
    Calls Try.prog 31 #[va, vb] w fun e w' => e = .returned (.bool true) ∧ Below w.heap.size w w' := by
  have hml := hs.len
  have HA : Hid (TeGot w va L) := ha
  have HB : Hid (TeGot w vb M) := hb
  obtain ⟨⟨a, ca, rfl, _⟩, _⟩ := ha
  obtain ⟨⟨b, cb, rfl, _⟩, _⟩ := hb
  have HS : Hid (SameM L M) := hs
  have HSM : Hid (∀ x ∈ L, x.m.l.length ≤ 1048576) := hsm
  have dl : ((L.length : Int) != (M.length : Int)) = false := by rw [hml]; simp
  have HML : Hid (M.length = L.length) := hml
  clear hs hsm hml
  go_enter Try.func31, Try.ntmps31
  go_wp2_with fail
  go_loopw [5] (fun i wr => ∃ (k : Nat), k ≤ L.length ∧ i = .int .i64 k ∧ Hid (Below w.heap.size w wr)) (fun i _ => L.length - (intOf i).toNat)
  case atStart => exact ⟨0, Nat.zero_le _, rfl, Below.refl _ _⟩
  case round =>
    obtain ⟨k, hk, rfl, hb⟩ := hrel
    by_cases hlt : k < L.length
    · have hltM : k < M.length := by rw [HML.out]; exact hlt
      have HA2 := HA.out.kept hb.out
      have HB2 := HB.out.kept hb.out
      obtain ⟨g, q, rfl⟩ := mxAt HA2.1 (by omega)
      obtain ⟨g', q', rfl⟩ := mxAt HB2.1 (by omega)
      have CK := mxCells HA2.1 hlt
      have CM := mxCells HB2.1 hltM
      have hxo := HS.out.at hltM hlt
      have rx := HA2.2 L[k] (List.getElem_mem hlt)
      have ry := HB2.2 M[k] (List.getElem_mem hltM)
      have sx := HSM.out L[k] (List.getElem_mem hlt)
      generalize L[k] = x at CK hxo rx sx
      generalize M[k] = y at CM hxo ry
      obtain ⟨my, py, cy⟩ := y
      simp only at hxo
      subst hxo
      have hE := fun W (hW : Below wr.heap.size wr W) => eqMs x.m x.u (Value.slice py x.m.l.length cy) W (rx.kept hW) (MsGot.kept ry hW) sx
      unfold msA at hE
      unfold Mx.u at CK CM hE
      simp only at CK CM hE
      obtain ⟨⟨xk, xf, xt, xv, xa, xl, xc⟩, px, cx⟩ := x
      simp only at CK CM hE
      generalize xl.length = n at CK CM hE
      have cE : ∀ d os, Calls Try.prog 63 #[.agg #[.int .i64 xk, .int .i64 xf, .int .i64 xt, .int .i64 xv, .int .i64 xa, .slice px n cx, .int .i64 xc], .agg #[.int .i64 xk, .int .i64 xf, .int .i64 xt, .int .i64 xv, .int .i64 xa, .slice py n cy, .int .i64 xc]] (grow (redrawn wr d) os) fun e w'' => e = .returned (.bool true) ∧ ∃ p : Regrown, w'' = grow (redrawn wr p.d) p.os := fun d os => Calls.regrown_of (hE _ (below_regrown wr d os))
      obtain ⟨c0, c1, c2, c3, c4, c5, c6⟩ := CK
      obtain ⟨m0, m1, m2, m3, m4, m5, m6⟩ := CM
      have k0 := cell_regrown c0
      have k1 := cell_regrown c1
      have k2 := cell_regrown c2
      have k3 := cell_regrown c3
      have k4 := cell_regrown c4
      have k5 := cell_regrown c5
      have k6 := cell_regrown c6
      have n0 := cell_regrown m0
      have n1 := cell_regrown m1
      have n2 := cell_regrown m2
      have n3 := cell_regrown m3
      have n4 := cell_regrown m4
      have n5 := cell_regrown m5
      have n6 := cell_regrown m6
      clear c0 c1 c2 c3 c4 c5 c6 m0 m1 m2 m3 m4 m5 m6 hE rx ry sx HA2 HB2
      go_upto_region 6 with fail
      refine wp_region_quiet_below (by kernel_rfl) (by kernel_rfl) ?_
      repeat (go_big_quiet_step (first | (with_reducible exact cE _ _)))
      refine wpQuiet_nil ?_
      intro _ hw'
      obtain ⟨⟨dq, osq⟩, hw''⟩ := hw'
      subst hw''
      have B6 : Hid (Below w.heap.size w (grow (redrawn wr dq) osq)) := hb.out.trans ((below_regrown wr dq osq).mono hb.out.size)
      generalize grow (redrawn wr dq) osq = w6 at B6 ⊢
      clear k0 k1 k2 k3 k4 k5 k6 n0 n1 n2 n3 n4 n5 n6 cE hb
      go_wp2_with fail
      go_roundw
      case rel => exact ⟨k + 1, by omega, by go_num, B6⟩
      case measure => simp [intOf]; omega
    · go_wp2
      go_ret
      exact ⟨rfl, hb.out⟩
end Go.Proofs.Ytdkhdjickkcaiaa.Rl
namespace Go.Proofs.Ytdkhdjickkcaiaa.Rl
open Go.RowKit Go.Sort
set_option linter.unusedVariables false
set_option linter.unusedSimpArgs false

/-- The four rows of a replica, in blocks from B on. -/
structure RpHas (w : World) (B : Nat) (u : Rv) (r : Rp) : Prop where
  l : HasX w B u.l r.l
  ok : HasN w B u.ok r.ok
  ch : HasN w B u.ch r.ch
  t : u.T.map (·.m) = r.te
  te : HasM w B u.te u.T
  tl : ∀ x ∈ u.T, HasX w B x.u x.m.l
theorem RpHas.got {w : World} {B : Nat} {u : Rv} {r : Rp} (h : RpHas w B u r) : RpGot w u r := ⟨h.l.sls, h.ok.sls, h.ch.sls, h.t, h.te.sls, fun x hx => (h.tl x hx).sls⟩
theorem RpHas.kept {w w' : World} {B : Nat} {u : Rv} {r : Rp} (h : RpHas w B u r) (hb : Below w.heap.size w w') : RpHas w' B u r := ⟨h.l.kept hb, h.ok.kept hb, h.ch.kept hb, h.t, h.te.kept hb, fun x hx => (h.tl x hx).kept hb⟩
theorem RpHas.low {w : World} {B B' : Nat} {u : Rv} {r : Rp} (h : RpHas w B u r) (hB : B' ≤ B) : RpHas w B' u r := ⟨h.l.low hB, h.ok.low hB, h.ch.low hB, h.t, h.te.low hB, fun x hx => (h.tl x hx).low hB⟩
def Rv.rows (u : Rv) : List Value := u.l :: u.ok :: u.ch :: u.te :: u.T.map Mx.u
theorem RpHas.from {w : World} {B : Nat} {u : Rv} {r : Rp} (h : RpHas w B u r) : ∀ v ∈ u.rows, ∀ k, v.ownBlock = some k → B ≤ k := by
  intro v hv
  simp only [Rv.rows, List.mem_cons, List.mem_map] at hv
  rcases hv with rfl | rfl | rfl | rfl | ⟨x, hx, rfl⟩
  · exact h.l.from
  · exact h.ok.from
  · exact h.ch.from
  · exact h.te.from
  · exact (h.tl x hx).from
theorem RpHas.under {w : World} {B : Nat} {u : Rv} {r : Rp} (h : RpHas w B u r) : ∀ v ∈ u.rows, ∀ k, v.ownBlock = some k → k < w.heap.size := by
  intro v hv
  simp only [Rv.rows, List.mem_cons, List.mem_map] at hv
  rcases hv with rfl | rfl | rfl | rfl | ⟨x, hx, rfl⟩
  · exact h.l.under
  · exact h.ok.under
  · exact h.ch.under
  · exact h.te.under
  · exact (h.tl x hx).under
theorem RpHas.off {w w' : World} {B : Nat} {u : Rv} {r : Rp} (h : RpHas w B u r) (hk : ∀ v ∈ u.rows, ∀ k, v.ownBlock = some k → w'.heap[k]? = w.heap[k]?) : RpHas w' B u r :=
  ⟨h.l.off (hk _ (by simp [Rv.rows])), h.ok.off (hk _ (by simp [Rv.rows])), h.ch.off (hk _ (by simp [Rv.rows])), h.t, h.te.off (hk _ (by simp [Rv.rows])), fun x hx => (h.tl x hx).off (hk _ (by simp only [Rv.rows, List.mem_cons, List.mem_map]; exact .inr (.inr (.inr (.inr ⟨x, hx, rfl⟩)))))⟩
theorem Sls.slen {α : Type} {E : Enc α} {w : World} {v : Value} {l : List α} (h : Sls E w v l) : ∃ a c, v = .slice a l.length c := by obtain ⟨a, c, hv, _⟩ := h; exact ⟨a, c, hv⟩
/-- Its slices, one by one. -/
theorem RpGot.form {w : World} {u : Rv} {r : Rp} (h : RpGot w u r) : ∃ la lc oa oc ca cc ta tc T, u = ⟨.slice la r.l.length lc, .slice oa r.ok.length oc, .slice ca r.ch.length cc, .slice ta r.te.length tc, T⟩ := by
  obtain ⟨la, lc, h1⟩ := Sls.slen h.l
  obtain ⟨oa, oc, h2⟩ := Sls.slen h.ok
  obtain ⟨ca, cc, h3⟩ := Sls.slen h.ch
  obtain ⟨ta, tc, h4⟩ := Sls.slen h.te.1
  rw [h.tlen] at h4
  obtain ⟨_, _, _, _, T⟩ := u
  simp only at h1 h2 h3 h4
  subst h1; subst h2; subst h3; subst h4
  exact ⟨_, _, _, _, _, _, _, _, _, rfl⟩
set_option maxRecDepth 100000 in
set_option maxHeartbeats 4000000 in
theorem eqRp (r : Rp) (u u' : Rv) (w : World) (h : RpGot w u r) (h' : RpGot w u' r) (hf : Fit r) :
    Calls Try.prog 62 #[rpA r u, rpA r u'] w fun e w' => e = .returned (.bool true) ∧ Below w.heap.size w w' := by
  obtain ⟨aa, ac, ba, bc, ca, cc, da, dc, T, rfl⟩ := h.form
  obtain ⟨ea, ec, fa, fc, ga, gc, ha, hc, T', rfl⟩ := h'.form
  have j1 := fun W (hW : Below w.heap.size w W) => (eqTxt (.slice aa r.l.length ac) (.slice ea r.l.length ec) r.l W (h.l.kept hW) (h'.l.kept hW) hf.l.1).mono (fun e w' (hq : _ ∧ Grew W w') => (⟨hq.1, hq.2.low⟩ : e = .returned (.bool true) ∧ Below W.heap.size W w'))
  have j2 := fun W (hW : Below w.heap.size w W) => (eqNum (.slice ba r.ok.length bc) (.slice fa r.ok.length fc) r.ok W (h.ok.kept hW) (h'.ok.kept hW) hf.ok).mono (fun e w' (hq : _ ∧ Grew W w') => (⟨hq.1, hq.2.low⟩ : e = .returned (.bool true) ∧ Below W.heap.size W w'))
  have j3 := fun W (hW : Below w.heap.size w W) => (eqNum (.slice ca r.ch.length cc) (.slice ga r.ch.length gc) r.ch W (h.ch.kept hW) (h'.ch.kept hW) hf.ch).mono (fun e w' (hq : _ ∧ Grew W w') => (⟨hq.1, hq.2.low⟩ : e = .returned (.bool true) ∧ Below W.heap.size W w'))
  have j4 := fun W (hW : Below w.heap.size w W) => eqMsS (.slice da r.te.length dc) (.slice ha r.te.length hc) T T' W (h.te.kept hW) (h'.te.kept hW) (h'.t.trans h.t.symm) (fun x hx => (hf.te.2 _ (by rw [← h.t]; exact List.mem_map_of_mem hx)).1) (by rw [show T.length = r.te.length from h.tlen]; exact hf.te.1)
  unfold rpA
  simp only at j1 j2 j3 j4 ⊢
  clear h h' hf
  generalize r.l.length = nl at *
  generalize r.ok.length = no at *
  generalize r.ch.length = nc at *
  generalize r.te.length = nt at *
  have d0 : (r.id != r.id) = false := by simp
  have d1 : (r.p != r.p) = false := by simp
  have d2 : (r.v != r.v) = false := by simp
  have d3 : (r.n != r.n) = false := by simp
  have d4 : (r.la != r.la) = false := by simp
  have d6 : (r.c != r.c) = false := by simp
  go_enter Try.func62, Try.ntmps62
  go_wp2_with fail
  refine (j1 _ (((Below.refl _ w).alloc (by simp <;> omega) _).alloc (by simp <;> omega) _)).mono ?_
  rintro e w1 ⟨rfl, hb⟩
  simp at hb
  have BA : Hid (Bx w1 w.heap.size 53 #[.int .i64 r.id, .int .i64 r.p, .int .i64 r.v, .bool r.n, .int .i64 r.la, .slice aa nl ac, .int .i64 r.c, .slice ba no bc, .slice ca nc cc, .slice da nt dc]) := (show Hid _ from Bx.low ((Bx.at _ _ rfl).alloc _) hb (by omega))
  have BC : Hid (Bx w1 (w.heap.size + 1) 53 #[.int .i64 r.id, .int .i64 r.p, .int .i64 r.v, .bool r.n, .int .i64 r.la, .slice ea nl ec, .int .i64 r.c, .slice fa no fc, .slice ga nc gc, .slice ha nt hc]) := (show Hid _ from Bx.low (Bx.at _ _ (by simp)) hb (by omega))
  have BB : Hid (Below w.heap.size w w1) := (show Hid _ from (((Below.refl _ w).alloc (by simp <;> omega) _).alloc (by simp <;> omega) _).trans (hb.mono (by omega)))
  clear hb j1
  have a6 := BA.out.cell 6
  have b6 := BC.out.cell 6
  have a7 := BA.out.cell 7
  have b7 := BC.out.cell 7
  have a8 := BA.out.cell 8
  have b8 := BC.out.cell 8
  have a9 := BA.out.cell 9
  have b9 := BC.out.cell 9
  go_wp2_with fail
  clear a6 b6 a7 b7 a8 b8 a9 b9
  refine (j2 _ BB.out).mono ?_
  rintro e w2 ⟨rfl, hb⟩
  replace BA : Hid (Bx w2 w.heap.size 53 #[.int .i64 r.id, .int .i64 r.p, .int .i64 r.v, .bool r.n, .int .i64 r.la, .slice aa nl ac, .int .i64 r.c, .slice ba no bc, .slice ca nc cc, .slice da nt dc]) := (show Hid _ from Bx.kept BA.out hb)
  replace BC : Hid (Bx w2 (w.heap.size + 1) 53 #[.int .i64 r.id, .int .i64 r.p, .int .i64 r.v, .bool r.n, .int .i64 r.la, .slice ea nl ec, .int .i64 r.c, .slice fa no fc, .slice ga nc gc, .slice ha nt hc]) := (show Hid _ from Bx.kept BC.out hb)
  replace BB : Hid (Below w.heap.size w w2) := (show Hid _ from BB.out.trans (hb.mono BB.out.size))
  clear hb j2
  have a6 := BA.out.cell 6
  have b6 := BC.out.cell 6
  have a7 := BA.out.cell 7
  have b7 := BC.out.cell 7
  have a8 := BA.out.cell 8
  have b8 := BC.out.cell 8
  have a9 := BA.out.cell 9
  have b9 := BC.out.cell 9
  go_wp2_with fail
  clear a6 b6 a7 b7 a8 b8 a9 b9
  refine (j3 _ BB.out).mono ?_
  rintro e w3 ⟨rfl, hb⟩
  replace BA : Hid (Bx w3 w.heap.size 53 #[.int .i64 r.id, .int .i64 r.p, .int .i64 r.v, .bool r.n, .int .i64 r.la, .slice aa nl ac, .int .i64 r.c, .slice ba no bc, .slice ca nc cc, .slice da nt dc]) := (show Hid _ from Bx.kept BA.out hb)
  replace BC : Hid (Bx w3 (w.heap.size + 1) 53 #[.int .i64 r.id, .int .i64 r.p, .int .i64 r.v, .bool r.n, .int .i64 r.la, .slice ea nl ec, .int .i64 r.c, .slice fa no fc, .slice ga nc gc, .slice ha nt hc]) := (show Hid _ from Bx.kept BC.out hb)
  replace BB : Hid (Below w.heap.size w w3) := (show Hid _ from BB.out.trans (hb.mono BB.out.size))
  clear hb j3
  have a6 := BA.out.cell 6
  have b6 := BC.out.cell 6
  have a7 := BA.out.cell 7
  have b7 := BC.out.cell 7
  have a8 := BA.out.cell 8
  have b8 := BC.out.cell 8
  have a9 := BA.out.cell 9
  have b9 := BC.out.cell 9
  go_wp2_with fail
  clear a6 b6 a7 b7 a8 b8 a9 b9
  refine (j4 _ BB.out).mono ?_
  rintro e w4 ⟨rfl, hb⟩
  replace BA : Hid (Bx w4 w.heap.size 53 #[.int .i64 r.id, .int .i64 r.p, .int .i64 r.v, .bool r.n, .int .i64 r.la, .slice aa nl ac, .int .i64 r.c, .slice ba no bc, .slice ca nc cc, .slice da nt dc]) := (show Hid _ from Bx.kept BA.out hb)
  replace BC : Hid (Bx w4 (w.heap.size + 1) 53 #[.int .i64 r.id, .int .i64 r.p, .int .i64 r.v, .bool r.n, .int .i64 r.la, .slice ea nl ec, .int .i64 r.c, .slice fa no fc, .slice ga nc gc, .slice ha nt hc]) := (show Hid _ from Bx.kept BC.out hb)
  replace BB : Hid (Below w.heap.size w w4) := (show Hid _ from BB.out.trans (hb.mono BB.out.size))
  clear hb j4
  go_wp2
  go_ret
  exact ⟨rfl, BB.out⟩
/-- How many marks a replica takes. -/
def cR (r : Rp) : Nat := r.l.length + r.ok.length + r.ch.length + (r.te.length * 6 + (r.te.map fun m => m.l.length).sum)
theorem cL_of {T : List Mx} {te : List Ms} (h : T.map (·.m) = te) : cL T = (te.map fun m => m.l.length).sum := by rw [← h]; unfold cL; rw [List.map_map]; rfl
end Go.Proofs.Ytdkhdjickkcaiaa.Rl
namespace Go.Proofs.Ytdkhdjickkcaiaa.Rl
open Go.RowKit Go.Sort
set_option linter.unusedVariables false
set_option linter.unusedSimpArgs false

def RpAp (u : Rv) : Prop := u.rows.Pairwise ap
theorem apI {v v' : Value} {C : Nat} (h1 : ∀ k, v.ownBlock = some k → k < C) (h2 : ∀ k, v'.ownBlock = some k → C ≤ k) : ap v v' := fun k h h' => by have := h1 k h; have := h2 k h'; omega
end Go.Proofs.Ytdkhdjickkcaiaa.Rl
