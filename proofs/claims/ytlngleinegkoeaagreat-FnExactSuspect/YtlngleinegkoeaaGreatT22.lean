/-
  The laws' helpers on replicas: compared, measured, turned.
  The laws' helpers on replicas: turned, marked, held.
  The laws' marks on replicas.
-/
import Derived.Test.YtlngleinegkoeaaGreatT21
namespace Go.Proofs.YtlngleinegkoeaaGreat.Rl
open Go.RowKit Go.Sort
set_option linter.unusedVariables false
set_option linter.unusedSimpArgs false

/-- The four rows of a replica, in blocks from B on. -/
structure RpHas (w : World) (B : Nat) (u : Rv) (r : Rp) : Prop where
  l : HasX w B u.l r.l
  ok : HasN w B u.ok r.ok
  ch : HasN w B u.ch r.ch
  t : u.T.map (·.m) = r.te
  te : HasM w B u.te u.T
  tl : ∀ x ∈ u.T, HasX w B x.u x.m.l
theorem RpHas.got {w : World} {B : Nat} {u : Rv} {r : Rp} (h : RpHas w B u r) : RpGot w u r := ⟨h.l.sls, h.ok.sls, h.ch.sls, h.t, h.te.sls, fun x hx => (h.tl x hx).sls⟩
theorem RpHas.kept {w w' : World} {B : Nat} {u : Rv} {r : Rp} (h : RpHas w B u r) (hb : Below w.heap.size w w') : RpHas w' B u r := ⟨h.l.kept hb, h.ok.kept hb, h.ch.kept hb, h.t, h.te.kept hb, fun x hx => (h.tl x hx).kept hb⟩
theorem RpHas.low {w : World} {B B' : Nat} {u : Rv} {r : Rp} (h : RpHas w B u r) (hB : B' ≤ B) : RpHas w B' u r := ⟨h.l.low hB, h.ok.low hB, h.ch.low hB, h.t, h.te.low hB, fun x hx => (h.tl x hx).low hB⟩
def Rv.rows (u : Rv) : List Value := u.l :: u.ok :: u.ch :: u.te :: u.T.map Mx.u
theorem RpHas.from {w : World} {B : Nat} {u : Rv} {r : Rp} (h : RpHas w B u r) : ∀ v ∈ u.rows, ∀ k, v.ownBlock = some k → B ≤ k := by
  intro v hv
  simp only [Rv.rows, List.mem_cons, List.mem_map] at hv
  rcases hv with rfl | rfl | rfl | rfl | ⟨x, hx, rfl⟩
  · exact h.l.from
  · exact h.ok.from
  · exact h.ch.from
  · exact h.te.from
  · exact (h.tl x hx).from
theorem RpHas.under {w : World} {B : Nat} {u : Rv} {r : Rp} (h : RpHas w B u r) : ∀ v ∈ u.rows, ∀ k, v.ownBlock = some k → k < w.heap.size := by
  intro v hv
  simp only [Rv.rows, List.mem_cons, List.mem_map] at hv
  rcases hv with rfl | rfl | rfl | rfl | ⟨x, hx, rfl⟩
  · exact h.l.under
  · exact h.ok.under
  · exact h.ch.under
  · exact h.te.under
  · exact (h.tl x hx).under
theorem RpHas.off {w w' : World} {B : Nat} {u : Rv} {r : Rp} (h : RpHas w B u r) (hk : ∀ v ∈ u.rows, ∀ k, v.ownBlock = some k → w'.heap[k]? = w.heap[k]?) : RpHas w' B u r :=
  ⟨h.l.off (hk _ (by simp [Rv.rows])), h.ok.off (hk _ (by simp [Rv.rows])), h.ch.off (hk _ (by simp [Rv.rows])), h.t, h.te.off (hk _ (by simp [Rv.rows])), fun x hx => (h.tl x hx).off (hk _ (by simp only [Rv.rows, List.mem_cons, List.mem_map]; exact .inr (.inr (.inr (.inr ⟨x, hx, rfl⟩)))))⟩
theorem Sls.slen {α : Type} {E : Enc α} {w : World} {v : Value} {l : List α} (h : Sls E w v l) : ∃ a c, v = .slice a l.length c := by obtain ⟨a, c, hv, _⟩ := h; exact ⟨a, c, hv⟩
/-- Its slices, one by one. -/
theorem RpGot.form {w : World} {u : Rv} {r : Rp} (h : RpGot w u r) : ∃ la lc oa oc ca cc ta tc T, u = ⟨.slice la r.l.length lc, .slice oa r.ok.length oc, .slice ca r.ch.length cc, .slice ta r.te.length tc, T⟩ := by
  obtain ⟨la, lc, h1⟩ := Sls.slen h.l
  obtain ⟨oa, oc, h2⟩ := Sls.slen h.ok
  obtain ⟨ca, cc, h3⟩ := Sls.slen h.ch
  obtain ⟨ta, tc, h4⟩ := Sls.slen h.te.1
  rw [h.tlen] at h4
  obtain ⟨_, _, _, _, T⟩ := u
  simp only at h1 h2 h3 h4
  subst h1; subst h2; subst h3; subst h4
  exact ⟨_, _, _, _, _, _, _, _, _, rfl⟩
set_option maxRecDepth 100000 in
set_option maxHeartbeats 4000000 in
theorem eqRp (r : Rp) (u u' : Rv) (w : World) (h : RpGot w u r) (h' : RpGot w u' r) (hf : Fit r) :
    Calls Tryz.prog 57 #[rpA r u, rpA r u'] w fun e w' => e = .returned (.bool true) ∧ Below w.heap.size w w' := by
  obtain ⟨aa, ac, ba, bc, ca, cc, da, dc, T, rfl⟩ := h.form
  obtain ⟨ea, ec, fa, fc, ga, gc, ha, hc, T', rfl⟩ := h'.form
  have j1 := fun W (hW : Below w.heap.size w W) => (eqTxt (.slice aa r.l.length ac) (.slice ea r.l.length ec) r.l W (h.l.kept hW) (h'.l.kept hW) hf.l.1).mono (fun e w' (hq : _ ∧ Grew W w') => (⟨hq.1, hq.2.low⟩ : e = .returned (.bool true) ∧ Below W.heap.size W w'))
  have j2 := fun W (hW : Below w.heap.size w W) => (eqNum (.slice ba r.ok.length bc) (.slice fa r.ok.length fc) r.ok W (h.ok.kept hW) (h'.ok.kept hW) hf.ok).mono (fun e w' (hq : _ ∧ Grew W w') => (⟨hq.1, hq.2.low⟩ : e = .returned (.bool true) ∧ Below W.heap.size W w'))
  have j3 := fun W (hW : Below w.heap.size w W) => (eqNum (.slice ca r.ch.length cc) (.slice ga r.ch.length gc) r.ch W (h.ch.kept hW) (h'.ch.kept hW) hf.ch).mono (fun e w' (hq : _ ∧ Grew W w') => (⟨hq.1, hq.2.low⟩ : e = .returned (.bool true) ∧ Below W.heap.size W w'))
  have j4 := fun W (hW : Below w.heap.size w W) => eqMsS (.slice da r.te.length dc) (.slice ha r.te.length hc) T T' W (h.te.kept hW) (h'.te.kept hW) (h'.t.trans h.t.symm) (fun x hx => (hf.te.2 _ (by rw [← h.t]; exact List.mem_map_of_mem hx)).1) (by rw [show T.length = r.te.length from h.tlen]; exact hf.te.1)
  unfold rpA
  simp only at j1 j2 j3 j4 ⊢
  clear h h' hf
  generalize r.l.length = nl at *
  generalize r.ok.length = no at *
  generalize r.ch.length = nc at *
  generalize r.te.length = nt at *
  have d0 : (r.id != r.id) = false := by simp
  have d1 : (r.p != r.p) = false := by simp
  have d2 : (r.v != r.v) = false := by simp
  have d3 : (r.n != r.n) = false := by simp
  have d4 : (r.la != r.la) = false := by simp
  have d6 : (r.c != r.c) = false := by simp
  go_enter Tryz.func57, Tryz.ntmps57
  go_wp2_with fail
  refine (j1 _ (((Below.refl _ w).alloc (by simp <;> omega) _).alloc (by simp <;> omega) _)).mono ?_
  rintro e w1 ⟨rfl, hb⟩
  simp at hb
  have BA : Hid (Bx w1 w.heap.size 28 #[.int .i64 r.id, .int .i64 r.p, .int .i64 r.v, .bool r.n, .int .i64 r.la, .slice aa nl ac, .int .i64 r.c, .slice ba no bc, .slice ca nc cc, .slice da nt dc]) := (show Hid _ from Bx.low ((Bx.at _ _ rfl).alloc _) hb (by omega))
  have BC : Hid (Bx w1 (w.heap.size + 1) 28 #[.int .i64 r.id, .int .i64 r.p, .int .i64 r.v, .bool r.n, .int .i64 r.la, .slice ea nl ec, .int .i64 r.c, .slice fa no fc, .slice ga nc gc, .slice ha nt hc]) := (show Hid _ from Bx.low (Bx.at _ _ (by simp)) hb (by omega))
  have BB : Hid (Below w.heap.size w w1) := (show Hid _ from (((Below.refl _ w).alloc (by simp <;> omega) _).alloc (by simp <;> omega) _).trans (hb.mono (by omega)))
  clear hb j1
  have a6 := BA.out.cell 6
  have b6 := BC.out.cell 6
  have a7 := BA.out.cell 7
  have b7 := BC.out.cell 7
  have a8 := BA.out.cell 8
  have b8 := BC.out.cell 8
  have a9 := BA.out.cell 9
  have b9 := BC.out.cell 9
  go_wp2_with fail
  clear a6 b6 a7 b7 a8 b8 a9 b9
  refine (j2 _ BB.out).mono ?_
  rintro e w2 ⟨rfl, hb⟩
  replace BA : Hid (Bx w2 w.heap.size 28 #[.int .i64 r.id, .int .i64 r.p, .int .i64 r.v, .bool r.n, .int .i64 r.la, .slice aa nl ac, .int .i64 r.c, .slice ba no bc, .slice ca nc cc, .slice da nt dc]) := (show Hid _ from Bx.kept BA.out hb)
  replace BC : Hid (Bx w2 (w.heap.size + 1) 28 #[.int .i64 r.id, .int .i64 r.p, .int .i64 r.v, .bool r.n, .int .i64 r.la, .slice ea nl ec, .int .i64 r.c, .slice fa no fc, .slice ga nc gc, .slice ha nt hc]) := (show Hid _ from Bx.kept BC.out hb)
  replace BB : Hid (Below w.heap.size w w2) := (show Hid _ from BB.out.trans (hb.mono BB.out.size))
  clear hb j2
  have a6 := BA.out.cell 6
  have b6 := BC.out.cell 6
  have a7 := BA.out.cell 7
  have b7 := BC.out.cell 7
  have a8 := BA.out.cell 8
  have b8 := BC.out.cell 8
  have a9 := BA.out.cell 9
  have b9 := BC.out.cell 9
  go_wp2_with fail
  clear a6 b6 a7 b7 a8 b8 a9 b9
  refine (j3 _ BB.out).mono ?_
  rintro e w3 ⟨rfl, hb⟩
  replace BA : Hid (Bx w3 w.heap.size 28 #[.int .i64 r.id, .int .i64 r.p, .int .i64 r.v, .bool r.n, .int .i64 r.la, .slice aa nl ac, .int .i64 r.c, .slice ba no bc, .slice ca nc cc, .slice da nt dc]) := (show Hid _ from Bx.kept BA.out hb)
  replace BC : Hid (Bx w3 (w.heap.size + 1) 28 #[.int .i64 r.id, .int .i64 r.p, .int .i64 r.v, .bool r.n, .int .i64 r.la, .slice ea nl ec, .int .i64 r.c, .slice fa no fc, .slice ga nc gc, .slice ha nt hc]) := (show Hid _ from Bx.kept BC.out hb)
  replace BB : Hid (Below w.heap.size w w3) := (show Hid _ from BB.out.trans (hb.mono BB.out.size))
  clear hb j3
  have a6 := BA.out.cell 6
  have b6 := BC.out.cell 6
  have a7 := BA.out.cell 7
  have b7 := BC.out.cell 7
  have a8 := BA.out.cell 8
  have b8 := BC.out.cell 8
  have a9 := BA.out.cell 9
  have b9 := BC.out.cell 9
  go_wp2_with fail
  clear a6 b6 a7 b7 a8 b8 a9 b9
  refine (j4 _ BB.out).mono ?_
  rintro e w4 ⟨rfl, hb⟩
  replace BA : Hid (Bx w4 w.heap.size 28 #[.int .i64 r.id, .int .i64 r.p, .int .i64 r.v, .bool r.n, .int .i64 r.la, .slice aa nl ac, .int .i64 r.c, .slice ba no bc, .slice ca nc cc, .slice da nt dc]) := (show Hid _ from Bx.kept BA.out hb)
  replace BC : Hid (Bx w4 (w.heap.size + 1) 28 #[.int .i64 r.id, .int .i64 r.p, .int .i64 r.v, .bool r.n, .int .i64 r.la, .slice ea nl ec, .int .i64 r.c, .slice fa no fc, .slice ga nc gc, .slice ha nt hc]) := (show Hid _ from Bx.kept BC.out hb)
  replace BB : Hid (Below w.heap.size w w4) := (show Hid _ from BB.out.trans (hb.mono BB.out.size))
  clear hb j4
  go_wp2
  go_ret
  exact ⟨rfl, BB.out⟩
/-- How many marks a replica takes. -/
def cR (r : Rp) : Nat := r.l.length + r.ok.length + r.ch.length + (r.te.length * 6 + (r.te.map fun m => m.l.length).sum)
theorem cL_of {T : List Mx} {te : List Ms} (h : T.map (·.m) = te) : cL T = (te.map fun m => m.l.length).sum := by rw [← h]; unfold cL; rw [List.map_map]; rfl
/-- Lengths as memory has them. -/
structure Lens (r : Rp) : Prop where
  l : r.l.length ≤ maxLen ∧ ∀ p ∈ r.l, p.size ≤ maxLen
  ok : r.ok.length ≤ maxLen
  ch : r.ch.length ≤ maxLen
  te : r.te.length ≤ maxLen ∧ ∀ m ∈ r.te, m.l.length ≤ maxLen ∧ ∀ p ∈ m.l, p.size ≤ maxLen
theorem szNuM (v : Value) (l : List Int) (left : Int) (h0 : 0 ≤ left) (h1 : left ≤ 1048576) (w : World) (h : Sls intE w v l) : Calls Tryz.prog 136 #[v, .int .i64 left] w fun e w' => Mea left l.length True e ∧ Below w.heap.size w w' :=
  (szNu v l left h0 h1 w h).mono fun e w' h => by
    obtain ⟨rfl, h2⟩ := h
    refine ⟨⟨_, rfl, ?_, ?_, ?_⟩, h2 ▸ Below.refl _ _⟩ <;> unfold szU <;> split <;> first | omega | (intro; omega) | (intro _; exact ⟨trivial, by omega⟩)
set_option maxRecDepth 100000 in
set_option maxHeartbeats 4000000 in
theorem szRp (r : Rp) (u : Rv) (left : Int) (h0 : 0 ≤ left) (h1 : left ≤ 1048576) (w : World) (h : RpGot w u r) (hf : Lens r) :
    Calls Tryz.prog 55 #[rpA r u, .int .i64 left] w fun e w' => Mea left (r.l.length + r.ok.length + r.ch.length + (r.te.length + (r.te.map fun m => m.l.length).sum)) (Fit r) e ∧ Below w.heap.size w w' := by
  obtain ⟨aa, ac, ba, bc, ca, cc, da, dc, T, rfl⟩ := h.form
  have j1 := fun W (hW : Below w.heap.size w W) => szTx (.slice aa r.l.length ac) r.l left h0 h1 W (h.l.kept hW) hf.l.2 hf.l.1
  have j2 := fun z (z0 : 0 ≤ z) (z1 : z ≤ 1048576) W (hW : Below w.heap.size w W) => szNuM (.slice ba r.ok.length bc) r.ok z z0 z1 W (h.ok.kept hW)
  have j3 := fun z (z0 : 0 ≤ z) (z1 : z ≤ 1048576) W (hW : Below w.heap.size w W) => szNuM (.slice ca r.ch.length cc) r.ch z z0 z1 W (h.ch.kept hW)
  have hT : ∀ x ∈ T, x.m ∈ r.te := fun x hx => by rw [← h.t]; exact List.mem_map_of_mem hx
  have htl : T.length = r.te.length := h.tlen
  have j4 := fun z (z0 : 0 ≤ z) (z1 : z ≤ 1048576) W (hW : Below w.heap.size w W) => szMsS (.slice da r.te.length dc) T z z0 z1 W (h.te.kept hW) (fun x hx => hf.te.2 _ (hT x hx)) (by rw [htl]; exact hf.te.1)
  have HT : Hid (T.map (·.m) = r.te) := h.t
  have HTL : Hid (T.length = r.te.length) := htl
  have HCL : Hid (cL T = (r.te.map fun m => m.l.length).sum) := (show _ = _ from cL_of h.t)
  unfold rpA
  simp only at j1 j2 j3 j4 ⊢
  clear h hf htl
  obtain ⟨nl, hnl⟩ : ∃ n, n = r.l.length := ⟨_, rfl⟩
  obtain ⟨no, hno⟩ : ∃ n, n = r.ok.length := ⟨_, rfl⟩
  obtain ⟨nc, hnc⟩ : ∃ n, n = r.ch.length := ⟨_, rfl⟩
  obtain ⟨nt, hnt⟩ : ∃ n, n = r.te.length := ⟨_, rfl⟩
  rw [← hnl] at j1
  rw [← hno] at j2
  rw [← hnc] at j3
  rw [← hnt] at j4
  have HNL : Hid (nl = r.l.length ∧ no = r.ok.length ∧ nc = r.ch.length ∧ nt = r.te.length) := ⟨hnl, hno, hnc, hnt⟩
  rw [← hnl, ← hno, ← hnc, ← hnt]
  clear hnl hno hnc hnt
  go_enter Tryz.func55, Tryz.ntmps55
  go_wp2_with fail
  refine (j1 _ ((Below.refl _ w).alloc (by simp <;> omega) _)).mono ?_
  rintro e w1 ⟨⟨z1, rfl, q1, q2, q3⟩, hb⟩
  simp at hb
  have BA : Hid (Bx w1 w.heap.size 77 #[.int .i64 r.id, .int .i64 r.p, .int .i64 r.v, .bool r.n, .int .i64 r.la, .slice aa nl ac, .int .i64 r.c, .slice ba no bc, .slice ca nc cc, .slice da nt dc]) := (show Hid _ from Bx.low (Bx.at _ _ rfl) hb (by omega))
  have BB : Hid (Below w.heap.size w w1) := (show Hid _ from ((Below.refl _ w).alloc (by simp <;> omega) _).trans (hb.mono (by omega)))
  have Q1 : Hid (0 ≤ z1 → Sm r.l ∧ (nl : Int) + z1 ≤ left) := (show Hid _ from q3)
  clear hb j1 q3
  by_cases hn0 : z1 < 0
  · go_wp2
    go_ret
    exact ⟨⟨_, rfl, by omega, fun _ => rfl, fun h => by omega⟩, BB.out⟩
  have a7 := BA.out.cell 7
  go_wp2_with fail
  clear a7
  refine (j2 z1 (by omega) (by omega) _ BB.out).mono ?_
  rintro e w2 ⟨⟨z2, rfl, q10, q20, q3⟩, hb⟩
  replace BA : Hid (Bx w2 w.heap.size 77 #[.int .i64 r.id, .int .i64 r.p, .int .i64 r.v, .bool r.n, .int .i64 r.la, .slice aa nl ac, .int .i64 r.c, .slice ba no bc, .slice ca nc cc, .slice da nt dc]) := (show Hid _ from Bx.kept BA.out hb)
  replace BB : Hid (Below w.heap.size w w2) := (show Hid _ from BB.out.trans (hb.mono BB.out.size))
  have Q2 : Hid (0 ≤ z2 → _) := (show Hid _ from q3)
  clear hb j2 q3
  by_cases hn1 : z2 < 0
  · go_wp2
    go_ret
    exact ⟨⟨_, rfl, by omega, fun _ => rfl, fun h => by omega⟩, BB.out⟩
  have a8 := BA.out.cell 8
  go_wp2_with fail
  clear a8
  refine (j3 z2 (by omega) (by omega) _ BB.out).mono ?_
  rintro e w3 ⟨⟨z3, rfl, q11, q21, q3⟩, hb⟩
  replace BA : Hid (Bx w3 w.heap.size 77 #[.int .i64 r.id, .int .i64 r.p, .int .i64 r.v, .bool r.n, .int .i64 r.la, .slice aa nl ac, .int .i64 r.c, .slice ba no bc, .slice ca nc cc, .slice da nt dc]) := (show Hid _ from Bx.kept BA.out hb)
  replace BB : Hid (Below w.heap.size w w3) := (show Hid _ from BB.out.trans (hb.mono BB.out.size))
  have Q3 : Hid (0 ≤ z3 → _) := (show Hid _ from q3)
  clear hb j3 q3
  by_cases hn2 : z3 < 0
  · go_wp2
    go_ret
    exact ⟨⟨_, rfl, by omega, fun _ => rfl, fun h => by omega⟩, BB.out⟩
  have a9 := BA.out.cell 9
  go_wp2_with fail
  clear a9
  refine (j4 z3 (by omega) (by omega) _ BB.out).mono ?_
  rintro e w4 ⟨⟨z4, rfl, q12, q22, q3⟩, hb⟩
  replace BA : Hid (Bx w4 w.heap.size 77 #[.int .i64 r.id, .int .i64 r.p, .int .i64 r.v, .bool r.n, .int .i64 r.la, .slice aa nl ac, .int .i64 r.c, .slice ba no bc, .slice ca nc cc, .slice da nt dc]) := (show Hid _ from Bx.kept BA.out hb)
  replace BB : Hid (Below w.heap.size w w4) := (show Hid _ from BB.out.trans (hb.mono BB.out.size))
  have Q4 : Hid (0 ≤ z4 → _) := (show Hid _ from q3)
  clear hb j4 q3
  by_cases hn3 : z4 < 0
  · go_wp2
    go_ret
    exact ⟨⟨_, rfl, by omega, fun _ => rfl, fun h => by omega⟩, BB.out⟩
  go_wp2
  go_ret
  have R1 := Q1.out (by omega)
  have R2 := Q2.out (by omega)
  have R3 := Q3.out (by omega)
  have R4 := Q4.out (by omega)
  have e1 := HNL.out
  have e2 := HTL.out
  have e3 := HCL.out
  have R5 := R4.1.2
  refine ⟨⟨z4, rfl, by omega, fun h => by omega, fun _ => ⟨⟨R1.1, by omega, by omega, by omega, fun m hm => ?_⟩, by omega⟩⟩, BB.out⟩
  rw [← HT.out] at hm
  obtain ⟨x, hx, rfl⟩ := List.mem_map.1 hm
  exact R5 x hx
end Go.Proofs.YtlngleinegkoeaaGreat.Rl
namespace Go.Proofs.YtlngleinegkoeaaGreat.Rl
open Go.RowKit Go.Sort
set_option linter.unusedVariables false
set_option linter.unusedSimpArgs false

def RpAp (u : Rv) : Prop := u.rows.Pairwise ap
theorem apI {v v' : Value} {C : Nat} (h1 : ∀ k, v.ownBlock = some k → k < C) (h2 : ∀ k, v'.ownBlock = some k → C ≤ k) : ap v v' := fun k h h' => by have := h1 k h; have := h2 k h'; omega
set_option maxRecDepth 100000 in
set_option maxHeartbeats 8000000 in
theorem toRp (r : Rp) (u : Rv) (w : World) (h : RpGot w u r) (hf : Fit r) :
    Calls Tryz.prog 56 #[rpA r u] w fun e w' => ∃ u', e = .returned (rpA r u') ∧ RpHas w' w.heap.size u' r ∧ RpAp u' ∧ Below w.heap.size w w' := by
  obtain ⟨aa, ac, ba, bc, ca, cc, da, dc, T, rfl⟩ := h.form
  have j1 := fun W (hW : Below w.heap.size w W) => toTxt (.slice aa r.l.length ac) r.l W (h.l.kept hW) hf.l.1
  have j2 := fun W (hW : Below w.heap.size w W) => toNum (.slice ba r.ok.length bc) r.ok W (h.ok.kept hW) hf.ok
  have j3 := fun W (hW : Below w.heap.size w W) => toNum (.slice ca r.ch.length cc) r.ch W (h.ch.kept hW) hf.ch
  have htl : T.length = r.te.length := h.tlen
  have HT : Hid (T.map (·.m) = r.te) := h.t
  have j4 := fun W (hW : Below w.heap.size w W) => toMsS (.slice da r.te.length dc) T W (h.te.kept hW) (fun x hx => (hf.te.2 _ (by rw [← h.t]; exact List.mem_map_of_mem hx)).1) (by rw [htl]; exact hf.te.1)
  unfold rpA
  simp only at j1 j2 j3 j4 ⊢
  have HTL : Hid (T.length = r.te.length) := htl
  clear h hf htl
  go_enter Tryz.func56, Tryz.ntmps56
  go_wp2_with fail
  refine (j1 _ (by repeat (first | exact Below.refl _ _ | refine Below.alloc ?_ (by simp <;> omega) _ | refine Below.setCell ?_ (by simp <;> omega) _))).mono ?_
  rintro e w1 ⟨u1, rfl, ho, hb⟩
  obtain ⟨a1, c1, rfl, _⟩ := ho.form
  simp [go_sem] at hb ho
  have BZ : Hid (Bx w1 (w.heap.size + 1 + 1) 28 #[.int .i64 r.id, .int .i64 r.p, .int .i64 r.v, .bool r.n, .int .i64 r.la, .slice none 0 0, .int .i64 0, .slice none 0 0, .slice none 0 0, .slice none 0 0]) := (show Hid _ from Bx.low (Bx.at _ _ (by simp)) hb (by omega))
  have BY : Hid (Bx w1 (w.heap.size + 1) 28 #[.int .i64 0, .int .i64 0, .int .i64 0, .bool false, .int .i64 0, .slice none 0 0, .int .i64 0, .slice none 0 0, .slice none 0 0, .slice none 0 0]) := (show Hid _ from Bx.low ((Bx.at _ _ (by simp)).alloc _) hb (by omega))
  have BX : Hid (Bx w1 w.heap.size 77 #[.int .i64 r.id, .int .i64 r.p, .int .i64 r.v, .bool r.n, .int .i64 r.la, .slice aa r.l.length ac, .int .i64 r.c, .slice ba r.ok.length bc, .slice ca r.ch.length cc, .slice da r.te.length dc]) := (show Hid _ from Bx.low (((Bx.at _ _ rfl).alloc _).alloc _) hb (by omega))
  have BB : Hid (Below w.heap.size w w1) := (show Hid _ from ((((Below.refl _ w).alloc (by simp <;> omega) _).alloc (by simp <;> omega) _).alloc (by simp <;> omega) _).trans (hb.mono (by omega)))
  have O1 : Hid (OwnsX w1 (w.heap.size + 3) (.slice a1 r.l.length c1) r.l) := ho
  have S1 : Hid (w.heap.size + 3 ≤ w1.heap.size) := (show w.heap.size + 3 ≤ w1.heap.size by have := hb.size; simp at this; omega)
  have UU1 : Hid (∀ k, (Value.slice a1 r.l.length c1).ownBlock = some k → k < w1.heap.size) := (show ∀ _, _ from OwnsE.under O1.out)
  clear hb ho j1
  have z5 := BZ.out.cell 5
  have zf5 := BZ.out.free 5
  have z6 := BZ.out.cell 6
  have zf6 := BZ.out.free 6
  have x6 := BX.out.cell 6
  have x7 := BX.out.cell 7
  go_wp2_with fail
  clear z5 zf5 z6 zf6 x6 x7
  refine (j2 _ (((BB.out).setCell (p := ⟨w.heap.size + 1 + 1, 5, none⟩) (by simp <;> omega) _).setCell (p := ⟨w.heap.size + 1 + 1, 6, none⟩) (by simp <;> omega) _)).mono ?_
  rintro e w2 ⟨u2, rfl, ho, hb⟩
  obtain ⟨a2, c2, rfl, _⟩ := ho.form
  replace BZ : Hid (Bx w2 (w.heap.size + 1 + 1) 28 #[.int .i64 r.id, .int .i64 r.p, .int .i64 r.v, .bool r.n, .int .i64 r.la, .slice a1 r.l.length c1, .int .i64 r.c, .slice none 0 0, .slice none 0 0, .slice none 0 0]) := (show Hid _ from Bx.kept (Bx.put (Bx.put (BZ.out) 5 _) 6 _) hb)
  replace BY : Hid (Bx w2 (w.heap.size + 1) 28 #[.int .i64 0, .int .i64 0, .int .i64 0, .bool false, .int .i64 0, .slice none 0 0, .int .i64 0, .slice none 0 0, .slice none 0 0, .slice none 0 0]) := (show Hid _ from Bx.kept (Bx.other (Bx.other (BY.out) 5 _ (by omega)) 6 _ (by omega)) hb)
  replace BX : Hid (Bx w2 w.heap.size 77 #[.int .i64 r.id, .int .i64 r.p, .int .i64 r.v, .bool r.n, .int .i64 r.la, .slice aa r.l.length ac, .int .i64 r.c, .slice ba r.ok.length bc, .slice ca r.ch.length cc, .slice da r.te.length dc]) := (show Hid _ from Bx.kept (Bx.other (Bx.other (BX.out) 5 _ (by omega)) 6 _ (by omega)) hb)
  have UO1 : ∀ k, (Value.slice a1 r.l.length c1).ownBlock = some k → w.heap.size + 3 ≤ k ∧ k < w1.heap.size := fun k hk => ⟨by have := OwnsE.from O1.out k hk; have := S1.out; omega, OwnsE.under O1.out k hk⟩
  replace O1 : Hid (OwnsX w2 (w.heap.size + 3) (.slice a1 r.l.length c1) r.l) := (show Hid _ from OwnsE.kept (OwnsE.other (OwnsE.other (O1.out) _ _ (fun k hk => by have := UO1 k hk; simp <;> omega)) _ _ (fun k hk => by have := UO1 k hk; simp <;> omega)) hb)
  clear UO1
  have hs : ∀ k, w.heap.size + 3 ≤ k → True := fun _ _ => trivial
  have S2 : Hid (w1.heap.size ≤ w2.heap.size) := by have := hb.size; simp at this; exact (show Hid _ from this)
  replace BB : Hid (Below w.heap.size w w2) := (show Hid _ from (((BB.out).setCell (p := ⟨w.heap.size + 1 + 1, 5, none⟩) (by simp <;> omega) _).setCell (p := ⟨w.heap.size + 1 + 1, 6, none⟩) (by simp <;> omega) _).trans (hb.mono (by have := S1.out; have := BB.out.size; simp <;> omega)))
  have O2 : Hid (OwnsN w2 w1.heap.size (.slice a2 r.ok.length c2) r.ok) := by simp at ho; exact (show Hid _ from ho)
  have UU2 : Hid (∀ k, (Value.slice a2 r.ok.length c2).ownBlock = some k → k < w2.heap.size) := (show ∀ _, _ from OwnsE.under O2.out)
  clear hb ho hs j2
  have z7 := BZ.out.cell 7
  have zf7 := BZ.out.free 7
  have x8 := BX.out.cell 8
  go_wp2_with fail
  clear z7 zf7 x8
  refine (j3 _ ((BB.out).setCell (p := ⟨w.heap.size + 1 + 1, 7, none⟩) (by simp <;> omega) _)).mono ?_
  rintro e w3 ⟨u3, rfl, ho, hb⟩
  obtain ⟨a3, c3, rfl, _⟩ := ho.form
  replace BZ : Hid (Bx w3 (w.heap.size + 1 + 1) 28 #[.int .i64 r.id, .int .i64 r.p, .int .i64 r.v, .bool r.n, .int .i64 r.la, .slice a1 r.l.length c1, .int .i64 r.c, .slice a2 r.ok.length c2, .slice none 0 0, .slice none 0 0]) := (show Hid _ from Bx.kept (Bx.put (BZ.out) 7 _) hb)
  replace BY : Hid (Bx w3 (w.heap.size + 1) 28 #[.int .i64 0, .int .i64 0, .int .i64 0, .bool false, .int .i64 0, .slice none 0 0, .int .i64 0, .slice none 0 0, .slice none 0 0, .slice none 0 0]) := (show Hid _ from Bx.kept (Bx.other (BY.out) 7 _ (by omega)) hb)
  replace BX : Hid (Bx w3 w.heap.size 77 #[.int .i64 r.id, .int .i64 r.p, .int .i64 r.v, .bool r.n, .int .i64 r.la, .slice aa r.l.length ac, .int .i64 r.c, .slice ba r.ok.length bc, .slice ca r.ch.length cc, .slice da r.te.length dc]) := (show Hid _ from Bx.kept (Bx.other (BX.out) 7 _ (by omega)) hb)
  have UO1 : ∀ k, (Value.slice a1 r.l.length c1).ownBlock = some k → w.heap.size + 3 ≤ k ∧ k < w2.heap.size := fun k hk => ⟨by have := OwnsE.from O1.out k hk; have := S1.out; have := S2.out; omega, OwnsE.under O1.out k hk⟩
  replace O1 : Hid (OwnsX w3 (w.heap.size + 3) (.slice a1 r.l.length c1) r.l) := (show Hid _ from OwnsE.kept (OwnsE.other (O1.out) _ _ (fun k hk => by have := UO1 k hk; simp <;> omega)) hb)
  clear UO1
  have UO2 : ∀ k, (Value.slice a2 r.ok.length c2).ownBlock = some k → w.heap.size + 3 ≤ k ∧ k < w2.heap.size := fun k hk => ⟨by have := OwnsE.from O2.out k hk; have := S1.out; have := S2.out; omega, OwnsE.under O2.out k hk⟩
  replace O2 : Hid (OwnsN w3 (w1.heap.size) (.slice a2 r.ok.length c2) r.ok) := (show Hid _ from OwnsE.kept (OwnsE.other (O2.out) _ _ (fun k hk => by have := UO2 k hk; simp <;> omega)) hb)
  clear UO2
  have hs : ∀ k, w.heap.size + 3 ≤ k → True := fun _ _ => trivial
  have S3 : Hid (w2.heap.size ≤ w3.heap.size) := by have := hb.size; simp at this; exact (show Hid _ from this)
  replace BB : Hid (Below w.heap.size w w3) := (show Hid _ from ((BB.out).setCell (p := ⟨w.heap.size + 1 + 1, 7, none⟩) (by simp <;> omega) _).trans (hb.mono (by have := S1.out; have := BB.out.size; simp <;> omega)))
  have O3 : Hid (OwnsN w3 w2.heap.size (.slice a3 r.ch.length c3) r.ch) := by simp at ho; exact (show Hid _ from ho)
  have UU3 : Hid (∀ k, (Value.slice a3 r.ch.length c3).ownBlock = some k → k < w3.heap.size) := (show ∀ _, _ from OwnsE.under O3.out)
  clear hb ho hs j3
  have z8 := BZ.out.cell 8
  have zf8 := BZ.out.free 8
  have x9 := BX.out.cell 9
  go_wp2_with fail
  clear z8 zf8 x9
  refine (j4 _ ((BB.out).setCell (p := ⟨w.heap.size + 1 + 1, 8, none⟩) (by simp <;> omega) _)).mono ?_
  rintro e w4 ⟨u4, M, rfl, ho, hsm, hlg, h4k, hb⟩
  obtain ⟨a4, c4, rfl, _⟩ := ho.form
  replace BZ : Hid (Bx w4 (w.heap.size + 1 + 1) 28 #[.int .i64 r.id, .int .i64 r.p, .int .i64 r.v, .bool r.n, .int .i64 r.la, .slice a1 r.l.length c1, .int .i64 r.c, .slice a2 r.ok.length c2, .slice a3 r.ch.length c3, .slice none 0 0]) := (show Hid _ from Bx.kept (Bx.put (BZ.out) 8 _) hb)
  replace BY : Hid (Bx w4 (w.heap.size + 1) 28 #[.int .i64 0, .int .i64 0, .int .i64 0, .bool false, .int .i64 0, .slice none 0 0, .int .i64 0, .slice none 0 0, .slice none 0 0, .slice none 0 0]) := (show Hid _ from Bx.kept (Bx.other (BY.out) 8 _ (by omega)) hb)
  replace BX : Hid (Bx w4 w.heap.size 77 #[.int .i64 r.id, .int .i64 r.p, .int .i64 r.v, .bool r.n, .int .i64 r.la, .slice aa r.l.length ac, .int .i64 r.c, .slice ba r.ok.length bc, .slice ca r.ch.length cc, .slice da r.te.length dc]) := (show Hid _ from Bx.kept (Bx.other (BX.out) 8 _ (by omega)) hb)
  have UO1 : ∀ k, (Value.slice a1 r.l.length c1).ownBlock = some k → w.heap.size + 3 ≤ k ∧ k < w3.heap.size := fun k hk => ⟨by have := OwnsE.from O1.out k hk; have := S1.out; have := S2.out; have := S3.out; omega, OwnsE.under O1.out k hk⟩
  replace O1 : Hid (OwnsX w4 (w.heap.size + 3) (.slice a1 r.l.length c1) r.l) := (show Hid _ from OwnsE.kept (OwnsE.other (O1.out) _ _ (fun k hk => by have := UO1 k hk; simp <;> omega)) hb)
  clear UO1
  have UO2 : ∀ k, (Value.slice a2 r.ok.length c2).ownBlock = some k → w.heap.size + 3 ≤ k ∧ k < w3.heap.size := fun k hk => ⟨by have := OwnsE.from O2.out k hk; have := S1.out; have := S2.out; have := S3.out; omega, OwnsE.under O2.out k hk⟩
  replace O2 : Hid (OwnsN w4 (w1.heap.size) (.slice a2 r.ok.length c2) r.ok) := (show Hid _ from OwnsE.kept (OwnsE.other (O2.out) _ _ (fun k hk => by have := UO2 k hk; simp <;> omega)) hb)
  clear UO2
  have UO3 : ∀ k, (Value.slice a3 r.ch.length c3).ownBlock = some k → w.heap.size + 3 ≤ k ∧ k < w3.heap.size := fun k hk => ⟨by have := OwnsE.from O3.out k hk; have := S1.out; have := S2.out; have := S3.out; omega, OwnsE.under O3.out k hk⟩
  replace O3 : Hid (OwnsN w4 (w2.heap.size) (.slice a3 r.ch.length c3) r.ch) := (show Hid _ from OwnsE.kept (OwnsE.other (O3.out) _ _ (fun k hk => by have := UO3 k hk; simp <;> omega)) hb)
  clear UO3
  have hs : ∀ k, w.heap.size + 3 ≤ k → True := fun _ _ => trivial
  have S4 : Hid (w3.heap.size ≤ w4.heap.size) := by have := hb.size; simp at this; exact (show Hid _ from this)
  replace BB : Hid (Below w.heap.size w w4) := (show Hid _ from ((BB.out).setCell (p := ⟨w.heap.size + 1 + 1, 8, none⟩) (by simp <;> omega) _).trans (hb.mono (by have := S1.out; have := BB.out.size; simp <;> omega)))
  simp at ho hlg h4k
  have hML : M.length = r.te.length := by rw [hsm.len]; exact HTL.out
  have O4 : Hid (HasM w4 w3.heap.size (.slice a4 M.length c4) M) := ho
  have L4 : Hid (Logs w4 (w3.heap.size + 1) M) := hlg
  have K4 : Hid (∀ k, (Value.slice a4 M.length c4).ownBlock = some k → k = w3.heap.size) := h4k
  have HM : Hid (M.map (·.m) = r.te) := (show _ = _ from (show M.map (·.m) = T.map (·.m) from hsm).trans HT.out)
  have HML : Hid (M.length = r.te.length) := hML
  clear hb ho hs hlg h4k hsm hML j4
  have z0 := BZ.out.cell 0
  have y0 := BY.out.cell 0
  have yf0 := BY.out.free 0
  have z1 := BZ.out.cell 1
  have y1 := BY.out.cell 1
  have yf1 := BY.out.free 1
  have z2 := BZ.out.cell 2
  have y2 := BY.out.cell 2
  have yf2 := BY.out.free 2
  have z3 := BZ.out.cell 3
  have y3 := BY.out.cell 3
  have yf3 := BY.out.free 3
  have z4 := BZ.out.cell 4
  have y4 := BY.out.cell 4
  have yf4 := BY.out.free 4
  have z5 := BZ.out.cell 5
  have y5 := BY.out.cell 5
  have yf5 := BY.out.free 5
  have z6 := BZ.out.cell 6
  have y6 := BY.out.cell 6
  have yf6 := BY.out.free 6
  have z7 := BZ.out.cell 7
  have y7 := BY.out.cell 7
  have yf7 := BY.out.free 7
  have z8 := BZ.out.cell 8
  have y8 := BY.out.cell 8
  have yf8 := BY.out.free 8
  have z9 := BZ.out.cell 9
  have y9 := BY.out.cell 9
  have yf9 := BY.out.free 9
  have zf9 := BZ.out.free 9
  clear BX BY BZ
  go_wp2
  have s1 := S1.out
  have s2 := S2.out
  have s3 := S3.out
  have s4 := S4.out
  have F1 := OwnsE.from O1.out
  have F2 := OwnsE.from O2.out
  have F3 := OwnsE.from O3.out
  have F4 := HasE.from O4.out
  refine bodyPost_ret (v := .agg #[.int .i64 r.id, .int .i64 r.p, .int .i64 r.v, .bool r.n, .int .i64 r.la, .slice a1 r.l.length c1, .int .i64 r.c, .slice a2 r.ok.length c2, .slice a3 r.ch.length c3, .slice a4 M.length c4]) (by simp [results, Tryz.results56, go_sem, y0, y1, y2, y3, y4, y5, y6, y7, y8, y9]) rfl ⟨⟨.slice a1 r.l.length c1, .slice a2 r.ok.length c2, .slice a3 r.ch.length c3, .slice a4 M.length c4, M⟩, rfl, ?_, ?_, ?_⟩
  · refine RpHas.off (w := w4) ⟨O1.out.has.low (by omega), O2.out.has.low (by have := BB.out.size; omega), O3.out.has.low (by have := BB.out.size; omega), HM.out, O4.out.low (by have := BB.out.size; omega), fun x hx => (L4.out.l x hx).low (by have := BB.out.size; omega)⟩ ?_
    intro v hv k hk
    have hk3 : w.heap.size + 3 ≤ k := by
      simp only [Rv.rows, List.mem_cons, List.mem_map] at hv
      rcases hv with rfl | rfl | rfl | rfl | ⟨x, hx, rfl⟩
      · exact F1 k hk
      · have := F2 k hk; omega
      · have := F3 k hk; omega
      · have := F4 k hk; omega
      · have := (L4.out.l x hx).from k hk; omega
    repeat (refine (Below.heap_setCell _ _ _ _ (by simp <;> omega)).trans ?_)
    rfl
  · have U1 := fun (C : Nat) (hC : w1.heap.size ≤ C) k hk => Nat.lt_of_lt_of_le (UU1.out k hk) hC
    have U2 := UU2.out
    have U3 := UU3.out
    have U4 := K4.out
    show List.Pairwise ap (_ :: _ :: _ :: _ :: M.map Mx.u)
    have hM : ∀ v ∈ M.map Mx.u, ∀ k, v.ownBlock = some k → w3.heap.size + 1 ≤ k := fun v hv k hk => by
      obtain ⟨x, hx, rfl⟩ := List.mem_map.1 hv
      exact (L4.out.l x hx).from k hk
    refine List.Pairwise.cons (fun v hv => ?_) (List.Pairwise.cons (fun v hv => ?_) (List.Pairwise.cons (fun v hv => ?_) (List.Pairwise.cons (fun v hv => ?_) L4.out.ap)))
    · simp only [List.mem_cons] at hv
      rcases hv with rfl | rfl | rfl | hv
      · exact apI UU1.out F2
      · exact apI UU1.out (fun k hk => by have := F3 k hk; omega)
      · exact apI UU1.out (fun k hk => by have := F4 k hk; omega)
      · exact apI UU1.out (fun k hk => by have := hM v hv k hk; omega)
    · simp only [List.mem_cons] at hv
      rcases hv with rfl | rfl | hv
      · exact apI U2 F3
      · exact apI U2 (fun k hk => by have := F4 k hk; omega)
      · exact apI U2 (fun k hk => by have := hM v hv k hk; omega)
    · simp only [List.mem_cons] at hv
      rcases hv with rfl | hv
      · exact apI U3 F4
      · exact apI U3 (fun k hk => by have := hM v hv k hk; omega)
    · exact apI (C := w3.heap.size + 1) (fun k hk => by have := U4 k hk; omega) (fun k hk => hM v hv k hk)
  · repeat (refine Below.setCell ?_ (by simp <;> omega) _)
    exact BB.out

/-- What is marked of a replica. -/
def mkRp (s : Nat) (r : Rp) (T : List Mx) : Rp := { r with l := marksX s r.l.length, ok := marksU (s + r.l.length) r.ok.length, ch := marksU (s + r.l.length + r.ok.length) r.ch.length, te := (mkTe (s + r.l.length + r.ok.length + r.ch.length) T).map (·.m) }
def mkRv (s : Nat) (r : Rp) (u : Rv) : Rv := { u with T := mkTe (s + r.l.length + r.ok.length + r.ch.length) u.T }
theorem mkRv_rows (s : Nat) (r : Rp) (u : Rv) : (mkRv s r u).rows = u.rows := by unfold mkRv Rv.rows; simp only [mkTe_u]
end Go.Proofs.YtlngleinegkoeaaGreat.Rl
namespace Go.Proofs.YtlngleinegkoeaaGreat.Rl
open Go.RowKit Go.Sort
set_option linter.unusedVariables false
set_option linter.unusedSimpArgs false

theorem cT_of {T : List Mx} {te : List Ms} (h : T.map (·.m) = te) : cT T = te.length * 6 + (te.map fun m => m.l.length).sum := by
  unfold cT
  rw [cL_of h, ← h, List.length_map]
theorem RpAp.parts {u : Rv} (h : RpAp u) : (∀ v ∈ u.ok :: u.ch :: u.te :: u.T.map Mx.u, ap u.l v) ∧ (∀ v ∈ u.ch :: u.te :: u.T.map Mx.u, ap u.ok v) ∧ (∀ v ∈ u.te :: u.T.map Mx.u, ap u.ch v) ∧ (∀ v ∈ u.T.map Mx.u, ap u.te v) ∧ (u.T.map Mx.u).Pairwise ap := by
  unfold RpAp Rv.rows at h
  obtain ⟨h1, h⟩ := List.pairwise_cons.1 h
  obtain ⟨h2, h⟩ := List.pairwise_cons.1 h
  obtain ⟨h3, h⟩ := List.pairwise_cons.1 h
  obtain ⟨h4, h⟩ := List.pairwise_cons.1 h
  exact ⟨h1, h2, h3, h4, h⟩
set_option maxRecDepth 100000 in
set_option maxHeartbeats 8000000 in
theorem markRp (s : Nat) (hs1 : 1 ≤ s) (r : Rp) (u : Rv) (B : Nat) (hs2 : s + cR r ≤ 50000000) (w : World) (h : RpHas w B u r) (hap : RpAp u) (hf : Fit r) :
    Calls Tryz.prog 59 #[rpA r u, .int .i64 (s : Int)] w fun e w' => e = .returned (.int .i64 ((s : Int) + (cR r : Int))) ∧ RpHas w' B (mkRv s r u) (mkRp s r u.T) ∧ ChS (Bl u.rows) w w' := by
  obtain ⟨aa, ac, ba, bc, ca, cc, da, dc, T, rfl⟩ := h.got.form
  obtain ⟨p1, p2, p3, p4, p5⟩ := hap.parts
  have hcr : cR r = r.l.length + r.ok.length + r.ch.length + cT T := by unfold cR; rw [cT_of h.t]
  have hll := hf.l.1
  have htl : T.length = r.te.length := h.got.tlen
  have hnt := hf.te.1
  have j1 := fun W hW => markTxt s hs1 (by omega) (.slice aa r.l.length ac) r.l B W hW hll
  have j2 := fun W hW => markNu (s + r.l.length) (by omega) (.slice ba r.ok.length bc) r.ok B W hW hf.ok
  have j3 := fun W hW => markNu (s + r.l.length + r.ok.length) (by omega) (.slice ca r.ch.length cc) r.ch B W hW hf.ch
  have j4 := fun W hW hL => markMsS (s + r.l.length + r.ok.length + r.ch.length) (by omega) (.slice da T.length dc) T (by omega) B W hW hL (fun x hx => by rw [htl]; exact p4 _ (List.mem_map_of_mem hx)) (fun x hx => (hf.te.2 _ (by rw [← h.t]; exact List.mem_map_of_mem hx)).1) (by omega)
  have hTE : HasM w B (.slice da T.length dc) T := by rw [htl]; exact h.te
  have AA : Bx (w.alloc (.cells #[.int .i64 r.id, .int .i64 r.p, .int .i64 r.v, .bool r.n, .int .i64 r.la, .slice aa r.l.length ac, .int .i64 r.c, .slice ba r.ok.length bc, .slice ca r.ch.length cc, .slice da r.te.length dc] 28)) w.heap.size 28 #[.int .i64 r.id, .int .i64 r.p, .int .i64 r.v, .bool r.n, .int .i64 r.la, .slice aa r.l.length ac, .int .i64 r.c, .slice ba r.ok.length bc, .slice ca r.ch.length cc, .slice da r.te.length dc] := Bx.new _ _ _
  have hund := h.under
  have HL : Hid (HasX (w.alloc (.cells #[.int .i64 r.id, .int .i64 r.p, .int .i64 r.v, .bool r.n, .int .i64 r.la, .slice aa r.l.length ac, .int .i64 r.c, .slice ba r.ok.length bc, .slice ca r.ch.length cc, .slice da r.te.length dc] 28)) B (.slice aa r.l.length ac) r.l) := h.l.kept ((Below.refl _ w).alloc (Nat.le_refl _) _)
  have HO : Hid (HasN (w.alloc (.cells #[.int .i64 r.id, .int .i64 r.p, .int .i64 r.v, .bool r.n, .int .i64 r.la, .slice aa r.l.length ac, .int .i64 r.c, .slice ba r.ok.length bc, .slice ca r.ch.length cc, .slice da r.te.length dc] 28)) B (.slice ba r.ok.length bc) r.ok) := h.ok.kept ((Below.refl _ w).alloc (Nat.le_refl _) _)
  have HC : Hid (HasN (w.alloc (.cells #[.int .i64 r.id, .int .i64 r.p, .int .i64 r.v, .bool r.n, .int .i64 r.la, .slice aa r.l.length ac, .int .i64 r.c, .slice ba r.ok.length bc, .slice ca r.ch.length cc, .slice da r.te.length dc] 28)) B (.slice ca r.ch.length cc) r.ch) := h.ch.kept ((Below.refl _ w).alloc (Nat.le_refl _) _)
  have HE : Hid (HasM (w.alloc (.cells #[.int .i64 r.id, .int .i64 r.p, .int .i64 r.v, .bool r.n, .int .i64 r.la, .slice aa r.l.length ac, .int .i64 r.c, .slice ba r.ok.length bc, .slice ca r.ch.length cc, .slice da r.te.length dc] 28)) B (.slice da T.length dc) T) := hTE.kept ((Below.refl _ w).alloc (Nat.le_refl _) _)
  have HG : Hid (Logs (w.alloc (.cells #[.int .i64 r.id, .int .i64 r.p, .int .i64 r.v, .bool r.n, .int .i64 r.la, .slice aa r.l.length ac, .int .i64 r.c, .slice ba r.ok.length bc, .slice ca r.ch.length cc, .slice da r.te.length dc] 28)) B T) := (show Logs w B T from ⟨h.tl, p5⟩).kept ((Below.refl _ w).alloc (Nat.le_refl _) _)
  have XA : Hid (Bx (w.alloc (.cells #[.int .i64 r.id, .int .i64 r.p, .int .i64 r.v, .bool r.n, .int .i64 r.la, .slice aa r.l.length ac, .int .i64 r.c, .slice ba r.ok.length bc, .slice ca r.ch.length cc, .slice da r.te.length dc] 28)) w.heap.size 28 #[.int .i64 r.id, .int .i64 r.p, .int .i64 r.v, .bool r.n, .int .i64 r.la, .slice aa r.l.length ac, .int .i64 r.c, .slice ba r.ok.length bc, .slice ca r.ch.length cc, .slice da r.te.length dc]) := AA
  have KC : Hid (ChS (Bl (Rv.rows ⟨.slice aa r.l.length ac, .slice ba r.ok.length bc, .slice ca r.ch.length cc, .slice da T.length dc, T⟩)) w (w.alloc (.cells #[.int .i64 r.id, .int .i64 r.p, .int .i64 r.v, .bool r.n, .int .i64 r.la, .slice aa r.l.length ac, .int .i64 r.c, .slice ba r.ok.length bc, .slice ca r.ch.length cc, .slice da r.te.length dc] 28))) := ChS.of_below ((Below.refl _ w).alloc (Nat.le_refl _) _)
  have HT : Hid (T.map (·.m) = r.te) := h.t
  have HTL : Hid (T.length = r.te.length) := htl
  have HCR : Hid (cR r = r.l.length + r.ok.length + r.ch.length + cT T) := hcr
  have P1 : Hid (∀ v ∈ (.slice ba r.ok.length bc) :: (.slice ca r.ch.length cc) :: (.slice da T.length dc) :: T.map Mx.u, ap (.slice aa r.l.length ac) v) := by show ∀ _, _; rw [htl]; exact p1
  have P2 : Hid (∀ v ∈ (.slice ca r.ch.length cc) :: (.slice da T.length dc) :: T.map Mx.u, ap (.slice ba r.ok.length bc) v) := by show ∀ _, _; rw [htl]; exact p2
  have P3 : Hid (∀ v ∈ (.slice da T.length dc) :: T.map Mx.u, ap (.slice ca r.ch.length cc) v) := by show ∀ _, _; rw [htl]; exact p3
  have UN : Hid (∀ v ∈ Rv.rows ⟨.slice aa r.l.length ac, .slice ba r.ok.length bc, .slice ca r.ch.length cc, .slice da T.length dc, T⟩, v.ownBlock ≠ some w.heap.size) := by show ∀ _, _; rw [htl]; exact fun v hv e => Nat.lt_irrefl _ (hund v hv _ e)
  have hn1 : ((s + r.l.length : Nat) : Int) = (s : Int) + (r.l.length : Int) := by omega
  have hn2 : ((s + r.l.length + r.ok.length : Nat) : Int) = (s : Int) + (r.l.length : Int) + (r.ok.length : Int) := by omega
  have hn3 : ((s + r.l.length + r.ok.length + r.ch.length : Nat) : Int) = (s : Int) + (r.l.length : Int) + (r.ok.length : Int) + (r.ch.length : Int) := by omega
  rw [hn1] at j2
  rw [hn2] at j3
  rw [hn3] at j4
  obtain ⟨N1, hN1⟩ : ∃ N : Int, N = (s : Int) + (r.l.length : Int) := ⟨_, rfl⟩
  rw [← hN1] at j1 j2 j3 j4
  obtain ⟨N2, hN2⟩ : ∃ N : Int, N = N1 + (r.ok.length : Int) := ⟨_, rfl⟩
  rw [← hN2] at j2 j3 j4
  obtain ⟨N3, hN3⟩ : ∃ N : Int, N = N2 + (r.ch.length : Int) := ⟨_, rfl⟩
  rw [← hN3] at j3 j4
  obtain ⟨N4, hN4⟩ : ∃ N : Int, N = N3 + (cT T : Int) := ⟨_, rfl⟩
  rw [← hN4] at j4
  have HN4 : Hid (N4 = (s : Int) + (cR r : Int)) := by show _ = _; omega
  unfold rpA
  clear hap p1 p2 p3 p4 p5 hcr hll hnt hTE AA hund hn1 hn2 hn3 hN1 hN2 hN3 hN4 h hf htl
  go_enter Tryz.func59, Tryz.ntmps59
  go_wp2_with fail
  refine (j1 _ HL.out).mono ?_
  rintro e w1 ⟨rfl, h1, g1⟩
  replace HO : Hid (HasN w1 B (.slice ba r.ok.length bc) (r.ok)) := (show Hid _ from HasE.grown HO.out g1 (fun k hk hk' => P1.out _ (by simp) k hk' hk))
  replace HC : Hid (HasN w1 B (.slice ca r.ch.length cc) (r.ch)) := (show Hid _ from HasE.grown HC.out g1 (fun k hk hk' => P1.out _ (by simp) k hk' hk))
  replace HE : Hid (HasM w1 B (.slice da T.length dc) (T)) := (show Hid _ from HasE.grown HE.out g1 (fun k hk hk' => P1.out _ (by simp) k hk' hk))
  replace HG : Hid (Logs w1 B T) := (show Logs w1 B T from ⟨fun x hx => HasE.grown (HG.out.l x hx) g1 (fun k hk hk' => P1.out _ (by simp only [List.mem_cons, List.mem_map]; exact .inr (.inr (.inr (⟨x, hx, rfl⟩)))) k hk' hk), HG.out.ap⟩)
  replace HL : Hid (HasX w1 B (.slice aa r.l.length ac) (marksX s r.l.length)) := h1
  replace XA : Hid (Bx w1 w.heap.size 28 #[.int .i64 r.id, .int .i64 r.p, .int .i64 r.v, .bool r.n, .int .i64 r.la, .slice aa r.l.length ac, .int .i64 r.c, .slice ba r.ok.length bc, .slice ca r.ch.length cc, .slice da r.te.length dc]) := (show Hid _ from Bx.grown XA.out g1 (UN.out (.slice aa r.l.length ac) (by simp [Rv.rows])))
  replace KC : Hid (ChS (Bl (Rv.rows ⟨.slice aa r.l.length ac, .slice ba r.ok.length bc, .slice ca r.ch.length cc, .slice da T.length dc, T⟩)) w w1) := (show Hid _ from ChS.trans KC.out (ChS.grown g1 fun k hk => Bl.of (v := .slice aa r.l.length ac) (by simp [Rv.rows]) hk))
  clear h1 g1
  have xa := XA.out.cell 7
  go_wp2_with fail
  clear xa
  refine (j2 _ HO.out).mono ?_
  rintro e w2 ⟨rfl, h2, g2⟩
  replace HL : Hid (HasX w2 B (.slice aa r.l.length ac) (marksX s r.l.length)) := (show Hid _ from HasE.grown HL.out g2 (fun k hk hk' => P1.out _ (by simp) k hk hk'))
  replace HC : Hid (HasN w2 B (.slice ca r.ch.length cc) (r.ch)) := (show Hid _ from HasE.grown HC.out g2 (fun k hk hk' => P2.out _ (by simp) k hk' hk))
  replace HE : Hid (HasM w2 B (.slice da T.length dc) (T)) := (show Hid _ from HasE.grown HE.out g2 (fun k hk hk' => P2.out _ (by simp) k hk' hk))
  replace HG : Hid (Logs w2 B T) := (show Logs w2 B T from ⟨fun x hx => HasE.grown (HG.out.l x hx) g2 (fun k hk hk' => P2.out _ (by simp only [List.mem_cons, List.mem_map]; exact .inr (.inr (⟨x, hx, rfl⟩))) k hk' hk), HG.out.ap⟩)
  replace HO : Hid (HasN w2 B (.slice ba r.ok.length bc) (marksU (s + r.l.length) r.ok.length)) := h2
  replace XA : Hid (Bx w2 w.heap.size 28 #[.int .i64 r.id, .int .i64 r.p, .int .i64 r.v, .bool r.n, .int .i64 r.la, .slice aa r.l.length ac, .int .i64 r.c, .slice ba r.ok.length bc, .slice ca r.ch.length cc, .slice da r.te.length dc]) := (show Hid _ from Bx.grown XA.out g2 (UN.out (.slice ba r.ok.length bc) (by simp [Rv.rows])))
  replace KC : Hid (ChS (Bl (Rv.rows ⟨.slice aa r.l.length ac, .slice ba r.ok.length bc, .slice ca r.ch.length cc, .slice da T.length dc, T⟩)) w w2) := (show Hid _ from ChS.trans KC.out (ChS.grown g2 fun k hk => Bl.of (v := .slice ba r.ok.length bc) (by simp [Rv.rows]) hk))
  clear h2 g2
  have xa := XA.out.cell 8
  go_wp2_with fail
  clear xa
  refine (j3 _ HC.out).mono ?_
  rintro e w3 ⟨rfl, h3, g3⟩
  replace HL : Hid (HasX w3 B (.slice aa r.l.length ac) (marksX s r.l.length)) := (show Hid _ from HasE.grown HL.out g3 (fun k hk hk' => P1.out _ (by simp) k hk hk'))
  replace HO : Hid (HasN w3 B (.slice ba r.ok.length bc) (marksU (s + r.l.length) r.ok.length)) := (show Hid _ from HasE.grown HO.out g3 (fun k hk hk' => P2.out _ (by simp) k hk hk'))
  replace HE : Hid (HasM w3 B (.slice da T.length dc) (T)) := (show Hid _ from HasE.grown HE.out g3 (fun k hk hk' => P3.out _ (by simp) k hk' hk))
  replace HG : Hid (Logs w3 B T) := (show Logs w3 B T from ⟨fun x hx => HasE.grown (HG.out.l x hx) g3 (fun k hk hk' => P3.out _ (by simp only [List.mem_cons, List.mem_map]; exact .inr (⟨x, hx, rfl⟩)) k hk' hk), HG.out.ap⟩)
  replace HC : Hid (HasN w3 B (.slice ca r.ch.length cc) (marksU (s + r.l.length + r.ok.length) r.ch.length)) := h3
  replace XA : Hid (Bx w3 w.heap.size 28 #[.int .i64 r.id, .int .i64 r.p, .int .i64 r.v, .bool r.n, .int .i64 r.la, .slice aa r.l.length ac, .int .i64 r.c, .slice ba r.ok.length bc, .slice ca r.ch.length cc, .slice da r.te.length dc]) := (show Hid _ from Bx.grown XA.out g3 (UN.out (.slice ca r.ch.length cc) (by simp [Rv.rows])))
  replace KC : Hid (ChS (Bl (Rv.rows ⟨.slice aa r.l.length ac, .slice ba r.ok.length bc, .slice ca r.ch.length cc, .slice da T.length dc, T⟩)) w w3) := (show Hid _ from ChS.trans KC.out (ChS.grown g3 fun k hk => Bl.of (v := .slice ca r.ch.length cc) (by simp [Rv.rows]) hk))
  clear h3 g3
  have xa := XA.out.cell 9
  go_wp2_with fail
  clear xa
  rw [← HTL.out]
  refine (j4 _ HE.out HG.out).mono ?_
  rintro e w4 ⟨rfl, h4, g4, c4⟩
  have NS : ∀ (v : Value), (∀ v' ∈ (.slice da T.length dc) :: T.map Mx.u, ap v v') → ∀ k, v.ownBlock = some k → ¬ Bl (.slice da T.length dc :: T.map Mx.u) k := fun v hv k hk ⟨v', hv', hk'⟩ => hv v' hv' k hk hk'
  have RH : Hid (RpHas w4 B (mkRv s r ⟨.slice aa r.l.length ac, .slice ba r.ok.length bc, .slice ca r.ch.length cc, .slice da r.te.length dc, T⟩) (mkRp s r T)) := by
    refine (show Hid _ from ⟨HasE.chs HL.out c4 (NS _ fun v hv => P1.out v (by simp only [List.mem_cons] at hv ⊢; exact .inr (.inr hv))), HasE.chs HO.out c4 (NS _ fun v hv => P2.out v (by simp only [List.mem_cons] at hv ⊢; exact .inr hv)), HasE.chs HC.out c4 (NS _ fun v hv => P3.out v hv), rfl, ?_, fun x hx => g4.l x hx⟩)
    show HasM w4 B (.slice da r.te.length dc) _
    rw [← HTL.out]
    exact h4
  have KF : Hid (ChS (Bl (Rv.rows ⟨.slice aa r.l.length ac, .slice ba r.ok.length bc, .slice ca r.ch.length cc, .slice da T.length dc, T⟩)) w w4) := (show Hid _ from ChS.trans KC.out (c4.mono fun k ⟨v, hv, hk⟩ => ⟨v, by simp only [Rv.rows, List.mem_cons] at hv ⊢; exact .inr (.inr (.inr hv)), hk⟩))
  clear h4 g4 c4 NS
  go_wp2
  go_ret
  refine ⟨congrArg (fun z => Ending.returned (.int .i64 z)) HN4.out, RH.out, ?_⟩
  have := KF.out
  rw [HTL.out] at this
  exact this
set_option maxRecDepth 100000 in
set_option maxHeartbeats 8000000 in
theorem heldRp (s : Nat) (hs1 : 1 ≤ s) (r : Rp) (u : Rv) (hs2 : s + cR r ≤ 50000000) (w : World) (h : RpGot w (mkRv s r u) (mkRp s r u.T)) (ht : u.T.map (·.m) = r.te) (hf : Fit r) :
    Calls Tryz.prog 61 #[rpA (mkRp s r u.T) (mkRv s r u), .int .i64 (s : Int)] w fun e w' => e = .returned (.int .i64 ((s : Int) + (cR r : Int))) ∧ Below w.heap.size w w' := by
  obtain ⟨u1, u2, u3, u4, T⟩ := u
  simp only at ht
  have hl : Sls txtE w u1 (marksX s r.l.length) := h.l
  have ho : Sls intE w u2 (marksU (s + r.l.length) r.ok.length) := h.ok
  have hc : Sls intE w u3 (marksU (s + r.l.length + r.ok.length) r.ch.length) := h.ch
  have ht4 : TeGot w u4 (mkTe (s + r.l.length + r.ok.length + r.ch.length) T) := h.te
  have hcr : cR r = r.l.length + r.ok.length + r.ch.length + cT T := by unfold cR; rw [cT_of ht]
  have htl : T.length = r.te.length := by rw [← ht, List.length_map]
  have hnt := hf.te.1
  have hll := hf.l.1
  have j1 := fun W (hW : Below w.heap.size w W) => heldTxt s hs1 (by omega) u1 r.l.length W (hl.kept hW) hll
  have j2 := fun W (hW : Below w.heap.size w W) => heldNu (s + r.l.length) (by omega) u2 r.ok.length W (ho.kept hW) hf.ok
  have j3 := fun W (hW : Below w.heap.size w W) => heldNu (s + r.l.length + r.ok.length) (by omega) u3 r.ch.length W (hc.kept hW) hf.ch
  have j4 := fun W (hW : Below w.heap.size w W) => heldMsS (s + r.l.length + r.ok.length + r.ch.length) (by omega) u4 T (by omega) W (ht4.kept hW) (fun x hx => (hf.te.2 _ (by rw [← ht]; exact List.mem_map_of_mem hx)).1) (by omega)
  obtain ⟨aa, ac, e1⟩ := Sls.slen hl
  obtain ⟨ba, bc, e2⟩ := Sls.slen ho
  obtain ⟨ca, cc, e3⟩ := Sls.slen hc
  obtain ⟨da, dc, e4⟩ := Sls.slen ht4.1
  rw [marksX_length] at e1
  rw [marksU_length] at e2 e3
  rw [mkTe_length] at e4
  subst e1; subst e2; subst e3; subst e4
  have hn1 : ((s + r.l.length : Nat) : Int) = (s : Int) + (r.l.length : Int) := by omega
  have hn2 : ((s + r.l.length + r.ok.length : Nat) : Int) = (s : Int) + (r.l.length : Int) + (r.ok.length : Int) := by omega
  have hn3 : ((s + r.l.length + r.ok.length + r.ch.length : Nat) : Int) = (s : Int) + (r.l.length : Int) + (r.ok.length : Int) + (r.ch.length : Int) := by omega
  rw [hn1] at j2
  rw [hn2] at j3
  rw [hn3] at j4
  obtain ⟨N1, hN1⟩ : ∃ N : Int, N = (s : Int) + (r.l.length : Int) := ⟨_, rfl⟩
  rw [← hN1] at j1 j2 j3 j4
  obtain ⟨N2, hN2⟩ : ∃ N : Int, N = N1 + (r.ok.length : Int) := ⟨_, rfl⟩
  rw [← hN2] at j2 j3 j4
  obtain ⟨N3, hN3⟩ : ∃ N : Int, N = N2 + (r.ch.length : Int) := ⟨_, rfl⟩
  rw [← hN3] at j3 j4
  obtain ⟨N4, hN4⟩ : ∃ N : Int, N = N3 + (cT T : Int) := ⟨_, rfl⟩
  rw [← hN4] at j4
  have HN4 : Hid (N4 = (s : Int) + (cR r : Int)) := by show _ = _; omega
  have m1 : ¬ N1 < 0 := by omega
  have m2 : ¬ N2 < 0 := by omega
  have m3 : ¬ N3 < 0 := by omega
  have m4 : ¬ N4 < 0 := by omega
  unfold rpA mkRv mkRp
  simp only at j1 j2 j3 j4 ⊢
  generalize r.l.length = nl at *
  generalize r.ok.length = no at *
  generalize r.ch.length = nc at *
  generalize T.length = nt at *
  clear hl ho hc ht4 h hcr hnt hll hn1 hn2 hn3 hN1 hN2 hN3 hN4 ht htl hf hs2
  go_enter Tryz.func61, Tryz.ntmps61
  go_wp2_with fail
  refine (j1 _ ((Below.refl _ w).alloc (Nat.le_refl _) _)).mono ?_
  rintro e w1 ⟨rfl, hb⟩
  have BX : Hid (Bx w1 w.heap.size 28 #[.int .i64 r.id, .int .i64 r.p, .int .i64 r.v, .bool r.n, .int .i64 r.la, .slice aa nl ac, .int .i64 r.c, .slice ba no bc, .slice ca nc cc, .slice da nt dc]) := (show Hid _ from Bx.kept (Bx.new _ _ _) hb)
  have BB : Hid (Below w.heap.size w w1) := (show Hid _ from ((Below.refl _ w).alloc (Nat.le_refl _) _).trans (hb.mono (by simp)))
  clear hb j1
  have xa := BX.out.cell 7
  go_wp2_with fail
  clear xa
  refine (j2 _ BB.out).mono ?_
  rintro e w2 ⟨rfl, rfl⟩
  have xa := BX.out.cell 8
  go_wp2_with fail
  clear xa
  refine (j3 _ BB.out).mono ?_
  rintro e w3 ⟨rfl, rfl⟩
  have xa := BX.out.cell 9
  go_wp2_with fail
  clear xa
  refine (j4 _ BB.out).mono ?_
  rintro e w4 ⟨rfl, hb⟩
  have B4 : Hid (Below w.heap.size w w4) := (show Hid _ from BB.out.trans (hb.mono BB.out.size))
  clear hb
  go_wp2
  go_ret
  exact ⟨congrArg (fun z => Ending.returned (.int .i64 z)) HN4.out, B4.out⟩
end Go.Proofs.YtlngleinegkoeaaGreat.Rl
