/-
  The laws' marks on replicas.
  The specification's purges by their contracts: what is read.
  What is a right message, and so many servers: the specification's, by contract.
-/
import Derived.Test.YtdahfhkeeemdiaaK16
import Derived.Test.YtdahfhkeeemdiaaK06
import Derived.Test.YtdahfhkeeemdiaaK14
import Derived.WalkKit
import Derived.WalkSpells
import Derived.Deep.RegionWith
import Derived.Deep.DeepCutAuto
import Derived.Test.YtdahfhkeeemdiaaK12
import Derived.Test.YtdahfhkeeemdiaaK11
namespace Go.Proofs.Ytdahfhkeeemdiaa.Rl
open Go.RowKit Go.Sort
set_option linter.unusedVariables false
set_option linter.unusedSimpArgs false

theorem cT_of {T : List Mx} {te : List Ms} (h : T.map (·.m) = te) : cT T = te.length * 6 + (te.map fun m => m.l.length).sum := by
  unfold cT
  rw [cL_of h, ← h, List.length_map]
theorem RpAp.parts {u : Rv} (h : RpAp u) : (∀ v ∈ u.ok :: u.ch :: u.te :: u.T.map Mx.u, ap u.l v) ∧ (∀ v ∈ u.ch :: u.te :: u.T.map Mx.u, ap u.ok v) ∧ (∀ v ∈ u.te :: u.T.map Mx.u, ap u.ch v) ∧ (∀ v ∈ u.T.map Mx.u, ap u.te v) ∧ (u.T.map Mx.u).Pairwise ap := by
  unfold RpAp Rv.rows at h
  obtain ⟨h1, h⟩ := List.pairwise_cons.1 h
  obtain ⟨h2, h⟩ := List.pairwise_cons.1 h
  obtain ⟨h3, h⟩ := List.pairwise_cons.1 h
  obtain ⟨h4, h⟩ := List.pairwise_cons.1 h
  exact ⟨h1, h2, h3, h4, h⟩
set_option maxRecDepth 100000 in
set_option maxHeartbeats 8000000 in
theorem markRp (s : Nat) (hs1 : 1 ≤ s) (r : Rp) (u : Rv) (B : Nat) (hs2 : s + cR r ≤ 50000000) (w : World) (h : RpHas w B u r) (hap : RpAp u) (hf : Fit r) :
    Calls Try.prog 13 #[rpA r u, .int .i64 (s : Int)] w fun e w' => e = .returned (.int .i64 ((s : Int) + (cR r : Int))) ∧ RpHas w' B (mkRv s r u) (mkRp s r u.T) ∧ ChS (Bl u.rows) w w' := by
  obtain ⟨aa, ac, ba, bc, ca, cc, da, dc, T, rfl⟩ := h.got.form
  obtain ⟨p1, p2, p3, p4, p5⟩ := hap.parts
  have hcr : cR r = r.l.length + r.ok.length + r.ch.length + cT T := by unfold cR; rw [cT_of h.t]
  have hll := hf.l.1
  have htl : T.length = r.te.length := h.got.tlen
  have hnt := hf.te.1
  have j1 := fun W hW => markTxt s hs1 (by omega) (.slice aa r.l.length ac) r.l B W hW hll
  have j2 := fun W hW => markNu (s + r.l.length) (by omega) (.slice ba r.ok.length bc) r.ok B W hW hf.ok
  have j3 := fun W hW => markNu (s + r.l.length + r.ok.length) (by omega) (.slice ca r.ch.length cc) r.ch B W hW hf.ch
  have j4 := fun W hW hL => markMsS (s + r.l.length + r.ok.length + r.ch.length) (by omega) (.slice da T.length dc) T (by omega) B W hW hL (fun x hx => by rw [htl]; exact p4 _ (List.mem_map_of_mem hx)) (fun x hx => (hf.te.2 _ (by rw [← h.t]; exact List.mem_map_of_mem hx)).1) (by omega)
  have hTE : HasM w B (.slice da T.length dc) T := by rw [htl]; exact h.te
  have AA : Bx (w.alloc (.cells #[.int .i64 r.id, .int .i64 r.p, .int .i64 r.v, .bool r.n, .int .i64 r.la, .slice aa r.l.length ac, .int .i64 r.c, .slice ba r.ok.length bc, .slice ca r.ch.length cc, .slice da r.te.length dc] 31)) w.heap.size 31 #[.int .i64 r.id, .int .i64 r.p, .int .i64 r.v, .bool r.n, .int .i64 r.la, .slice aa r.l.length ac, .int .i64 r.c, .slice ba r.ok.length bc, .slice ca r.ch.length cc, .slice da r.te.length dc] := Bx.new _ _ _
  have hund := h.under
  have HL : Hid (HasX (w.alloc (.cells #[.int .i64 r.id, .int .i64 r.p, .int .i64 r.v, .bool r.n, .int .i64 r.la, .slice aa r.l.length ac, .int .i64 r.c, .slice ba r.ok.length bc, .slice ca r.ch.length cc, .slice da r.te.length dc] 31)) B (.slice aa r.l.length ac) r.l) := h.l.kept ((Below.refl _ w).alloc (Nat.le_refl _) _)
  have HO : Hid (HasN (w.alloc (.cells #[.int .i64 r.id, .int .i64 r.p, .int .i64 r.v, .bool r.n, .int .i64 r.la, .slice aa r.l.length ac, .int .i64 r.c, .slice ba r.ok.length bc, .slice ca r.ch.length cc, .slice da r.te.length dc] 31)) B (.slice ba r.ok.length bc) r.ok) := h.ok.kept ((Below.refl _ w).alloc (Nat.le_refl _) _)
  have HC : Hid (HasN (w.alloc (.cells #[.int .i64 r.id, .int .i64 r.p, .int .i64 r.v, .bool r.n, .int .i64 r.la, .slice aa r.l.length ac, .int .i64 r.c, .slice ba r.ok.length bc, .slice ca r.ch.length cc, .slice da r.te.length dc] 31)) B (.slice ca r.ch.length cc) r.ch) := h.ch.kept ((Below.refl _ w).alloc (Nat.le_refl _) _)
  have HE : Hid (HasM (w.alloc (.cells #[.int .i64 r.id, .int .i64 r.p, .int .i64 r.v, .bool r.n, .int .i64 r.la, .slice aa r.l.length ac, .int .i64 r.c, .slice ba r.ok.length bc, .slice ca r.ch.length cc, .slice da r.te.length dc] 31)) B (.slice da T.length dc) T) := hTE.kept ((Below.refl _ w).alloc (Nat.le_refl _) _)
  have HG : Hid (Logs (w.alloc (.cells #[.int .i64 r.id, .int .i64 r.p, .int .i64 r.v, .bool r.n, .int .i64 r.la, .slice aa r.l.length ac, .int .i64 r.c, .slice ba r.ok.length bc, .slice ca r.ch.length cc, .slice da r.te.length dc] 31)) B T) := (show Logs w B T from ⟨h.tl, p5⟩).kept ((Below.refl _ w).alloc (Nat.le_refl _) _)
  have XA : Hid (Bx (w.alloc (.cells #[.int .i64 r.id, .int .i64 r.p, .int .i64 r.v, .bool r.n, .int .i64 r.la, .slice aa r.l.length ac, .int .i64 r.c, .slice ba r.ok.length bc, .slice ca r.ch.length cc, .slice da r.te.length dc] 31)) w.heap.size 31 #[.int .i64 r.id, .int .i64 r.p, .int .i64 r.v, .bool r.n, .int .i64 r.la, .slice aa r.l.length ac, .int .i64 r.c, .slice ba r.ok.length bc, .slice ca r.ch.length cc, .slice da r.te.length dc]) := AA
  have KC : Hid (ChS (Bl (Rv.rows ⟨.slice aa r.l.length ac, .slice ba r.ok.length bc, .slice ca r.ch.length cc, .slice da T.length dc, T⟩)) w (w.alloc (.cells #[.int .i64 r.id, .int .i64 r.p, .int .i64 r.v, .bool r.n, .int .i64 r.la, .slice aa r.l.length ac, .int .i64 r.c, .slice ba r.ok.length bc, .slice ca r.ch.length cc, .slice da r.te.length dc] 31))) := ChS.of_below ((Below.refl _ w).alloc (Nat.le_refl _) _)
  have HT : Hid (T.map (·.m) = r.te) := h.t
  have HTL : Hid (T.length = r.te.length) := htl
  have HCR : Hid (cR r = r.l.length + r.ok.length + r.ch.length + cT T) := hcr
  have P1 : Hid (∀ v ∈ (.slice ba r.ok.length bc) :: (.slice ca r.ch.length cc) :: (.slice da T.length dc) :: T.map Mx.u, ap (.slice aa r.l.length ac) v) := by show ∀ _, _; rw [htl]; exact p1
  have P2 : Hid (∀ v ∈ (.slice ca r.ch.length cc) :: (.slice da T.length dc) :: T.map Mx.u, ap (.slice ba r.ok.length bc) v) := by show ∀ _, _; rw [htl]; exact p2
  have P3 : Hid (∀ v ∈ (.slice da T.length dc) :: T.map Mx.u, ap (.slice ca r.ch.length cc) v) := by show ∀ _, _; rw [htl]; exact p3
  have UN : Hid (∀ v ∈ Rv.rows ⟨.slice aa r.l.length ac, .slice ba r.ok.length bc, .slice ca r.ch.length cc, .slice da T.length dc, T⟩, v.ownBlock ≠ some w.heap.size) := by show ∀ _, _; rw [htl]; exact fun v hv e => Nat.lt_irrefl _ (hund v hv _ e)
  have hn1 : ((s + r.l.length : Nat) : Int) = (s : Int) + (r.l.length : Int) := by omega
  have hn2 : ((s + r.l.length + r.ok.length : Nat) : Int) = (s : Int) + (r.l.length : Int) + (r.ok.length : Int) := by omega
  have hn3 : ((s + r.l.length + r.ok.length + r.ch.length : Nat) : Int) = (s : Int) + (r.l.length : Int) + (r.ok.length : Int) + (r.ch.length : Int) := by omega
  rw [hn1] at j2
  rw [hn2] at j3
  rw [hn3] at j4
  obtain ⟨N1, hN1⟩ : ∃ N : Int, N = (s : Int) + (r.l.length : Int) := ⟨_, rfl⟩
  rw [← hN1] at j1 j2 j3 j4
  obtain ⟨N2, hN2⟩ : ∃ N : Int, N = N1 + (r.ok.length : Int) := ⟨_, rfl⟩
  rw [← hN2] at j2 j3 j4
  obtain ⟨N3, hN3⟩ : ∃ N : Int, N = N2 + (r.ch.length : Int) := ⟨_, rfl⟩
  rw [← hN3] at j3 j4
  obtain ⟨N4, hN4⟩ : ∃ N : Int, N = N3 + (cT T : Int) := ⟨_, rfl⟩
  rw [← hN4] at j4
  have HN4 : Hid (N4 = (s : Int) + (cR r : Int)) := by show _ = _; omega
  unfold rpA
  clear hap p1 p2 p3 p4 p5 hcr hll hnt hTE AA hund hn1 hn2 hn3 hN1 hN2 hN3 hN4 h hf htl
  go_enter Try.func13, Try.ntmps13
  go_wp2_with fail
  refine (j1 _ HL.out).mono ?_
  rintro e w1 ⟨rfl, h1, g1⟩
  replace HO : Hid (HasN w1 B (.slice ba r.ok.length bc) (r.ok)) := (show Hid _ from HasE.grown HO.out g1 (fun k hk hk' => P1.out _ (by simp) k hk' hk))
  replace HC : Hid (HasN w1 B (.slice ca r.ch.length cc) (r.ch)) := (show Hid _ from HasE.grown HC.out g1 (fun k hk hk' => P1.out _ (by simp) k hk' hk))
  replace HE : Hid (HasM w1 B (.slice da T.length dc) (T)) := (show Hid _ from HasE.grown HE.out g1 (fun k hk hk' => P1.out _ (by simp) k hk' hk))
  replace HG : Hid (Logs w1 B T) := (show Logs w1 B T from ⟨fun x hx => HasE.grown (HG.out.l x hx) g1 (fun k hk hk' => P1.out _ (by simp only [List.mem_cons, List.mem_map]; exact .inr (.inr (.inr (⟨x, hx, rfl⟩)))) k hk' hk), HG.out.ap⟩)
  replace HL : Hid (HasX w1 B (.slice aa r.l.length ac) (marksX s r.l.length)) := h1
  replace XA : Hid (Bx w1 w.heap.size 31 #[.int .i64 r.id, .int .i64 r.p, .int .i64 r.v, .bool r.n, .int .i64 r.la, .slice aa r.l.length ac, .int .i64 r.c, .slice ba r.ok.length bc, .slice ca r.ch.length cc, .slice da r.te.length dc]) := (show Hid _ from Bx.grown XA.out g1 (UN.out (.slice aa r.l.length ac) (by simp [Rv.rows])))
  replace KC : Hid (ChS (Bl (Rv.rows ⟨.slice aa r.l.length ac, .slice ba r.ok.length bc, .slice ca r.ch.length cc, .slice da T.length dc, T⟩)) w w1) := (show Hid _ from ChS.trans KC.out (ChS.grown g1 fun k hk => Bl.of (v := .slice aa r.l.length ac) (by simp [Rv.rows]) hk))
  clear h1 g1
  have xa := XA.out.cell 7
  go_wp2_with fail
  clear xa
  refine (j2 _ HO.out).mono ?_
  rintro e w2 ⟨rfl, h2, g2⟩
  replace HL : Hid (HasX w2 B (.slice aa r.l.length ac) (marksX s r.l.length)) := (show Hid _ from HasE.grown HL.out g2 (fun k hk hk' => P1.out _ (by simp) k hk hk'))
  replace HC : Hid (HasN w2 B (.slice ca r.ch.length cc) (r.ch)) := (show Hid _ from HasE.grown HC.out g2 (fun k hk hk' => P2.out _ (by simp) k hk' hk))
  replace HE : Hid (HasM w2 B (.slice da T.length dc) (T)) := (show Hid _ from HasE.grown HE.out g2 (fun k hk hk' => P2.out _ (by simp) k hk' hk))
  replace HG : Hid (Logs w2 B T) := (show Logs w2 B T from ⟨fun x hx => HasE.grown (HG.out.l x hx) g2 (fun k hk hk' => P2.out _ (by simp only [List.mem_cons, List.mem_map]; exact .inr (.inr (⟨x, hx, rfl⟩))) k hk' hk), HG.out.ap⟩)
  replace HO : Hid (HasN w2 B (.slice ba r.ok.length bc) (marksU (s + r.l.length) r.ok.length)) := h2
  replace XA : Hid (Bx w2 w.heap.size 31 #[.int .i64 r.id, .int .i64 r.p, .int .i64 r.v, .bool r.n, .int .i64 r.la, .slice aa r.l.length ac, .int .i64 r.c, .slice ba r.ok.length bc, .slice ca r.ch.length cc, .slice da r.te.length dc]) := (show Hid _ from Bx.grown XA.out g2 (UN.out (.slice ba r.ok.length bc) (by simp [Rv.rows])))
  replace KC : Hid (ChS (Bl (Rv.rows ⟨.slice aa r.l.length ac, .slice ba r.ok.length bc, .slice ca r.ch.length cc, .slice da T.length dc, T⟩)) w w2) := (show Hid _ from ChS.trans KC.out (ChS.grown g2 fun k hk => Bl.of (v := .slice ba r.ok.length bc) (by simp [Rv.rows]) hk))
  clear h2 g2
  have xa := XA.out.cell 8
  go_wp2_with fail
  clear xa
  refine (j3 _ HC.out).mono ?_
  rintro e w3 ⟨rfl, h3, g3⟩
  replace HL : Hid (HasX w3 B (.slice aa r.l.length ac) (marksX s r.l.length)) := (show Hid _ from HasE.grown HL.out g3 (fun k hk hk' => P1.out _ (by simp) k hk hk'))
  replace HO : Hid (HasN w3 B (.slice ba r.ok.length bc) (marksU (s + r.l.length) r.ok.length)) := (show Hid _ from HasE.grown HO.out g3 (fun k hk hk' => P2.out _ (by simp) k hk hk'))
  replace HE : Hid (HasM w3 B (.slice da T.length dc) (T)) := (show Hid _ from HasE.grown HE.out g3 (fun k hk hk' => P3.out _ (by simp) k hk' hk))
  replace HG : Hid (Logs w3 B T) := (show Logs w3 B T from ⟨fun x hx => HasE.grown (HG.out.l x hx) g3 (fun k hk hk' => P3.out _ (by simp only [List.mem_cons, List.mem_map]; exact .inr (⟨x, hx, rfl⟩)) k hk' hk), HG.out.ap⟩)
  replace HC : Hid (HasN w3 B (.slice ca r.ch.length cc) (marksU (s + r.l.length + r.ok.length) r.ch.length)) := h3
  replace XA : Hid (Bx w3 w.heap.size 31 #[.int .i64 r.id, .int .i64 r.p, .int .i64 r.v, .bool r.n, .int .i64 r.la, .slice aa r.l.length ac, .int .i64 r.c, .slice ba r.ok.length bc, .slice ca r.ch.length cc, .slice da r.te.length dc]) := (show Hid _ from Bx.grown XA.out g3 (UN.out (.slice ca r.ch.length cc) (by simp [Rv.rows])))
  replace KC : Hid (ChS (Bl (Rv.rows ⟨.slice aa r.l.length ac, .slice ba r.ok.length bc, .slice ca r.ch.length cc, .slice da T.length dc, T⟩)) w w3) := (show Hid _ from ChS.trans KC.out (ChS.grown g3 fun k hk => Bl.of (v := .slice ca r.ch.length cc) (by simp [Rv.rows]) hk))
  clear h3 g3
  have xa := XA.out.cell 9
  go_wp2_with fail
  clear xa
  rw [← HTL.out]
  refine (j4 _ HE.out HG.out).mono ?_
  rintro e w4 ⟨rfl, h4, g4, c4⟩
  have NS : ∀ (v : Value), (∀ v' ∈ (.slice da T.length dc) :: T.map Mx.u, ap v v') → ∀ k, v.ownBlock = some k → ¬ Bl (.slice da T.length dc :: T.map Mx.u) k := fun v hv k hk ⟨v', hv', hk'⟩ => hv v' hv' k hk hk'
  have RH : Hid (RpHas w4 B (mkRv s r ⟨.slice aa r.l.length ac, .slice ba r.ok.length bc, .slice ca r.ch.length cc, .slice da r.te.length dc, T⟩) (mkRp s r T)) := by
    refine (show Hid _ from ⟨HasE.chs HL.out c4 (NS _ fun v hv => P1.out v (by simp only [List.mem_cons] at hv ⊢; exact .inr (.inr hv))), HasE.chs HO.out c4 (NS _ fun v hv => P2.out v (by simp only [List.mem_cons] at hv ⊢; exact .inr hv)), HasE.chs HC.out c4 (NS _ fun v hv => P3.out v hv), rfl, ?_, fun x hx => g4.l x hx⟩)
    show HasM w4 B (.slice da r.te.length dc) _
    rw [← HTL.out]
    exact h4
  have KF : Hid (ChS (Bl (Rv.rows ⟨.slice aa r.l.length ac, .slice ba r.ok.length bc, .slice ca r.ch.length cc, .slice da T.length dc, T⟩)) w w4) := (show Hid _ from ChS.trans KC.out (c4.mono fun k ⟨v, hv, hk⟩ => ⟨v, by simp only [Rv.rows, List.mem_cons] at hv ⊢; exact .inr (.inr (.inr hv)), hk⟩))
  clear h4 g4 c4 NS
  go_wp2
  go_ret
  refine ⟨congrArg (fun z => Ending.returned (.int .i64 z)) HN4.out, RH.out, ?_⟩
  have := KF.out
  rw [HTL.out] at this
  exact this
set_option maxRecDepth 100000 in
set_option maxHeartbeats 8000000 in
theorem heldRp (s : Nat) (hs1 : 1 ≤ s) (r : Rp) (u : Rv) (hs2 : s + cR r ≤ 50000000) (w : World) (h : RpGot w (mkRv s r u) (mkRp s r u.T)) (ht : u.T.map (·.m) = r.te) (hf : Fit r) :
    Calls Try.prog 14 #[rpA (mkRp s r u.T) (mkRv s r u), .int .i64 (s : Int)] w fun e w' => e = .returned (.int .i64 ((s : Int) + (cR r : Int))) ∧ Below w.heap.size w w' := by
  obtain ⟨u1, u2, u3, u4, T⟩ := u
  simp only at ht
  have hl : Sls txtE w u1 (marksX s r.l.length) := h.l
  have ho : Sls intE w u2 (marksU (s + r.l.length) r.ok.length) := h.ok
  have hc : Sls intE w u3 (marksU (s + r.l.length + r.ok.length) r.ch.length) := h.ch
  have ht4 : TeGot w u4 (mkTe (s + r.l.length + r.ok.length + r.ch.length) T) := h.te
  have hcr : cR r = r.l.length + r.ok.length + r.ch.length + cT T := by unfold cR; rw [cT_of ht]
  have htl : T.length = r.te.length := by rw [← ht, List.length_map]
  have hnt := hf.te.1
  have hll := hf.l.1
  have j1 := fun W (hW : Below w.heap.size w W) => heldTxt s hs1 (by omega) u1 r.l.length W (hl.kept hW) hll
  have j2 := fun W (hW : Below w.heap.size w W) => heldNu (s + r.l.length) (by omega) u2 r.ok.length W (ho.kept hW) hf.ok
  have j3 := fun W (hW : Below w.heap.size w W) => heldNu (s + r.l.length + r.ok.length) (by omega) u3 r.ch.length W (hc.kept hW) hf.ch
  have j4 := fun W (hW : Below w.heap.size w W) => heldMsS (s + r.l.length + r.ok.length + r.ch.length) (by omega) u4 T (by omega) W (ht4.kept hW) (fun x hx => (hf.te.2 _ (by rw [← ht]; exact List.mem_map_of_mem hx)).1) (by omega)
  obtain ⟨aa, ac, e1⟩ := Sls.slen hl
  obtain ⟨ba, bc, e2⟩ := Sls.slen ho
  obtain ⟨ca, cc, e3⟩ := Sls.slen hc
  obtain ⟨da, dc, e4⟩ := Sls.slen ht4.1
  rw [marksX_length] at e1
  rw [marksU_length] at e2 e3
  rw [mkTe_length] at e4
  subst e1; subst e2; subst e3; subst e4
  have hn1 : ((s + r.l.length : Nat) : Int) = (s : Int) + (r.l.length : Int) := by omega
  have hn2 : ((s + r.l.length + r.ok.length : Nat) : Int) = (s : Int) + (r.l.length : Int) + (r.ok.length : Int) := by omega
  have hn3 : ((s + r.l.length + r.ok.length + r.ch.length : Nat) : Int) = (s : Int) + (r.l.length : Int) + (r.ok.length : Int) + (r.ch.length : Int) := by omega
  rw [hn1] at j2
  rw [hn2] at j3
  rw [hn3] at j4
  obtain ⟨N1, hN1⟩ : ∃ N : Int, N = (s : Int) + (r.l.length : Int) := ⟨_, rfl⟩
  rw [← hN1] at j1 j2 j3 j4
  obtain ⟨N2, hN2⟩ : ∃ N : Int, N = N1 + (r.ok.length : Int) := ⟨_, rfl⟩
  rw [← hN2] at j2 j3 j4
  obtain ⟨N3, hN3⟩ : ∃ N : Int, N = N2 + (r.ch.length : Int) := ⟨_, rfl⟩
  rw [← hN3] at j3 j4
  obtain ⟨N4, hN4⟩ : ∃ N : Int, N = N3 + (cT T : Int) := ⟨_, rfl⟩
  rw [← hN4] at j4
  have HN4 : Hid (N4 = (s : Int) + (cR r : Int)) := by show _ = _; omega
  have m1 : ¬ N1 < 0 := by omega
  have m2 : ¬ N2 < 0 := by omega
  have m3 : ¬ N3 < 0 := by omega
  have m4 : ¬ N4 < 0 := by omega
  unfold rpA mkRv mkRp
  simp only at j1 j2 j3 j4 ⊢
  generalize r.l.length = nl at *
  generalize r.ok.length = no at *
  generalize r.ch.length = nc at *
  generalize T.length = nt at *
  clear hl ho hc ht4 h hcr hnt hll hn1 hn2 hn3 hN1 hN2 hN3 hN4 ht htl hf hs2
  go_enter Try.func14, Try.ntmps14
  go_wp2_with fail
  refine (j1 _ ((Below.refl _ w).alloc (Nat.le_refl _) _)).mono ?_
  rintro e w1 ⟨rfl, hb⟩
  have BX : Hid (Bx w1 w.heap.size 31 #[.int .i64 r.id, .int .i64 r.p, .int .i64 r.v, .bool r.n, .int .i64 r.la, .slice aa nl ac, .int .i64 r.c, .slice ba no bc, .slice ca nc cc, .slice da nt dc]) := (show Hid _ from Bx.kept (Bx.new _ _ _) hb)
  have BB : Hid (Below w.heap.size w w1) := (show Hid _ from ((Below.refl _ w).alloc (Nat.le_refl _) _).trans (hb.mono (by simp)))
  clear hb j1
  have xa := BX.out.cell 7
  go_wp2_with fail
  clear xa
  refine (j2 _ BB.out).mono ?_
  rintro e w2 ⟨rfl, rfl⟩
  have xa := BX.out.cell 8
  go_wp2_with fail
  clear xa
  refine (j3 _ BB.out).mono ?_
  rintro e w3 ⟨rfl, rfl⟩
  have xa := BX.out.cell 9
  go_wp2_with fail
  clear xa
  refine (j4 _ BB.out).mono ?_
  rintro e w4 ⟨rfl, hb⟩
  have B4 : Hid (Below w.heap.size w w4) := (show Hid _ from BB.out.trans (hb.mono BB.out.size))
  clear hb
  go_wp2
  go_ret
  exact ⟨congrArg (fun z => Ending.returned (.int .i64 z)) HN4.out, B4.out⟩
end Go.Proofs.Ytdahfhkeeemdiaa.Rl
namespace Go.Proofs.Ytdahfhkeeemdiaa
open Go.RowKit Pg
set_option linter.unusedVariables false
set_option linter.unusedSimpArgs false

/-- The answer's box, the purge's, and the words. -/
structure Pr (w W : World) (k : Int) (t : ByteArray) : Prop where
  low : Below w.heap.size w W
  rx : Bx W w.heap.size 63 #[.int .i64 0, .string ⟨#[]⟩]
  bx : Bx W (w.heap.size + 1) 63 #[.int .i64 k, .string t]
  tx : Bx W (w.heap.size + 1 + 1) 9 #[.string kyW, .string tgW, .string bgW]
theorem Pr.kept {w W W' : World} {k : Int} {t : ByteArray} (h : Pr w W k t) (hb : Below W.heap.size W W') : Pr w W' k t :=
  ⟨h.low.trans (hb.mono h.low.size), h.rx.kept hb, h.bx.kept hb, h.tx.kept hb⟩
theorem Pr.drew {w W : World} {k : Int} {t : ByteArray} (h : Pr w W k t) : Pr w W.drew k t := h.kept ⟨rfl, rfl, rfl, Nat.le_refl _, fun _ _ => rfl⟩
theorem Pr.put {w W : World} {k : Int} {t : ByteArray} (h : Pr w W k t) (k' : Int) (t' : ByteArray) : Pr w ((W.setCell ⟨w.heap.size + 1, 0, none⟩ (.int .i64 k')).setCell ⟨w.heap.size + 1, 1, none⟩ (.string t')) k' t' :=
  ⟨(h.low.setCell (Nat.le_succ _) _).setCell (Nat.le_succ _) _, (h.rx.other _ _ (by omega)).other _ _ (by omega), (h.bx.put 0 _).put 1 _, (h.tx.other _ _ (by omega)).other _ _ (by omega)⟩
theorem Pr.word {w W : World} {k : Int} {t : ByteArray} (h : Pr w W k t) {m : Nat} (hm : m < 3) : W.cell? ⟨w.heap.size + 1 + 1, m, none⟩ = some (.string (wrd ((m : Int) + 1))) := by
  rw [h.tx.cell]
  rcases (by omega : m = 0 ∨ m = 1 ∨ m = 2) with rfl | rfl | rfl <;> rfl
theorem Pr.new (w : World) : Pr w (((w.alloc (.cells #[.int .i64 0, .string ⟨#[]⟩] 63)).alloc (.cells #[.int .i64 4, .string ⟨#[]⟩] 63)).alloc (.cells #[.string kyW, .string tgW, .string bgW] 9)) 4 ⟨#[]⟩ := by
  have e1 : (w.alloc (.cells #[.int .i64 0, .string ⟨#[]⟩] 63)).heap.size = w.heap.size + 1 := by simp
  have e2 : ((w.alloc (.cells #[.int .i64 0, .string ⟨#[]⟩] 63)).alloc (.cells #[.int .i64 4, .string ⟨#[]⟩] 63)).heap.size = w.heap.size + 1 + 1 := by simp
  have b1 := Bx.new (w.alloc (.cells #[.int .i64 0, .string ⟨#[]⟩] 63)) 63 #[.int .i64 4, .string ⟨#[]⟩]
  rw [e1] at b1
  have b2 := Bx.new ((w.alloc (.cells #[.int .i64 0, .string ⟨#[]⟩] 63)).alloc (.cells #[.int .i64 4, .string ⟨#[]⟩] 63)) 9 #[.string kyW, .string tgW, .string bgW]
  rw [e2] at b2
  exact ⟨(((Below.refl _ w).alloc (Nat.le_refl _) _).alloc (by omega) _).alloc (by omega) _, ((Bx.new w 63 _).alloc _).alloc _, b1.alloc _, b2⟩
end Go.Proofs.Ytdahfhkeeemdiaa
namespace Go.Proofs.Ytdahfhkeeemdiaa.Rl
open Go.RowKit Go.Sort Pg
set_option linter.unusedVariables false
set_option linter.unusedSimpArgs false

abbrev pOk (p : Int) : Prop := p = 1 ∨ p = 3 ∨ p = 5
theorem specPrs (p : Int) (w : World) : Calls Try.prog 23 #[.int .i64 p] w fun e w' => e = .returned (.bool (decide (pOk p))) ∧ w = w' := by
  by_cases h1 : p = 1
  · subst h1
    have hd : Hid (decide (pOk 1) = true) := (show _ = _ from decide_eq_true (.inl rfl))
    go_enter Try.func23, Try.ntmps23
    go_wp2
    go_ret
    exact ⟨congrArg (fun b => Ending.returned (.bool b)) hd.out.symm, rfl⟩
  by_cases h3 : p = 3
  · subst h3
    have hd : Hid (decide (pOk 3) = true) := (show _ = _ from decide_eq_true (.inr (.inl rfl)))
    go_enter Try.func23, Try.ntmps23
    go_wp2
    go_ret
    exact ⟨congrArg (fun b => Ending.returned (.bool b)) hd.out.symm, rfl⟩
  have e1 : (p == 1) = false := by simpa using h1
  have e3 : (p == 3) = false := by simpa using h3
  by_cases h5 : p = 5
  · subst h5
    have hd : Hid (decide (pOk 5) = true) := (show _ = _ from decide_eq_true (.inr (.inr rfl)))
    go_enter Try.func23, Try.ntmps23
    go_wp2
    go_ret
    exact ⟨congrArg (fun b => Ending.returned (.bool b)) hd.out.symm, rfl⟩
  have e5 : (p == 5) = false := by simpa using h5
  have hd : Hid (decide (pOk p) = false) := (show _ = _ from decide_eq_false (fun h => by rcases h with h | h | h <;> contradiction))
  go_enter Try.func23, Try.ntmps23
  go_wp2
  go_ret
  exact ⟨congrArg (fun b => Ending.returned (.bool b)) hd.out.symm, rfl⟩
end Go.Proofs.Ytdahfhkeeemdiaa.Rl
