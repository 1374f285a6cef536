/-
  The laws' helpers on replicas: turned, marked, held.
  The laws' marks on replicas.
  The specification's purges by their contracts: right ones, what is shown.
-/
import Derived.Test.YtdahfhkeeemdiaaG21
import Derived.Test.YtdahfhkeeemdiaaG09
import Derived.Test.YtdahfhkeeemdiaaG19
import Derived.WalkKit
import Derived.WalkSpells
namespace Go.Proofs.Ytdahfhkeeemdiaa.Rl
open Go.RowKit Go.Sort
set_option linter.unusedVariables false
set_option linter.unusedSimpArgs false

def RpAp (u : Rv) : Prop := u.rows.Pairwise ap
theorem apI {v v' : Value} {C : Nat} (h1 : ∀ k, v.ownBlock = some k → k < C) (h2 : ∀ k, v'.ownBlock = some k → C ≤ k) : ap v v' := fun k h h' => by have := h1 k h; have := h2 k h'; omega
set_option maxRecDepth 100000 in
set_option maxHeartbeats 8000000 in
theorem toRp (r : Rp) (u : Rv) (w : World) (h : RpGot w u r) (hf : Fit r) :
    Calls Try.prog 8 #[rpA r u] w fun e w' => ∃ u', e = .returned (rpA r u') ∧ RpHas w' w.heap.size u' r ∧ RpAp u' ∧ Below w.heap.size w w' := by
  obtain ⟨aa, ac, ba, bc, ca, cc, da, dc, T, rfl⟩ := h.form
  have j1 := fun W (hW : Below w.heap.size w W) => toTxt (.slice aa r.l.length ac) r.l W (h.l.kept hW) hf.l.1
  have j2 := fun W (hW : Below w.heap.size w W) => toNum (.slice ba r.ok.length bc) r.ok W (h.ok.kept hW) hf.ok
  have j3 := fun W (hW : Below w.heap.size w W) => toNum (.slice ca r.ch.length cc) r.ch W (h.ch.kept hW) hf.ch
  have htl : T.length = r.te.length := h.tlen
  have HT : Hid (T.map (·.m) = r.te) := h.t
  have j4 := fun W (hW : Below w.heap.size w W) => toMsS (.slice da r.te.length dc) T W (h.te.kept hW) (fun x hx => (hf.te.2 _ (by rw [← h.t]; exact List.mem_map_of_mem hx)).1) (by rw [htl]; exact hf.te.1)
  unfold rpA
  simp only at j1 j2 j3 j4 ⊢
  have HTL : Hid (T.length = r.te.length) := htl
  clear h hf htl
  go_enter Try.func8, Try.ntmps8
  go_wp2_with fail
  refine (j1 _ (by repeat (first | exact Below.refl _ _ | refine Below.alloc ?_ (by simp <;> omega) _ | refine Below.setCell ?_ (by simp <;> omega) _))).mono ?_
  rintro e w1 ⟨u1, rfl, ho, hb⟩
  obtain ⟨a1, c1, rfl, _⟩ := ho.form
  simp [go_sem] at hb ho
  have BZ : Hid (Bx w1 (w.heap.size + 1 + 1) 31 #[.int .i64 r.id, .int .i64 r.p, .int .i64 r.v, .bool r.n, .int .i64 r.la, .slice none 0 0, .int .i64 0, .slice none 0 0, .slice none 0 0, .slice none 0 0]) := (show Hid _ from Bx.low (Bx.at _ _ (by simp)) hb (by omega))
  have BY : Hid (Bx w1 (w.heap.size + 1) 31 #[.int .i64 0, .int .i64 0, .int .i64 0, .bool false, .int .i64 0, .slice none 0 0, .int .i64 0, .slice none 0 0, .slice none 0 0, .slice none 0 0]) := (show Hid _ from Bx.low ((Bx.at _ _ (by simp)).alloc _) hb (by omega))
  have BX : Hid (Bx w1 w.heap.size 26 #[.int .i64 r.id, .int .i64 r.p, .int .i64 r.v, .bool r.n, .int .i64 r.la, .slice aa r.l.length ac, .int .i64 r.c, .slice ba r.ok.length bc, .slice ca r.ch.length cc, .slice da r.te.length dc]) := (show Hid _ from Bx.low (((Bx.at _ _ rfl).alloc _).alloc _) hb (by omega))
  have BB : Hid (Below w.heap.size w w1) := (show Hid _ from ((((Below.refl _ w).alloc (by simp <;> omega) _).alloc (by simp <;> omega) _).alloc (by simp <;> omega) _).trans (hb.mono (by omega)))
  have O1 : Hid (OwnsX w1 (w.heap.size + 3) (.slice a1 r.l.length c1) r.l) := ho
  have S1 : Hid (w.heap.size + 3 ≤ w1.heap.size) := (show w.heap.size + 3 ≤ w1.heap.size by have := hb.size; simp at this; omega)
  have UU1 : Hid (∀ k, (Value.slice a1 r.l.length c1).ownBlock = some k → k < w1.heap.size) := (show ∀ _, _ from OwnsE.under O1.out)
  clear hb ho j1
  have z5 := BZ.out.cell 5
  have zf5 := BZ.out.free 5
  have z6 := BZ.out.cell 6
  have zf6 := BZ.out.free 6
  have x6 := BX.out.cell 6
  have x7 := BX.out.cell 7
  go_wp2_with fail
  clear z5 zf5 z6 zf6 x6 x7
  refine (j2 _ (((BB.out).setCell (p := ⟨w.heap.size + 1 + 1, 5, none⟩) (by simp <;> omega) _).setCell (p := ⟨w.heap.size + 1 + 1, 6, none⟩) (by simp <;> omega) _)).mono ?_
  rintro e w2 ⟨u2, rfl, ho, hb⟩
  obtain ⟨a2, c2, rfl, _⟩ := ho.form
  replace BZ : Hid (Bx w2 (w.heap.size + 1 + 1) 31 #[.int .i64 r.id, .int .i64 r.p, .int .i64 r.v, .bool r.n, .int .i64 r.la, .slice a1 r.l.length c1, .int .i64 r.c, .slice none 0 0, .slice none 0 0, .slice none 0 0]) := (show Hid _ from Bx.kept (Bx.put (Bx.put (BZ.out) 5 _) 6 _) hb)
  replace BY : Hid (Bx w2 (w.heap.size + 1) 31 #[.int .i64 0, .int .i64 0, .int .i64 0, .bool false, .int .i64 0, .slice none 0 0, .int .i64 0, .slice none 0 0, .slice none 0 0, .slice none 0 0]) := (show Hid _ from Bx.kept (Bx.other (Bx.other (BY.out) 5 _ (by omega)) 6 _ (by omega)) hb)
  replace BX : Hid (Bx w2 w.heap.size 26 #[.int .i64 r.id, .int .i64 r.p, .int .i64 r.v, .bool r.n, .int .i64 r.la, .slice aa r.l.length ac, .int .i64 r.c, .slice ba r.ok.length bc, .slice ca r.ch.length cc, .slice da r.te.length dc]) := (show Hid _ from Bx.kept (Bx.other (Bx.other (BX.out) 5 _ (by omega)) 6 _ (by omega)) hb)
  have UO1 : ∀ k, (Value.slice a1 r.l.length c1).ownBlock = some k → w.heap.size + 3 ≤ k ∧ k < w1.heap.size := fun k hk => ⟨by have := OwnsE.from O1.out k hk; have := S1.out; omega, OwnsE.under O1.out k hk⟩
  replace O1 : Hid (OwnsX w2 (w.heap.size + 3) (.slice a1 r.l.length c1) r.l) := (show Hid _ from OwnsE.kept (OwnsE.other (OwnsE.other (O1.out) _ _ (fun k hk => by have := UO1 k hk; simp <;> omega)) _ _ (fun k hk => by have := UO1 k hk; simp <;> omega)) hb)
  clear UO1
  have hs : ∀ k, w.heap.size + 3 ≤ k → True := fun _ _ => trivial
  have S2 : Hid (w1.heap.size ≤ w2.heap.size) := by have := hb.size; simp at this; exact (show Hid _ from this)
  replace BB : Hid (Below w.heap.size w w2) := (show Hid _ from (((BB.out).setCell (p := ⟨w.heap.size + 1 + 1, 5, none⟩) (by simp <;> omega) _).setCell (p := ⟨w.heap.size + 1 + 1, 6, none⟩) (by simp <;> omega) _).trans (hb.mono (by have := S1.out; have := BB.out.size; simp <;> omega)))
  have O2 : Hid (OwnsN w2 w1.heap.size (.slice a2 r.ok.length c2) r.ok) := by simp at ho; exact (show Hid _ from ho)
  have UU2 : Hid (∀ k, (Value.slice a2 r.ok.length c2).ownBlock = some k → k < w2.heap.size) := (show ∀ _, _ from OwnsE.under O2.out)
  clear hb ho hs j2
  have z7 := BZ.out.cell 7
  have zf7 := BZ.out.free 7
  have x8 := BX.out.cell 8
  go_wp2_with fail
  clear z7 zf7 x8
  refine (j3 _ ((BB.out).setCell (p := ⟨w.heap.size + 1 + 1, 7, none⟩) (by simp <;> omega) _)).mono ?_
  rintro e w3 ⟨u3, rfl, ho, hb⟩
  obtain ⟨a3, c3, rfl, _⟩ := ho.form
  replace BZ : Hid (Bx w3 (w.heap.size + 1 + 1) 31 #[.int .i64 r.id, .int .i64 r.p, .int .i64 r.v, .bool r.n, .int .i64 r.la, .slice a1 r.l.length c1, .int .i64 r.c, .slice a2 r.ok.length c2, .slice none 0 0, .slice none 0 0]) := (show Hid _ from Bx.kept (Bx.put (BZ.out) 7 _) hb)
  replace BY : Hid (Bx w3 (w.heap.size + 1) 31 #[.int .i64 0, .int .i64 0, .int .i64 0, .bool false, .int .i64 0, .slice none 0 0, .int .i64 0, .slice none 0 0, .slice none 0 0, .slice none 0 0]) := (show Hid _ from Bx.kept (Bx.other (BY.out) 7 _ (by omega)) hb)
  replace BX : Hid (Bx w3 w.heap.size 26 #[.int .i64 r.id, .int .i64 r.p, .int .i64 r.v, .bool r.n, .int .i64 r.la, .slice aa r.l.length ac, .int .i64 r.c, .slice ba r.ok.length bc, .slice ca r.ch.length cc, .slice da r.te.length dc]) := (show Hid _ from Bx.kept (Bx.other (BX.out) 7 _ (by omega)) hb)
  have UO1 : ∀ k, (Value.slice a1 r.l.length c1).ownBlock = some k → w.heap.size + 3 ≤ k ∧ k < w2.heap.size := fun k hk => ⟨by have := OwnsE.from O1.out k hk; have := S1.out; have := S2.out; omega, OwnsE.under O1.out k hk⟩
  replace O1 : Hid (OwnsX w3 (w.heap.size + 3) (.slice a1 r.l.length c1) r.l) := (show Hid _ from OwnsE.kept (OwnsE.other (O1.out) _ _ (fun k hk => by have := UO1 k hk; simp <;> omega)) hb)
  clear UO1
  have UO2 : ∀ k, (Value.slice a2 r.ok.length c2).ownBlock = some k → w.heap.size + 3 ≤ k ∧ k < w2.heap.size := fun k hk => ⟨by have := OwnsE.from O2.out k hk; have := S1.out; have := S2.out; omega, OwnsE.under O2.out k hk⟩
  replace O2 : Hid (OwnsN w3 (w1.heap.size) (.slice a2 r.ok.length c2) r.ok) := (show Hid _ from OwnsE.kept (OwnsE.other (O2.out) _ _ (fun k hk => by have := UO2 k hk; simp <;> omega)) hb)
  clear UO2
  have hs : ∀ k, w.heap.size + 3 ≤ k → True := fun _ _ => trivial
  have S3 : Hid (w2.heap.size ≤ w3.heap.size) := by have := hb.size; simp at this; exact (show Hid _ from this)
  replace BB : Hid (Below w.heap.size w w3) := (show Hid _ from ((BB.out).setCell (p := ⟨w.heap.size + 1 + 1, 7, none⟩) (by simp <;> omega) _).trans (hb.mono (by have := S1.out; have := BB.out.size; simp <;> omega)))
  have O3 : Hid (OwnsN w3 w2.heap.size (.slice a3 r.ch.length c3) r.ch) := by simp at ho; exact (show Hid _ from ho)
  have UU3 : Hid (∀ k, (Value.slice a3 r.ch.length c3).ownBlock = some k → k < w3.heap.size) := (show ∀ _, _ from OwnsE.under O3.out)
  clear hb ho hs j3
  have z8 := BZ.out.cell 8
  have zf8 := BZ.out.free 8
  have x9 := BX.out.cell 9
  go_wp2_with fail
  clear z8 zf8 x9
  refine (j4 _ ((BB.out).setCell (p := ⟨w.heap.size + 1 + 1, 8, none⟩) (by simp <;> omega) _)).mono ?_
  rintro e w4 ⟨u4, M, rfl, ho, hsm, hlg, h4k, hb⟩
  obtain ⟨a4, c4, rfl, _⟩ := ho.form
  replace BZ : Hid (Bx w4 (w.heap.size + 1 + 1) 31 #[.int .i64 r.id, .int .i64 r.p, .int .i64 r.v, .bool r.n, .int .i64 r.la, .slice a1 r.l.length c1, .int .i64 r.c, .slice a2 r.ok.length c2, .slice a3 r.ch.length c3, .slice none 0 0]) := (show Hid _ from Bx.kept (Bx.put (BZ.out) 8 _) hb)
  replace BY : Hid (Bx w4 (w.heap.size + 1) 31 #[.int .i64 0, .int .i64 0, .int .i64 0, .bool false, .int .i64 0, .slice none 0 0, .int .i64 0, .slice none 0 0, .slice none 0 0, .slice none 0 0]) := (show Hid _ from Bx.kept (Bx.other (BY.out) 8 _ (by omega)) hb)
  replace BX : Hid (Bx w4 w.heap.size 26 #[.int .i64 r.id, .int .i64 r.p, .int .i64 r.v, .bool r.n, .int .i64 r.la, .slice aa r.l.length ac, .int .i64 r.c, .slice ba r.ok.length bc, .slice ca r.ch.length cc, .slice da r.te.length dc]) := (show Hid _ from Bx.kept (Bx.other (BX.out) 8 _ (by omega)) hb)
  have UO1 : ∀ k, (Value.slice a1 r.l.length c1).ownBlock = some k → w.heap.size + 3 ≤ k ∧ k < w3.heap.size := fun k hk => ⟨by have := OwnsE.from O1.out k hk; have := S1.out; have := S2.out; have := S3.out; omega, OwnsE.under O1.out k hk⟩
  replace O1 : Hid (OwnsX w4 (w.heap.size + 3) (.slice a1 r.l.length c1) r.l) := (show Hid _ from OwnsE.kept (OwnsE.other (O1.out) _ _ (fun k hk => by have := UO1 k hk; simp <;> omega)) hb)
  clear UO1
  have UO2 : ∀ k, (Value.slice a2 r.ok.length c2).ownBlock = some k → w.heap.size + 3 ≤ k ∧ k < w3.heap.size := fun k hk => ⟨by have := OwnsE.from O2.out k hk; have := S1.out; have := S2.out; have := S3.out; omega, OwnsE.under O2.out k hk⟩
  replace O2 : Hid (OwnsN w4 (w1.heap.size) (.slice a2 r.ok.length c2) r.ok) := (show Hid _ from OwnsE.kept (OwnsE.other (O2.out) _ _ (fun k hk => by have := UO2 k hk; simp <;> omega)) hb)
  clear UO2
  have UO3 : ∀ k, (Value.slice a3 r.ch.length c3).ownBlock = some k → w.heap.size + 3 ≤ k ∧ k < w3.heap.size := fun k hk => ⟨by have := OwnsE.from O3.out k hk; have := S1.out; have := S2.out; have := S3.out; omega, OwnsE.under O3.out k hk⟩
  replace O3 : Hid (OwnsN w4 (w2.heap.size) (.slice a3 r.ch.length c3) r.ch) := (show Hid _ from OwnsE.kept (OwnsE.other (O3.out) _ _ (fun k hk => by have := UO3 k hk; simp <;> omega)) hb)
  clear UO3
  have hs : ∀ k, w.heap.size + 3 ≤ k → True := fun _ _ => trivial
  have S4 : Hid (w3.heap.size ≤ w4.heap.size) := by have := hb.size; simp at this; exact (show Hid _ from this)
  replace BB : Hid (Below w.heap.size w w4) := (show Hid _ from ((BB.out).setCell (p := ⟨w.heap.size + 1 + 1, 8, none⟩) (by simp <;> omega) _).trans (hb.mono (by have := S1.out; have := BB.out.size; simp <;> omega)))
  simp at ho hlg h4k
  have hML : M.length = r.te.length := by rw [hsm.len]; exact HTL.out
  have O4 : Hid (HasM w4 w3.heap.size (.slice a4 M.length c4) M) := ho
  have L4 : Hid (Logs w4 (w3.heap.size + 1) M) := hlg
  have K4 : Hid (∀ k, (Value.slice a4 M.length c4).ownBlock = some k → k = w3.heap.size) := h4k
  have HM : Hid (M.map (·.m) = r.te) := (show _ = _ from (show M.map (·.m) = T.map (·.m) from hsm).trans HT.out)
  have HML : Hid (M.length = r.te.length) := hML
  clear hb ho hs hlg h4k hsm hML j4
  have z0 := BZ.out.cell 0
  have y0 := BY.out.cell 0
  have yf0 := BY.out.free 0
  have z1 := BZ.out.cell 1
  have y1 := BY.out.cell 1
  have yf1 := BY.out.free 1
  have z2 := BZ.out.cell 2
  have y2 := BY.out.cell 2
  have yf2 := BY.out.free 2
  have z3 := BZ.out.cell 3
  have y3 := BY.out.cell 3
  have yf3 := BY.out.free 3
  have z4 := BZ.out.cell 4
  have y4 := BY.out.cell 4
  have yf4 := BY.out.free 4
  have z5 := BZ.out.cell 5
  have y5 := BY.out.cell 5
  have yf5 := BY.out.free 5
  have z6 := BZ.out.cell 6
  have y6 := BY.out.cell 6
  have yf6 := BY.out.free 6
  have z7 := BZ.out.cell 7
  have y7 := BY.out.cell 7
  have yf7 := BY.out.free 7
  have z8 := BZ.out.cell 8
  have y8 := BY.out.cell 8
  have yf8 := BY.out.free 8
  have z9 := BZ.out.cell 9
  have y9 := BY.out.cell 9
  have yf9 := BY.out.free 9
  have zf9 := BZ.out.free 9
  clear BX BY BZ
  go_wp2
  have s1 := S1.out
  have s2 := S2.out
  have s3 := S3.out
  have s4 := S4.out
  have F1 := OwnsE.from O1.out
  have F2 := OwnsE.from O2.out
  have F3 := OwnsE.from O3.out
  have F4 := HasE.from O4.out
  refine bodyPost_ret (v := .agg #[.int .i64 r.id, .int .i64 r.p, .int .i64 r.v, .bool r.n, .int .i64 r.la, .slice a1 r.l.length c1, .int .i64 r.c, .slice a2 r.ok.length c2, .slice a3 r.ch.length c3, .slice a4 M.length c4]) (by simp [results, Try.results8, go_sem, y0, y1, y2, y3, y4, y5, y6, y7, y8, y9]) rfl ⟨⟨.slice a1 r.l.length c1, .slice a2 r.ok.length c2, .slice a3 r.ch.length c3, .slice a4 M.length c4, M⟩, rfl, ?_, ?_, ?_⟩
  · refine RpHas.off (w := w4) ⟨O1.out.has.low (by omega), O2.out.has.low (by have := BB.out.size; omega), O3.out.has.low (by have := BB.out.size; omega), HM.out, O4.out.low (by have := BB.out.size; omega), fun x hx => (L4.out.l x hx).low (by have := BB.out.size; omega)⟩ ?_
    intro v hv k hk
    have hk3 : w.heap.size + 3 ≤ k := by
      simp only [Rv.rows, List.mem_cons, List.mem_map] at hv
      rcases hv with rfl | rfl | rfl | rfl | ⟨x, hx, rfl⟩
      · exact F1 k hk
      · have := F2 k hk; omega
      · have := F3 k hk; omega
      · have := F4 k hk; omega
      · have := (L4.out.l x hx).from k hk; omega
    repeat (refine (Below.heap_setCell _ _ _ _ (by simp <;> omega)).trans ?_)
    rfl
  · have U1 := fun (C : Nat) (hC : w1.heap.size ≤ C) k hk => Nat.lt_of_lt_of_le (UU1.out k hk) hC
    have U2 := UU2.out
    have U3 := UU3.out
    have U4 := K4.out
    show List.Pairwise ap (_ :: _ :: _ :: _ :: M.map Mx.u)
    have hM : ∀ v ∈ M.map Mx.u, ∀ k, v.ownBlock = some k → w3.heap.size + 1 ≤ k := fun v hv k hk => by
      obtain ⟨x, hx, rfl⟩ := List.mem_map.1 hv
      exact (L4.out.l x hx).from k hk
    refine List.Pairwise.cons (fun v hv => ?_) (List.Pairwise.cons (fun v hv => ?_) (List.Pairwise.cons (fun v hv => ?_) (List.Pairwise.cons (fun v hv => ?_) L4.out.ap)))
    · simp only [List.mem_cons] at hv
      rcases hv with rfl | rfl | rfl | hv
      · exact apI UU1.out F2
      · exact apI UU1.out (fun k hk => by have := F3 k hk; omega)
      · exact apI UU1.out (fun k hk => by have := F4 k hk; omega)
      · exact apI UU1.out (fun k hk => by have := hM v hv k hk; omega)
    · simp only [List.mem_cons] at hv
      rcases hv with rfl | rfl | hv
      · exact apI U2 F3
      · exact apI U2 (fun k hk => by have := F4 k hk; omega)
      · exact apI U2 (fun k hk => by have := hM v hv k hk; omega)
    · simp only [List.mem_cons] at hv
      rcases hv with rfl | hv
      · exact apI U3 F4
      · exact apI U3 (fun k hk => by have := hM v hv k hk; omega)
    · exact apI (C := w3.heap.size + 1) (fun k hk => by have := U4 k hk; omega) (fun k hk => hM v hv k hk)
  · repeat (refine Below.setCell ?_ (by simp <;> omega) _)
    exact BB.out

end Go.Proofs.Ytdahfhkeeemdiaa.Rl
namespace Go.Proofs.Ytdahfhkeeemdiaa.Rl
open Go.RowKit Go.Sort
set_option linter.unusedVariables false
set_option linter.unusedSimpArgs false

theorem RpAp.parts {u : Rv} (h : RpAp u) : (∀ v ∈ u.ok :: u.ch :: u.te :: u.T.map Mx.u, ap u.l v) ∧ (∀ v ∈ u.ch :: u.te :: u.T.map Mx.u, ap u.ok v) ∧ (∀ v ∈ u.te :: u.T.map Mx.u, ap u.ch v) ∧ (∀ v ∈ u.T.map Mx.u, ap u.te v) ∧ (u.T.map Mx.u).Pairwise ap := by
  unfold RpAp Rv.rows at h
  obtain ⟨h1, h⟩ := List.pairwise_cons.1 h
  obtain ⟨h2, h⟩ := List.pairwise_cons.1 h
  obtain ⟨h3, h⟩ := List.pairwise_cons.1 h
  obtain ⟨h4, h⟩ := List.pairwise_cons.1 h
  exact ⟨h1, h2, h3, h4, h⟩
end Go.Proofs.Ytdahfhkeeemdiaa.Rl
namespace Go.Proofs.Ytdahfhkeeemdiaa
open Go.RowKit Pg
set_option linter.unusedVariables false
set_option linter.unusedSimpArgs false

/-- A purge by value. -/
def pgV (k : Int) (s : ByteArray) : Value := .agg #[.int .i64 k, .string s]
theorem pgIn1 (n lo hi : Int) (w : World) : Calls Try.prog 24 #[.int .i64 n, .int .i64 lo, .int .i64 hi] w fun e w' => e = .returned (.bool (decide (lo ≤ n ∧ n ≤ hi))) ∧ w = w' := by
  by_cases h1 : lo ≤ n
  · by_cases h2 : n ≤ hi
    · rw [decide_eq_true (show lo ≤ n ∧ n ≤ hi from ⟨h1, h2⟩)]
      go_enter Try.func24, Try.ntmps24
      go_wp2
      go_ret
      exact ⟨rfl, rfl⟩
    · rw [decide_eq_false (fun h : lo ≤ n ∧ n ≤ hi => h2 h.2)]
      go_enter Try.func24, Try.ntmps24
      go_wp2
      go_ret
      exact ⟨rfl, rfl⟩
  · rw [decide_eq_false (fun h : lo ≤ n ∧ n ≤ hi => h1 h.1)]
    go_enter Try.func24, Try.ntmps24
    go_wp2
    go_ret
    exact ⟨rfl, rfl⟩
theorem all_at {p : Int → Bool} {l : List UInt8} {k : Nat} (h : k < l.length) (ha : (l.take k).all (fun c => p (c.toNat : Int)) = true) (hp : p (l[k].toNat : Int) = true) : (l.take (k + 1)).all (fun c => p (c.toNat : Int)) = true := by
  rw [List.take_succ_eq_append_getElem h, List.all_append, ha]
  simp [hp]
theorem all_bad {p : Int → Bool} {l : List UInt8} {k : Nat} (h : k < l.length) (hp : p (l[k].toNat : Int) = false) : l.all (fun c => p (c.toNat : Int)) = false := by
  rw [List.all_eq_false]
  exact ⟨l[k], List.getElem_mem h, by simp [hp]⟩
set_option maxRecDepth 100000 in
set_option maxHeartbeats 2000000 in
theorem specPgo (k : Int) (s : ByteArray) (w : World) (hs : s.size ≤ maxLen) :
    Calls Try.prog 75 #[pgV k s] w fun e w' => e = .returned (.bool (pgOk k s)) ∧ Below w.heap.size w w' := by
  have hin := fun W => pgIn1 k 1 3 W
  have B0 : Hid (Below w.heap.size w (w.alloc (.cells #[.int .i64 k, .string s] 63))) := (Below.refl _ w).alloc (Nat.le_refl _) _
  have X0 := Bx.new w 63 #[.int .i64 k, .string s]
  unfold pgV
  unfold maxLen at hs
  have hlen : s.data.toList.length = s.size := by simp
  go_enter Try.func75, Try.ntmps75
  generalize hwA : w.alloc (.cells #[.int .i64 k, .string s] 63) = wA at B0 X0
  have x0 := X0.cell 0
  have x1 := X0.cell 1
  clear X0
  by_cases h4 : k = 4
  · subst h4
    have HR : Hid (pgOk 4 s = s.toList.isEmpty) := by
      show decide (s.size = 0) = _
      rw [ByteArray.toList_eq, ← hlen]
      cases s.data.toList <;> simp
    clear hin
    go_wp2
    go_ret
    exact ⟨congrArg (fun b => Ending.returned (.bool b)) HR.out.symm, B0.out⟩
  · have HR : Hid (pgOk k s = (decide (1 ≤ k ∧ k ≤ 3) && txOk s)) := by show _ = _; unfold pgOk; rw [if_neg h4]
    by_cases h13 : 1 ≤ k ∧ k ≤ 3
    · rw [decide_eq_true h13] at hin
      by_cases hz : s.size < 1
      · have HE : Hid (false = pgOk k s) := by show _ = _; rw [HR.out]; unfold txOk; rw [decide_eq_false (fun h : 1 ≤ s.size ∧ s.size ≤ 200 => by omega)]; simp
        have hzi : (s.size : Int) < 1 := by omega
        go_wp2_with fail
        refine (hin _).mono ?_
        rintro e w1 ⟨rfl, rfl⟩
        go_wp2
        go_ret
        exact ⟨congrArg (fun b => Ending.returned (.bool b)) HE.out, B0.out⟩
      · by_cases hb : 200 < s.size
        · have HE : Hid (false = pgOk k s) := by show _ = _; rw [HR.out]; unfold txOk; rw [decide_eq_false (fun h : 1 ≤ s.size ∧ s.size ≤ 200 => by omega)]; simp
          have hzi : ¬ (s.size : Int) < 1 := by omega
          have hbi : 200 < (s.size : Int) := by omega
          go_wp2_with fail
          refine (hin _).mono ?_
          rintro e w1 ⟨rfl, rfl⟩
          go_wp2
          go_ret
          exact ⟨congrArg (fun b => Ending.returned (.bool b)) HE.out, B0.out⟩
        · have HT : Hid (pgOk k s = s.data.toList.all fun c => keyN (c.toNat : Int)) := by
            show _ = _
            rw [HR.out]
            unfold txOk allB
            rw [decide_eq_true h13, decide_eq_true (show 1 ≤ s.size ∧ s.size ≤ 200 from ⟨by omega, by omega⟩)]
            rfl
          have hzi : ¬ (s.size : Int) < 1 := by omega
          have hbi : ¬ 200 < (s.size : Int) := by omega
          go_wp2_with fail
          refine (hin _).mono ?_
          rintro e w1 ⟨rfl, rfl⟩
          go_wp2_with fail
          clear hin
          go_loop [3] (fun i => ∃ j : Nat, j ≤ s.size ∧ i = .int .i64 j ∧ Hid ((s.data.toList.take j).all (fun c => keyN (c.toNat : Int)) = true)) (fun i => s.size - (intOf i).toNat)
          case atStart => exact ⟨0, Nat.zero_le _, rfl, (show Hid _ from rfl)⟩
          case round =>
            obtain ⟨j, hj, rfl, hall⟩ := hrel
            by_cases hlt : j < s.size
            · have hji : (j : Int) < (s.size : Int) := by omega
              have hj2 : j < s.data.toList.length := by omega
              have e1 : s.data.toList[j]'hj2 = s[j] := by simp; rfl
              have HA := fun (h : keyN ((s.data.toList[j]'hj2).toNat : Int) = true) => all_at hj2 hall.out h
              have HN := fun (h : keyN ((s.data.toList[j]'hj2).toNat : Int) = false) => all_bad hj2 h
              rw [e1] at HA HN
              have hb8 : s[j].toNat < 256 := s[j].toNat_lt
              by_cases hk1 : s[j].toNat < 33
              · have HE : Hid (false = pgOk k s) := by show _ = _; rw [HT.out, HN (keyN_no (by omega))]
                have hk1i : (s[j].toNat : Int) < 33 := by omega
                clear HA HN
                go_wp2
                go_ret
                exact ⟨congrArg (fun b => Ending.returned (.bool b)) HE.out, B0.out⟩
              · by_cases hk2 : 126 < s[j].toNat
                · have HE : Hid (false = pgOk k s) := by show _ = _; rw [HT.out, HN (keyN_no (by omega))]
                  have hk1i : ¬ (s[j].toNat : Int) < 33 := by omega
                  have hk2i : 126 < (s[j].toNat : Int) := by omega
                  clear HA HN
                  go_wp2
                  go_ret
                  exact ⟨congrArg (fun b => Ending.returned (.bool b)) HE.out, B0.out⟩
                · have HA2 : Hid _ := HA (keyN_yes (by omega))
                  have hk1i : ¬ (s[j].toNat : Int) < 33 := by omega
                  have hk2i : ¬ 126 < (s[j].toNat : Int) := by omega
                  clear HA HN
                  go_wp2
                  go_round
                  case rel => exact ⟨j + 1, by omega, by go_num, HA2⟩
                  case measure => simp [intOf]; omega
            · obtain rfl : j = s.size := by omega
              have HE : Hid (true = pgOk k s) := by
                have := hall.out
                rw [← hlen, List.take_length] at this
                show _ = _
                rw [HT.out, this]
              go_wp2
              go_ret
              exact ⟨congrArg (fun b => Ending.returned (.bool b)) HE.out, B0.out⟩
    · have HE : Hid (false = pgOk k s) := by show _ = _; rw [HR.out, decide_eq_false h13]; rfl
      rw [decide_eq_false h13] at hin
      go_wp2_with fail
      refine (hin _).mono ?_
      rintro e w1 ⟨rfl, rfl⟩
      go_wp2
      go_ret
      exact ⟨congrArg (fun b => Ending.returned (.bool b)) HE.out, B0.out⟩
end Go.Proofs.Ytdahfhkeeemdiaa
