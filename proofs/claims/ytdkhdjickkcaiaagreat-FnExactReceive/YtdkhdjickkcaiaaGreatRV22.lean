/-
  The program's stop, and its Stop.
  The specification's copy of a replica.
  What stays true of replicas, whatever they receive.
  How great the replicas are that both sides answer.
  Regions that draw their order: slots of any numbers; operations that are guarded away.
  What a call answers that answers a struct and more; a struct read within a region.
-/
import Derived.Test.YtdkhdjickkcaiaaGreatRVS
import Derived.Test.YtdkhdjickkcaiaaGreatRV21
import Derived.Test.YtdkhdjickkcaiaaGreatRV20
import Derived.Test.YtdkhdjickkcaiaaGreatRV09
import Derived.Test.YtdkhdjickkcaiaaGreatRV17
import Derived.Test.YtdkhdjickkcaiaaGreatRV13
set_option linter.unusedVariables false
set_option linter.unusedSimpArgs false
set_option maxRecDepth 100000
set_option maxHeartbeats 64000000
namespace Go.Proofs.YtdkhdjickkcaiaaGreat.Rl
open Go.RowKit Go.Sort Go.Shelf

theorem wpList_ldR {ops : Array Oper} {rest : List Oper} {o : Oper} {a : Act} {w : World} {Q : Exit → Act → World → Prop} (hgd : o.guard = none) (x : Operand) (ho : o.op = .load 28 x) (b : Nat) (hx : a.eval x = .pointer (some ⟨b, 0, none⟩)) {vs : Array Value} (hB : Bx w b 28 vs) (hs : vs.size = 10)
  (h : wpList Tryz.prog ops Q rest (a.put o.dst (.agg vs)) w) : wpList Tryz.prog ops Q (o :: rest) a w :=
 wpList_load_row hgd _ x ho b hx _ vs (0, 0) _ hB Tryz.underlying28 rfl (by rw [Tryz.rszR, hs]) h
theorem wpList_stR {ops : Array Oper} {rest : List Oper} {o : Oper} {a : Act} {w : World} {Q : Exit → Act → World → Prop} (hgd : o.guard = none) (hd : o.dst = none) (x y : Operand) (ho : o.op = .store 28 x y) (b : Nat) (vs : Array Value) (hx : a.eval x = .pointer (some ⟨b, 0, none⟩)) (hy : a.eval y = .agg vs) {old : Array Value} (hB : Bx w b 28 old) (hs : old.size = 10) (hv : vs.size = 10)
  (h1 : vs.all (·.oneCell') = true) (h : ∀ W, Bx W b 28 vs → ChS (fun k => k = b) w W → wpList Tryz.prog ops Q rest a W) : wpList Tryz.prog ops Q (o :: rest) a w :=
 wpList_store_row hgd _ x y ho b vs hx hy _ old hB (by rw [Tryz.rszR, hv]) (by rw [hs, hv]) h1 (by
  rw [hd]
  exact h _ (setRow_heap w b _ _ _ _ hB) ⟨rfl, rfl, rfl, by simp [World.setRow], fun k _ hk => setRow_other w b k _ hk⟩)
theorem rpC_one {w : World} {u : Rv} {r : Rp} (h : RpGot w u r) : (rpC r u).all (·.oneCell') = true := by
 obtain ⟨la, lc, oa, oc, ca, cc, ta, tc, T, rfl⟩ := h.form
 simp [rpC, Value.oneCell']
theorem rising_len : ∀ (l : List Int) (lo p : Int), l.Pairwise (· < ·) → (∀ x ∈ l, lo ≤ x ∧ x < p) → l.length ≤ (p - lo).toNat
 | [], _, _, _, _ => Nat.zero_le _
 | x :: l, lo, p, h, hx => by
  obtain ⟨h1, h2⟩ := List.pairwise_cons.1 h
  have h3 := hx x (by simp)
  have := rising_len l (x + 1) p h2 (fun y hy => ⟨by have := h1 y hy; omega, (hx y (by simp [hy])).2⟩)
  simp only [List.length_cons]
  omega
theorem RpOk.ok5 {r : Rp} (h : RpOk r) : r.ok.length ≤ 5 := by
 by_cases hl : leads r
 ·
  have := (h.ok1 hl.1 hl.2).1
  rcases h.p with e | e | e <;> omega
 ·
  rw [h.ok0 hl]; exact Nat.zero_le _
theorem RpOk.ch5 {r : Rp} (h : RpOk r) : r.ch.length ≤ 5 := by
 cases hn : r.n with
 | true => rw [(h.ch0 hn).1]; exact Nat.zero_le _
 | false =>
  obtain ⟨_, h2, h3⟩ := h.ch1 hn
  have := rising_len r.ch 0 r.p h2 h3
  rcases h.p with e | e | e <;> omega
theorem RpOk.few {r : Rp} (h : RpOk r) : r.ok.length ≤ 1000 ∧ r.ch.length ≤ 1000 := ⟨Nat.le_trans h.ok5 (by decide), Nat.le_trans h.ch5 (by decide)⟩
def zR : Array Value := #[.int .i64 0, .int .i64 0, .int .i64 0, .bool false, .int .i64 0, .slice none 0 0, .int .i64 0, .slice none 0 0, .slice none 0 0, .slice none 0 0]
theorem zR_one : zR.all (·.oneCell') = true := by simp [zR, Value.oneCell']
open Go.RowKit Go.Sort Go.Shelf

theorem MsOwn.off {w w' : World} {B : Nat} {v : Value} {T : List Mx} {L : List Ms} (h : MsOwn w B v T L) (hk : ∀ k, B ≤ k → k < w.heap.size → w'.heap[k]? = w.heap[k]?) : MsOwn w' B v T L :=
 ⟨OwnsE.off h.row (fun k hk' => hk k (h.row.from k hk') (h.row.under k hk')), h.logs.same hk, h.ap, h.is⟩
def RpNew (r : Rp) (w : World) (e : Ending) (w' : World) : Prop := ∃ u', e = .returned (rpA r u') ∧ RpOw w' w.heap.size u' r ∧ OwnsX w' w.heap.size u'.l r.l ∧ RpAp u' ∧ Below w.heap.size w w'
theorem specCpR (r : Rp) (u : Rv) (w : World) (h : RpGot w u r) (hf : Fit r) : Calls Tryz.prog 50 #[rpA r u] w fun e w' => RpNew r w e w' := by
 obtain ⟨la, lc, oa, oc, ca, cc, ta, tc, T, rfl⟩ := h.form
 have htl : r.te.length = T.length := h.tlen.symm
 have hn5 : T.length ≤ 1048576 := by rw [← htl]; exact hf.te.1
 rw [htl] at h ⊢
 have HG : Hid (RpGot w ⟨.slice la r.l.length lc, .slice oa r.ok.length oc, .slice ca r.ch.length cc, .slice ta T.length tc, T⟩ r) := h
 have HF : Hid (Fit r) := hf
 have HN5 : Hid (T.length ≤ 1048576) := hn5
 obtain ⟨b, hb⟩ : ∃ b, b = w.heap.size := ⟨_, rfl⟩
 have HB : Hid (b = w.heap.size) := hb
 obtain ⟨w1, hw1⟩ : ∃ w1, w1 = (w.alloc (.cells #[.int .i64 r.id, .int .i64 r.p, .int .i64 r.v, .bool r.n, .int .i64 r.la, .slice la r.l.length lc, .int .i64 r.c, .slice oa r.ok.length oc, .slice ca r.ch.length cc, .slice ta T.length tc] 28)).alloc (.cells #[.int .i64 0, .int .i64 0, .int .i64 0, .bool false, .int .i64 0, .slice none 0 0, .int .i64 0, .slice none 0 0, .slice none 0 0, .slice none 0 0] 28) := ⟨_, rfl⟩
 have HX : Hid (Bx w1 b 28 #[.int .i64 r.id, .int .i64 r.p, .int .i64 r.v, .bool r.n, .int .i64 r.la, .slice la r.l.length lc, .int .i64 r.c, .slice oa r.ok.length oc, .slice ca r.ch.length cc, .slice ta T.length tc]) := hH_ (by rw [hw1, hb]; exact Bx.alloc (Bx.new _ _ _) _)
 have ZB : Hid (Bx w1 (b + 1) 28 zR) := hH_ (by rw [hw1, hb]; exact Bx.at _ _ (by simp))
 have BB : Hid (Below w.heap.size w w1) := hH_ (by rw [hw1]; exact ((Below.refl _ w).alloc (Nat.le_refl _) _).alloc (by simp) _)
 have Z1 : Hid (w1.heap.size = b + 2) := (show _ = _ by rw [hw1, hb]; simp)
 have jt := fun W hW => specTxs (.slice la r.l.length lc) r.l W (HG.out.l.kept hW) hf.l.1
 unfold rpA
 simp only
 clear h hf htl hn5
 go_enter Tryz.func50, Tryz.ntmps50
 go_upto_region 1 with fail
 rw [← hb, ← hw1]
 clear hw1 hb
 have qq := HX.out.cell 5
 go_wp2_with fail
 refine (jt _ BB.out).mono ?_
 rintro e w2 ⟨v2, rfl, ho, hbz⟩
 obtain ⟨a2, c2, rfl, _⟩ := ho.form
 have UL : Hid (∀ k, (Value.slice a2 r.l.length c2).ownBlock = some k → w1.heap.size ≤ k ∧ k < w2.heap.size) := hH_ (fun k hk => ⟨ho.from k hk, ho.under k hk⟩)
 replace HX := hH_ (HX.out.kept hbz)
 replace ZB := hH_ (ZB.out.kept hbz)
 replace BB := hH_ (BB.out.trans (hbz.mono BB.out.size))
 have Zw2 : Hid (w1.heap.size ≤ w2.heap.size) := hH_ (hbz.size)
 have OL : Hid (OwnsX w2 w1.heap.size (.slice a2 r.l.length c2) r.l) := hH_ (ho)
 clear ho hbz jt qq
 go_upto_region 2 with (refine wpList_put1 rfl rfl _ _ _ rfl b 5 (.slice a2 r.l.length c2) rfl rfl Tryz.rszS rfl HX.out (show 5 < 10 by decide) ?_; generalize hw : w2.setCell ⟨b, 5, none⟩ (.slice a2 r.l.length c2) = w3)
 have SW : Hid (ChS (fun k => k = b) w2 w3) := hH_ (by rw [← hw]; exact (ChS.refl _ _).set _ _ rfl)
 have SZ : w3.heap.size = w2.heap.size := by rw [← hw]; simp
 replace HX : Hid (Bx w3 b 28 #[.int .i64 r.id, .int .i64 r.p, .int .i64 r.v, .bool r.n, .int .i64 r.la, .slice a2 r.l.length c2, .int .i64 r.c, .slice oa r.ok.length oc, .slice ca r.ch.length cc, .slice ta T.length tc]) := hH_ (by rw [← hw]; exact Bx.put HX.out 5 _)
 replace ZB : Hid (Bx w3 (b + 1) 28 zR) := hH_ ((SW.out.block _ (Bx.lt ZB.out) (by have:=HB.out;have:=Z1.out;have:=Zw2.out;omega)).trans ZB.out)
 replace OL : Hid (OwnsX w3 w1.heap.size (.slice a2 r.l.length c2) r.l) := hH_ (OwnsE.off OL.out (fun k hk => SW.out.block k (OL.out.under k hk) (by have := OL.out.from k hk; have:=HB.out;have:=Z1.out;have:=Zw2.out;omega)))
 replace BB : Hid (Below w.heap.size w w3) := hH_ (SW.out.below BB.out BB.out.size (fun k hk => by have:=HB.out;have:=Z1.out;have:=Zw2.out;omega))
 have Zw3 : Hid (w3.heap.size = w2.heap.size) := SZ
 clear hw SW SZ
 have SN : Hid (Sls intE (w3.alloc (.cells #[] 2)) (.slice oa r.ok.length oc) r.ok) := hH_ ((HG.out.ok.kept (by exact BB.out)).kept ((Below.refl _ _).alloc (Nat.le_refl _) _))
 have ON : Hid (OwnsN (w3.alloc (.cells #[] 2)) w3.heap.size (.slice (some ⟨w3.heap.size, 0, none⟩) 0 0) []) := hH_ (OwnsE.born w3)
 have qq := (HX.out.alloc (.cells #[] 2)).cell 7
 have hfl := HF.out.ok
 go_upto_region 3 with (first
  | (at_builtin
     refine wpList_rowS (E := intE) _ rfl (.tmp 9) (.tmp 11) 25 2 (.int .i64 0) 8 Tryz.underlying25 Tryz.infoN2 rfl rfl w3.heap.size (.slice (some ⟨w3.heap.size, 0, none⟩) 0 0) [] rfl ON.out (.slice oa r.ok.length oc) r.ok rfl SN.out (by simp only [List.length_nil]; unfold maxLen; omega) (by simp only [List.length_nil]; omega) (by simp) ?_
     intro v w4 ho hg _
     rw [List.nil_append] at ho
     have hbz : Below w3.heap.size w3 w4 := ((Below.refl _ w3).alloc (Nat.le_refl _) _).grown hg (by simp) (fun k hk => by simp [Value.ownBlock] at hk; omega)
     obtain ⟨a3, c3, rfl, _⟩ := ho.form
     have OO : Hid (OwnsN w4 w3.heap.size (.slice a3 r.ok.length c3) r.ok) := ho
     have HBZ : Hid (Below w3.heap.size w3 w4) := hbz
     have HX2 := hH_ (HX.out.kept hbz)
     clear ho hg hbz SN ON qq hfl)
  | (refine wpList_put1 rfl rfl _ (.tmp 13) (.tmp 12) rfl b 7 (.slice a3 r.ok.length c3) rfl rfl Tryz.rszI rfl HX2.out (show 7 < 10 by decide) ?_; generalize hw : w4.setCell ⟨b, 7, none⟩ (.slice a3 r.ok.length c3) = w5))
 have hbz := HBZ.out
 clear HX2 HBZ
 have UK : Hid (∀ k, (Value.slice a3 r.ok.length c3).ownBlock = some k → w3.heap.size ≤ k ∧ k < w4.heap.size) := hH_ (fun k hk => ⟨OO.out.from k hk, OO.out.under k hk⟩)
 replace HX := hH_ (HX.out.kept hbz)
 replace ZB := hH_ (ZB.out.kept hbz)
 replace OL := hH_ (OL.out.kept hbz)
 replace BB := hH_ (BB.out.trans (hbz.mono BB.out.size))
 have Zw4 : Hid (w3.heap.size ≤ w4.heap.size) := hH_ (hbz.size)
 have OK : Hid (OwnsN w4 w3.heap.size (.slice a3 r.ok.length c3) r.ok) := hH_ (OO.out)
 clear OO hbz
 have SW : Hid (ChS (fun k => k = b) w4 w5) := hH_ (by rw [← hw]; exact (ChS.refl _ _).set _ _ rfl)
 have SZ : w5.heap.size = w4.heap.size := by rw [← hw]; simp
 replace HX : Hid (Bx w5 b 28 #[.int .i64 r.id, .int .i64 r.p, .int .i64 r.v, .bool r.n, .int .i64 r.la, .slice a2 r.l.length c2, .int .i64 r.c, .slice a3 r.ok.length c3, .slice ca r.ch.length cc, .slice ta T.length tc]) := hH_ (by rw [← hw]; exact Bx.put HX.out 7 _)
 replace ZB : Hid (Bx w5 (b + 1) 28 zR) := hH_ ((SW.out.block _ (Bx.lt ZB.out) (by have:=HB.out;have:=Z1.out;have:=Zw2.out;have:=Zw3.out;have:=Zw4.out;omega)).trans ZB.out)
 replace OL : Hid (OwnsX w5 w1.heap.size (.slice a2 r.l.length c2) r.l) := hH_ (OwnsE.off OL.out (fun k hk => SW.out.block k (OL.out.under k hk) (by have := OL.out.from k hk; have:=HB.out;have:=Z1.out;have:=Zw2.out;have:=Zw3.out;have:=Zw4.out;omega)))
 replace OK : Hid (OwnsN w5 w3.heap.size (.slice a3 r.ok.length c3) r.ok) := hH_ (OwnsE.off OK.out (fun k hk => SW.out.block k (OK.out.under k hk) (by have := OK.out.from k hk; have:=HB.out;have:=Z1.out;have:=Zw2.out;have:=Zw3.out;have:=Zw4.out;omega)))
 replace BB : Hid (Below w.heap.size w w5) := hH_ (SW.out.below BB.out BB.out.size (fun k hk => by have:=HB.out;have:=Z1.out;have:=Zw2.out;have:=Zw3.out;have:=Zw4.out;omega))
 have Zw5 : Hid (w5.heap.size = w4.heap.size) := SZ
 clear hw SW SZ
 have SN : Hid (Sls intE (w5.alloc (.cells #[] 2)) (.slice ca r.ch.length cc) r.ch) := hH_ ((HG.out.ch.kept (by exact BB.out)).kept ((Below.refl _ _).alloc (Nat.le_refl _) _))
 have ON : Hid (OwnsN (w5.alloc (.cells #[] 2)) w5.heap.size (.slice (some ⟨w5.heap.size, 0, none⟩) 0 0) []) := hH_ (OwnsE.born w5)
 have qq := (HX.out.alloc (.cells #[] 2)).cell 8
 have hfl := HF.out.ch
 go_upto_region 4 with (first
  | (at_builtin
     refine wpList_rowS (E := intE) _ rfl (.tmp 14) (.tmp 16) 25 2 (.int .i64 0) 8 Tryz.underlying25 Tryz.infoN2 rfl rfl w5.heap.size (.slice (some ⟨w5.heap.size, 0, none⟩) 0 0) [] rfl ON.out (.slice ca r.ch.length cc) r.ch rfl SN.out (by simp only [List.length_nil]; unfold maxLen; omega) (by simp only [List.length_nil]; omega) (by simp) ?_
     intro v w6 ho hg _
     rw [List.nil_append] at ho
     have hbz : Below w5.heap.size w5 w6 := ((Below.refl _ w5).alloc (Nat.le_refl _) _).grown hg (by simp) (fun k hk => by simp [Value.ownBlock] at hk; omega)
     obtain ⟨a4, c4, rfl, _⟩ := ho.form
     have OO : Hid (OwnsN w6 w5.heap.size (.slice a4 r.ch.length c4) r.ch) := ho
     have HBZ : Hid (Below w5.heap.size w5 w6) := hbz
     have HX2 := hH_ (HX.out.kept hbz)
     clear ho hg hbz SN ON qq hfl)
  | (refine wpList_put1 rfl rfl _ (.tmp 18) (.tmp 17) rfl b 8 (.slice a4 r.ch.length c4) rfl rfl Tryz.rszI rfl HX2.out (show 8 < 10 by decide) ?_; generalize hw : w6.setCell ⟨b, 8, none⟩ (.slice a4 r.ch.length c4) = w7))
 have hbz := HBZ.out
 clear HX2 HBZ
 have UC : Hid (∀ k, (Value.slice a4 r.ch.length c4).ownBlock = some k → w5.heap.size ≤ k ∧ k < w6.heap.size) := hH_ (fun k hk => ⟨OO.out.from k hk, OO.out.under k hk⟩)
 replace HX := hH_ (HX.out.kept hbz)
 replace ZB := hH_ (ZB.out.kept hbz)
 replace OL := hH_ (OL.out.kept hbz)
 replace OK := hH_ (OK.out.kept hbz)
 replace BB := hH_ (BB.out.trans (hbz.mono BB.out.size))
 have Zw6 : Hid (w5.heap.size ≤ w6.heap.size) := hH_ (hbz.size)
 have OC : Hid (OwnsN w6 w5.heap.size (.slice a4 r.ch.length c4) r.ch) := hH_ (OO.out)
 clear OO hbz
 have SW : Hid (ChS (fun k => k = b) w6 w7) := hH_ (by rw [← hw]; exact (ChS.refl _ _).set _ _ rfl)
 have SZ : w7.heap.size = w6.heap.size := by rw [← hw]; simp
 replace HX : Hid (Bx w7 b 28 #[.int .i64 r.id, .int .i64 r.p, .int .i64 r.v, .bool r.n, .int .i64 r.la, .slice a2 r.l.length c2, .int .i64 r.c, .slice a3 r.ok.length c3, .slice a4 r.ch.length c4, .slice ta T.length tc]) := hH_ (by rw [← hw]; exact Bx.put HX.out 8 _)
 replace ZB : Hid (Bx w7 (b + 1) 28 zR) := hH_ ((SW.out.block _ (Bx.lt ZB.out) (by have:=HB.out;have:=Z1.out;have:=Zw2.out;have:=Zw3.out;have:=Zw4.out;have:=Zw5.out;have:=Zw6.out;omega)).trans ZB.out)
 replace OL : Hid (OwnsX w7 w1.heap.size (.slice a2 r.l.length c2) r.l) := hH_ (OwnsE.off OL.out (fun k hk => SW.out.block k (OL.out.under k hk) (by have := OL.out.from k hk; have:=HB.out;have:=Z1.out;have:=Zw2.out;have:=Zw3.out;have:=Zw4.out;have:=Zw5.out;have:=Zw6.out;omega)))
 replace OK : Hid (OwnsN w7 w3.heap.size (.slice a3 r.ok.length c3) r.ok) := hH_ (OwnsE.off OK.out (fun k hk => SW.out.block k (OK.out.under k hk) (by have := OK.out.from k hk; have:=HB.out;have:=Z1.out;have:=Zw2.out;have:=Zw3.out;have:=Zw4.out;have:=Zw5.out;have:=Zw6.out;omega)))
 replace OC : Hid (OwnsN w7 w5.heap.size (.slice a4 r.ch.length c4) r.ch) := hH_ (OwnsE.off OC.out (fun k hk => SW.out.block k (OC.out.under k hk) (by have := OC.out.from k hk; have:=HB.out;have:=Z1.out;have:=Zw2.out;have:=Zw3.out;have:=Zw4.out;have:=Zw5.out;have:=Zw6.out;omega)))
 replace BB : Hid (Below w.heap.size w w7) := hH_ (SW.out.below BB.out BB.out.size (fun k hk => by have:=HB.out;have:=Z1.out;have:=Zw2.out;have:=Zw3.out;have:=Zw4.out;have:=Zw5.out;have:=Zw6.out;omega))
 have Zw7 : Hid (w7.heap.size = w6.heap.size) := SZ
 clear hw SW SZ
 have hbz : Below w7.heap.size w7 (w7.alloc (.cells #[] 30)) := (Below.refl _ w7).alloc (Nat.le_refl _) _
 generalize hw8 : w7.alloc (.cells #[] 30) = w8 at hbz
 have OM : Hid (MsOwn w8 w7.heap.size (.slice (some ⟨w7.heap.size, 0, none⟩) 0 0) [] []) := hH_ (by rw [← hw8]; exact MsOwn.born w7)
 replace HX := hH_ (HX.out.kept hbz)
 replace ZB := hH_ (ZB.out.kept hbz)
 replace OL := hH_ (OL.out.kept hbz)
 replace OK := hH_ (OK.out.kept hbz)
 replace OC := hH_ (OC.out.kept hbz)
 replace BB := hH_ (BB.out.trans (hbz.mono BB.out.size))
 have Zw8 : Hid (w7.heap.size ≤ w8.heap.size) := hH_ (hbz.size)
 clear hbz
 go_wp2_with fail
 try rw [hw8]
 clear hw8
 go_loopw [3, 4] (fun v i wr => ∃ (k : Nat) (M : List Mx), k ≤ T.length ∧ i = .int .i64 k ∧ Hid (MsOwn wr w7.heap.size v M (r.te.take k)) ∧ Hid (Bx wr b 28 #[.int .i64 r.id, .int .i64 r.p, .int .i64 r.v, .bool r.n, .int .i64 r.la, .slice a2 r.l.length c2, .int .i64 r.c, .slice a3 r.ok.length c3, .slice a4 r.ch.length c4, .slice ta T.length tc]) ∧ Hid (Bx wr (b + 1) 28 zR) ∧ Hid (OwnsX wr w1.heap.size (.slice a2 r.l.length c2) r.l) ∧ Hid (OwnsN wr w3.heap.size (.slice a3 r.ok.length c3) r.ok) ∧ Hid (OwnsN wr w5.heap.size (.slice a4 r.ch.length c4) r.ch) ∧ Hid (Below w.heap.size w wr) ∧ Hid (w8.heap.size ≤ wr.heap.size)) (fun _ i _ => T.length - (intOf i).toNat)
 case atStart => exact ⟨0, [], Nat.zero_le _, rfl, OM, HX, ZB, OL, OK, OC, BB, (show Hid _ from Nat.le_refl _)⟩
 case round =>
  clear OM HX ZB OL OK OC BB
  obtain ⟨k, M, hk, rfl, OM, HX, ZB, OL, OK, OC, BB, ZR⟩ := hrel
  obtain ⟨va, vc, hvv, _⟩ := OM.out.row.form
  subst hvv
  have hn5 := HN5.out
  have q9 := HX.out.cell 9
  change wr.cell? ⟨b, 9, none⟩ = some (.slice ta T.length tc) at q9
  by_cases hlt : k < T.length
  ·
   have HA2 : TeGot wr (.slice ta T.length tc) T := HG.out.te.kept (BB.out.mono (Nat.le_refl _))
   obtain ⟨g, q, hta⟩ := mxAt HA2.1 (by omega)
   rw [hta] at HA2
   have CK := mxCells HA2.1 hlt
   have rx := HA2.2 T[k] (List.getElem_mem hlt)
   have htk : k < r.te.length := by rw [← HG.out.t, List.length_map]; exact hlt
   have hte : r.te[k] = T[k].m := by
    have := HG.out.t
    simp only [← this, List.getElem_map]
   have sx : T[k].m.l.length ≤ 1048576 := by rw [← hte]; exact (HF.out.te.2 _ (List.getElem_mem htk)).1
   have hnx : Hid (r.te.take (k + 1) = r.te.take k ++ [T[k].m]) := (show _ = _ by rw [List.take_succ_eq_append_getElem htk, hte])
   generalize T[k] = x at CK rx sx hnx
   obtain ⟨mx, pax, pcx⟩ := x
   have ht := fun W (hW : Below wr.heap.size wr W) => specMcp mx _ W (MsGot.kept rx hW) sx
   unfold msA at ht
   unfold Mx.u at CK ht
   simp only at CK ht hnx
   obtain ⟨y0, y1, y2, y3, y4, y5, y6⟩ := CK
   have hlen : M.length = k := by have := OM.out.len; rw [List.length_take, Nat.min_eq_left (by omega)] at this; exact this
   have HLN : Hid (M.length = k) := hlen
   clear hlen rx sx HA2 hte htk
   go_wp2_with fail
   refine (ht _ (Below.refl _ _)).mono ?_
   rintro e w9 ⟨v9, rfl, hu, hbz⟩
   obtain ⟨pa, pc, rfl, _⟩ := hu.form
   have HU : Hid (OwnsX w9 wr.heap.size (.slice pa mx.l.length pc) mx.l) := hu
   have HC1 : Hid (∀ y ∈ M, ∀ q, y.u.ownBlock = some q → q < wr.heap.size) := hH_ (fun y hy q hq => (OM.out.logs.l y hy).under q hq)
   have HC2 : Hid (∀ q, (Value.slice va M.length vc).ownBlock = some q → q < wr.heap.size) := hH_ (fun q hq => OM.out.row.under q hq)
   have OM9 := hH_ (OM.out.kept hbz)
   replace HX := hH_ (HX.out.kept hbz)
   replace ZB := hH_ (ZB.out.kept hbz)
   replace OL := hH_ (OL.out.kept hbz)
   replace OK := hH_ (OK.out.kept hbz)
   replace OC := hH_ (OC.out.kept hbz)
   replace BB := hH_ (BB.out.trans (hbz.mono BB.out.size))
   have Zw9 : Hid (wr.heap.size ≤ w9.heap.size) := hH_ (hbz.size)
   clear OM hu hbz ht y0 y1 y2 y3 y4 y5 y6 q9 hta
   have hz9 := Zw9.out
   have hzr := ZR.out
   have hz8 := Zw8.out
   go_wp2_with (
    at_builtin
    refine wpList_pushM w9 rfl (.tmp 27) (.tmp 34) rfl w7.heap.size (.slice va M.length vc) M _ ⟨mx, pa, pc⟩ (by simp [Act.eval, Act.put]) OM9.out (HU.out.has.low (by omega)) wr.heap.size HC1.out HC2.out HU.out.from (by simp [Act.eval, Act.put]) (by have:=HLN.out;omega) (by omega) ?_
    intro v' w10 ho3 hg3)
   have hne : ∀ k, (Value.slice va M.length vc).ownBlock = some k → w7.heap.size ≤ k := OM9.out.row.from
   have SW : Hid (ChS (fun k => w7.heap.size ≤ k) w9 w10) := hH_ (ChS.grown hg3 (fun k hk => hne k hk))
   replace HX : Hid (Bx w10 b 28 #[.int .i64 r.id, .int .i64 r.p, .int .i64 r.v, .bool r.n, .int .i64 r.la, .slice a2 r.l.length c2, .int .i64 r.c, .slice a3 r.ok.length c3, .slice a4 r.ch.length c4, .slice ta T.length tc]) := hH_ ((SW.out.block _ (Bx.lt HX.out) (by have:=HB.out;have:=Z1.out;have:=Zw2.out;have:=Zw3.out;have:=Zw4.out;have:=Zw5.out;have:=Zw6.out;have:=Zw7.out;have:=Zw8.out;have:=ZR.out;have:=Zw9.out;omega)).trans HX.out)
   replace ZB : Hid (Bx w10 (b + 1) 28 zR) := hH_ ((SW.out.block _ (Bx.lt ZB.out) (by have:=HB.out;have:=Z1.out;have:=Zw2.out;have:=Zw3.out;have:=Zw4.out;have:=Zw5.out;have:=Zw6.out;have:=Zw7.out;have:=Zw8.out;have:=ZR.out;have:=Zw9.out;omega)).trans ZB.out)
   replace OL : Hid (OwnsX w10 w1.heap.size (.slice a2 r.l.length c2) r.l) := hH_ (OwnsE.off OL.out (fun k hk => SW.out.block k (OL.out.under k hk) (by have := UL.out k hk; have:=HB.out;have:=Z1.out;have:=Zw2.out;have:=Zw3.out;have:=Zw4.out;have:=Zw5.out;have:=Zw6.out;have:=Zw7.out;have:=Zw8.out;have:=ZR.out;have:=Zw9.out;omega)))
   replace OK : Hid (OwnsN w10 w3.heap.size (.slice a3 r.ok.length c3) r.ok) := hH_ (OwnsE.off OK.out (fun k hk => SW.out.block k (OK.out.under k hk) (by have := UK.out k hk; have:=HB.out;have:=Z1.out;have:=Zw2.out;have:=Zw3.out;have:=Zw4.out;have:=Zw5.out;have:=Zw6.out;have:=Zw7.out;have:=Zw8.out;have:=ZR.out;have:=Zw9.out;omega)))
   replace OC : Hid (OwnsN w10 w5.heap.size (.slice a4 r.ch.length c4) r.ch) := hH_ (OwnsE.off OC.out (fun k hk => SW.out.block k (OC.out.under k hk) (by have := UC.out k hk; have:=HB.out;have:=Z1.out;have:=Zw2.out;have:=Zw3.out;have:=Zw4.out;have:=Zw5.out;have:=Zw6.out;have:=Zw7.out;have:=Zw8.out;have:=ZR.out;have:=Zw9.out;omega)))
   replace BB : Hid (Below w.heap.size w w10) := hH_ (SW.out.below BB.out BB.out.size (fun k hk => by have:=HB.out;have:=Z1.out;have:=Zw2.out;have:=Zw3.out;have:=Zw4.out;have:=Zw5.out;have:=Zw6.out;have:=Zw7.out;have:=Zw8.out;have:=ZR.out;have:=Zw9.out;omega))
   have OM10 : Hid (MsOwn w10 w7.heap.size v' (M ++ [⟨mx, pa, pc⟩]) (r.te.take (k + 1))) := hH_ (by rw [hnx.out]; exact ho3)
   have ZR2 : Hid (w8.heap.size ≤ w10.heap.size) := (show _ ≤ _ by have := SW.out.size; omega)
   clear ho3 hg3 hne SW OM9
   go_roundw
   case rel => exact ⟨k + 1, _, by omega, by go_num, OM10, HX, ZB, OL, OK, OC, BB, ZR2⟩
   case measure => simp [intOf]; omega
  ·
   obtain rfl : k = T.length := by omega
   have htl : T.length = r.te.length := HG.out.tlen
   have hML : M.length = T.length := by have := OM.out.len; rw [List.length_take, htl, Nat.min_self, ← htl] at this; exact this
   rw [htl, List.take_length] at OM
   have HML : Hid (M.length = T.length) := hML
   clear hML
   go_upto_region 10 with (refine wpList_put1 rfl rfl _ _ _ rfl b 9 (.slice va M.length vc) rfl rfl Tryz.rszM rfl HX.out (show 9 < 10 by decide) ?_; generalize hw : wr.setCell ⟨b, 9, none⟩ (.slice va M.length vc) = w11)
   have SW : Hid (ChS (fun k => k = b) wr w11) := hH_ (by rw [← hw]; exact (ChS.refl _ _).set _ _ rfl)
   have SZ : w11.heap.size = wr.heap.size := by rw [← hw]; simp
   replace HX : Hid (Bx w11 b 28 #[.int .i64 r.id, .int .i64 r.p, .int .i64 r.v, .bool r.n, .int .i64 r.la, .slice a2 r.l.length c2, .int .i64 r.c, .slice a3 r.ok.length c3, .slice a4 r.ch.length c4, .slice va M.length vc]) := hH_ (by rw [← hw]; exact Bx.put HX.out 9 _)
   replace ZB : Hid (Bx w11 (b + 1) 28 zR) := hH_ ((SW.out.block _ (Bx.lt ZB.out) (by have:=HB.out;have:=Z1.out;have:=Zw2.out;have:=Zw3.out;have:=Zw4.out;have:=Zw5.out;have:=Zw6.out;have:=Zw7.out;have:=Zw8.out;have:=ZR.out;omega)).trans ZB.out)
   replace OL : Hid (OwnsX w11 w1.heap.size (.slice a2 r.l.length c2) r.l) := hH_ (OwnsE.off OL.out (fun k hk => SW.out.block k (OL.out.under k hk) (by have := OL.out.from k hk; have:=HB.out;have:=Z1.out;have:=Zw2.out;have:=Zw3.out;have:=Zw4.out;have:=Zw5.out;have:=Zw6.out;have:=Zw7.out;have:=Zw8.out;have:=ZR.out;omega)))
   replace OK : Hid (OwnsN w11 w3.heap.size (.slice a3 r.ok.length c3) r.ok) := hH_ (OwnsE.off OK.out (fun k hk => SW.out.block k (OK.out.under k hk) (by have := OK.out.from k hk; have:=HB.out;have:=Z1.out;have:=Zw2.out;have:=Zw3.out;have:=Zw4.out;have:=Zw5.out;have:=Zw6.out;have:=Zw7.out;have:=Zw8.out;have:=ZR.out;omega)))
   replace OC : Hid (OwnsN w11 w5.heap.size (.slice a4 r.ch.length c4) r.ch) := hH_ (OwnsE.off OC.out (fun k hk => SW.out.block k (OC.out.under k hk) (by have := OC.out.from k hk; have:=HB.out;have:=Z1.out;have:=Zw2.out;have:=Zw3.out;have:=Zw4.out;have:=Zw5.out;have:=Zw6.out;have:=Zw7.out;have:=Zw8.out;have:=ZR.out;omega)))
   replace OM : Hid (MsOwn w11 w7.heap.size (.slice va M.length vc) M r.te) := hH_ (OM.out.off (fun k h1 h2 => SW.out.block k h2 (by have:=HB.out;have:=Z1.out;have:=Zw2.out;have:=Zw3.out;have:=Zw4.out;have:=Zw5.out;have:=Zw6.out;have:=Zw7.out;have:=Zw8.out;have:=ZR.out;omega)))
   replace BB : Hid (Below w.heap.size w w11) := hH_ (SW.out.below BB.out BB.out.size (fun k hk => by have:=HB.out;have:=Z1.out;have:=Zw2.out;have:=Zw3.out;have:=Zw4.out;have:=Zw5.out;have:=Zw6.out;have:=Zw7.out;have:=Zw8.out;have:=ZR.out;omega))
   have Zw11 : Hid (w11.heap.size = wr.heap.size) := SZ
   clear hw SW SZ
   go_wp2_with (first | (refine wpList_ldR rfl (.tmp 1) rfl b rfl HX.out rfl ?_) | (refine wpList_stR rfl rfl (.tmp 2) (.tmp 38) rfl (b + 1) #[.int .i64 r.id, .int .i64 r.p, .int .i64 r.v, .bool r.n, .int .i64 r.la, .slice a2 r.l.length c2, .int .i64 r.c, .slice a3 r.ok.length c3, .slice a4 r.ch.length c4, .slice va M.length vc] rfl rfl ZB.out rfl rfl (by simp [Value.oneCell']) ?_; intro w12 hz12 hc12))
   have SW : Hid (ChS (fun k => k = b + 1) w11 w12) := hc12
   have HU : Hid (RpOw w12 w.heap.size ⟨.slice a2 r.l.length c2, .slice a3 r.ok.length c3, .slice a4 r.ch.length c4, .slice va M.length vc, M⟩ r) := (show RpOw _ _ _ _ from by
    have z0 := HB.out
    have z1 := Z1.out
    have z2 := Zw2.out
    have z3 := Zw3.out
    have z4 := Zw4.out
    have z5 := Zw5.out
    have z6 := Zw6.out
    have z7 := Zw7.out
    have z8 := Zw8.out
    have z9 := ZR.out
    have z10 := Zw11.out
    exact ⟨((OwnsE.off OL.out (fun k hk => SW.out.block k (OL.out.under k hk) (by have := OL.out.from k hk; omega))).low (by omega)).has, ((OwnsE.off OK.out (fun k hk => SW.out.block k (OK.out.under k hk) (by have := OK.out.from k hk; omega))).low (by omega)).has, (OwnsE.off OC.out (fun k hk => SW.out.block k (OC.out.under k hk) (by have := OC.out.from k hk; omega))).low (by omega), OM.out.is, (OwnsE.off OM.out.row (fun k hk => SW.out.block k (OM.out.row.under k hk) (by have := OM.out.row.from k hk; omega))).low (by omega), fun x hx => ((OM.out.logs.l x hx).off (fun k hk => SW.out.block k ((OM.out.logs.l x hx).under k hk) (by have := (OM.out.logs.l x hx).from k hk; omega))).low (by omega)⟩)
   have HL : Hid (OwnsX w12 w.heap.size (.slice a2 r.l.length c2) r.l) := hH_ ((OwnsE.off OL.out (fun k hk => SW.out.block k (OL.out.under k hk) (by have := OL.out.from k hk; have:=HB.out;have:=Z1.out;have:=Zw2.out;have:=Zw3.out;have:=Zw4.out;have:=Zw5.out;have:=Zw6.out;have:=Zw7.out;have:=Zw8.out;have:=ZR.out;have:=Zw11.out;omega))).low (by have:=HB.out;have:=Z1.out;have:=Zw2.out;have:=Zw3.out;have:=Zw4.out;have:=Zw5.out;have:=Zw6.out;have:=Zw7.out;have:=Zw8.out;have:=ZR.out;have:=Zw11.out;omega))
   have B12 : Hid (Below w.heap.size w w12) := hH_ (SW.out.below BB.out BB.out.size (fun k hk => by have:=HB.out;have:=Z1.out;have:=Zw2.out;have:=Zw3.out;have:=Zw4.out;have:=Zw5.out;have:=Zw6.out;have:=Zw7.out;have:=Zw8.out;have:=ZR.out;have:=Zw11.out;omega))
   have HA : Hid (RpAp ⟨.slice a2 r.l.length c2, .slice a3 r.ok.length c3, .slice a4 r.ch.length c4, .slice va M.length vc, M⟩) := (show RpAp _ from by
    have z0 := HB.out
    have z1 := Z1.out
    have z2 := Zw2.out
    have z3 := Zw3.out
    have z4 := Zw4.out
    have z5 := Zw5.out
    have z6 := Zw6.out
    have z7 := Zw7.out
    have z8 := Zw8.out
    have z9 := ZR.out
    have z10 := Zw11.out
    have hM : ∀ x ∈ M, ∀ k, x.u.ownBlock = some k → w7.heap.size ≤ k := fun x hx k hk => (OM.out.logs.l x hx).from k hk
    have hV := OM.out.row.from
    refine RpAp.iff.2 ⟨fun v hv => ?_, fun v hv => ?_, fun v hv => ?_, fun v hv => ?_, OM.out.logs.ap⟩
    ·
     intro k h1 h2
     have := UL.out k h1
     simp only [List.mem_cons, List.mem_map] at hv
     rcases hv with rfl | rfl | rfl | ⟨x, hx, rfl⟩
     ·
      have := UK.out k h2; omega
     ·
      have := UC.out k h2; omega
     ·
      have := hV k h2; omega
     ·
      have := hM x hx k h2; omega
    ·
     intro k h1 h2
     have := UK.out k h1
     simp only [List.mem_cons, List.mem_map] at hv
     rcases hv with rfl | rfl | ⟨x, hx, rfl⟩
     ·
      have := UC.out k h2; omega
     ·
      have := hV k h2; omega
     ·
      have := hM x hx k h2; omega
    ·
     intro k h1 h2
     have := UC.out k h1
     simp only [List.mem_cons, List.mem_map] at hv
     rcases hv with rfl | ⟨x, hx, rfl⟩
     ·
      have := hV k h2; omega
     ·
      have := hM x hx k h2; omega
    ·
     obtain ⟨x, hx, rfl⟩ := List.mem_map.1 hv
     exact OM.out.ap x hx)
   refine bodyPost_ret (v := .agg #[.int .i64 r.id, .int .i64 r.p, .int .i64 r.v, .bool r.n, .int .i64 r.la, .slice a2 r.l.length c2, .int .i64 r.c, .slice a3 r.ok.length c3, .slice a4 r.ch.length c4, .slice va M.length vc]) (results_cell_row (p := 2) (ty := 28) rfl _ _ (b + 1) 28 _ (0, 0) _ rfl hz12 Tryz.underlying28 rfl (by rw [Tryz.rszR]; rfl)) rfl ?_
   exact ⟨_, rfl, HU.out, HL.out, HA.out, B12.out⟩
open Pg

structure Ld (r : Rp) : Prop where
 p : r.p = 1 ∨ r.p = 3 ∨ r.p = 5
 id : 0 ≤ r.id ∧ r.id < r.p
 v : 0 ≤ r.v ∧ r.v ≤ 10000
 l : logB r.l = true
 c : 0 ≤ r.c ∧ r.c ≤ (r.l.length : Int)
 la : r.la = r.v
 n : r.n = true
 ch : r.ch = []
 te : r.te = []
 m : mine r
 ok : (r.ok.length : Int) = r.p
 ok1 : ∀ x ∈ r.ok, 0 ≤ x ∧ x ≤ (r.l.length : Int)
theorem Ld.cntd {r : Rp} (h : Ld r) : RpOk (cntd r) ∧ r.c ≤ (cntd r).c := by
 have hb := cmF_bd (r.ok.set r.id.toNat (r.l.length : Int)) r.p r.c r.l.length h.c.2
 have hid := h.id
 have hok := h.ok
 refine ⟨⟨h.p, h.id, h.v, h.l, ⟨?_, hb.2⟩, ⟨?_, ?_⟩, ⟨fun _ => h.la, fun _ => h.n⟩, fun _ => ⟨h.ch, h.te⟩, fun _ _ => ⟨?_, ?_, ?_⟩, fun hh => absurd ⟨h.n, h.m⟩ hh, fun hh => ?_, fun hh => ?_, fun hh => ?_⟩, hb.1⟩
 ·
  show 0 ≤ cmF _ _ _ _
  have := h.c.1
  omega
 ·
  show 0 ≤ r.la
  rw [h.la]; exact h.v.1
 ·
  show r.la ≤ r.v
  rw [h.la]; exact Int.le_refl _
 ·
  show (((r.ok.set r.id.toNat (r.l.length : Int)).length : Nat) : Int) = r.p
  rw [List.length_set]; exact h.ok
 ·
  show (r.ok.set r.id.toNat (r.l.length : Int))[r.id.toNat]? = some _
  rw [List.getElem?_set_self (by omega)]
  rfl
 ·
  intro x hx
  rcases List.mem_or_eq_of_mem_set hx with hx | hx
  ·
   exact h.ok1 x hx
  ·
   rw [hx]; show 0 ≤ (r.l.length : Int) ∧ (r.l.length : Int) ≤ (r.l.length : Int); omega
 ·
  have := h.n
  exact absurd (show r.n = false from hh) (by rw [this]; simp)
 ·
  have := h.n
  exact absurd (show r.n = false from hh) (by rw [this]; simp)
 ·
  have := h.n
  exact absurd (show r.n = false from hh) (by rw [this]; simp)
theorem RpOk.ld {r : Rp} (h : RpOk r) (hl : leads r) : Ld r :=
 ⟨h.p, h.id, h.v, h.l, h.c, h.n.1 hl.1, hl.1, (h.ch0 hl.1).1, (h.ch0 hl.1).2, hl.2, (h.ok1 hl.1 hl.2).1, (h.ok1 hl.1 hl.2).2.2⟩
theorem ask_ok {r : Rp} {v : Int} (h : RpOk r) (h1 : r.v < v) (h2 : v ≤ 10000) : RpOk (askF r v) := by
 have hv := h.v
 have hla := h.la
 refine ⟨h.p, h.id, ⟨by show 0 ≤ v; omega, h2⟩, h.l, h.c, ⟨hla.1, by show r.la ≤ v; omega⟩, ⟨fun hh => (by cases hh), fun hh => ?_⟩, fun hh => (by cases hh), fun hh => (by cases hh), fun _ => rfl, fun _ => ⟨List.mem_singleton.2 rfl, List.pairwise_singleton _ _, fun x hx => ?_⟩, fun _ _ => rfl, fun _ => ⟨fun m hm => (by cases hm), List.Pairwise.nil⟩⟩
 ·
  have : r.la = v := hh
  omega
 ·
  rw [List.mem_singleton.1 hx]
  exact h.id
theorem putM_mem (m : Ms) : ∀ (l : List Ms) (y : Ms), y ∈ putM m l → y = m ∨ y ∈ l
 | [], y, h => by simp [putM] at h; exact .inl h
 | x :: t, y, h => by
  unfold putM at h
  split at h
  ·
   rcases List.mem_cons.1 h with rfl | h
   ·
    exact .inr (List.mem_cons_self ..)
   ·
    rcases putM_mem m t y h with h | h
    ·
     exact .inl h
    ·
     exact .inr (List.mem_cons_of_mem _ h)
  ·
   split at h
   ·
    rcases List.mem_cons.1 h with rfl | h
    ·
     exact .inl rfl
    ·
     exact .inr (List.mem_cons_of_mem _ h)
   ·
    rcases List.mem_cons.1 h with rfl | h
    ·
     exact .inl rfl
    ·
     exact .inr h
theorem putM_has (m : Ms) : ∀ (l : List Ms), m ∈ putM m l
 | [] => by simp [putM]
 | x :: t => by
  unfold putM
  split
  ·
   exact List.mem_cons_of_mem _ (putM_has m t)
  ·
   split <;> exact List.mem_cons_self ..
theorem putM_ris (m : Ms) : ∀ (l : List Ms), l.Pairwise (fun a b => a.f < b.f) → (putM m l).Pairwise (fun a b => a.f < b.f)
 | [], _ => by simp [putM]
 | x :: t, h => by
  rw [List.pairwise_cons] at h
  unfold putM
  split
  ·
   rename_i hx
   rw [List.pairwise_cons]
   refine ⟨fun y hy => ?_, putM_ris m t h.2⟩
   rcases putM_mem m t y hy with rfl | hy
   ·
    exact hx
   ·
    exact h.1 y hy
  ·
   split
   ·
    rename_i _ e
    rw [List.pairwise_cons]
    exact ⟨fun y hy => by rw [← e]; exact h.1 y hy, h.2⟩
   ·
    rename_i h1 h2
    rw [List.pairwise_cons]
    refine ⟨fun y hy => ?_, List.pairwise_cons.2 h⟩
    rcases List.mem_cons.1 hy with rfl | hy
    ·
     omega
    ·
     have := h.1 y hy; omega
theorem bes_mem : ∀ (t : List Ms) (x : Ms), t.foldl betM x = x ∨ t.foldl betM x ∈ t
 | [], x => .inl rfl
 | y :: t, x => by
  rw [List.foldl_cons]
  have hb : betM x y = x ∨ betM x y = y := by unfold betM; split <;> simp
  rcases bes_mem t (betM x y) with h | h
  ·
   rw [h]
   rcases hb with h2 | h2
   ·
    exact .inl h2
   ·
    rw [h2]; exact .inr (List.mem_cons_self ..)
  ·
   exact .inr (List.mem_cons_of_mem _ h)
theorem besM_mem {te : List Ms} (h : te ≠ []) : besM te ∈ te := by
 match te, h with
 | x :: t, _ =>
  show (x :: t).foldl betM x ∈ x :: t
  rcases bes_mem (x :: t) x with h | h
  ·
   rw [h]; exact List.mem_cons_self ..
  ·
   exact h
theorem cmt_ge : ∀ (te : List Ms) (c : Int), c ≤ te.foldl (fun c m => max c m.c) c ∧ ∀ m ∈ te, m.c ≤ te.foldl (fun c m => max c m.c) c
 | [], c => ⟨Int.le_refl _, fun m hm => by cases hm⟩
 | x :: t, c => by
  rw [List.foldl_cons]
  obtain ⟨h1, h2⟩ := cmt_ge t (max c x.c)
  refine ⟨by omega, fun m hm => ?_⟩
  rcases List.mem_cons.1 hm with rfl | hm
  ·
   omega
  ·
   exact h2 m hm
structure Kp (r x : Rp) : Prop where
 ok : RpOk x
 id : x.id = r.id
 p : x.p = r.p
 v : r.v ≤ x.v
 la : r.la ≤ x.la
 c : r.c ≤ x.c
 l : r.l.take r.c.toNat <+: x.l
theorem Kp.refl {r : Rp} (h : RpOk r) : Kp r r := ⟨h, rfl, rfl, Int.le_refl _, Int.le_refl _, Int.le_refl _, List.take_prefix _ _⟩
theorem Kp.trans {r x y : Rp} (h : Kp r x) (k : Kp x y) : Kp r y := by
 refine ⟨k.ok, k.id.trans h.id, k.p.trans h.p, Int.le_trans h.v k.v, Int.le_trans h.la k.la, Int.le_trans h.c k.c, ?_⟩
 refine List.IsPrefix.trans (List.prefix_take_iff.2 ⟨h.l, ?_⟩) k.l
 have := h.c
 rw [List.length_take]
 omega
theorem ask_kp {r : Rp} {v : Int} (h : RpOk r) (h1 : r.v < v) (h2 : v ≤ 10000) : Kp r (askF r v) :=
 ⟨ask_ok h h1 h2, rfl, rfl, Int.le_of_lt h1, Int.le_refl _, Int.le_refl _, List.take_prefix _ _⟩
theorem tell_ok {r : Rp} (h : RpOk r) : TeOk (tellM r r.id) r :=
 ⟨rfl, rfl, rfl, ⟨⟨by show (1 : Int) ≤ 4; decide, by show (4 : Int) ≤ 4; decide⟩, h.id, h.id, h.v, h.la, h.l, by rw [if_neg (by show ¬ (4 : Int) = 2; decide)]; exact h.c⟩⟩
theorem te_kp {r : Rp} {m : Ms} (h : RpOk r) (hn : r.n = false) (hm : mine r) (ht : TeOk m r) : Kp r { r with te := putM m r.te } := by
 refine ⟨⟨h.p, h.id, h.v, h.l, h.c, h.la, h.n, fun hh => absurd (show r.n = true from hh) (by rw [hn]; simp), fun hh => absurd (show r.n = true from hh) (by rw [hn]; simp), fun _ => h.ok0 (fun hh => by rw [hh.1] at hn; cases hn), h.ch1, fun _ hh => absurd hm hh, fun _ => ⟨fun q hq => ?_, putM_ris m _ (h.te1 hn).2⟩⟩, rfl, rfl, Int.le_refl _, Int.le_refl _, Int.le_refl _, List.take_prefix _ _⟩
 rcases putM_mem m _ q hq with rfl | hq
 ·
  exact ⟨ht.k, ht.t, ht.v, ht.ok⟩
 ·
  have := (h.te1 hn).1 q hq
  exact ⟨this.k, this.t, this.v, this.ok⟩
theorem ch_kp {r : Rp} {q : Int} (h : RpOk r) (hn : r.n = false) (hq : 0 ≤ q ∧ q < r.p) : Kp r { r with ch := Sk.put q r.ch } := by
 obtain ⟨c1, c2, c3⟩ := h.ch1 hn
 refine ⟨⟨h.p, h.id, h.v, h.l, h.c, h.la, h.n, fun hh => absurd (show r.n = true from hh) (by rw [hn]; simp), fun hh => absurd (show r.n = true from hh) (by rw [hn]; simp), fun _ => h.ok0 (fun hh => by rw [hh.1] at hn; cases hn), fun _ => ⟨(Sk.put_mem _ _ _).2 (.inr c1), Sk.put_ris _ _ c2, fun x hx => ?_⟩, h.te0, fun hh => ⟨fun m hm => ?_, (h.te1 hn).2⟩⟩, rfl, rfl, Int.le_refl _, Int.le_refl _, Int.le_refl _, List.take_prefix _ _⟩
 ·
  rcases (Sk.put_mem _ _ _).1 hx with rfl | hx
  ·
   exact hq
  ·
   exact c3 x hx
 ·
  have := (h.te1 hn).1 m hm
  exact ⟨this.k, this.t, this.v, this.ok⟩
theorem told_kp {r : Rp} (h : RpOk r) : Kp r (told r) := by
 unfold told
 split
 ·
  exact Kp.refl h
 ·
  rename_i h1
  have hn : r.n = false := by
   cases e : r.n with
   | false => rfl
   | true => exact absurd (Or.inl e) h1
  have hm : mine r := Classical.byContradiction fun hm => h1 (.inr (.inr hm))
  have hk := te_kp h hn hm (tell_ok h)
  simp only
  split
  ·
   exact hk
  ·
   split
   ·
    exact hk
   ·
    rename_i h2 h3
    have h3 : r.l.take r.c.toNat <+: (besM (putM (tellM r r.id) r.te)).l := Classical.byContradiction fun hh => h3 hh
    have hne : putM (tellM r r.id) r.te ≠ [] := fun e => by
     have := putM_has (tellM r r.id) r.te
     rw [e] at this
     cases this
    have hb := (hk.ok.te1 hn).1 _ (besM_mem hne)
    have hcm := cmt_ge (putM (tellM r r.id) r.te) 0
    have hc0 : r.c ≤ cmtM (putM (tellM r r.id) r.te) := hcm.2 _ (putM_has _ _)
    have hc1 : (r.c.toNat : Int) ≤ ((besM (putM (tellM r r.id) r.te)).l.length : Int) := by
     have := h3.length_le
     have hc := h.c
     rw [List.length_take] at this
     omega
    have hp := h.p
    have hL : Ld { r with te := [], l := (besM (putM (tellM r r.id) r.te)).l, c := min (cmtM (putM (tellM r r.id) r.te)) ((besM (putM (tellM r r.id) r.te)).l.length : Int), n := true, la := r.v, ch := [], ok := List.replicate r.p.toNat 0 } :=
     ⟨h.p, h.id, h.v, hb.ok.l, ⟨by have := hcm.1; show 0 ≤ min (cmtM _) _; unfold cmtM; omega, Int.min_le_right _ _⟩, rfl, rfl, rfl, rfl, hm, by show ((List.length (List.replicate _ _) : Nat) : Int) = r.p; rw [List.length_replicate]; omega, fun x hx => by rw [(List.mem_replicate.1 hx).2]; exact ⟨Int.le_refl _, by omega⟩⟩
    obtain ⟨h5, h6⟩ := hL.cntd
    refine ⟨h5, rfl, rfl, Int.le_refl _, h.la.2, ?_, h3⟩
    have hc := h.c
    have h6' : min (cmtM (putM (tellM r r.id) r.te)) ((besM (putM (tellM r r.id) r.te)).l.length : Int) ≤ _ := h6
    show r.c ≤ (cntd _).c
    omega
/-! ### What is sent -/
theorem all_to {r : Rp} {m q : Ms} (h : q ∈ allM r m) : q.f = r.id ∧ q.t ≠ r.id ∧ q.v = m.v := by
 unfold allM at h
 obtain ⟨n, hn, rfl⟩ := List.mem_map.1 h
 have := (List.mem_filter.1 hn).2
 exact ⟨rfl, by simpa using this, rfl⟩
theorem spr_to {r : Rp} {q : Ms} (h : q ∈ sprL r) : q.f = r.id ∧ q.t ≠ r.id ∧ q.v = r.v := by
 unfold sprL at h
 split at h
 ·
  exact all_to h
 ·
  split at h
  ·
   cases h
  ·
   rcases List.mem_append.1 h with h | h
   ·
    exact all_to h
   ·
    split at h
    ·
     rename_i hh
     rw [List.mem_singleton.1 h]
     exact ⟨rfl, hh.2, rfl⟩
    ·
     cases h
/-! ### Whatever is received -/
theorem log_kp {r : Rp} {m : Ms} (h : RpOk r) (hm : MsOk m r.p) (hk : m.k = 1) (hne : m.f ≠ r.id) : Kp r (rcvL r m).1 ∧ ∀ q ∈ (rcvL r m).2, q.f = r.id ∧ q.t ≠ r.id ∧ q.v = (rcvL r m).1.v := by
 unfold rcvL
 split
 ·
  rename_i hh
  obtain ⟨h1, h2, h3⟩ := hh
  have hv := h.v
  have hla := h.la
  have hmc := hm.c
  rw [if_neg (by rw [hk]; decide)] at hmc
  have hle : r.v ≤ m.v := by omega
  have hlen := h3.length_le
  have hc := h.c
  rw [List.length_take] at hlen
  have hnm : ¬ mine { r with l := m.l, v := m.v, n := true, la := m.v, c := max r.c m.c, ok := [], ch := [], te := [] } := fun e => hne (by rw [h1]; exact e)
  refine ⟨⟨⟨h.p, h.id, hm.v, hm.l, ⟨by show 0 ≤ max r.c m.c; omega, by show max r.c m.c ≤ (m.l.length : Int); omega⟩, ⟨by show 0 ≤ m.v; omega, Int.le_refl _⟩, ⟨fun _ => rfl, fun _ => rfl⟩, fun _ => ⟨rfl, rfl⟩, fun _ e => absurd e hnm, fun _ => rfl, fun e => (by cases e), fun e => (by cases e), fun e => (by cases e)⟩, rfl, rfl, hle, by show r.la ≤ m.v; omega, by show r.c ≤ max _ _; omega, h3⟩, fun q hq => ?_⟩
  rw [List.mem_singleton.1 hq]
  exact ⟨rfl, hne, rfl⟩
 ·
  exact ⟨Kp.refl h, fun q hq => by cases hq⟩
theorem okk_kp {r : Rp} {m : Ms} (h : RpOk r) (hm : MsOk m r.p) : Kp r (rcvO r m).1 ∧ ∀ q ∈ (rcvO r m).2, q.f = r.id ∧ q.t ≠ r.id ∧ q.v = (rcvO r m).1.v := by
 unfold rcvO
 split
 ·
  rename_i hh
  have hl := h.ld hh.2
  have hmf := hm.f
  have hok := hl.ok
  have hL : Ld { r with ok := r.ok.set m.f.toNat (max (r.ok.getD m.f.toNat 0) (min m.c (r.l.length : Int))) } := ⟨hl.p, hl.id, hl.v, hl.l, hl.c, hl.la, hl.n, hl.ch, hl.te, hl.m, by show ((List.length (List.set _ _ _) : Nat) : Int) = _; rw [List.length_set]; exact hok, fun x hx => by
   rcases List.mem_or_eq_of_mem_set hx with hx | hx
   ·
    exact hl.ok1 x hx
   ·
    have hlt : m.f.toNat < r.ok.length := by omega
    have hb := hl.ok1 _ (List.getElem_mem hlt)
    rw [List.getD_eq_getElem?_getD, List.getElem?_eq_getElem hlt] at hx
    simp only [Option.getD_some] at hx
    show 0 ≤ x ∧ x ≤ (r.l.length : Int)
    omega⟩
  obtain ⟨h5, h6⟩ := hL.cntd
  exact ⟨⟨h5, rfl, rfl, Int.le_refl _, Int.le_refl _, h6, List.take_prefix _ _⟩, fun q hq => by cases hq⟩
 ·
  exact ⟨Kp.refl h, fun q hq => by cases hq⟩
theorem chg_kp {r : Rp} {m : Ms} (h : RpOk r) (hm : MsOk m r.p) (hk : m.k = 3 ∨ m.k = 4) (ht : m.t = r.id) : Kp r (rcvC r m).1 ∧ ∀ q ∈ (rcvC r m).2, q.f = r.id ∧ q.t ≠ r.id ∧ q.v = (rcvC r m).1.v := by
 unfold rcvC
 split
 ·
  exact ⟨Kp.refl h, fun q hq => by cases hq⟩
 ·
  rename_i hz
  have ha : Kp r (if r.v < m.v then askF r m.v else r) := by
   split
   ·
    rename_i hv
    exact ask_kp h hv hm.v.2
   ·
    exact Kp.refl h
  simp only
  generalize (if r.v < m.v then askF r m.v else r) = a at ha
  split
  ·
   exact ⟨ha, fun q hq => by cases hq⟩
  ·
   rename_i hy
   have hn : a.n = false := by
    cases e : a.n with
    | false => rfl
    | true => exact absurd (Or.inr e) hy
   have hv : m.v = a.v := Classical.byContradiction fun e => hy (.inl e)
   have hb := ch_kp ha.ok hn (q := m.f) (by rw [ha.p]; exact hm.f)
   have hab := ha.trans hb
   split
   ·
    rename_i h4
    have hmine : mine { a with ch := Sk.put m.f a.ch } := by
     show a.v % a.p = a.id
     rw [← hv, ha.p, ha.id]
     exact Classical.byContradiction fun e => hz ⟨h4, e⟩
    have hte : TeOk m { a with ch := Sk.put m.f a.ch } := ⟨h4, by show m.t = a.id; rw [ha.id]; exact ht, hv, by show MsOk m a.p; rw [ha.p]; exact hm⟩
    have hs := (hab.trans (te_kp hb.ok hn hmine hte)).trans (told_kp (te_kp hb.ok hn hmine hte).ok)
    split
    ·
     exact ⟨hs, fun q hq => by rw [← hs.id]; exact spr_to hq⟩
    ·
     exact ⟨hs, fun q hq => by cases hq⟩
   ·
    split
    ·
     have hs := hab.trans (told_kp hb.ok)
     exact ⟨hs, fun q hq => by rw [← hs.id]; exact spr_to hq⟩
    ·
     exact ⟨hab, fun q hq => by cases hq⟩
theorem rcv_kp {r : Rp} {m : Ms} (h : RpOk r) : Kp r (rcvF r m).1 ∧ ∀ q ∈ (rcvF r m).2, q.f = r.id ∧ q.t ≠ r.id ∧ q.v = (rcvF r m).1.v := by
 unfold rcvF
 split
 ·
  exact ⟨Kp.refl h, fun q hq => by cases hq⟩
 ·
  rename_i hh
  have hm : MsOk m r.p := Classical.byContradiction fun e => hh (.inl e)
  have ht : m.t = r.id := Classical.byContradiction fun e => hh (.inr (.inl e))
  have hne : m.f ≠ r.id := fun e => hh (.inr (.inr e))
  split
  ·
   rename_i h1
   exact log_kp h hm h1 hne
  ·
   split
   ·
    exact okk_kp h hm
   ·
    have := hm.k
    exact chg_kp h hm (by omega) ht
/-! ### Submitted, suspected, stopped -/
open Go.RowKit Go.Sort Pg

theorem rd_size {s : ByteArray} (h : rdB s = true) : s.size ≤ 300 := by
 obtain ⟨h1, h2⟩ := rd_ok h
 rw [← h2]
 unfold shoP
 split
 ·
  decide
 ·
  rename_i hk
  unfold pgOk at h1
  rw [if_neg hk] at h1
  have h3 := (Bool.and_eq_true_iff.1 h1).2
  have h4 : (rdP s).2.size ≤ 200 := by
   unfold txOk at h3
   simp at h3
   omega
  have h5 : (wrd (rdP s).1).size ≤ 10 := by
   unfold wrd
   split
   ·
    decide
   ·
    split <;> decide
  rw [ByteArray.size_append]
  omega
theorem logB_sm {l : List ByteArray} (h : logB l = true) : l.length ≤ 60 ∧ ∀ x ∈ l, x.size ≤ 300 := by
 unfold logB at h
 obtain ⟨h1, h2⟩ := Bool.and_eq_true_iff.1 h
 exact ⟨of_decide_eq_true h1, fun x hx => rd_size (List.all_eq_true.1 h2 x hx)⟩
theorem RpOk.te5 {r : Rp} (h : RpOk r) : r.te.length ≤ 5 ∧ ∀ m ∈ r.te, m.l.length ≤ 60 ∧ ∀ x ∈ m.l, x.size ≤ 300 := by
 cases hn : r.n with
 | true => rw [(h.ch0 hn).2]; exact ⟨Nat.zero_le _, fun m hm => nomatch hm⟩
 | false =>
  obtain ⟨h1, h2⟩ := h.te1 hn
  refine ⟨?_, fun m hm => logB_sm (h1 m hm).ok.l⟩
  have h3 := rising_len (r.te.map (·.f)) 0 r.p (List.pairwise_map.2 h2) (fun x hx => by
   obtain ⟨m, hm, rfl⟩ := List.mem_map.1 hx
   exact (h1 m hm).ok.f)
  rw [List.length_map] at h3
  rcases h.p with e | e | e <;> omega
theorem RpOk.fit {r : Rp} (h : RpOk r) : Fit r := by
 have h1 := logB_sm h.l
 have h2 := h.te5
 have h3 := h.ok5
 have h4 := h.ch5
 exact ⟨⟨by omega, fun x hx => by have := h1.2 x hx; omega⟩, by omega, by omega, ⟨by omega, fun m hm => ⟨by have := (h2.2 m hm).1; omega, fun x hx => by have := (h2.2 m hm).2 x hx; omega⟩⟩⟩
theorem sum_le_mul (l : List Nat) (k : Nat) (h : ∀ x ∈ l, x ≤ k) : l.sum ≤ l.length * k := by
 induction l with
 | nil => simp
 | cons a t ih =>
  have h1 := h a (List.mem_cons_self ..)
  have h2 := ih fun x hx => h x (List.mem_cons_of_mem _ hx)
  simp only [List.sum_cons, List.length_cons, Nat.succ_mul]
  omega
theorem noRp_fit : Fit noRp ∧ 1 + cR noRp ≤ 50000000 := ⟨⟨⟨Nat.zero_le _, fun x hx => nomatch hx⟩, Nat.zero_le _, Nat.zero_le _, ⟨Nat.zero_le _, fun x hx => nomatch hx⟩⟩, by decide⟩
end Go.Proofs.YtdkhdjickkcaiaaGreat.Rl
namespace Go.Proofs.YtdkhdjickkcaiaaGreat
open Go.RowKit Go.Sort

theorem slotsNe {L : List Nat} (h : L.Nodup) {i j n : Nat} (hn : n = L.length) (hi : i < n) (hj : j < n) (hne : j ≠ i) : L.getD j (j + 5000) ≠ L.getD i (i + 5000) := by
 subst hn
 rw [List.getD_eq_getElem?_getD, List.getD_eq_getElem?_getD, List.getElem?_eq_getElem hi, List.getElem?_eq_getElem hj]
 simp only [Option.getD_some]
 intro e
 exact hne ((List.getElem_inj h).1 e)
theorem skipG {ops : Array Oper} {o : Oper} {a : Act} {X Y : Prop} (j : Nat) (b : Bool) (hg : o.guard = some (j, b)) (o2 : Oper) (h1 : ops[j]? = some o2) (d : Nat) (h2 : o2.dst = some d) (c : Bool) (h3 : a.tmps[d]? = some (.bool c)) (hb : c ≠ b) (h : Y) : if Region.wanted o (yielded ops a.tmps) = true then X else Y := by
 have e : Region.wanted o (yielded ops a.tmps) = false := by
  simp [Region.wanted, yielded, hg, h1, h2, h3]
  cases c <;> cases b <;> simp_all
 rw [e, if_neg (by decide)]
 exact h
end Go.Proofs.YtdkhdjickkcaiaaGreat
namespace Go.Proofs.YtdkhdjickkcaiaaGreat.Rl
open Go.RowKit Go.Sort

theorem results_row2 {P : Program} {fn : Func} {p q : Tmp} {ty : TypeId} (h : fn.results = #[.cell p ty, .tmp q]) (tmps : Array Value) (w : World) (g : Nat) (t : TypeId) (cs : Array Value) (fr : Nat × Nat) (d : TypeDesc)
  (hp : tmps.getD p undef = .pointer (some ⟨g, 0, none⟩)) (v : Value) (hq : tmps.getD q undef = v) (hg : w.heap[g]? = some (.cells cs t fr))
  (hu : P.underlying ty = some d) (hd : (match d with | .struct _ | .array _ _ => true | _ => false) = true) (hi : (P.info? ty).map (·.size) = some cs.size) :
  (results fn tmps).run P w = .ok (.tuple #[.agg cs, v]) w := by
 have hp' : tmps[p]?.getD undef = .pointer (some ⟨g, 0, none⟩) := by simpa using hp
 have hq' : tmps[q]?.getD undef = v := by simpa using hq
 simp [results, h, hp', hq', asAddr, run_loadVar_row w g t ty cs fr d hg hu hd hi]
theorem ldG {ops : Array Oper} {o : Oper} {a : Act} {w : World} {K : Act → World → Prop} {Q : Exit → Act → World → Prop} {E : Prop} (hw : Region.wanted o (yielded ops a.tmps) = true) (x : Operand) (ho : o.op = .load 28 x) (b : Nat) (hx : a.eval x = .pointer (some ⟨b, 0, none⟩)) {vs : Array Value} (hB : Bx w b 28 vs) (hs : vs.size = 10)
  (h : K (a.put o.dst (.agg vs)) w) : if Region.wanted o (yielded ops a.tmps) = true then Oper.wp Tryz.prog o a w K Q else E := by
 rw [if_pos hw]
 exact wp_load_row _ x ho b hx _ vs (0, 0) _ hB Tryz.underlying28 rfl (by rw [Tryz.rszR, hs]) h
theorem stG {ops : Array Oper} {o : Oper} {a : Act} {w : World} {K : Act → World → Prop} {Q : Exit → Act → World → Prop} {E : Prop} (hw : Region.wanted o (yielded ops a.tmps) = true) (x y : Operand) (ho : o.op = .store 28 x y) (b : Nat) (vs : Array Value) (hx : a.eval x = .pointer (some ⟨b, 0, none⟩)) (hy : a.eval y = .agg vs) {old : Array Value} (hB : Bx w b 28 old) (hs : old.size = 10) (hv : vs.size = 10)
  (h1 : vs.all (·.oneCell') = true) (h : ∀ W, Bx W b 28 vs → ChS (fun k => k = b) w W → K (a.put o.dst undef) W) : if Region.wanted o (yielded ops a.tmps) = true then Oper.wp Tryz.prog o a w K Q else E := by
 rw [if_pos hw]
 exact wp_store_row _ x y ho b vs hx hy _ old hB (by rw [Tryz.rszR, hv]) (by rw [hs, hv]) h1 (h _ (setRow_heap w b _ _ _ _ hB) ⟨rfl, rfl, rfl, by simp [World.setRow], fun k _ hk => setRow_other w b k _ hk⟩)
structure StS (w0 : World) (c : Nat) (x : World) : Prop where
 ch : ChS (fun k => k = c) w0 x
 bx : ∃ old, Bx x c 28 old ∧ old.size = 10
theorem StS.kept {w0 x y : World} {c : Nat} (h : StS w0 c x) (hb : Below x.heap.size x y) : StS w0 c y := by
 obtain ⟨old, h1, h2⟩ := h.bx
 exact ⟨h.ch.trans (ChS.of_below hb), old, h1.kept hb, h2⟩
theorem StS.put {w0 x y : World} {c : Nat} (h : StS w0 c x) {vs : Array Value} (h1 : Bx y c 28 vs) (h2 : vs.size = 10) (hc : ChS (fun k => k = c) x y) : StS w0 c y := ⟨h.ch.trans hc, vs, h1, h2⟩
structure RmAns (R : Rp) (L : List Ms) (w w' : World) (u' : Rv) (v : Value) (T : List Mx) : Prop where
 h : RpHas w' w.heap.size u' R
 a : RpAp u'
 m : ∃ C, (∀ x ∈ u'.rows, ∀ k, x.ownBlock = some k → k < C) ∧ w.heap.size ≤ C ∧ MsOwn w' C v T L
 b : Below w.heap.size w w'
theorem RmAns.no {w w' : World} {v : Value} {T : List Mx} (hm : MsOwn w' w.heap.size v T []) (hb : Below w.heap.size w w') : RmAns noRp [] w w' rv0 v T where
 h := ⟨.inl ⟨rfl, rfl⟩, .inl ⟨rfl, rfl⟩, .inl ⟨rfl, rfl⟩, rfl, .inl ⟨rfl, rfl⟩, fun x hx => nomatch hx⟩
 a := by
  unfold RpAp Rv.rows rv0
  simp [ap, Value.ownBlock]
 m := by
  refine ⟨w.heap.size, fun x hx k hk => ?_, Nat.le_refl _, hm⟩
  simp [Rv.rows, rv0] at hx
  subst hx
  cases hk
 b := hb
end Go.Proofs.YtdkhdjickkcaiaaGreat.Rl
