/-
  The program's stop, and its Stop.
  The specification's copy of a replica.
  What stays true of replicas, whatever they receive.
-/
import Derived.Test.YtlngleinegkoeaaGreatT36
import Derived.Test.YtlngleinegkoeaaGreatT32
import Derived.Test.YtlngleinegkoeaaGreatT10
namespace Go.Proofs.YtlngleinegkoeaaGreat.Rl
open Go.RowKit Go.Sort Go.Shelf
set_option linter.unusedVariables false
set_option linter.unusedSimpArgs false

/-- A replica's ten cells, read. -/
theorem wpList_ldR {ops : Array Oper} {rest : List Oper} {o : Oper} {a : Act} {w : World} {Q : Exit → Act → World → Prop} (hgd : o.guard = none) (x : Operand) (ho : o.op = .load 28 x) (b : Nat) (hx : a.eval x = .pointer (some ⟨b, 0, none⟩)) {vs : Array Value} (hB : Bx w b 28 vs) (hs : vs.size = 10)
    (h : wpList Tryz.prog ops Q rest (a.put o.dst (.agg vs)) w) : wpList Tryz.prog ops Q (o :: rest) a w :=
  wpList_load_row hgd _ x ho b hx _ vs (0, 0) _ hB Tryz.underlying28 rfl (by rw [Tryz.rszR, hs]) h
/-- .. stored. -/
theorem wpList_stR {ops : Array Oper} {rest : List Oper} {o : Oper} {a : Act} {w : World} {Q : Exit → Act → World → Prop} (hgd : o.guard = none) (hd : o.dst = none) (x y : Operand) (ho : o.op = .store 28 x y) (b : Nat) (vs : Array Value) (hx : a.eval x = .pointer (some ⟨b, 0, none⟩)) (hy : a.eval y = .agg vs) {old : Array Value} (hB : Bx w b 28 old) (hs : old.size = 10) (hv : vs.size = 10)
    (h1 : vs.all (·.oneCell') = true) (h : ∀ W, Bx W b 28 vs → ChS (fun k => k = b) w W → wpList Tryz.prog ops Q rest a W) : wpList Tryz.prog ops Q (o :: rest) a w :=
  wpList_store_row hgd _ x y ho b vs hx hy _ old hB (by rw [Tryz.rszR, hv]) (by rw [hs, hv]) h1 (by
    rw [hd]
    exact h _ (setRow_heap w b _ _ _ _ hB) ⟨rfl, rfl, rfl, by simp [World.setRow], fun k _ hk => setRow_other w b k _ hk⟩)
theorem rpC_one {w : World} {u : Rv} {r : Rp} (h : RpGot w u r) : (rpC r u).all (·.oneCell') = true := by
  obtain ⟨la, lc, oa, oc, ca, cc, ta, tc, T, rfl⟩ := h.form
  simp [rpC, Value.oneCell']
theorem rising_len : ∀ (l : List Int) (lo p : Int), l.Pairwise (· < ·) → (∀ x ∈ l, lo ≤ x ∧ x < p) → l.length ≤ (p - lo).toNat
  | [], _, _, _, _ => Nat.zero_le _
  | x :: l, lo, p, h, hx => by
    obtain ⟨h1, h2⟩ := List.pairwise_cons.1 h
    have h3 := hx x (by simp)
    have := rising_len l (x + 1) p h2 (fun y hy => ⟨by have := h1 y hy; omega, (hx y (by simp [hy])).2⟩)
    simp only [List.length_cons]
    omega
theorem RpOk.ok5 {r : Rp} (h : RpOk r) : r.ok.length ≤ 5 := by
  by_cases hl : leads r
  · have := (h.ok1 hl.1 hl.2).1
    rcases h.p with e | e | e <;> omega
  · rw [h.ok0 hl]; exact Nat.zero_le _
theorem RpOk.ch5 {r : Rp} (h : RpOk r) : r.ch.length ≤ 5 := by
  cases hn : r.n with
  | true => rw [(h.ch0 hn).1]; exact Nat.zero_le _
  | false =>
    obtain ⟨_, h2, h3⟩ := h.ch1 hn
    have := rising_len r.ch 0 r.p h2 h3
    rcases h.p with e | e | e <;> omega
theorem RpOk.few {r : Rp} (h : RpOk r) : r.ok.length ≤ 1000 ∧ r.ch.length ≤ 1000 := ⟨Nat.le_trans h.ok5 (by decide), Nat.le_trans h.ch5 (by decide)⟩
def zR : Array Value := #[.int .i64 0, .int .i64 0, .int .i64 0, .bool false, .int .i64 0, .slice none 0 0, .int .i64 0, .slice none 0 0, .slice none 0 0, .slice none 0 0]
theorem zR_one : zR.all (·.oneCell') = true := by simp [zR, Value.oneCell']
/-- What a call answers that makes a replica. -/
def RpAns (r : Rp) (w : World) (e : Ending) (w' : World) : Prop := ∃ u', e = .returned (rpA r u') ∧ RpHas w' w.heap.size u' r ∧ RpAp u' ∧ Below w.heap.size w w'
theorem RpAns.no {w w' : World} {r : Rp} (hr : r = noRp) (hb : Below w.heap.size w w') : RpAns r w (.returned (.agg zR)) w' := by
  subst hr
  refine ⟨rv0, rfl, ⟨.inl ⟨rfl, rfl⟩, .inl ⟨rfl, rfl⟩, .inl ⟨rfl, rfl⟩, rfl, .inl ⟨rfl, rfl⟩, fun x hx => nomatch hx⟩, ?_, hb⟩
  unfold RpAp Rv.rows rv0
  simp [ap, Value.ownBlock]
end Go.Proofs.YtlngleinegkoeaaGreat.Rl
namespace Go.Proofs.YtlngleinegkoeaaGreat.Rl
open Go.RowKit Go.Sort Go.Shelf
set_option linter.unusedVariables false
set_option linter.unusedSimpArgs false

/-- A row of messages, where blocks from B on alone are as they were. -/
theorem MsOwn.off {w w' : World} {B : Nat} {v : Value} {T : List Mx} {L : List Ms} (h : MsOwn w B v T L) (hk : ∀ k, B ≤ k → k < w.heap.size → w'.heap[k]? = w.heap[k]?) : MsOwn w' B v T L :=
  ⟨OwnsE.off h.row (fun k hk' => hk k (h.row.from k hk') (h.row.under k hk')), h.logs.same hk, h.ap, h.is⟩
/-- A replica made of rows of the call's own. -/
def RpNew (r : Rp) (w : World) (e : Ending) (w' : World) : Prop := ∃ u', e = .returned (rpA r u') ∧ RpOw w' w.heap.size u' r ∧ OwnsX w' w.heap.size u'.l r.l ∧ RpAp u' ∧ Below w.heap.size w w'
set_option maxRecDepth 100000 in
set_option maxHeartbeats 8000000 in
theorem specCpR (r : Rp) (u : Rv) (w : World) (h : RpGot w u r) (hf : Fit r) : Calls Tryz.prog 90 #[rpA r u] w fun e w' => RpNew r w e w' := by
  obtain ⟨la, lc, oa, oc, ca, cc, ta, tc, T, rfl⟩ := h.form
  have htl : r.te.length = T.length := h.tlen.symm
  have hn5 : T.length ≤ 1048576 := by rw [← htl]; exact hf.te.1
  rw [htl] at h ⊢
  have HG : Hid (RpGot w ⟨.slice la r.l.length lc, .slice oa r.ok.length oc, .slice ca r.ch.length cc, .slice ta T.length tc, T⟩ r) := h
  have HF : Hid (Fit r) := hf
  have HN5 : Hid (T.length ≤ 1048576) := hn5
  obtain ⟨b, hb⟩ : ∃ b, b = w.heap.size := ⟨_, rfl⟩
  have HB : Hid (b = w.heap.size) := hb
  obtain ⟨w1, hw1⟩ : ∃ w1, w1 = (w.alloc (.cells #[.int .i64 r.id, .int .i64 r.p, .int .i64 r.v, .bool r.n, .int .i64 r.la, .slice la r.l.length lc, .int .i64 r.c, .slice oa r.ok.length oc, .slice ca r.ch.length cc, .slice ta T.length tc] 28)).alloc (.cells #[.int .i64 0, .int .i64 0, .int .i64 0, .bool false, .int .i64 0, .slice none 0 0, .int .i64 0, .slice none 0 0, .slice none 0 0, .slice none 0 0] 28) := ⟨_, rfl⟩
  have HX : Hid (Bx w1 b 28 #[.int .i64 r.id, .int .i64 r.p, .int .i64 r.v, .bool r.n, .int .i64 r.la, .slice la r.l.length lc, .int .i64 r.c, .slice oa r.ok.length oc, .slice ca r.ch.length cc, .slice ta T.length tc]) := (show Hid _ from by rw [hw1, hb]; exact Bx.alloc (Bx.new _ _ _) _)
  have ZB : Hid (Bx w1 (b + 1) 28 zR) := (show Hid _ from by rw [hw1, hb]; exact Bx.at _ _ (by simp))
  have BB : Hid (Below w.heap.size w w1) := (show Hid _ from by rw [hw1]; exact ((Below.refl _ w).alloc (Nat.le_refl _) _).alloc (by simp) _)
  have Z1 : Hid (w1.heap.size = b + 2) := (show _ = _ by rw [hw1, hb]; simp)
  have jt := fun W hW => specTxs (.slice la r.l.length lc) r.l W (HG.out.l.kept hW) hf.l.1
  unfold rpA
  simp only
  clear h hf htl hn5
  go_enter Tryz.func90, Tryz.ntmps90
  go_upto_region 1 with fail
  rw [← hb, ← hw1]
  clear hw1 hb
  have qq := HX.out.cell 5
  go_wp2_with fail
  refine (jt _ BB.out).mono ?_
  rintro e w2 ⟨v2, rfl, ho, hbz⟩
  obtain ⟨a2, c2, rfl, _⟩ := ho.form
  have UL : Hid (∀ k, (Value.slice a2 r.l.length c2).ownBlock = some k → w1.heap.size ≤ k ∧ k < w2.heap.size) := (show ∀ _, _ from fun k hk => ⟨ho.from k hk, ho.under k hk⟩)
  replace HX : Hid (Bx w2 b 28 #[.int .i64 r.id, .int .i64 r.p, .int .i64 r.v, .bool r.n, .int .i64 r.la, .slice la r.l.length lc, .int .i64 r.c, .slice oa r.ok.length oc, .slice ca r.ch.length cc, .slice ta T.length tc]) := (show Hid _ from HX.out.kept hbz)
  replace ZB : Hid (Bx w2 (b + 1) 28 zR) := (show Hid _ from ZB.out.kept hbz)
  replace BB : Hid (Below w.heap.size w w2) := (show Hid _ from BB.out.trans (hbz.mono BB.out.size))
  have Zw2 : Hid (w1.heap.size ≤ w2.heap.size) := (show _ ≤ _ from hbz.size)
  have OL : Hid (OwnsX w2 w1.heap.size (.slice a2 r.l.length c2) r.l) := (show Hid _ from ho)
  clear ho hbz jt qq
  go_upto_region 2 with (refine wpList_put1 rfl rfl _ _ _ rfl b 5 (.slice a2 r.l.length c2) rfl rfl Tryz.rszS rfl HX.out (show 5 < 10 by decide) ?_; generalize hw : w2.setCell ⟨b, 5, none⟩ (.slice a2 r.l.length c2) = w3)
  have SW : Hid (ChS (fun k => k = b) w2 w3) := (show Hid _ from by rw [← hw]; exact (ChS.refl _ _).set _ _ rfl)
  have SZ : w3.heap.size = w2.heap.size := by rw [← hw]; simp
  replace HX : Hid (Bx w3 b 28 #[.int .i64 r.id, .int .i64 r.p, .int .i64 r.v, .bool r.n, .int .i64 r.la, .slice a2 r.l.length c2, .int .i64 r.c, .slice oa r.ok.length oc, .slice ca r.ch.length cc, .slice ta T.length tc]) := (show Hid _ from by rw [← hw]; exact Bx.put HX.out 5 _)
  replace ZB : Hid (Bx w3 (b + 1) 28 zR) := (show Hid _ from (SW.out.block _ (Bx.lt ZB.out) (by have := HB.out; have := Z1.out; have := Zw2.out; omega)).trans ZB.out)
  replace OL : Hid (OwnsX w3 w1.heap.size (.slice a2 r.l.length c2) r.l) := (show Hid _ from OwnsE.off OL.out (fun k hk => SW.out.block k (OL.out.under k hk) (by have := OL.out.from k hk; have := HB.out; have := Z1.out; have := Zw2.out; omega)))
  replace BB : Hid (Below w.heap.size w w3) := (show Hid _ from SW.out.below BB.out BB.out.size (fun k hk => by have := HB.out; have := Z1.out; have := Zw2.out; omega))
  have Zw3 : Hid (w3.heap.size = w2.heap.size) := SZ
  clear hw SW SZ
  have SN : Hid (Sls intE (w3.alloc (.cells #[] 2)) (.slice oa r.ok.length oc) r.ok) := (show Hid _ from (HG.out.ok.kept (by exact BB.out)).kept ((Below.refl _ _).alloc (Nat.le_refl _) _))
  have ON : Hid (OwnsN (w3.alloc (.cells #[] 2)) w3.heap.size (.slice (some ⟨w3.heap.size, 0, none⟩) 0 0) []) := (show Hid _ from OwnsE.born w3)
  have qq := (HX.out.alloc (.cells #[] 2)).cell 7
  have hfl := HF.out.ok
  go_upto_region 3 with (first
    | (at_builtin
       refine wpList_rowS (E := intE) _ rfl (.tmp 9) (.tmp 11) 25 2 (.int .i64 0) 8 Tryz.underlying25 Tryz.infoN2 rfl rfl w3.heap.size (.slice (some ⟨w3.heap.size, 0, none⟩) 0 0) [] rfl ON.out (.slice oa r.ok.length oc) r.ok rfl SN.out (by simp only [List.length_nil]; unfold maxLen; omega) (by simp only [List.length_nil]; omega) (by simp) ?_
       intro v w4 ho hg _
       rw [List.nil_append] at ho
       have hbz : Below w3.heap.size w3 w4 := ((Below.refl _ w3).alloc (Nat.le_refl _) _).grown hg (by simp) (fun k hk => by simp [Value.ownBlock] at hk; omega)
       obtain ⟨a3, c3, rfl, _⟩ := ho.form
       have OO : Hid (OwnsN w4 w3.heap.size (.slice a3 r.ok.length c3) r.ok) := ho
       have HBZ : Hid (Below w3.heap.size w3 w4) := hbz
       have HX2 : Hid (Bx w4 b 28 #[.int .i64 r.id, .int .i64 r.p, .int .i64 r.v, .bool r.n, .int .i64 r.la, .slice a2 r.l.length c2, .int .i64 r.c, .slice oa r.ok.length oc, .slice ca r.ch.length cc, .slice ta T.length tc]) := (show Hid _ from HX.out.kept hbz)
       clear ho hg hbz SN ON qq hfl)
    | (refine wpList_put1 rfl rfl _ (.tmp 13) (.tmp 12) rfl b 7 (.slice a3 r.ok.length c3) rfl rfl Tryz.rszI rfl HX2.out (show 7 < 10 by decide) ?_; generalize hw : w4.setCell ⟨b, 7, none⟩ (.slice a3 r.ok.length c3) = w5))
  have hbz := HBZ.out
  clear HX2 HBZ
  have UK : Hid (∀ k, (Value.slice a3 r.ok.length c3).ownBlock = some k → w3.heap.size ≤ k ∧ k < w4.heap.size) := (show ∀ _, _ from fun k hk => ⟨OO.out.from k hk, OO.out.under k hk⟩)
  replace HX : Hid (Bx w4 b 28 #[.int .i64 r.id, .int .i64 r.p, .int .i64 r.v, .bool r.n, .int .i64 r.la, .slice a2 r.l.length c2, .int .i64 r.c, .slice oa r.ok.length oc, .slice ca r.ch.length cc, .slice ta T.length tc]) := (show Hid _ from HX.out.kept hbz)
  replace ZB : Hid (Bx w4 (b + 1) 28 zR) := (show Hid _ from ZB.out.kept hbz)
  replace OL : Hid (OwnsX w4 w1.heap.size (.slice a2 r.l.length c2) r.l) := (show Hid _ from OL.out.kept hbz)
  replace BB : Hid (Below w.heap.size w w4) := (show Hid _ from BB.out.trans (hbz.mono BB.out.size))
  have Zw4 : Hid (w3.heap.size ≤ w4.heap.size) := (show _ ≤ _ from hbz.size)
  have OK : Hid (OwnsN w4 w3.heap.size (.slice a3 r.ok.length c3) r.ok) := (show Hid _ from OO.out)
  clear OO hbz
  have SW : Hid (ChS (fun k => k = b) w4 w5) := (show Hid _ from by rw [← hw]; exact (ChS.refl _ _).set _ _ rfl)
  have SZ : w5.heap.size = w4.heap.size := by rw [← hw]; simp
  replace HX : Hid (Bx w5 b 28 #[.int .i64 r.id, .int .i64 r.p, .int .i64 r.v, .bool r.n, .int .i64 r.la, .slice a2 r.l.length c2, .int .i64 r.c, .slice a3 r.ok.length c3, .slice ca r.ch.length cc, .slice ta T.length tc]) := (show Hid _ from by rw [← hw]; exact Bx.put HX.out 7 _)
  replace ZB : Hid (Bx w5 (b + 1) 28 zR) := (show Hid _ from (SW.out.block _ (Bx.lt ZB.out) (by have := HB.out; have := Z1.out; have := Zw2.out; have := Zw3.out; have := Zw4.out; omega)).trans ZB.out)
  replace OL : Hid (OwnsX w5 w1.heap.size (.slice a2 r.l.length c2) r.l) := (show Hid _ from OwnsE.off OL.out (fun k hk => SW.out.block k (OL.out.under k hk) (by have := OL.out.from k hk; have := HB.out; have := Z1.out; have := Zw2.out; have := Zw3.out; have := Zw4.out; omega)))
  replace OK : Hid (OwnsN w5 w3.heap.size (.slice a3 r.ok.length c3) r.ok) := (show Hid _ from OwnsE.off OK.out (fun k hk => SW.out.block k (OK.out.under k hk) (by have := OK.out.from k hk; have := HB.out; have := Z1.out; have := Zw2.out; have := Zw3.out; have := Zw4.out; omega)))
  replace BB : Hid (Below w.heap.size w w5) := (show Hid _ from SW.out.below BB.out BB.out.size (fun k hk => by have := HB.out; have := Z1.out; have := Zw2.out; have := Zw3.out; have := Zw4.out; omega))
  have Zw5 : Hid (w5.heap.size = w4.heap.size) := SZ
  clear hw SW SZ
  have SN : Hid (Sls intE (w5.alloc (.cells #[] 2)) (.slice ca r.ch.length cc) r.ch) := (show Hid _ from (HG.out.ch.kept (by exact BB.out)).kept ((Below.refl _ _).alloc (Nat.le_refl _) _))
  have ON : Hid (OwnsN (w5.alloc (.cells #[] 2)) w5.heap.size (.slice (some ⟨w5.heap.size, 0, none⟩) 0 0) []) := (show Hid _ from OwnsE.born w5)
  have qq := (HX.out.alloc (.cells #[] 2)).cell 8
  have hfl := HF.out.ch
  go_upto_region 4 with (first
    | (at_builtin
       refine wpList_rowS (E := intE) _ rfl (.tmp 14) (.tmp 16) 25 2 (.int .i64 0) 8 Tryz.underlying25 Tryz.infoN2 rfl rfl w5.heap.size (.slice (some ⟨w5.heap.size, 0, none⟩) 0 0) [] rfl ON.out (.slice ca r.ch.length cc) r.ch rfl SN.out (by simp only [List.length_nil]; unfold maxLen; omega) (by simp only [List.length_nil]; omega) (by simp) ?_
       intro v w6 ho hg _
       rw [List.nil_append] at ho
       have hbz : Below w5.heap.size w5 w6 := ((Below.refl _ w5).alloc (Nat.le_refl _) _).grown hg (by simp) (fun k hk => by simp [Value.ownBlock] at hk; omega)
       obtain ⟨a4, c4, rfl, _⟩ := ho.form
       have OO : Hid (OwnsN w6 w5.heap.size (.slice a4 r.ch.length c4) r.ch) := ho
       have HBZ : Hid (Below w5.heap.size w5 w6) := hbz
       have HX2 : Hid (Bx w6 b 28 #[.int .i64 r.id, .int .i64 r.p, .int .i64 r.v, .bool r.n, .int .i64 r.la, .slice a2 r.l.length c2, .int .i64 r.c, .slice a3 r.ok.length c3, .slice ca r.ch.length cc, .slice ta T.length tc]) := (show Hid _ from HX.out.kept hbz)
       clear ho hg hbz SN ON qq hfl)
    | (refine wpList_put1 rfl rfl _ (.tmp 18) (.tmp 17) rfl b 8 (.slice a4 r.ch.length c4) rfl rfl Tryz.rszI rfl HX2.out (show 8 < 10 by decide) ?_; generalize hw : w6.setCell ⟨b, 8, none⟩ (.slice a4 r.ch.length c4) = w7))
  have hbz := HBZ.out
  clear HX2 HBZ
  have UC : Hid (∀ k, (Value.slice a4 r.ch.length c4).ownBlock = some k → w5.heap.size ≤ k ∧ k < w6.heap.size) := (show ∀ _, _ from fun k hk => ⟨OO.out.from k hk, OO.out.under k hk⟩)
  replace HX : Hid (Bx w6 b 28 #[.int .i64 r.id, .int .i64 r.p, .int .i64 r.v, .bool r.n, .int .i64 r.la, .slice a2 r.l.length c2, .int .i64 r.c, .slice a3 r.ok.length c3, .slice ca r.ch.length cc, .slice ta T.length tc]) := (show Hid _ from HX.out.kept hbz)
  replace ZB : Hid (Bx w6 (b + 1) 28 zR) := (show Hid _ from ZB.out.kept hbz)
  replace OL : Hid (OwnsX w6 w1.heap.size (.slice a2 r.l.length c2) r.l) := (show Hid _ from OL.out.kept hbz)
  replace OK : Hid (OwnsN w6 w3.heap.size (.slice a3 r.ok.length c3) r.ok) := (show Hid _ from OK.out.kept hbz)
  replace BB : Hid (Below w.heap.size w w6) := (show Hid _ from BB.out.trans (hbz.mono BB.out.size))
  have Zw6 : Hid (w5.heap.size ≤ w6.heap.size) := (show _ ≤ _ from hbz.size)
  have OC : Hid (OwnsN w6 w5.heap.size (.slice a4 r.ch.length c4) r.ch) := (show Hid _ from OO.out)
  clear OO hbz
  have SW : Hid (ChS (fun k => k = b) w6 w7) := (show Hid _ from by rw [← hw]; exact (ChS.refl _ _).set _ _ rfl)
  have SZ : w7.heap.size = w6.heap.size := by rw [← hw]; simp
  replace HX : Hid (Bx w7 b 28 #[.int .i64 r.id, .int .i64 r.p, .int .i64 r.v, .bool r.n, .int .i64 r.la, .slice a2 r.l.length c2, .int .i64 r.c, .slice a3 r.ok.length c3, .slice a4 r.ch.length c4, .slice ta T.length tc]) := (show Hid _ from by rw [← hw]; exact Bx.put HX.out 8 _)
  replace ZB : Hid (Bx w7 (b + 1) 28 zR) := (show Hid _ from (SW.out.block _ (Bx.lt ZB.out) (by have := HB.out; have := Z1.out; have := Zw2.out; have := Zw3.out; have := Zw4.out; have := Zw5.out; have := Zw6.out; omega)).trans ZB.out)
  replace OL : Hid (OwnsX w7 w1.heap.size (.slice a2 r.l.length c2) r.l) := (show Hid _ from OwnsE.off OL.out (fun k hk => SW.out.block k (OL.out.under k hk) (by have := OL.out.from k hk; have := HB.out; have := Z1.out; have := Zw2.out; have := Zw3.out; have := Zw4.out; have := Zw5.out; have := Zw6.out; omega)))
  replace OK : Hid (OwnsN w7 w3.heap.size (.slice a3 r.ok.length c3) r.ok) := (show Hid _ from OwnsE.off OK.out (fun k hk => SW.out.block k (OK.out.under k hk) (by have := OK.out.from k hk; have := HB.out; have := Z1.out; have := Zw2.out; have := Zw3.out; have := Zw4.out; have := Zw5.out; have := Zw6.out; omega)))
  replace OC : Hid (OwnsN w7 w5.heap.size (.slice a4 r.ch.length c4) r.ch) := (show Hid _ from OwnsE.off OC.out (fun k hk => SW.out.block k (OC.out.under k hk) (by have := OC.out.from k hk; have := HB.out; have := Z1.out; have := Zw2.out; have := Zw3.out; have := Zw4.out; have := Zw5.out; have := Zw6.out; omega)))
  replace BB : Hid (Below w.heap.size w w7) := (show Hid _ from SW.out.below BB.out BB.out.size (fun k hk => by have := HB.out; have := Z1.out; have := Zw2.out; have := Zw3.out; have := Zw4.out; have := Zw5.out; have := Zw6.out; omega))
  have Zw7 : Hid (w7.heap.size = w6.heap.size) := SZ
  clear hw SW SZ
  have hbz : Below w7.heap.size w7 (w7.alloc (.cells #[] 30)) := (Below.refl _ w7).alloc (Nat.le_refl _) _
  generalize hw8 : w7.alloc (.cells #[] 30) = w8 at hbz
  have OM : Hid (MsOwn w8 w7.heap.size (.slice (some ⟨w7.heap.size, 0, none⟩) 0 0) [] []) := (show Hid _ from by rw [← hw8]; exact MsOwn.born w7)
  replace HX : Hid (Bx w8 b 28 #[.int .i64 r.id, .int .i64 r.p, .int .i64 r.v, .bool r.n, .int .i64 r.la, .slice a2 r.l.length c2, .int .i64 r.c, .slice a3 r.ok.length c3, .slice a4 r.ch.length c4, .slice ta T.length tc]) := (show Hid _ from HX.out.kept hbz)
  replace ZB : Hid (Bx w8 (b + 1) 28 zR) := (show Hid _ from ZB.out.kept hbz)
  replace OL : Hid (OwnsX w8 w1.heap.size (.slice a2 r.l.length c2) r.l) := (show Hid _ from OL.out.kept hbz)
  replace OK : Hid (OwnsN w8 w3.heap.size (.slice a3 r.ok.length c3) r.ok) := (show Hid _ from OK.out.kept hbz)
  replace OC : Hid (OwnsN w8 w5.heap.size (.slice a4 r.ch.length c4) r.ch) := (show Hid _ from OC.out.kept hbz)
  replace BB : Hid (Below w.heap.size w w8) := (show Hid _ from BB.out.trans (hbz.mono BB.out.size))
  have Zw8 : Hid (w7.heap.size ≤ w8.heap.size) := (show _ ≤ _ from hbz.size)
  clear hbz
  go_wp2_with fail
  try rw [hw8]
  clear hw8
  go_loopw [3, 4] (fun v i wr => ∃ (k : Nat) (M : List Mx), k ≤ T.length ∧ i = .int .i64 k ∧ Hid (MsOwn wr w7.heap.size v M (r.te.take k)) ∧ Hid (Bx wr b 28 #[.int .i64 r.id, .int .i64 r.p, .int .i64 r.v, .bool r.n, .int .i64 r.la, .slice a2 r.l.length c2, .int .i64 r.c, .slice a3 r.ok.length c3, .slice a4 r.ch.length c4, .slice ta T.length tc]) ∧ Hid (Bx wr (b + 1) 28 zR) ∧ Hid (OwnsX wr w1.heap.size (.slice a2 r.l.length c2) r.l) ∧ Hid (OwnsN wr w3.heap.size (.slice a3 r.ok.length c3) r.ok) ∧ Hid (OwnsN wr w5.heap.size (.slice a4 r.ch.length c4) r.ch) ∧ Hid (Below w.heap.size w wr) ∧ Hid (w8.heap.size ≤ wr.heap.size)) (fun _ i _ => T.length - (intOf i).toNat)
  case atStart => exact ⟨0, [], Nat.zero_le _, rfl, OM, HX, ZB, OL, OK, OC, BB, (show Hid _ from Nat.le_refl _)⟩
  case round =>
    clear OM HX ZB OL OK OC BB
    obtain ⟨k, M, hk, rfl, OM, HX, ZB, OL, OK, OC, BB, ZR⟩ := hrel
    obtain ⟨va, vc, hvv, _⟩ := OM.out.row.form
    subst hvv
    have hn5 := HN5.out
    have q9 := HX.out.cell 9
    change wr.cell? ⟨b, 9, none⟩ = some (.slice ta T.length tc) at q9
    by_cases hlt : k < T.length
    · have HA2 : TeGot wr (.slice ta T.length tc) T := HG.out.te.kept (BB.out.mono (Nat.le_refl _))
      obtain ⟨g, q, hta⟩ := mxAt HA2.1 (by omega)
      rw [hta] at HA2
      have CK := mxCells HA2.1 hlt
      have rx := HA2.2 T[k] (List.getElem_mem hlt)
      have htk : k < r.te.length := by rw [← HG.out.t, List.length_map]; exact hlt
      have hte : r.te[k] = T[k].m := by
        have := HG.out.t
        simp only [← this, List.getElem_map]
      have sx : T[k].m.l.length ≤ 1048576 := by rw [← hte]; exact (HF.out.te.2 _ (List.getElem_mem htk)).1
      have hnx : Hid (r.te.take (k + 1) = r.te.take k ++ [T[k].m]) := (show _ = _ by rw [List.take_succ_eq_append_getElem htk, hte])
      generalize T[k] = x at CK rx sx hnx
      obtain ⟨mx, pax, pcx⟩ := x
      have ht := fun W (hW : Below wr.heap.size wr W) => specMcp mx _ W (MsGot.kept rx hW) sx
      unfold msA at ht
      unfold Mx.u at CK ht
      simp only at CK ht hnx
      obtain ⟨y0, y1, y2, y3, y4, y5, y6⟩ := CK
      have hlen : M.length = k := by have := OM.out.len; rw [List.length_take, Nat.min_eq_left (by omega)] at this; exact this
      have HLN : Hid (M.length = k) := hlen
      clear hlen rx sx HA2 hte htk
      go_wp2_with fail
      refine (ht _ (Below.refl _ _)).mono ?_
      rintro e w9 ⟨v9, rfl, hu, hbz⟩
      obtain ⟨pa, pc, rfl, _⟩ := hu.form
      have HU : Hid (OwnsX w9 wr.heap.size (.slice pa mx.l.length pc) mx.l) := hu
      have HC1 : Hid (∀ y ∈ M, ∀ q, y.u.ownBlock = some q → q < wr.heap.size) := (show ∀ _ _, _ from fun y hy q hq => (OM.out.logs.l y hy).under q hq)
      have HC2 : Hid (∀ q, (Value.slice va M.length vc).ownBlock = some q → q < wr.heap.size) := (show ∀ _, _ from fun q hq => OM.out.row.under q hq)
      have OM9 : Hid (MsOwn w9 w7.heap.size (.slice va M.length vc) M (r.te.take k)) := (show Hid _ from OM.out.kept hbz)
      replace HX : Hid (Bx w9 b 28 #[.int .i64 r.id, .int .i64 r.p, .int .i64 r.v, .bool r.n, .int .i64 r.la, .slice a2 r.l.length c2, .int .i64 r.c, .slice a3 r.ok.length c3, .slice a4 r.ch.length c4, .slice ta T.length tc]) := (show Hid _ from HX.out.kept hbz)
      replace ZB : Hid (Bx w9 (b + 1) 28 zR) := (show Hid _ from ZB.out.kept hbz)
      replace OL : Hid (OwnsX w9 w1.heap.size (.slice a2 r.l.length c2) r.l) := (show Hid _ from OL.out.kept hbz)
      replace OK : Hid (OwnsN w9 w3.heap.size (.slice a3 r.ok.length c3) r.ok) := (show Hid _ from OK.out.kept hbz)
      replace OC : Hid (OwnsN w9 w5.heap.size (.slice a4 r.ch.length c4) r.ch) := (show Hid _ from OC.out.kept hbz)
      replace BB : Hid (Below w.heap.size w w9) := (show Hid _ from BB.out.trans (hbz.mono BB.out.size))
      have Zw9 : Hid (wr.heap.size ≤ w9.heap.size) := (show _ ≤ _ from hbz.size)
      clear OM hu hbz ht y0 y1 y2 y3 y4 y5 y6 q9 hta
      have hz9 := Zw9.out
      have hzr := ZR.out
      have hz8 := Zw8.out
      go_wp2_with (
        at_builtin
        refine wpList_pushM w9 rfl (.tmp 27) (.tmp 34) rfl w7.heap.size (.slice va M.length vc) M _ ⟨mx, pa, pc⟩ (by simp [Act.eval, Act.put]) OM9.out (HU.out.has.low (by omega)) wr.heap.size HC1.out HC2.out HU.out.from (by simp [Act.eval, Act.put]) (by have := HLN.out; omega) (by omega) ?_
        intro v' w10 ho3 hg3)
      have hne : ∀ k, (Value.slice va M.length vc).ownBlock = some k → w7.heap.size ≤ k := OM9.out.row.from
      have SW : Hid (ChS (fun k => w7.heap.size ≤ k) w9 w10) := (show Hid _ from ChS.grown hg3 (fun k hk => hne k hk))
      replace HX : Hid (Bx w10 b 28 #[.int .i64 r.id, .int .i64 r.p, .int .i64 r.v, .bool r.n, .int .i64 r.la, .slice a2 r.l.length c2, .int .i64 r.c, .slice a3 r.ok.length c3, .slice a4 r.ch.length c4, .slice ta T.length tc]) := (show Hid _ from (SW.out.block _ (Bx.lt HX.out) (by have := HB.out; have := Z1.out; have := Zw2.out; have := Zw3.out; have := Zw4.out; have := Zw5.out; have := Zw6.out; have := Zw7.out; have := Zw8.out; have := ZR.out; have := Zw9.out; omega)).trans HX.out)
      replace ZB : Hid (Bx w10 (b + 1) 28 zR) := (show Hid _ from (SW.out.block _ (Bx.lt ZB.out) (by have := HB.out; have := Z1.out; have := Zw2.out; have := Zw3.out; have := Zw4.out; have := Zw5.out; have := Zw6.out; have := Zw7.out; have := Zw8.out; have := ZR.out; have := Zw9.out; omega)).trans ZB.out)
      replace OL : Hid (OwnsX w10 w1.heap.size (.slice a2 r.l.length c2) r.l) := (show Hid _ from OwnsE.off OL.out (fun k hk => SW.out.block k (OL.out.under k hk) (by have := UL.out k hk; have := HB.out; have := Z1.out; have := Zw2.out; have := Zw3.out; have := Zw4.out; have := Zw5.out; have := Zw6.out; have := Zw7.out; have := Zw8.out; have := ZR.out; have := Zw9.out; omega)))
      replace OK : Hid (OwnsN w10 w3.heap.size (.slice a3 r.ok.length c3) r.ok) := (show Hid _ from OwnsE.off OK.out (fun k hk => SW.out.block k (OK.out.under k hk) (by have := UK.out k hk; have := HB.out; have := Z1.out; have := Zw2.out; have := Zw3.out; have := Zw4.out; have := Zw5.out; have := Zw6.out; have := Zw7.out; have := Zw8.out; have := ZR.out; have := Zw9.out; omega)))
      replace OC : Hid (OwnsN w10 w5.heap.size (.slice a4 r.ch.length c4) r.ch) := (show Hid _ from OwnsE.off OC.out (fun k hk => SW.out.block k (OC.out.under k hk) (by have := UC.out k hk; have := HB.out; have := Z1.out; have := Zw2.out; have := Zw3.out; have := Zw4.out; have := Zw5.out; have := Zw6.out; have := Zw7.out; have := Zw8.out; have := ZR.out; have := Zw9.out; omega)))
      replace BB : Hid (Below w.heap.size w w10) := (show Hid _ from SW.out.below BB.out BB.out.size (fun k hk => by have := HB.out; have := Z1.out; have := Zw2.out; have := Zw3.out; have := Zw4.out; have := Zw5.out; have := Zw6.out; have := Zw7.out; have := Zw8.out; have := ZR.out; have := Zw9.out; omega))
      have OM10 : Hid (MsOwn w10 w7.heap.size v' (M ++ [⟨mx, pa, pc⟩]) (r.te.take (k + 1))) := (show Hid _ from by rw [hnx.out]; exact ho3)
      have ZR2 : Hid (w8.heap.size ≤ w10.heap.size) := (show _ ≤ _ by have := SW.out.size; omega)
      clear ho3 hg3 hne SW OM9
      go_roundw
      case rel => exact ⟨k + 1, _, by omega, by go_num, OM10, HX, ZB, OL, OK, OC, BB, ZR2⟩
      case measure => simp [intOf]; omega
    · obtain rfl : k = T.length := by omega
      have htl : T.length = r.te.length := HG.out.tlen
      have hML : M.length = T.length := by have := OM.out.len; rw [List.length_take, htl, Nat.min_self, ← htl] at this; exact this
      rw [htl, List.take_length] at OM
      have HML : Hid (M.length = T.length) := hML
      clear hML
      go_upto_region 10 with (refine wpList_put1 rfl rfl _ _ _ rfl b 9 (.slice va M.length vc) rfl rfl Tryz.rszM rfl HX.out (show 9 < 10 by decide) ?_; generalize hw : wr.setCell ⟨b, 9, none⟩ (.slice va M.length vc) = w11)
      have SW : Hid (ChS (fun k => k = b) wr w11) := (show Hid _ from by rw [← hw]; exact (ChS.refl _ _).set _ _ rfl)
      have SZ : w11.heap.size = wr.heap.size := by rw [← hw]; simp
      replace HX : Hid (Bx w11 b 28 #[.int .i64 r.id, .int .i64 r.p, .int .i64 r.v, .bool r.n, .int .i64 r.la, .slice a2 r.l.length c2, .int .i64 r.c, .slice a3 r.ok.length c3, .slice a4 r.ch.length c4, .slice va M.length vc]) := (show Hid _ from by rw [← hw]; exact Bx.put HX.out 9 _)
      replace ZB : Hid (Bx w11 (b + 1) 28 zR) := (show Hid _ from (SW.out.block _ (Bx.lt ZB.out) (by have := HB.out; have := Z1.out; have := Zw2.out; have := Zw3.out; have := Zw4.out; have := Zw5.out; have := Zw6.out; have := Zw7.out; have := Zw8.out; have := ZR.out; omega)).trans ZB.out)
      replace OL : Hid (OwnsX w11 w1.heap.size (.slice a2 r.l.length c2) r.l) := (show Hid _ from OwnsE.off OL.out (fun k hk => SW.out.block k (OL.out.under k hk) (by have := OL.out.from k hk; have := HB.out; have := Z1.out; have := Zw2.out; have := Zw3.out; have := Zw4.out; have := Zw5.out; have := Zw6.out; have := Zw7.out; have := Zw8.out; have := ZR.out; omega)))
      replace OK : Hid (OwnsN w11 w3.heap.size (.slice a3 r.ok.length c3) r.ok) := (show Hid _ from OwnsE.off OK.out (fun k hk => SW.out.block k (OK.out.under k hk) (by have := OK.out.from k hk; have := HB.out; have := Z1.out; have := Zw2.out; have := Zw3.out; have := Zw4.out; have := Zw5.out; have := Zw6.out; have := Zw7.out; have := Zw8.out; have := ZR.out; omega)))
      replace OC : Hid (OwnsN w11 w5.heap.size (.slice a4 r.ch.length c4) r.ch) := (show Hid _ from OwnsE.off OC.out (fun k hk => SW.out.block k (OC.out.under k hk) (by have := OC.out.from k hk; have := HB.out; have := Z1.out; have := Zw2.out; have := Zw3.out; have := Zw4.out; have := Zw5.out; have := Zw6.out; have := Zw7.out; have := Zw8.out; have := ZR.out; omega)))
      replace OM : Hid (MsOwn w11 w7.heap.size (.slice va M.length vc) M r.te) := (show Hid _ from OM.out.off (fun k h1 h2 => SW.out.block k h2 (by have := HB.out; have := Z1.out; have := Zw2.out; have := Zw3.out; have := Zw4.out; have := Zw5.out; have := Zw6.out; have := Zw7.out; have := Zw8.out; have := ZR.out; omega)))
      replace BB : Hid (Below w.heap.size w w11) := (show Hid _ from SW.out.below BB.out BB.out.size (fun k hk => by have := HB.out; have := Z1.out; have := Zw2.out; have := Zw3.out; have := Zw4.out; have := Zw5.out; have := Zw6.out; have := Zw7.out; have := Zw8.out; have := ZR.out; omega))
      have Zw11 : Hid (w11.heap.size = wr.heap.size) := SZ
      clear hw SW SZ
      go_wp2_with (first | (refine wpList_ldR rfl (.tmp 1) rfl b rfl HX.out rfl ?_) | (refine wpList_stR rfl rfl (.tmp 2) (.tmp 38) rfl (b + 1) #[.int .i64 r.id, .int .i64 r.p, .int .i64 r.v, .bool r.n, .int .i64 r.la, .slice a2 r.l.length c2, .int .i64 r.c, .slice a3 r.ok.length c3, .slice a4 r.ch.length c4, .slice va M.length vc] rfl rfl ZB.out rfl rfl (by simp [Value.oneCell']) ?_; intro w12 hz12 hc12))
      have SW : Hid (ChS (fun k => k = b + 1) w11 w12) := hc12
      have HU : Hid (RpOw w12 w.heap.size ⟨.slice a2 r.l.length c2, .slice a3 r.ok.length c3, .slice a4 r.ch.length c4, .slice va M.length vc, M⟩ r) := (show RpOw _ _ _ _ from by
        have z0 := HB.out
        have z1 := Z1.out
        have z2 := Zw2.out
        have z3 := Zw3.out
        have z4 := Zw4.out
        have z5 := Zw5.out
        have z6 := Zw6.out
        have z7 := Zw7.out
        have z8 := Zw8.out
        have z9 := ZR.out
        have z10 := Zw11.out
        exact ⟨((OwnsE.off OL.out (fun k hk => SW.out.block k (OL.out.under k hk) (by have := OL.out.from k hk; omega))).low (by omega)).has, ((OwnsE.off OK.out (fun k hk => SW.out.block k (OK.out.under k hk) (by have := OK.out.from k hk; omega))).low (by omega)).has, (OwnsE.off OC.out (fun k hk => SW.out.block k (OC.out.under k hk) (by have := OC.out.from k hk; omega))).low (by omega), OM.out.is, (OwnsE.off OM.out.row (fun k hk => SW.out.block k (OM.out.row.under k hk) (by have := OM.out.row.from k hk; omega))).low (by omega), fun x hx => ((OM.out.logs.l x hx).off (fun k hk => SW.out.block k ((OM.out.logs.l x hx).under k hk) (by have := (OM.out.logs.l x hx).from k hk; omega))).low (by omega)⟩)
      have HL : Hid (OwnsX w12 w.heap.size (.slice a2 r.l.length c2) r.l) := (show Hid _ from (OwnsE.off OL.out (fun k hk => SW.out.block k (OL.out.under k hk) (by have := OL.out.from k hk; have := HB.out; have := Z1.out; have := Zw2.out; have := Zw3.out; have := Zw4.out; have := Zw5.out; have := Zw6.out; have := Zw7.out; have := Zw8.out; have := ZR.out; have := Zw11.out; omega))).low (by have := HB.out; have := Z1.out; have := Zw2.out; have := Zw3.out; have := Zw4.out; have := Zw5.out; have := Zw6.out; have := Zw7.out; have := Zw8.out; have := ZR.out; have := Zw11.out; omega))
      have B12 : Hid (Below w.heap.size w w12) := (show Hid _ from SW.out.below BB.out BB.out.size (fun k hk => by have := HB.out; have := Z1.out; have := Zw2.out; have := Zw3.out; have := Zw4.out; have := Zw5.out; have := Zw6.out; have := Zw7.out; have := Zw8.out; have := ZR.out; have := Zw11.out; omega))
      have HA : Hid (RpAp ⟨.slice a2 r.l.length c2, .slice a3 r.ok.length c3, .slice a4 r.ch.length c4, .slice va M.length vc, M⟩) := (show RpAp _ from by
        have z0 := HB.out
        have z1 := Z1.out
        have z2 := Zw2.out
        have z3 := Zw3.out
        have z4 := Zw4.out
        have z5 := Zw5.out
        have z6 := Zw6.out
        have z7 := Zw7.out
        have z8 := Zw8.out
        have z9 := ZR.out
        have z10 := Zw11.out
        have hM : ∀ x ∈ M, ∀ k, x.u.ownBlock = some k → w7.heap.size ≤ k := fun x hx k hk => (OM.out.logs.l x hx).from k hk
        have hV := OM.out.row.from
        refine RpAp.iff.2 ⟨fun v hv => ?_, fun v hv => ?_, fun v hv => ?_, fun v hv => ?_, OM.out.logs.ap⟩
        · intro k h1 h2
          have := UL.out k h1
          simp only [List.mem_cons, List.mem_map] at hv
          rcases hv with rfl | rfl | rfl | ⟨x, hx, rfl⟩
          · have := UK.out k h2; omega
          · have := UC.out k h2; omega
          · have := hV k h2; omega
          · have := hM x hx k h2; omega
        · intro k h1 h2
          have := UK.out k h1
          simp only [List.mem_cons, List.mem_map] at hv
          rcases hv with rfl | rfl | ⟨x, hx, rfl⟩
          · have := UC.out k h2; omega
          · have := hV k h2; omega
          · have := hM x hx k h2; omega
        · intro k h1 h2
          have := UC.out k h1
          simp only [List.mem_cons, List.mem_map] at hv
          rcases hv with rfl | ⟨x, hx, rfl⟩
          · have := hV k h2; omega
          · have := hM x hx k h2; omega
        · obtain ⟨x, hx, rfl⟩ := List.mem_map.1 hv
          exact OM.out.ap x hx)
      refine bodyPost_ret (v := .agg #[.int .i64 r.id, .int .i64 r.p, .int .i64 r.v, .bool r.n, .int .i64 r.la, .slice a2 r.l.length c2, .int .i64 r.c, .slice a3 r.ok.length c3, .slice a4 r.ch.length c4, .slice va M.length vc]) (results_cell_row (p := 2) (ty := 28) rfl _ _ (b + 1) 28 _ (0, 0) _ rfl hz12 Tryz.underlying28 rfl (by rw [Tryz.rszR]; rfl)) rfl ?_
      exact ⟨_, rfl, HU.out, HL.out, HA.out, B12.out⟩
end Go.Proofs.YtlngleinegkoeaaGreat.Rl
namespace Go.Proofs.YtlngleinegkoeaaGreat.Rl
open Pg
set_option linter.unusedVariables false
set_option linter.unusedSimpArgs false

/-- One that leads, ahead of its counting. -/
structure Ld (r : Rp) : Prop where
  p : r.p = 1 ∨ r.p = 3 ∨ r.p = 5
  id : 0 ≤ r.id ∧ r.id < r.p
  v : 0 ≤ r.v ∧ r.v ≤ 10000
  l : logB r.l = true
  c : 0 ≤ r.c ∧ r.c ≤ (r.l.length : Int)
  la : r.la = r.v
  n : r.n = true
  ch : r.ch = []
  te : r.te = []
  m : mine r
  ok : (r.ok.length : Int) = r.p
  ok1 : ∀ x ∈ r.ok, 0 ≤ x ∧ x ≤ (r.l.length : Int)
theorem Ld.cntd {r : Rp} (h : Ld r) : RpOk (cntd r) ∧ r.c ≤ (cntd r).c := by
  have hb := cmF_bd (r.ok.set r.id.toNat (r.l.length : Int)) r.p r.c r.l.length h.c.2
  have hid := h.id
  have hok := h.ok
  refine ⟨⟨h.p, h.id, h.v, h.l, ⟨?_, hb.2⟩, ⟨?_, ?_⟩, ⟨fun _ => h.la, fun _ => h.n⟩, fun _ => ⟨h.ch, h.te⟩, fun _ _ => ⟨?_, ?_, ?_⟩, fun hh => absurd ⟨h.n, h.m⟩ hh, fun hh => ?_, fun hh => ?_, fun hh => ?_⟩, hb.1⟩
  · show 0 ≤ cmF _ _ _ _
    have := h.c.1
    omega
  · show 0 ≤ r.la
    rw [h.la]; exact h.v.1
  · show r.la ≤ r.v
    rw [h.la]; exact Int.le_refl _
  · show (((r.ok.set r.id.toNat (r.l.length : Int)).length : Nat) : Int) = r.p
    rw [List.length_set]; exact h.ok
  · show (r.ok.set r.id.toNat (r.l.length : Int))[r.id.toNat]? = some _
    rw [List.getElem?_set_self (by omega)]
    rfl
  · intro x hx
    rcases List.mem_or_eq_of_mem_set hx with hx | hx
    · exact h.ok1 x hx
    · rw [hx]; show 0 ≤ (r.l.length : Int) ∧ (r.l.length : Int) ≤ (r.l.length : Int); omega
  · have := h.n
    exact absurd (show r.n = false from hh) (by rw [this]; simp)
  · have := h.n
    exact absurd (show r.n = false from hh) (by rw [this]; simp)
  · have := h.n
    exact absurd (show r.n = false from hh) (by rw [this]; simp)
/-- One that asks for a view above its own. -/
theorem ask_ok {r : Rp} {v : Int} (h : RpOk r) (h1 : r.v < v) (h2 : v ≤ 10000) : RpOk (askF r v) := by
  have hv := h.v
  have hla := h.la
  refine ⟨h.p, h.id, ⟨by show 0 ≤ v; omega, h2⟩, h.l, h.c, ⟨hla.1, by show r.la ≤ v; omega⟩, ⟨fun hh => (by cases hh), fun hh => ?_⟩, fun hh => (by cases hh), fun hh => (by cases hh), fun _ => rfl, fun _ => ⟨List.mem_singleton.2 rfl, List.pairwise_singleton _ _, fun x hx => ?_⟩, fun _ _ => rfl, fun _ => ⟨fun m hm => (by cases hm), List.Pairwise.nil⟩⟩
  · have : r.la = v := hh
    omega
  · rw [List.mem_singleton.1 hx]
    exact h.id
theorem putM_mem (m : Ms) : ∀ (l : List Ms) (y : Ms), y ∈ putM m l → y = m ∨ y ∈ l
  | [], y, h => by simp [putM] at h; exact .inl h
  | x :: t, y, h => by
    unfold putM at h
    split at h
    · rcases List.mem_cons.1 h with rfl | h
      · exact .inr (List.mem_cons_self ..)
      · rcases putM_mem m t y h with h | h
        · exact .inl h
        · exact .inr (List.mem_cons_of_mem _ h)
    · split at h
      · rcases List.mem_cons.1 h with rfl | h
        · exact .inl rfl
        · exact .inr (List.mem_cons_of_mem _ h)
      · rcases List.mem_cons.1 h with rfl | h
        · exact .inl rfl
        · exact .inr h
theorem putM_has (m : Ms) : ∀ (l : List Ms), m ∈ putM m l
  | [] => by simp [putM]
  | x :: t => by
    unfold putM
    split
    · exact List.mem_cons_of_mem _ (putM_has m t)
    · split <;> exact List.mem_cons_self ..
theorem putM_ris (m : Ms) : ∀ (l : List Ms), l.Pairwise (fun a b => a.f < b.f) → (putM m l).Pairwise (fun a b => a.f < b.f)
  | [], _ => by simp [putM]
  | x :: t, h => by
    rw [List.pairwise_cons] at h
    unfold putM
    split
    · rename_i hx
      rw [List.pairwise_cons]
      refine ⟨fun y hy => ?_, putM_ris m t h.2⟩
      rcases putM_mem m t y hy with rfl | hy
      · exact hx
      · exact h.1 y hy
    · split
      · rename_i _ e
        rw [List.pairwise_cons]
        exact ⟨fun y hy => by rw [← e]; exact h.1 y hy, h.2⟩
      · rename_i h1 h2
        rw [List.pairwise_cons]
        refine ⟨fun y hy => ?_, List.pairwise_cons.2 h⟩
        rcases List.mem_cons.1 hy with rfl | hy
        · omega
        · have := h.1 y hy; omega
theorem bes_mem : ∀ (t : List Ms) (x : Ms), t.foldl betM x = x ∨ t.foldl betM x ∈ t
  | [], x => .inl rfl
  | y :: t, x => by
    rw [List.foldl_cons]
    have hb : betM x y = x ∨ betM x y = y := by unfold betM; split <;> simp
    rcases bes_mem t (betM x y) with h | h
    · rw [h]
      rcases hb with h2 | h2
      · exact .inl h2
      · rw [h2]; exact .inr (List.mem_cons_self ..)
    · exact .inr (List.mem_cons_of_mem _ h)
theorem besM_mem {te : List Ms} (h : te ≠ []) : besM te ∈ te := by
  match te, h with
  | x :: t, _ =>
    show (x :: t).foldl betM x ∈ x :: t
    rcases bes_mem (x :: t) x with h | h
    · rw [h]; exact List.mem_cons_self ..
    · exact h
theorem cmt_ge : ∀ (te : List Ms) (c : Int), c ≤ te.foldl (fun c m => max c m.c) c ∧ ∀ m ∈ te, m.c ≤ te.foldl (fun c m => max c m.c) c
  | [], c => ⟨Int.le_refl _, fun m hm => by cases hm⟩
  | x :: t, c => by
    rw [List.foldl_cons]
    obtain ⟨h1, h2⟩ := cmt_ge t (max c x.c)
    refine ⟨by omega, fun m hm => ?_⟩
    rcases List.mem_cons.1 hm with rfl | hm
    · omega
    · exact h2 m hm
/-- What is kept from r to x. -/
structure Kp (r x : Rp) : Prop where
  ok : RpOk x
  id : x.id = r.id
  p : x.p = r.p
  v : r.v ≤ x.v
  la : r.la ≤ x.la
  c : r.c ≤ x.c
  l : r.l.take r.c.toNat <+: x.l
theorem Kp.refl {r : Rp} (h : RpOk r) : Kp r r := ⟨h, rfl, rfl, Int.le_refl _, Int.le_refl _, Int.le_refl _, List.take_prefix _ _⟩
theorem Kp.trans {r x y : Rp} (h : Kp r x) (k : Kp x y) : Kp r y := by
  refine ⟨k.ok, k.id.trans h.id, k.p.trans h.p, Int.le_trans h.v k.v, Int.le_trans h.la k.la, Int.le_trans h.c k.c, ?_⟩
  refine List.IsPrefix.trans (List.prefix_take_iff.2 ⟨h.l, ?_⟩) k.l
  have := h.c
  rw [List.length_take]
  omega
theorem ask_kp {r : Rp} {v : Int} (h : RpOk r) (h1 : r.v < v) (h2 : v ≤ 10000) : Kp r (askF r v) :=
  ⟨ask_ok h h1 h2, rfl, rfl, Int.le_of_lt h1, Int.le_refl _, Int.le_refl _, List.take_prefix _ _⟩
theorem tell_ok {r : Rp} (h : RpOk r) : TeOk (tellM r r.id) r :=
  ⟨rfl, rfl, rfl, ⟨⟨by show (1 : Int) ≤ 4; decide, by show (4 : Int) ≤ 4; decide⟩, h.id, h.id, h.v, h.la, h.l, by rw [if_neg (by show ¬ (4 : Int) = 2; decide)]; exact h.c⟩⟩
/-- Another one that tells. -/
theorem te_kp {r : Rp} {m : Ms} (h : RpOk r) (hn : r.n = false) (hm : mine r) (ht : TeOk m r) : Kp r { r with te := putM m r.te } := by
  refine ⟨⟨h.p, h.id, h.v, h.l, h.c, h.la, h.n, fun hh => absurd (show r.n = true from hh) (by rw [hn]; simp), fun hh => absurd (show r.n = true from hh) (by rw [hn]; simp), fun _ => h.ok0 (fun hh => by rw [hh.1] at hn; cases hn), h.ch1, fun _ hh => absurd hm hh, fun _ => ⟨fun q hq => ?_, putM_ris m _ (h.te1 hn).2⟩⟩, rfl, rfl, Int.le_refl _, Int.le_refl _, Int.le_refl _, List.take_prefix _ _⟩
  rcases putM_mem m _ q hq with rfl | hq
  · exact ⟨ht.k, ht.t, ht.v, ht.ok⟩
  · have := (h.te1 hn).1 q hq
    exact ⟨this.k, this.t, this.v, this.ok⟩
theorem told_kp {r : Rp} (h : RpOk r) : Kp r (told r) := by
  unfold told
  split
  · exact Kp.refl h
  · rename_i h1
    have hn : r.n = false := by
      cases e : r.n with
      | false => rfl
      | true => exact absurd (Or.inl e) h1
    have hm : mine r := Classical.byContradiction fun hm => h1 (.inr (.inr hm))
    have hk := te_kp h hn hm (tell_ok h)
    simp only
    split
    · exact hk
    · split
      · exact hk
      · rename_i h2 h3
        have h3 : r.l.take r.c.toNat <+: (besM (putM (tellM r r.id) r.te)).l := Classical.byContradiction fun hh => h3 hh
        have hne : putM (tellM r r.id) r.te ≠ [] := fun e => by
          have := putM_has (tellM r r.id) r.te
          rw [e] at this
          cases this
        have hb := (hk.ok.te1 hn).1 _ (besM_mem hne)
        have hcm := cmt_ge (putM (tellM r r.id) r.te) 0
        have hc0 : r.c ≤ cmtM (putM (tellM r r.id) r.te) := hcm.2 _ (putM_has _ _)
        have hc1 : (r.c.toNat : Int) ≤ ((besM (putM (tellM r r.id) r.te)).l.length : Int) := by
          have := h3.length_le
          have hc := h.c
          rw [List.length_take] at this
          omega
        have hp := h.p
        have hL : Ld { r with te := [], l := (besM (putM (tellM r r.id) r.te)).l, c := min (cmtM (putM (tellM r r.id) r.te)) ((besM (putM (tellM r r.id) r.te)).l.length : Int), n := true, la := r.v, ch := [], ok := List.replicate r.p.toNat 0 } :=
          ⟨h.p, h.id, h.v, hb.ok.l, ⟨by have := hcm.1; show 0 ≤ min (cmtM _) _; unfold cmtM; omega, Int.min_le_right _ _⟩, rfl, rfl, rfl, rfl, hm, by show ((List.length (List.replicate _ _) : Nat) : Int) = r.p; rw [List.length_replicate]; omega, fun x hx => by rw [(List.mem_replicate.1 hx).2]; exact ⟨Int.le_refl _, by omega⟩⟩
        obtain ⟨h5, h6⟩ := hL.cntd
        refine ⟨h5, rfl, rfl, Int.le_refl _, h.la.2, ?_, h3⟩
        have hc := h.c
        have h6' : min (cmtM (putM (tellM r r.id) r.te)) ((besM (putM (tellM r r.id) r.te)).l.length : Int) ≤ _ := h6
        show r.c ≤ (cntd _).c
        omega
/-! ### What is sent -/
/-! ### Whatever is received -/
/-! ### Submitted, suspected, stopped -/
end Go.Proofs.YtlngleinegkoeaaGreat.Rl
