/-
  A date read: the specification's contract.
-/
import Derived.Test.YtfflifhcbfoliaaDoorOwnI
import Derived.BigQuiet
import Derived.Deep.QuietTactic
namespace Go.Proofs.YtfflifhcbfoliaaDoor
open Go.RowKit Go.Sort

/-- The numbers at the fixed places. -/
def nums (t : ByteArray) : List Int := [numV 10 15 (t.extract 5 7), numV 10 15 (t.extract 12 14), numV 10 15 (t.extract 14 16), numV 10 15 (t.extract 17 19), numV 10 15 (t.extract 20 22), numV 10 15 (t.extract 23 25)]


theorem cell_of {w : World} {k j : Nat} {C : Array Value} {t : TypeId} {fr : Nat × Nat} {v : Value} (h : w.heap[k]? = some (.cells C t fr)) (hv : C[j]? = some v) : w.cell? ⟨k, j, none⟩ = some v := by
  simp [World.cell?, h, hv]
theorem heapLt {w : World} {k : Nat} {o : Obj} (h : w.heap[k]? = some o) : k < w.heap.size := (Array.getElem?_eq_some_iff.1 h).1

theorem drewB {B : Nat} {w x : World} (h : Below B w x) : Below B w x.drew := ⟨h.os, h.tape, h.output, h.size, h.block⟩
theorem Dt.drew {x : World} {g : Nat} {y m d h i s : Int} (k : Dt x g y m d h i s) : Dt x.drew g y m d h i s := k
theorem Fb.fiveD {x : World} {g : Nat} {y m d h i s : Int} (k : Fb x g y m d h i s) (y' d' h' i' s' : Int) : Dt (((((x.setCell ⟨g, 2, none⟩ (.int .i64 d')).setCell ⟨g, 0, none⟩ (.int .i64 y')).setCell ⟨g, 3, none⟩ (.int .i64 h')).setCell ⟨g, 4, none⟩ (.int .i64 i')).setCell ⟨g, 5, none⟩ (.int .i64 s')) g y' m d' h' i' s' := by
  obtain ⟨⟨hz, c0, c1, c2, c3, c4, c5⟩, _⟩ := k
  refine ⟨by simpa [World.setCell] using hz, ?_, ?_, ?_, ?_, ?_, ?_⟩
  all_goals simp [go_sem, c0, c1, c2, c3, c4, c5]
theorem Fb.five {x : World} {g : Nat} {y m d h i s : Int} (k : Fb x g y m d h i s) (y' d' h' i' s' : Int) : Dt ((((((x.setCell ⟨g, 2, none⟩ (.int .i64 d')).setCell ⟨g, 0, none⟩ (.int .i64 y')).setCell ⟨g, 3, none⟩ (.int .i64 h')).setCell ⟨g, 4, none⟩ (.int .i64 i')).setCell ⟨g, 5, none⟩ (.int .i64 s')).drew) g y' m d' h' i' s' := (k.fiveD y' d' h' i' s').drew
theorem fiveB {B g : Nat} {w x : World} (h : Below B w x) (hg : B ≤ g) (v0 v1 v2 v3 v4 : Value) : Below B w ((((((x.setCell ⟨g, 2, none⟩ v0).setCell ⟨g, 0, none⟩ v1).setCell ⟨g, 3, none⟩ v2).setCell ⟨g, 4, none⟩ v3).setCell ⟨g, 5, none⟩ v4).drew) :=
  drewB (((((h.setCell hg _).setCell hg _).setCell hg _).setCell hg _).setCell hg _)
theorem puts6 (w : World) {B g : Nat} (h : B ≤ g) (v0 v1 v2 v3 v4 v5 : Value) : Below B w ((((((w.setCell ⟨g, 0, none⟩ v0).setCell ⟨g, 1, none⟩ v1).setCell ⟨g, 2, none⟩ v2).setCell ⟨g, 3, none⟩ v3).setCell ⟨g, 4, none⟩ v4).setCell ⟨g, 5, none⟩ v5) :=
  ((((((Below.refl B w).setCell h _).setCell h _).setCell h _).setCell h _).setCell h _).setCell h _
theorem numV_in (s : ByteArray) : 0 ≤ numV 10 15 s ∧ numV 10 15 s ≤ 1000000000000000 := by
  by_cases ok : numOk 10 15 s = true
  · rw [num_yes ok]
    unfold numOk at ok
    rw [Bool.and_eq_true] at ok
    have h1 := of_decide_eq_true ok.1
    have e := take_all s s.size (by omega)
    have h2 := num_bound10 (s := s) (k := s.size) h1.2 (Nat.le_refl _) (by rw [e]; exact ok.2)
    rw [e] at h2
    exact h2
  · rw [num_no (by simpa using ok)]
    omega

set_option maxHeartbeats 8000000 in
theorem specRead_x (t : ByteArray) (w : World) (hz : t.size = 29) :
    Calls Tryd.prog 14 #[.string t] w fun e w' => (∃ v, e = .returned v ∧ ReadIs t v) ∧ Below w.heap.size w w' := by
  have hsz : ∀ a b, (t.extract a b).size ≤ maxLen := fun a b => by rw [ByteArray.size_extract]; unfold maxLen; omega
  go_enter Tryd.func14, Tryd.ntmps14
  go_wp2_with fail
  go_loopw [5] (fun v wr => ∃ k : Int, v = .int .i64 k ∧ 1 ≤ k ∧ k ≤ 13 ∧ Fb wr (w.heap.size + 1) 0 (mcur (t.extract 8 11) k) 0 0 0 0 ∧ Below (w.heap.size + 1) (w.alloc (.cells #[.int .i64 0, .int .i64 0, .int .i64 0, .int .i64 0, .int .i64 0, .int .i64 0] 25)) wr) (fun v _ => (14 - intOf v).toNat)
  case atStart =>
    refine ⟨1, rfl, by omega, by omega, ?_, ?_⟩
    · rw [mcur_one]
      have := Fb.born (w.alloc (.cells #[.int .i64 0, .int .i64 0, .int .i64 0, .int .i64 0, .int .i64 0, .int .i64 0] 25)) 25
      simpa using this
    · exact (Below.refl _ _).alloc (by simp) _
  case round =>
    obtain ⟨k, rfl, hk1, hk2, hF, hlow⟩ := hrel
    by_cases hle : k ≤ 12
    · obtain ⟨⟨hgz, c0, c1, c2, c3, c4, c5⟩, hf⟩ := id hF
      have f1 := hf 1
      by_cases he : moN k = t.extract 8 11
      · have hq := bytes_eq he
        have HV : Hid (mcur (t.extract 8 11) (k + 1) = k) := mcur_yes (monV_yes hk1 hle he)
        clear he hf
        go_wp2_with fail
        go_quiet ((go_at_call 26; refine Calls.quiet_of_same ((specMoN _ _ hk1 hle).mono fun _ _ h => ⟨h.1, h.2.symm⟩)))
        go_wp2
        go_roundw
        case rel => exact ⟨k + 1, rfl, by omega, by omega, by rw [HV.out]; exact (show Fb (wr.drewN nq) _ _ _ _ _ _ _ from hF).month k, (show Below _ _ (wr.drewN nq) from ⟨hlow.os, hlow.tape, hlow.output, hlow.size, hlow.block⟩).setCell (Nat.le_refl _) _⟩
        case measure => simp [intOf]; omega
      · have hq := bytes_ne he
        have HV : Hid (mcur (t.extract 8 11) (k + 1) = mcur (t.extract 8 11) k) := mcur_no (monV_not hk1 he)
        clear he hf
        go_wp2_with fail
        go_quiet ((go_at_call 26; refine Calls.quiet_of_same ((specMoN _ _ hk1 hle).mono fun _ _ h => ⟨h.1, h.2.symm⟩)))
        go_wp2
        go_roundw
        case rel => exact ⟨k + 1, rfl, by omega, by omega, by rw [HV.out]; exact hF, ⟨hlow.os, hlow.tape, hlow.output, hlow.size, hlow.block⟩⟩
        case measure => simp [intOf]; omega
    · obtain rfl : k = 13 := by omega
      rw [mcur_all] at hF
      have hlowR := hlow
      clear hlow
      have hz1 : w.heap.size + 1 < wr.heap.size := hF.1.1
      rename World => W1
      go_wp2_with fail
      go_loopw [6, 30] (fun v k wr => ∃ j : Nat, j ≤ 6 ∧ k = .int .i64 (j : Int) ∧ OwnsI wr W1.heap.size v ((nums t).take j) ∧ wr.heap[W1.heap.size + 1]? = some (.cells #[.int .i64 5, .int .i64 12, .int .i64 14, .int .i64 17, .int .i64 20, .int .i64 23] 3 (0, 0)) ∧ Below W1.heap.size W1 wr) (fun _ k _ => (6 - intOf k).toNat)
      case atStart =>
        refine ⟨0, by omega, rfl, (OwnsI.empty W1).alloc _, ?_, ?_⟩
        · have := heap_alloc_new (W1.alloc (.cells #[] 2)) (.cells #[.int .i64 5, .int .i64 12, .int .i64 14, .int .i64 17, .int .i64 20, .int .i64 23] 3)
          simpa using this
        · exact ((Below.refl _ _).alloc (Nat.le_refl _) _).alloc (by simp) _
      case round =>
      obtain ⟨j, hj, rfl, hown, hT, hlow2⟩ := hrel
      have hlow := hlow2
      clear hlow2
      rcases (show j = 0 ∨ j = 1 ∨ j = 2 ∨ j = 3 ∨ j = 4 ∨ j = 5 ∨ j = 6 from by omega) with rfl | rfl | rfl | rfl | rfl | rfl | rfl
      · have cT : wr.cell? ⟨W1.heap.size + 1, 0, none⟩ = some (.int .i64 5) := cell_of hT rfl
        go_wp2_with (first | (go_at_call 36; (refine (specDig _ _ (hsz _ _)).mono ?_; rintro e x2 ⟨rfl, hb2⟩; unfold numE; replace hown := hown.kept hb2.low; replace hT := (hb2.1.block _ (heapLt hT)).trans hT; replace hlow := hlow.trans (Go.Joins.below_le hb2.low hlow.size); clear hb2 cT)) | (at_builtin; refine wpList_pushI _ rfl (.tmp 43) (.tmp 45) rfl W1.heap.size _ _ _ rfl hown rfl (by simp [nums]) (by have := hlow.size; omega) ?_; intro v2 w2 ho2 hg2))
        go_roundw
        case rel => exact ⟨1, by omega, by go_num, ho2, (hg2.block _ (heapLt hT) (hown.not hT)).trans hT, hlow.grown hg2 hlow.size hown.from⟩
        case measure => simp [intOf]
      · have cT : wr.cell? ⟨W1.heap.size + 1, 1, none⟩ = some (.int .i64 12) := cell_of hT rfl
        go_wp2_with (first | (go_at_call 36; (refine (specDig _ _ (hsz _ _)).mono ?_; rintro e x2 ⟨rfl, hb2⟩; unfold numE; replace hown := hown.kept hb2.low; replace hT := (hb2.1.block _ (heapLt hT)).trans hT; replace hlow := hlow.trans (Go.Joins.below_le hb2.low hlow.size); clear hb2 cT)) | (at_builtin; refine wpList_pushI _ rfl (.tmp 43) (.tmp 45) rfl W1.heap.size _ _ _ rfl hown rfl (by simp [nums]) (by have := hlow.size; omega) ?_; intro v2 w2 ho2 hg2))
        go_roundw
        case rel => exact ⟨2, by omega, by go_num, ho2, (hg2.block _ (heapLt hT) (hown.not hT)).trans hT, hlow.grown hg2 hlow.size hown.from⟩
        case measure => simp [intOf]
      · have cT : wr.cell? ⟨W1.heap.size + 1, 2, none⟩ = some (.int .i64 14) := cell_of hT rfl
        go_wp2_with (first | (go_at_call 36; (refine (specDig _ _ (hsz _ _)).mono ?_; rintro e x2 ⟨rfl, hb2⟩; unfold numE; replace hown := hown.kept hb2.low; replace hT := (hb2.1.block _ (heapLt hT)).trans hT; replace hlow := hlow.trans (Go.Joins.below_le hb2.low hlow.size); clear hb2 cT)) | (at_builtin; refine wpList_pushI _ rfl (.tmp 43) (.tmp 45) rfl W1.heap.size _ _ _ rfl hown rfl (by simp [nums]) (by have := hlow.size; omega) ?_; intro v2 w2 ho2 hg2))
        go_roundw
        case rel => exact ⟨3, by omega, by go_num, ho2, (hg2.block _ (heapLt hT) (hown.not hT)).trans hT, hlow.grown hg2 hlow.size hown.from⟩
        case measure => simp [intOf]
      · have cT : wr.cell? ⟨W1.heap.size + 1, 3, none⟩ = some (.int .i64 17) := cell_of hT rfl
        go_wp2_with (first | (go_at_call 36; (refine (specDig _ _ (hsz _ _)).mono ?_; rintro e x2 ⟨rfl, hb2⟩; unfold numE; replace hown := hown.kept hb2.low; replace hT := (hb2.1.block _ (heapLt hT)).trans hT; replace hlow := hlow.trans (Go.Joins.below_le hb2.low hlow.size); clear hb2 cT)) | (at_builtin; refine wpList_pushI _ rfl (.tmp 43) (.tmp 45) rfl W1.heap.size _ _ _ rfl hown rfl (by simp [nums]) (by have := hlow.size; omega) ?_; intro v2 w2 ho2 hg2))
        go_roundw
        case rel => exact ⟨4, by omega, by go_num, ho2, (hg2.block _ (heapLt hT) (hown.not hT)).trans hT, hlow.grown hg2 hlow.size hown.from⟩
        case measure => simp [intOf]
      · have cT : wr.cell? ⟨W1.heap.size + 1, 4, none⟩ = some (.int .i64 20) := cell_of hT rfl
        go_wp2_with (first | (go_at_call 36; (refine (specDig _ _ (hsz _ _)).mono ?_; rintro e x2 ⟨rfl, hb2⟩; unfold numE; replace hown := hown.kept hb2.low; replace hT := (hb2.1.block _ (heapLt hT)).trans hT; replace hlow := hlow.trans (Go.Joins.below_le hb2.low hlow.size); clear hb2 cT)) | (at_builtin; refine wpList_pushI _ rfl (.tmp 43) (.tmp 45) rfl W1.heap.size _ _ _ rfl hown rfl (by simp [nums]) (by have := hlow.size; omega) ?_; intro v2 w2 ho2 hg2))
        go_roundw
        case rel => exact ⟨5, by omega, by go_num, ho2, (hg2.block _ (heapLt hT) (hown.not hT)).trans hT, hlow.grown hg2 hlow.size hown.from⟩
        case measure => simp [intOf]
      · have cT : wr.cell? ⟨W1.heap.size + 1, 5, none⟩ = some (.int .i64 23) := cell_of hT rfl
        go_wp2_with (first | (go_at_call 36; (refine (specDig _ _ (hsz _ _)).mono ?_; rintro e x2 ⟨rfl, hb2⟩; unfold numE; replace hown := hown.kept hb2.low; replace hT := (hb2.1.block _ (heapLt hT)).trans hT; replace hlow := hlow.trans (Go.Joins.below_le hb2.low hlow.size); clear hb2 cT)) | (at_builtin; refine wpList_pushI _ rfl (.tmp 43) (.tmp 45) rfl W1.heap.size _ _ _ rfl hown rfl (by simp [nums]) (by have := hlow.size; omega) ?_; intro v2 w2 ho2 hg2))
        go_roundw
        case rel => exact ⟨6, by omega, by go_num, ho2, (hg2.block _ (heapLt hT) (hown.not hT)).trans hT, hlow.grown hg2 hlow.size hown.from⟩
        case measure => simp [intOf]
      · have hown6 : OwnsI wr W1.heap.size u6 [numV 10 15 (t.extract 5 7), numV 10 15 (t.extract 12 14), numV 10 15 (t.extract 14 16), numV 10 15 (t.extract 17 19), numV 10 15 (t.extract 20 22), numV 10 15 (t.extract 23 25)] := hown
        clear hown
        have hown := hown6
        clear hown6
        have HP : Hid (∀ y m d h i s : Int, okD y m d h i s → showA y m d h i s = t → 100 * (numV 10 15 (t.extract 12 14)) + (numV 10 15 (t.extract 14 16)) = y ∧ monV (t.extract 8 11) = m ∧ (numV 10 15 (t.extract 5 7)) = d ∧ (numV 10 15 (t.extract 17 19)) = h ∧ (numV 10 15 (t.extract 20 22)) = i ∧ (numV 10 15 (t.extract 23 25)) = s) := fun y m d h i s ok e => by
          obtain ⟨_, a2, a3, a4, a5, a6, a7, a8⟩ := parts_of ok e
          exact ⟨by rw [a7, a8]; omega, a2, a3, a4, a5, a6⟩
        have b5 := numV_in (t.extract 5 7)
        have b12 := numV_in (t.extract 12 14)
        have b14 := numV_in (t.extract 14 16)
        have b17 := numV_in (t.extract 17 19)
        have b20 := numV_in (t.extract 20 22)
        have b23 := numV_in (t.extract 23 25)
        generalize numV 10 15 (t.extract 5 7) = p5 at hown HP b5
        generalize numV 10 15 (t.extract 12 14) = p12 at hown HP b12
        generalize numV 10 15 (t.extract 14 16) = p14 at hown HP b14
        generalize numV 10 15 (t.extract 17 19) = p17 at hown HP b17
        generalize numV 10 15 (t.extract 20 22) = p20 at hown HP b20
        generalize numV 10 15 (t.extract 23 25) = p23 at hown HP b23
        generalize monV (t.extract 8 11) = mo at hF HP
        obtain ⟨gn, cap, hv, hgn, n0, n1, n2, n3, n4, n5⟩ := hown.six
        subst hv
        have hF2 := hF.below hlow (show w.heap.size + 1 < W1.heap.size from hz1)
        have hR : Below (w.heap.size + 1) (w.alloc (.cells #[.int .i64 0, .int .i64 0, .int .i64 0, .int .i64 0, .int .i64 0, .int .i64 0] 25)) wr := hlowR.trans (Go.Joins.below_le hlow (by omega))
        obtain ⟨⟨hg2, c0, c1, c2, c3, c4, c5⟩, hf⟩ := id hF2
        have f0 := hf 0
        have f1 := hf 1
        have f2 := hf 2
        have f3 := hf 3
        have f4 := hf 4
        have f5 := hf 5
        have hne : gn ≠ w.heap.size + 1 := by omega
        have hne' : w.heap.size + 1 ≠ gn := by omega
        clear hown hT hf hF hlow hlowR hz1 hgn
        go_wp2_with fail
        go_region
        by_cases he : showV (100 * p12 + p14) mo p5 p17 p20 p23 = t
        · have hq := bytes_eq he
          have HE : Hid (okD (100 * p12 + p14) mo p5 p17 p20 p23 ∧ showA (100 * p12 + p14) mo p5 p17 p20 p23 = t) := showV_full hz he
          clear he hz
          go_wp2_with fail
          refine (specShow _ _ _ _ _ _ _).mono ?_
          rintro e x3 ⟨rfl, hb3⟩
          have D3 : Dt x3 (w.heap.size + 1) (100 * p12 + p14) mo p5 p17 p20 p23 := (hF2.five (100 * p12 + p14) p5 p17 p20 p23).grew hb3
          have R3 : Below (w.heap.size + 1) (w.alloc (.cells #[.int .i64 0, .int .i64 0, .int .i64 0, .int .i64 0, .int .i64 0, .int .i64 0] 25)) x3 := (fiveB hR (Nat.le_refl _) _ _ _ _ _).trans (Go.Joins.below_le hb3.low (by have := hR.size; simp [World.setCell] at this ⊢; omega))
          obtain ⟨_, q0, q1, q2, q3, q4, q5⟩ := D3
          obtain ⟨⟨_, r0, r1, r2, r3, r4, r5⟩, rf⟩ := (Fb.born w 25).below R3 (Nat.lt_succ_self _)
          have g0 := rf 0
          have g1 := rf 1
          have g2 := rf 2
          have g3 := rf 3
          have g4 := rf 4
          have g5 := rf 5
          clear hb3 rf hF2 hR
          have B3 : Below w.heap.size w x3 := ((Below.refl w.heap.size w).alloc (Nat.le_refl _) _).trans (Go.Joins.below_le R3 (Nat.le_succ _))
          clear R3
          go_wp2
          refine bodyPost_ret (v := .tuple #[.agg #[.int .i64 (100 * p12 + p14), .int .i64 mo, .int .i64 p5, .int .i64 p17, .int .i64 p20, .int .i64 p23], .bool true]) (by simp [results, Tryd.results14, go_sem, r0, r1, r2, r3, r4, r5]) rfl ⟨⟨_, rfl, .inl ⟨_, _, _, _, _, _, HE.out.1, HE.out.2, rfl⟩⟩, ?_⟩
          exact B3.trans (puts6 _ (Nat.le_refl _) _ _ _ _ _ _)
        · have hq := bytes_ne he
          have HE : Hid (∀ y m d h i s : Int, okD y m d h i s → showA y m d h i s ≠ t) := fun y' m' d' h' i' s' ok' e' => by
            obtain ⟨rfl, rfl, rfl, rfl, rfl, rfl⟩ := HP.out y' m' d' h' i' s' ok' e'
            exact he ((showV_of ok').trans e')
          clear he hz
          go_wp2_with fail
          refine (specShow _ _ _ _ _ _ _).mono ?_
          rintro e x3 ⟨rfl, hb3⟩
          have D3 : Dt x3 (w.heap.size + 1) (100 * p12 + p14) mo p5 p17 p20 p23 := (hF2.five (100 * p12 + p14) p5 p17 p20 p23).grew hb3
          have R3 : Below (w.heap.size + 1) (w.alloc (.cells #[.int .i64 0, .int .i64 0, .int .i64 0, .int .i64 0, .int .i64 0, .int .i64 0] 25)) x3 := (fiveB hR (Nat.le_refl _) _ _ _ _ _).trans (Go.Joins.below_le hb3.low (by have := hR.size; simp [World.setCell] at this ⊢; omega))
          obtain ⟨_, q0, q1, q2, q3, q4, q5⟩ := D3
          obtain ⟨⟨_, r0, r1, r2, r3, r4, r5⟩, rf⟩ := (Fb.born w 25).below R3 (Nat.lt_succ_self _)
          have g0 := rf 0
          have g1 := rf 1
          have g2 := rf 2
          have g3 := rf 3
          have g4 := rf 4
          have g5 := rf 5
          clear hb3 rf hF2 hR
          have B3 : Below w.heap.size w x3 := ((Below.refl w.heap.size w).alloc (Nat.le_refl _) _).trans (Go.Joins.below_le R3 (Nat.le_succ _))
          clear R3
          go_wp2
          refine bodyPost_ret (v := .tuple #[.agg #[.int .i64 0, .int .i64 0, .int .i64 0, .int .i64 0, .int .i64 0, .int .i64 0], .bool false]) (by simp [results, Tryd.results14, go_sem, r0, r1, r2, r3, r4, r5]) rfl ⟨⟨_, rfl, .inr ⟨HE.out, rfl⟩⟩, ?_⟩
          exact B3.trans (puts6 _ (Nat.le_refl _) _ _ _ _ _ _)

theorem specRead_o (t : ByteArray) (w : World) (hm : t.size ≤ maxLen) (hz : t.size ≠ 29) :
    Calls Tryd.prog 14 #[.string t] w fun e w' => (∃ v, e = .returned v ∧ ReadIs t v) ∧ Below w.heap.size w w' := by
  have hm2 := hm
  unfold maxLen at hm2
  have HE : Hid (∀ y m d h i s : Int, okD y m d h i s → showA y m d h i s ≠ t) := fun y m d h i s _ e => hz (by rw [← e]; exact showA_size y m d h i s)
  go_enter Tryd.func14, Tryd.ntmps14
  go_wp2
  refine bodyPost_ret (v := .tuple #[.agg #[.int .i64 0, .int .i64 0, .int .i64 0, .int .i64 0, .int .i64 0, .int .i64 0], .bool false]) (by simp [results, Tryd.results14, go_sem]) rfl ⟨⟨_, rfl, .inr ⟨HE.out, rfl⟩⟩, (Below.refl w.heap.size w).alloc (Nat.le_refl _) _⟩
theorem specRead (t : ByteArray) (w : World) (hm : t.size ≤ maxLen) :
    Calls Tryd.prog 14 #[.string t] w fun e w' => (∃ v, e = .returned v ∧ ReadIs t v) ∧ Below w.heap.size w w' := by
  by_cases hz : t.size = 29
  · exact specRead_x t w hz
  · exact specRead_o t w hm hz
end Go.Proofs.YtfflifhcbfoliaaDoor
