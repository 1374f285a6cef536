/-
  A date read: the specification's contract.
  Moments: the specification's and the program's contracts.
  The specification's policy by its contracts: the control, the tag and the dates of fields; how long a response is fresh.
  The specification's policy by its contracts: how long a response is fresh, how old an object is, whether it is fresh.
  The specification's policy by its contracts: how old an object is, whether it is fresh.
  The specification's policy by its contracts: whether an object is fresh, what is to be done.
  The specification's policy by its contracts: whether an object is fresh, what is to be done.
-/
import Derived.Test.YtkaogmdhjcgcdaaGreatDoorH35
import Derived.BigQuiet
import Derived.Deep.QuietTactic
import Derived.Test.YtkaogmdhjcgcdaaGreatDoorH27
import Derived.Test.YtkaogmdhjcgcdaaGreatDoorH10
import Derived.Test.YtkaogmdhjcgcdaaGreatDoorH07
import Derived.Test.YtkaogmdhjcgcdaaGreatDoorH14
import Derived.ProofKit
import Derived.OpenShut
import Derived.ShutString
import Derived.Lib.SmallJoins
import Derived.Test.YtkaogmdhjcgcdaaGreatDoorH31
import Derived.Test.YtkaogmdhjcgcdaaGreatDoorH15
import Derived.Lib.QuietBelow
import Derived.Deep.DeepCutAuto
namespace Go.Proofs.YtkaogmdhjcgcdaaGreatDoor.Dd
open Go.RowKit Go.Sort

/-- The numbers at the fixed places. -/
def nums (t : ByteArray) : List Int := [numV 10 15 (t.extract 5 7), numV 10 15 (t.extract 12 14), numV 10 15 (t.extract 14 16), numV 10 15 (t.extract 17 19), numV 10 15 (t.extract 20 22), numV 10 15 (t.extract 23 25)]


theorem cell_of {w : World} {k j : Nat} {C : Array Value} {t : TypeId} {fr : Nat × Nat} {v : Value} (h : w.heap[k]? = some (.cells C t fr)) (hv : C[j]? = some v) : w.cell? ⟨k, j, none⟩ = some v := by
  simp [World.cell?, h, hv]
theorem heapLt {w : World} {k : Nat} {o : Obj} (h : w.heap[k]? = some o) : k < w.heap.size := (Array.getElem?_eq_some_iff.1 h).1

theorem drewB {B : Nat} {w x : World} (h : Below B w x) : Below B w x.drew := ⟨h.os, h.tape, h.output, h.size, h.block⟩
theorem Dt.drew {x : World} {g : Nat} {y m d h i s : Int} (k : Dt x g y m d h i s) : Dt x.drew g y m d h i s := k
theorem Fb.fiveD {x : World} {g : Nat} {y m d h i s : Int} (k : Fb x g y m d h i s) (y' d' h' i' s' : Int) : Dt (((((x.setCell ⟨g, 2, none⟩ (.int .i64 d')).setCell ⟨g, 0, none⟩ (.int .i64 y')).setCell ⟨g, 3, none⟩ (.int .i64 h')).setCell ⟨g, 4, none⟩ (.int .i64 i')).setCell ⟨g, 5, none⟩ (.int .i64 s')) g y' m d' h' i' s' := by
  obtain ⟨⟨hz, c0, c1, c2, c3, c4, c5⟩, _⟩ := k
  refine ⟨by simpa [World.setCell] using hz, ?_, ?_, ?_, ?_, ?_, ?_⟩
  all_goals simp [go_sem, c0, c1, c2, c3, c4, c5]
theorem Fb.five {x : World} {g : Nat} {y m d h i s : Int} (k : Fb x g y m d h i s) (y' d' h' i' s' : Int) : Dt ((((((x.setCell ⟨g, 2, none⟩ (.int .i64 d')).setCell ⟨g, 0, none⟩ (.int .i64 y')).setCell ⟨g, 3, none⟩ (.int .i64 h')).setCell ⟨g, 4, none⟩ (.int .i64 i')).setCell ⟨g, 5, none⟩ (.int .i64 s')).drew) g y' m d' h' i' s' := (k.fiveD y' d' h' i' s').drew
theorem fiveB {B g : Nat} {w x : World} (h : Below B w x) (hg : B ≤ g) (v0 v1 v2 v3 v4 : Value) : Below B w ((((((x.setCell ⟨g, 2, none⟩ v0).setCell ⟨g, 0, none⟩ v1).setCell ⟨g, 3, none⟩ v2).setCell ⟨g, 4, none⟩ v3).setCell ⟨g, 5, none⟩ v4).drew) :=
  drewB (((((h.setCell hg _).setCell hg _).setCell hg _).setCell hg _).setCell hg _)
theorem puts6 (w : World) {B g : Nat} (h : B ≤ g) (v0 v1 v2 v3 v4 v5 : Value) : Below B w ((((((w.setCell ⟨g, 0, none⟩ v0).setCell ⟨g, 1, none⟩ v1).setCell ⟨g, 2, none⟩ v2).setCell ⟨g, 3, none⟩ v3).setCell ⟨g, 4, none⟩ v4).setCell ⟨g, 5, none⟩ v5) :=
  ((((((Below.refl B w).setCell h _).setCell h _).setCell h _).setCell h _).setCell h _).setCell h _
theorem numV_in (s : ByteArray) : 0 ≤ numV 10 15 s ∧ numV 10 15 s ≤ 1000000000000000 := by
  by_cases ok : numOk 10 15 s = true
  · rw [num_yes ok]
    unfold numOk at ok
    rw [Bool.and_eq_true] at ok
    have h1 := of_decide_eq_true ok.1
    have e := take_all s s.size (by omega)
    have h2 := num_bound10 (s := s) (k := s.size) h1.2 (Nat.le_refl _) (by rw [e]; exact ok.2)
    rw [e] at h2
    exact h2
  · rw [num_no (by simpa using ok)]
    omega

set_option maxHeartbeats 8000000 in
theorem specRead_x (t : ByteArray) (w : World) (hz : t.size = 29) :
    Calls Tryz.prog 92 #[.string t] w fun e w' => (∃ v, e = .returned v ∧ ReadIs t v) ∧ Below w.heap.size w w' := by
  have hsz : ∀ a b, (t.extract a b).size ≤ maxLen := fun a b => by rw [ByteArray.size_extract]; unfold maxLen; omega
  go_enter Tryz.func92, Tryz.ntmps92
  go_wp2_with fail
  go_loopw [5] (fun v wr => ∃ k : Int, v = .int .i64 k ∧ 1 ≤ k ∧ k ≤ 13 ∧ Fb wr (w.heap.size + 1) 0 (mcur (t.extract 8 11) k) 0 0 0 0 ∧ Below (w.heap.size + 1) (w.alloc (.cells #[.int .i64 0, .int .i64 0, .int .i64 0, .int .i64 0, .int .i64 0, .int .i64 0] 121)) wr) (fun v _ => (14 - intOf v).toNat)
  case atStart =>
    refine ⟨1, rfl, by omega, by omega, ?_, ?_⟩
    · rw [mcur_one]
      have := Fb.born (w.alloc (.cells #[.int .i64 0, .int .i64 0, .int .i64 0, .int .i64 0, .int .i64 0, .int .i64 0] 121)) 121
      simpa using this
    · exact (Below.refl _ _).alloc (by simp) _
  case round =>
    obtain ⟨k, rfl, hk1, hk2, hF, hlow⟩ := hrel
    by_cases hle : k ≤ 12
    · obtain ⟨⟨hgz, c0, c1, c2, c3, c4, c5⟩, hf⟩ := id hF
      have f1 := hf 1
      by_cases he : moN k = t.extract 8 11
      · have hq := bytes_eq he
        have HV : Hid (mcur (t.extract 8 11) (k + 1) = k) := mcur_yes (monV_yes hk1 hle he)
        clear he hf
        go_wp2_with fail
        go_quiet ((go_at_call 120; refine Calls.quiet_of_same ((specMoN _ _ hk1 hle).mono fun _ _ h => ⟨h.1, h.2.symm⟩)))
        go_wp2
        go_roundw
        case rel => exact ⟨k + 1, rfl, by omega, by omega, by rw [HV.out]; exact (show Fb (wr.drewN nq) _ _ _ _ _ _ _ from hF).month k, (show Below _ _ (wr.drewN nq) from ⟨hlow.os, hlow.tape, hlow.output, hlow.size, hlow.block⟩).setCell (Nat.le_refl _) _⟩
        case measure => simp [intOf]; omega
      · have hq := bytes_ne he
        have HV : Hid (mcur (t.extract 8 11) (k + 1) = mcur (t.extract 8 11) k) := mcur_no (monV_not hk1 he)
        clear he hf
        go_wp2_with fail
        go_quiet ((go_at_call 120; refine Calls.quiet_of_same ((specMoN _ _ hk1 hle).mono fun _ _ h => ⟨h.1, h.2.symm⟩)))
        go_wp2
        go_roundw
        case rel => exact ⟨k + 1, rfl, by omega, by omega, by rw [HV.out]; exact hF, ⟨hlow.os, hlow.tape, hlow.output, hlow.size, hlow.block⟩⟩
        case measure => simp [intOf]; omega
    · obtain rfl : k = 13 := by omega
      rw [mcur_all] at hF
      have hlowR := hlow
      clear hlow
      have hz1 : w.heap.size + 1 < wr.heap.size := hF.1.1
      rename World => W1
      go_wp2_with fail
      go_loopw [6, 30] (fun v k wr => ∃ j : Nat, j ≤ 6 ∧ k = .int .i64 (j : Int) ∧ OwnsI wr W1.heap.size v ((nums t).take j) ∧ wr.heap[W1.heap.size + 1]? = some (.cells #[.int .i64 5, .int .i64 12, .int .i64 14, .int .i64 17, .int .i64 20, .int .i64 23] 3 (0, 0)) ∧ Below W1.heap.size W1 wr) (fun _ k _ => (6 - intOf k).toNat)
      case atStart =>
        refine ⟨0, by omega, rfl, (OwnsI.empty W1).alloc _, ?_, ?_⟩
        · have := heap_alloc_new (W1.alloc (.cells #[] 2)) (.cells #[.int .i64 5, .int .i64 12, .int .i64 14, .int .i64 17, .int .i64 20, .int .i64 23] 3)
          simpa using this
        · exact ((Below.refl _ _).alloc (Nat.le_refl _) _).alloc (by simp) _
      case round =>
      obtain ⟨j, hj, rfl, hown, hT, hlow2⟩ := hrel
      have hlow := hlow2
      clear hlow2
      rcases (show j = 0 ∨ j = 1 ∨ j = 2 ∨ j = 3 ∨ j = 4 ∨ j = 5 ∨ j = 6 from by omega) with rfl | rfl | rfl | rfl | rfl | rfl | rfl
      · have cT : wr.cell? ⟨W1.heap.size + 1, 0, none⟩ = some (.int .i64 5) := cell_of hT rfl
        go_wp2_with (first | (go_at_call 50; (refine (specDig _ _ (hsz _ _)).mono ?_; rintro e x2 ⟨rfl, hb2⟩; unfold numE; replace hown := hown.kept hb2.low; replace hT := (hb2.1.block _ (heapLt hT)).trans hT; replace hlow := hlow.trans (Go.Joins.below_le hb2.low hlow.size); clear hb2 cT)) | (at_builtin; refine wpList_pushI _ rfl (.tmp 43) (.tmp 45) rfl W1.heap.size _ _ _ rfl hown rfl (by simp [nums]) (by have := hlow.size; omega) ?_; intro v2 w2 ho2 hg2))
        go_roundw
        case rel => exact ⟨1, by omega, by go_num, ho2, (hg2.block _ (heapLt hT) (hown.not hT)).trans hT, hlow.grown hg2 hlow.size hown.from⟩
        case measure => simp [intOf]
      · have cT : wr.cell? ⟨W1.heap.size + 1, 1, none⟩ = some (.int .i64 12) := cell_of hT rfl
        go_wp2_with (first | (go_at_call 50; (refine (specDig _ _ (hsz _ _)).mono ?_; rintro e x2 ⟨rfl, hb2⟩; unfold numE; replace hown := hown.kept hb2.low; replace hT := (hb2.1.block _ (heapLt hT)).trans hT; replace hlow := hlow.trans (Go.Joins.below_le hb2.low hlow.size); clear hb2 cT)) | (at_builtin; refine wpList_pushI _ rfl (.tmp 43) (.tmp 45) rfl W1.heap.size _ _ _ rfl hown rfl (by simp [nums]) (by have := hlow.size; omega) ?_; intro v2 w2 ho2 hg2))
        go_roundw
        case rel => exact ⟨2, by omega, by go_num, ho2, (hg2.block _ (heapLt hT) (hown.not hT)).trans hT, hlow.grown hg2 hlow.size hown.from⟩
        case measure => simp [intOf]
      · have cT : wr.cell? ⟨W1.heap.size + 1, 2, none⟩ = some (.int .i64 14) := cell_of hT rfl
        go_wp2_with (first | (go_at_call 50; (refine (specDig _ _ (hsz _ _)).mono ?_; rintro e x2 ⟨rfl, hb2⟩; unfold numE; replace hown := hown.kept hb2.low; replace hT := (hb2.1.block _ (heapLt hT)).trans hT; replace hlow := hlow.trans (Go.Joins.below_le hb2.low hlow.size); clear hb2 cT)) | (at_builtin; refine wpList_pushI _ rfl (.tmp 43) (.tmp 45) rfl W1.heap.size _ _ _ rfl hown rfl (by simp [nums]) (by have := hlow.size; omega) ?_; intro v2 w2 ho2 hg2))
        go_roundw
        case rel => exact ⟨3, by omega, by go_num, ho2, (hg2.block _ (heapLt hT) (hown.not hT)).trans hT, hlow.grown hg2 hlow.size hown.from⟩
        case measure => simp [intOf]
      · have cT : wr.cell? ⟨W1.heap.size + 1, 3, none⟩ = some (.int .i64 17) := cell_of hT rfl
        go_wp2_with (first | (go_at_call 50; (refine (specDig _ _ (hsz _ _)).mono ?_; rintro e x2 ⟨rfl, hb2⟩; unfold numE; replace hown := hown.kept hb2.low; replace hT := (hb2.1.block _ (heapLt hT)).trans hT; replace hlow := hlow.trans (Go.Joins.below_le hb2.low hlow.size); clear hb2 cT)) | (at_builtin; refine wpList_pushI _ rfl (.tmp 43) (.tmp 45) rfl W1.heap.size _ _ _ rfl hown rfl (by simp [nums]) (by have := hlow.size; omega) ?_; intro v2 w2 ho2 hg2))
        go_roundw
        case rel => exact ⟨4, by omega, by go_num, ho2, (hg2.block _ (heapLt hT) (hown.not hT)).trans hT, hlow.grown hg2 hlow.size hown.from⟩
        case measure => simp [intOf]
      · have cT : wr.cell? ⟨W1.heap.size + 1, 4, none⟩ = some (.int .i64 20) := cell_of hT rfl
        go_wp2_with (first | (go_at_call 50; (refine (specDig _ _ (hsz _ _)).mono ?_; rintro e x2 ⟨rfl, hb2⟩; unfold numE; replace hown := hown.kept hb2.low; replace hT := (hb2.1.block _ (heapLt hT)).trans hT; replace hlow := hlow.trans (Go.Joins.below_le hb2.low hlow.size); clear hb2 cT)) | (at_builtin; refine wpList_pushI _ rfl (.tmp 43) (.tmp 45) rfl W1.heap.size _ _ _ rfl hown rfl (by simp [nums]) (by have := hlow.size; omega) ?_; intro v2 w2 ho2 hg2))
        go_roundw
        case rel => exact ⟨5, by omega, by go_num, ho2, (hg2.block _ (heapLt hT) (hown.not hT)).trans hT, hlow.grown hg2 hlow.size hown.from⟩
        case measure => simp [intOf]
      · have cT : wr.cell? ⟨W1.heap.size + 1, 5, none⟩ = some (.int .i64 23) := cell_of hT rfl
        go_wp2_with (first | (go_at_call 50; (refine (specDig _ _ (hsz _ _)).mono ?_; rintro e x2 ⟨rfl, hb2⟩; unfold numE; replace hown := hown.kept hb2.low; replace hT := (hb2.1.block _ (heapLt hT)).trans hT; replace hlow := hlow.trans (Go.Joins.below_le hb2.low hlow.size); clear hb2 cT)) | (at_builtin; refine wpList_pushI _ rfl (.tmp 43) (.tmp 45) rfl W1.heap.size _ _ _ rfl hown rfl (by simp [nums]) (by have := hlow.size; omega) ?_; intro v2 w2 ho2 hg2))
        go_roundw
        case rel => exact ⟨6, by omega, by go_num, ho2, (hg2.block _ (heapLt hT) (hown.not hT)).trans hT, hlow.grown hg2 hlow.size hown.from⟩
        case measure => simp [intOf]
      · have hown6 : OwnsI wr W1.heap.size u6 [numV 10 15 (t.extract 5 7), numV 10 15 (t.extract 12 14), numV 10 15 (t.extract 14 16), numV 10 15 (t.extract 17 19), numV 10 15 (t.extract 20 22), numV 10 15 (t.extract 23 25)] := hown
        clear hown
        have hown := hown6
        clear hown6
        have HP : Hid (∀ y m d h i s : Int, okD y m d h i s → showA y m d h i s = t → 100 * (numV 10 15 (t.extract 12 14)) + (numV 10 15 (t.extract 14 16)) = y ∧ monV (t.extract 8 11) = m ∧ (numV 10 15 (t.extract 5 7)) = d ∧ (numV 10 15 (t.extract 17 19)) = h ∧ (numV 10 15 (t.extract 20 22)) = i ∧ (numV 10 15 (t.extract 23 25)) = s) := fun y m d h i s ok e => by
          obtain ⟨_, a2, a3, a4, a5, a6, a7, a8⟩ := parts_of ok e
          exact ⟨by rw [a7, a8]; omega, a2, a3, a4, a5, a6⟩
        have b5 := numV_in (t.extract 5 7)
        have b12 := numV_in (t.extract 12 14)
        have b14 := numV_in (t.extract 14 16)
        have b17 := numV_in (t.extract 17 19)
        have b20 := numV_in (t.extract 20 22)
        have b23 := numV_in (t.extract 23 25)
        generalize numV 10 15 (t.extract 5 7) = p5 at hown HP b5
        generalize numV 10 15 (t.extract 12 14) = p12 at hown HP b12
        generalize numV 10 15 (t.extract 14 16) = p14 at hown HP b14
        generalize numV 10 15 (t.extract 17 19) = p17 at hown HP b17
        generalize numV 10 15 (t.extract 20 22) = p20 at hown HP b20
        generalize numV 10 15 (t.extract 23 25) = p23 at hown HP b23
        generalize monV (t.extract 8 11) = mo at hF HP
        obtain ⟨gn, cap, hv, hgn, n0, n1, n2, n3, n4, n5⟩ := hown.six
        subst hv
        have hF2 := hF.below hlow (show w.heap.size + 1 < W1.heap.size from hz1)
        have hR : Below (w.heap.size + 1) (w.alloc (.cells #[.int .i64 0, .int .i64 0, .int .i64 0, .int .i64 0, .int .i64 0, .int .i64 0] 121)) wr := hlowR.trans (Go.Joins.below_le hlow (by omega))
        obtain ⟨⟨hg2, c0, c1, c2, c3, c4, c5⟩, hf⟩ := id hF2
        have f0 := hf 0
        have f1 := hf 1
        have f2 := hf 2
        have f3 := hf 3
        have f4 := hf 4
        have f5 := hf 5
        have hne : gn ≠ w.heap.size + 1 := by omega
        have hne' : w.heap.size + 1 ≠ gn := by omega
        clear hown hT hf hF hlow hlowR hz1 hgn
        go_wp2_with fail
        go_region
        by_cases he : showV (100 * p12 + p14) mo p5 p17 p20 p23 = t
        · have hq := bytes_eq he
          have HE : Hid (okD (100 * p12 + p14) mo p5 p17 p20 p23 ∧ showA (100 * p12 + p14) mo p5 p17 p20 p23 = t) := showV_full hz he
          clear he hz
          go_wp2_with fail
          refine (specShow _ _ _ _ _ _ _).mono ?_
          rintro e x3 ⟨rfl, hb3⟩
          have D3 : Dt x3 (w.heap.size + 1) (100 * p12 + p14) mo p5 p17 p20 p23 := (hF2.five (100 * p12 + p14) p5 p17 p20 p23).grew hb3
          have R3 : Below (w.heap.size + 1) (w.alloc (.cells #[.int .i64 0, .int .i64 0, .int .i64 0, .int .i64 0, .int .i64 0, .int .i64 0] 121)) x3 := (fiveB hR (Nat.le_refl _) _ _ _ _ _).trans (Go.Joins.below_le hb3.low (by have := hR.size; simp [World.setCell] at this ⊢; omega))
          obtain ⟨_, q0, q1, q2, q3, q4, q5⟩ := D3
          obtain ⟨⟨_, r0, r1, r2, r3, r4, r5⟩, rf⟩ := (Fb.born w 121).below R3 (Nat.lt_succ_self _)
          have g0 := rf 0
          have g1 := rf 1
          have g2 := rf 2
          have g3 := rf 3
          have g4 := rf 4
          have g5 := rf 5
          clear hb3 rf hF2 hR
          have B3 : Below w.heap.size w x3 := ((Below.refl w.heap.size w).alloc (Nat.le_refl _) _).trans (Go.Joins.below_le R3 (Nat.le_succ _))
          clear R3
          go_wp2
          refine bodyPost_ret (v := .tuple #[.agg #[.int .i64 (100 * p12 + p14), .int .i64 mo, .int .i64 p5, .int .i64 p17, .int .i64 p20, .int .i64 p23], .bool true]) (by simp [results, Tryz.results92, go_sem, r0, r1, r2, r3, r4, r5]) rfl ⟨⟨_, rfl, .inl ⟨_, _, _, _, _, _, HE.out.1, HE.out.2, rfl⟩⟩, ?_⟩
          exact B3.trans (puts6 _ (Nat.le_refl _) _ _ _ _ _ _)
        · have hq := bytes_ne he
          have HE : Hid (∀ y m d h i s : Int, okD y m d h i s → showA y m d h i s ≠ t) := fun y' m' d' h' i' s' ok' e' => by
            obtain ⟨rfl, rfl, rfl, rfl, rfl, rfl⟩ := HP.out y' m' d' h' i' s' ok' e'
            exact he ((showV_of ok').trans e')
          clear he hz
          go_wp2_with fail
          refine (specShow _ _ _ _ _ _ _).mono ?_
          rintro e x3 ⟨rfl, hb3⟩
          have D3 : Dt x3 (w.heap.size + 1) (100 * p12 + p14) mo p5 p17 p20 p23 := (hF2.five (100 * p12 + p14) p5 p17 p20 p23).grew hb3
          have R3 : Below (w.heap.size + 1) (w.alloc (.cells #[.int .i64 0, .int .i64 0, .int .i64 0, .int .i64 0, .int .i64 0, .int .i64 0] 121)) x3 := (fiveB hR (Nat.le_refl _) _ _ _ _ _).trans (Go.Joins.below_le hb3.low (by have := hR.size; simp [World.setCell] at this ⊢; omega))
          obtain ⟨_, q0, q1, q2, q3, q4, q5⟩ := D3
          obtain ⟨⟨_, r0, r1, r2, r3, r4, r5⟩, rf⟩ := (Fb.born w 121).below R3 (Nat.lt_succ_self _)
          have g0 := rf 0
          have g1 := rf 1
          have g2 := rf 2
          have g3 := rf 3
          have g4 := rf 4
          have g5 := rf 5
          clear hb3 rf hF2 hR
          have B3 : Below w.heap.size w x3 := ((Below.refl w.heap.size w).alloc (Nat.le_refl _) _).trans (Go.Joins.below_le R3 (Nat.le_succ _))
          clear R3
          go_wp2
          refine bodyPost_ret (v := .tuple #[.agg #[.int .i64 0, .int .i64 0, .int .i64 0, .int .i64 0, .int .i64 0, .int .i64 0], .bool false]) (by simp [results, Tryz.results92, go_sem, r0, r1, r2, r3, r4, r5]) rfl ⟨⟨_, rfl, .inr ⟨HE.out, rfl⟩⟩, ?_⟩
          exact B3.trans (puts6 _ (Nat.le_refl _) _ _ _ _ _ _)

theorem specRead_o (t : ByteArray) (w : World) (hm : t.size ≤ maxLen) (hz : t.size ≠ 29) :
    Calls Tryz.prog 92 #[.string t] w fun e w' => (∃ v, e = .returned v ∧ ReadIs t v) ∧ Below w.heap.size w w' := by
  have hm2 := hm
  unfold maxLen at hm2
  have HE : Hid (∀ y m d h i s : Int, okD y m d h i s → showA y m d h i s ≠ t) := fun y m d h i s _ e => hz (by rw [← e]; exact showA_size y m d h i s)
  go_enter Tryz.func92, Tryz.ntmps92
  go_wp2
  refine bodyPost_ret (v := .tuple #[.agg #[.int .i64 0, .int .i64 0, .int .i64 0, .int .i64 0, .int .i64 0, .int .i64 0], .bool false]) (by simp [results, Tryz.results92, go_sem]) rfl ⟨⟨_, rfl, .inr ⟨HE.out, rfl⟩⟩, (Below.refl w.heap.size w).alloc (Nat.le_refl _) _⟩
theorem specRead (t : ByteArray) (w : World) (hm : t.size ≤ maxLen) :
    Calls Tryz.prog 92 #[.string t] w fun e w' => (∃ v, e = .returned v ∧ ReadIs t v) ∧ Below w.heap.size w w' := by
  by_cases hz : t.size = 29
  · exact specRead_x t w hz
  · exact specRead_o t w hm hz
end Go.Proofs.YtkaogmdhjcgcdaaGreatDoor.Dd
namespace Go.Proofs.YtkaogmdhjcgcdaaGreatDoor.Dd
open Go.RowKit Go.Sort

set_option maxHeartbeats 1000000 in
theorem specMom_in (y m d h i s : Int) (w : World) (hok : okB y m d h i s = true) :
    Calls Tryz.prog 93 #[.agg #[.int .i64 y, .int .i64 m, .int .i64 d, .int .i64 h, .int .i64 i, .int .i64 s]] w fun e w' => e = .returned (.int .i64 (momN y m d h i s)) ∧ Grew w w' := by
  have OK : Hid (dayOk y m d) := dayOk_of hok
  have hbd := day_bd OK.out
  have hh : (0 ≤ h ∧ h ≤ 23) ∧ (0 ≤ i ∧ i ≤ 59) ∧ (0 ≤ s ∧ s ≤ 59) := (of_decide_eq_true hok : okD y m d h i s).2.2.2
  have mix := mixed
  have r1 : IntKind.i64.wrap (dayN y m d * 86400) = dayN y m d * 86400 := by rw [IntKind.wrap_i64]; omega
  have r2 : IntKind.i64.wrap (h * 3600) = h * 3600 := by rw [IntKind.wrap_i64]; omega
  have r3 : IntKind.i64.wrap (dayN y m d * 86400 + h * 3600) = dayN y m d * 86400 + h * 3600 := by rw [IntKind.wrap_i64]; omega
  have r4 : IntKind.i64.wrap (i * 60) = i * 60 := by rw [IntKind.wrap_i64]; omega
  have r5 : IntKind.i64.wrap (dayN y m d * 86400 + h * 3600 + i * 60) = dayN y m d * 86400 + h * 3600 + i * 60 := by rw [IntKind.wrap_i64]; omega
  have r6 : IntKind.i64.wrap (dayN y m d * 86400 + h * 3600 + i * 60 + s) = dayN y m d * 86400 + h * 3600 + i * 60 + s := by rw [IntKind.wrap_i64]; omega
  clear hh hbd
  go_enter Tryz.func93, Tryz.ntmps93
  go_wp2_with (go_at_call 122; refine (specOk _ _ _ _ _ _ _).mono ?_; rintro e x2 ⟨rfl, hb2⟩; rw [hok]; have hg2 : Grew w x2 := ((Grew.refl w).alloc _).trans hb2; have kk := fun n os => boxCells ((hb2.drewN n).more os); clear hb2)
  have k0 := fun n os => (kk n os).1
  have k1 := fun n os => (kk n os).2.1
  have k2 := fun n os => (kk n os).2.2.1
  have k3 := fun n os => (kk n os).2.2.2.1
  have k4 := fun n os => (kk n os).2.2.2.2.1
  have k5 := fun n os => (kk n os).2.2.2.2.2
  clear kk
  go_quiet_grown ((go_at_call 123; refine callGrew (specDays2 _ _ _ _ _ _ _ OK.out)))
  go_wp2
  go_ret
  exact ⟨rfl, (hg2.drewN _).more _⟩

theorem specMom_out (y m d h i s : Int) (w : World) (hok : okB y m d h i s = false) :
    Calls Tryz.prog 93 #[.agg #[.int .i64 y, .int .i64 m, .int .i64 d, .int .i64 h, .int .i64 i, .int .i64 s]] w fun e w' => e = .returned (.int .i64 (-1)) ∧ Grew w w' := by
  go_enter Tryz.func93, Tryz.ntmps93
  go_wp2_with (go_at_call 122; refine (specOk _ _ _ _ _ _ _).mono ?_; rintro e x2 ⟨rfl, hb2⟩; rw [hok])
  go_ret
  exact ⟨rfl, ((Grew.refl w).alloc _).trans hb2⟩

theorem specMom (y m d h i s : Int) (w : World) :
    Calls Tryz.prog 93 #[.agg #[.int .i64 y, .int .i64 m, .int .i64 d, .int .i64 h, .int .i64 i, .int .i64 s]] w fun e w' => e = .returned (.int .i64 (momV y m d h i s)) ∧ Grew w w' := by
  unfold momV
  cases hok : okB y m d h i s
  · exact specMom_out y m d h i s w hok
  · exact specMom_in y m d h i s w hok

set_option maxHeartbeats 1000000 in
theorem implMom_in (y m d h i s : Int) (w : World) (hok : okB y m d h i s = true) :
    Calls Tryz.prog 119 #[.agg #[.int .i64 y, .int .i64 m, .int .i64 d, .int .i64 h, .int .i64 i, .int .i64 s]] w fun e w' => e = .returned (.int .i64 (momN y m d h i s)) ∧ Grew w w' := by
  have OK : Hid (dayOk y m d) := dayOk_of hok
  have hbd := day_bd OK.out
  have hh : (0 ≤ h ∧ h ≤ 23) ∧ (0 ≤ i ∧ i ≤ 59) ∧ (0 ≤ s ∧ s ≤ 59) := (of_decide_eq_true hok : okD y m d h i s).2.2.2
  have mix := mixed
  have r1 : IntKind.i64.wrap (dayN y m d * 86400) = dayN y m d * 86400 := by rw [IntKind.wrap_i64]; omega
  have r2 : IntKind.i64.wrap (h * 3600) = h * 3600 := by rw [IntKind.wrap_i64]; omega
  have r3 : IntKind.i64.wrap (dayN y m d * 86400 + h * 3600) = dayN y m d * 86400 + h * 3600 := by rw [IntKind.wrap_i64]; omega
  have r4 : IntKind.i64.wrap (i * 60) = i * 60 := by rw [IntKind.wrap_i64]; omega
  have r5 : IntKind.i64.wrap (dayN y m d * 86400 + h * 3600 + i * 60) = dayN y m d * 86400 + h * 3600 + i * 60 := by rw [IntKind.wrap_i64]; omega
  have r6 : IntKind.i64.wrap (dayN y m d * 86400 + h * 3600 + i * 60 + s) = dayN y m d * 86400 + h * 3600 + i * 60 + s := by rw [IntKind.wrap_i64]; omega
  clear hh hbd
  go_enter Tryz.func119, Tryz.ntmps119
  go_wp2_with (go_at_call 142; refine (implOk _ _ _ _ _ _ _).mono ?_; rintro e x2 ⟨rfl, hb2⟩; rw [hok]; have hg2 : Grew w x2 := ((Grew.refl w).alloc _).trans hb2; have kk := fun n os => boxCells ((hb2.drewN n).more os); clear hb2)
  have k0 := fun n os => (kk n os).1
  have k1 := fun n os => (kk n os).2.1
  have k2 := fun n os => (kk n os).2.2.1
  have k3 := fun n os => (kk n os).2.2.2.1
  have k4 := fun n os => (kk n os).2.2.2.2.1
  have k5 := fun n os => (kk n os).2.2.2.2.2
  clear kk
  go_quiet_grown ((go_at_call 143; refine callGrew (implDays_in _ _ _ _ _ _ _ OK.out hok)))
  go_wp2
  go_ret
  exact ⟨rfl, (hg2.drewN _).more _⟩

theorem implMom_out (y m d h i s : Int) (w : World) (hok : okB y m d h i s = false) :
    Calls Tryz.prog 119 #[.agg #[.int .i64 y, .int .i64 m, .int .i64 d, .int .i64 h, .int .i64 i, .int .i64 s]] w fun e w' => e = .returned (.int .i64 (-1)) ∧ Grew w w' := by
  go_enter Tryz.func119, Tryz.ntmps119
  go_wp2_with (go_at_call 142; refine (implOk _ _ _ _ _ _ _).mono ?_; rintro e x2 ⟨rfl, hb2⟩; rw [hok])
  go_ret
  exact ⟨rfl, ((Grew.refl w).alloc _).trans hb2⟩

theorem implMom (y m d h i s : Int) (w : World) :
    Calls Tryz.prog 119 #[.agg #[.int .i64 y, .int .i64 m, .int .i64 d, .int .i64 h, .int .i64 i, .int .i64 s]] w fun e w' => e = .returned (.int .i64 (momV y m d h i s)) ∧ Grew w w' := by
  unfold momV
  cases hok : okB y m d h i s
  · exact implMom_out y m d h i s w hok
  · exact implMom_in y m d h i s w hok
end Go.Proofs.YtkaogmdhjcgcdaaGreatDoor.Dd
namespace Go.Proofs.YtkaogmdhjcgcdaaGreatDoor
open Go.RowKit Go.Sort
set_option linter.unusedVariables false
set_option linter.unusedSimpArgs false

theorem getF_bound (n : ByteArray) : ∀ (l : List Fl) (p : ByteArray × Bool), (l.foldl (gStep n) p).1.size ≤ p.1.size + szL l + 2 * l.length := by
  intro l
  induction l with
  | nil => intro p; simp
  | cons f l ih =>
    intro p
    have h := ih (gStep n p f)
    have hs : (gStep n p f).1.size ≤ p.1.size + 2 + f.2.size := by
      unfold gStep
      split
      · simp only
        rw [ByteArray.size_append]
        split
        · rw [ByteArray.size_append]; exact Nat.le_refl _
        · omega
      · omega
    have hz : szL (f :: l) = f.1.size + f.2.size + szL l := by simp [szL, szF]
    rw [List.foldl_cons, List.length_cons, hz]
    omega
theorem getF_max {l : List Fl} (n : ByteArray) (h1 : szL l ≤ 1048576) (h2 : l.length ≤ 1048576) : (getF l n).1.size ≤ 3145728 := by
  have := getF_bound n l (⟨#[]⟩, false)
  have h0 : (⟨#[]⟩ : ByteArray).size = 0 := rfl
  unfold getF
  simp only [h0] at this
  omega
set_option maxRecDepth 100000 in
set_option maxHeartbeats 2000000 in
theorem specCtl (v : Value) (l : List Fl) (w : World) (h : Fits w v l) :
    Calls Tryz.prog 55 #[v] w fun e w' => e = .returned (ctV (ctlOf l)) ∧ Below w.heap.size w w' := by
  have hgz := getF_max nCC h.2.1 h.2.2.1
  have hg := fun W (hW : Fits W v l) => specGetN v l nCC W hW.1 hW.2.1 hW.2.2.1 (by decide)
  have hr := fun W => specRdC (getF l nCC).1 W (by unfold maxLen; omega) (items_size _)
  have HC : Hid (ctlOf l = rdCt (getF l nCC).1) := rfl
  unfold getE at hg
  generalize ctlOf l = C at HC ⊢
  rw [← HC.out] at hr
  generalize getF l nCC = g at hg hr
  obtain ⟨t, b⟩ := g
  simp only at hg hr
  obtain ⟨va, vc, rfl⟩ := h.form
  have b0 : Hid (Below w.heap.size w (w.alloc (.cells #[.int .i64 0, .int .i64 0, .int .i64 0, .bool false, .bool false, .bool false, .bool false] 50))) := (Below.refl _ w).alloc (Nat.le_refl _) _
  have Z0 : Hid (CtB (w.alloc (.cells #[.int .i64 0, .int .i64 0, .int .i64 0, .bool false, .bool false, .bool false, .bool false] 50)) w.heap.size ctZ) := CtB.born w ctZ 50
  have F0 : Hid (Fits (w.alloc (.cells #[.int .i64 0, .int .i64 0, .int .i64 0, .bool false, .bool false, .bool false, .bool false] 50)) (.slice va l.length vc) l) := h.kept b0.out
  clear h HC
  unfold nCC at hg
  go_enter Tryz.func55, Tryz.ntmps55
  go_wp2_with fail
  refine (hg _ F0.out).mono ?_
  rintro e w1 ⟨rfl, hb1⟩
  have Z1 : Hid (CtB w1 w.heap.size ctZ) := Z0.out.kept hb1
  have B1 : Hid (Below w.heap.size w w1) := past6 b0.out hb1
  clear hb1 Z0 F0 b0 hg
  go_wp2_with fail
  refine (hr _).mono ?_
  rintro e w2 ⟨rfl, hb2⟩
  have Z2 : Hid (CtB w2 w.heap.size ctZ) := Z1.out.kept hb2
  have B2 : Hid (Below w.heap.size w w2) := past6 B1.out hb2
  clear hb2 Z1 B1 hr
  obtain ⟨xa, xs, xt, xns, xnc, xpr, xmu⟩ := C
  obtain ⟨z0, z1, z2, z3, z4, z5, z6⟩ := Z2.out.all
  have zf := Z2.out.fz
  have P1 := Z2.out.puts ⟨xa, xs, xt, xns, xnc, xpr, xmu⟩
  have HP : Hid _ := CtB.all P1
  have BP : Hid _ := putL_below (B := w.heap.size) (b := w.heap.size) (Nat.le_refl _) (ctE.c ⟨xa, xs, xt, xns, xnc, xpr, xmu⟩) 0 B2.out
  unfold ctZ at z0 z1 z2 z3 z4 z5 z6
  simp only at z0 z1 z2 z3 z4 z5 z6
  unfold ctV
  clear P1 Z2
  go_wp2
  obtain ⟨p0, p1, p2, p3, p4, p5, p6⟩ := HP.out
  rw [ctE_c] at p0 p1 p2 p3 p4 p5 p6
  have bp := BP.out
  rw [ctE_c] at bp
  simp only [putL, Nat.zero_add, Nat.reduceAdd] at p0 p1 p2 p3 p4 p5 p6 bp
  exact bodyPost_ret (v := ctV ⟨xa, xs, xt, xns, xnc, xpr, xmu⟩) (by unfold ctV; simp [results, Tryz.results55, go_sem, p0, p1, p2, p3, p4, p5, p6]) rfl ⟨rfl, bp⟩
set_option maxHeartbeats 1000000 in
theorem specTagO (r : Rs) (u : Value) (w : World) (h : RsIn w u r) :
    Calls Tryz.prog 72 #[rsV r u] w fun e w' => e = .returned (.bool (tagOf r.l)) ∧ Below w.heap.size w w' := by
  have hgz := getF_max nET h.1.2.1 h.1.2.2.1
  have hg := fun W (hW : Fits W u r.l) => specGetN u r.l nET W hW.1 hW.2.1 hW.2.2.1 (by decide)
  have hr := fun W => specRd (getF r.l nET).1 W (by unfold maxLen; omega)
  have HT : Hid (tagOf r.l = (rdT (getF r.l nET).1).isSome) := rfl
  unfold getE at hg
  generalize tagOf r.l = T at HT ⊢
  generalize rdT (getF r.l nET).1 = q at HT hr
  generalize getF r.l nET = g at hg hr
  obtain ⟨t, b⟩ := g
  simp only at hg hr
  obtain ⟨ua, uc, rfl⟩ := h.1.form
  have B0 : Hid (Below w.heap.size w (w.alloc (.cells #[.int .i64 r.s, .slice ua r.l.length uc, .string r.b] 26))) := (Below.refl _ w).alloc (Nat.le_refl _) _
  have F0 : Hid (Fits (w.alloc (.cells #[.int .i64 r.s, .slice ua r.l.length uc, .string r.b] 26)) (.slice ua r.l.length uc) r.l) := h.1.kept B0.out
  clear h
  unfold nET at hg
  unfold rsV
  go_enter Tryz.func72, Tryz.ntmps72
  go_wp2_with fail
  refine (hg _ F0.out).mono ?_
  rintro e w1 ⟨rfl, hb1⟩
  have B1 : Hid (Below w.heap.size w w1) := past6 B0.out hb1
  clear hb1 F0 B0 hg
  go_wp2_with fail
  refine (hr _).mono ?_
  rintro e w2 ⟨rfl, hb2⟩
  have B2 : Hid (Below w.heap.size w w2) := past6 B1.out hb2
  clear hb2 B1 hr
  cases q with
  | none =>
    have HR : Hid (false = T) := HT.out.symm
    have e0 : rdV Option.none = .tuple #[.agg #[.bool false, .string ⟨#[]⟩], .bool false] := rfl
    rw [e0]
    go_wp2
    go_ret
    exact ⟨ret_bool HR.out, B2.out.alloc B2.out.size _⟩
  | some x =>
    have HR : Hid (true = T) := HT.out.symm
    have e0 : rdV (some x) = .tuple #[.agg #[.bool x.w, .string x.t], .bool true] := rfl
    rw [e0]
    go_wp2
    go_ret
    exact ⟨ret_bool HR.out, B2.out.alloc B2.out.size _⟩
theorem MomIs.read {t : ByteArray} {n : Int} (h : MomIs t n) : (∃ y m d hh i s : Int, Dd.okB y m d hh i s = true ∧ n = Dd.momN y m d hh i s ∧ ∀ v, Dd.ReadIs t v → v = .tuple #[.agg #[.int .i64 y, .int .i64 m, .int .i64 d, .int .i64 hh, .int .i64 i, .int .i64 s], .bool true]) ∨ (n = -1 ∧ ∀ v, Dd.ReadIs t v → v = .tuple #[.agg #[.int .i64 0, .int .i64 0, .int .i64 0, .int .i64 0, .int .i64 0, .int .i64 0], .bool false]) := by
  rcases h with ⟨y, m, d, hh, i, s, h1, h2, h3⟩ | ⟨h1, h2⟩
  · exact .inl ⟨y, m, d, hh, i, s, decide_eq_true h1, h3, fun v hv => hv.one (.inl ⟨y, m, d, hh, i, s, h1, h2, rfl⟩)⟩
  · exact .inr ⟨h2, fun v hv => hv.one (.inr ⟨h1, rfl⟩)⟩
set_option maxHeartbeats 1000000 in
theorem specDateO (v : Value) (l : List Fl) (name : ByteArray) (n : Int) (w : World) (h : Fits w v l) (hn : FldMom l name n) (hz : name.size ≤ 1000) :
    Calls Tryz.prog 51 #[v, .string name] w fun e w' => e = .returned (.int .i64 n) ∧ Below w.heap.size w w' := by
  have hgz := getF_max name h.2.1 h.2.2.1
  have hg := fun W (hW : Fits W v l) => specGetN v l name W hW.1 hW.2.1 hW.2.2.1 (by omega)
  have hr := fun W => Dd.specRead (getF l name).1 W (by unfold maxLen; omega)
  have hm : MomIs (getF l name).1 n := hn
  have HM := hm.read
  unfold getE at hg
  clear hn hm
  generalize getF l name = g at hg hr HM
  obtain ⟨t, b⟩ := g
  simp only at hg hr HM
  obtain ⟨va, vc, rfl⟩ := h.form
  go_enter Tryz.func51, Tryz.ntmps51
  go_wp2_with fail
  refine (hg _ h).mono ?_
  rintro e w1 ⟨rfl, hb1⟩
  have B1 : Hid (Below w.heap.size w w1) := hb1
  clear hb1 h hg
  go_wp2_with fail
  refine (hr _).mono ?_
  rintro e w2 ⟨⟨vv, rfl, hv⟩, hb2⟩
  have B2 : Hid (Below w.heap.size w w2) := past6 B1.out hb2
  clear hb2 B1 hr
  rcases HM with ⟨y, m, d, hh, i, s, hok, rfl, hone⟩ | ⟨rfl, hone⟩
  · obtain rfl := hone _ hv
    have hmo := fun W => Dd.specMom y m d hh i s W
    have e1 : Dd.momV y m d hh i s = Dd.momN y m d hh i s := by unfold Dd.momV; rw [if_pos hok]
    rw [e1] at hmo
    generalize hN : Dd.momN y m d hh i s = N at hmo
    have HN : Hid (Dd.momN y m d hh i s = N) := hN
    clear hone hv hok e1 hN
    go_wp2_with (go_at_call 93; refine (hmo _).mono ?_; rintro e w3 ⟨rfl, hg3⟩; have HG : Hid _ := hg3.1; clear hg3)
    go_ret
    exact ⟨by rw [HN.out]; rfl, past6 (B2.out.alloc B2.out.size _) HG.out⟩
  · obtain rfl := hone _ hv
    clear hone hv
    go_wp2
    go_ret
    exact ⟨rfl, B2.out.alloc B2.out.size _⟩
end Go.Proofs.YtkaogmdhjcgcdaaGreatDoor
namespace Go.Proofs.YtkaogmdhjcgcdaaGreatDoor
open Go.RowKit Go.Sort
set_option linter.unusedVariables false
set_option linter.unusedSimpArgs false

theorem MomIs.bd {t : ByteArray} {n : Int} (h : MomIs t n) : -1 ≤ n ∧ n ≤ 253402300799 := by
  rcases h with ⟨y, m, d, hh, i, s, h1, h2, rfl⟩ | ⟨h1, rfl⟩
  · have h3 := Dd.day_bd (Dd.dayOk_of (decide_eq_true h1 : Dd.okB y m d hh i s = true))
    have h4 : (0 ≤ hh ∧ hh ≤ 23) ∧ (0 ≤ i ∧ i ≤ 59) ∧ (0 ≤ s ∧ s ≤ 59) := h1.2.2.2
    unfold Dd.momN
    omega
  · omega
theorem FldMom.bd {l : List Fl} {name : ByteArray} {n : Int} (h : FldMom l name n) : -1 ≤ n ∧ n ≤ 253402300799 := MomIs.bd h
theorem ret_i10 {a b : Int} (h : a = b) : Ending.returned (.int .i64 a) = .returned (.int .i64 b) := by rw [h]
theorem numL_nn (l : List UInt8) (h : allB (digN 10) l = true) : 0 ≤ numL 10 l := by
  have k : ∀ (l : List UInt8) (acc : Int), 0 ≤ acc → allB (digN 10) l = true → 0 ≤ l.foldl (fun n c => n * 10 + digV (c.toNat : Int)) acc := by
    intro l
    induction l with
    | nil => intro acc h0 _; exact h0
    | cons c l ih =>
      intro acc h0 ha
      unfold allB at ha
      rw [List.all_cons, Bool.and_eq_true] at ha
      rw [List.foldl_cons]
      refine ih _ ?_ ha.2
      have hd := of_decide_eq_true ha.1
      omega
  exact k l 0 (Int.le_refl _) h
theorem ctlOf_ok (l : List Fl) : ctB (ctlOf l) = true := rdL_ok (fun t => by
  unfold numV
  split
  · rename_i h
    unfold numOk at h
    rw [Bool.and_eq_true] at h
    exact numL_nn _ h.2
  · exact Int.le_refl _) _
theorem lifeF_bd {c : Ct} {e d : Int} (hc : ctB c = true) (he : -1 ≤ e ∧ e ≤ 253402300799) (hd : -1 ≤ d ∧ d ≤ 253402300799) : 0 ≤ lifeF c e d ∧ lifeF c e d ≤ 253402300800 := by
  rw [ctB_iff, secB_iff, secB_iff, secB_iff] at hc
  unfold lifeF maxI
  repeat' split
  all_goals omega
theorem lifeV_bd {r : Rs} {e d : Int} (he : -1 ≤ e ∧ e ≤ 253402300799) (hd : -1 ≤ d ∧ d ≤ 253402300799) : -1 ≤ lifeV r e d ∧ lifeV r e d ≤ 253402300800 := by
  unfold lifeV
  split
  · have := lifeF_bd (ctlOf_ok r.l) he hd; omega
  · omega
set_option maxHeartbeats 2000000 in
theorem specLife (r : Rs) (u : Value) (e d : Int) (w : World) (h : RsIn w u r) (he : FldMom r.l nEX e) (hd : FldMom r.l nDA d) :
    Calls Tryz.prog 18 #[rsV r u] w fun en w' => en = .returned (.int .i64 (lifeV r e d)) ∧ Below w.heap.size w w' := by
  have j1 := fun W hW => specRsOk r u W hW
  have j2 := fun W hW => specCtl u r.l W hW
  have j3 := fun W hW => specDateO u r.l nEX e W hW he (by decide)
  have j4 := fun W hW => specDateO u r.l nDA d W hW hd (by decide)
  have he2 := he.bd
  have hd2 := hd.bd
  have HL : Hid (lifeV r e d = if rsOk r = true then lifeF (ctlOf r.l) e d else -1) := rfl
  generalize lifeV r e d = L at HL ⊢
  generalize rsOk r = b1 at HL j1
  generalize ctlOf r.l = C at HL j2
  clear he hd
  obtain ⟨ua, uc, rfl⟩ := h.1.form
  have Q0 : Hid (RsB (w.alloc (.cells #[.int .i64 r.s, .slice ua r.l.length uc, .string r.b] 26)) w.heap.size r (.slice ua r.l.length uc)) := RsB.new w r _ _
  have B0 : Hid (Below w.heap.size w (w.alloc (.cells #[.int .i64 r.s, .slice ua r.l.length uc, .string r.b] 26))) := (Below.refl _ w).alloc (Nat.le_refl _) _
  have I0 : Hid (RsIn (w.alloc (.cells #[.int .i64 r.s, .slice ua r.l.length uc, .string r.b] 26)) (.slice ua r.l.length uc) r) := h.kept B0.out
  clear h
  unfold rsV at j1 ⊢
  unfold nEX at j3
  unfold nDA at j4
  go_enter Tryz.func18, Tryz.ntmps18
  go_wp2_with fail
  refine (j1 _ I0.out).mono ?_
  rintro en w1 ⟨rfl, hb1⟩
  have Q1 : Hid (RsB w1 w.heap.size r (.slice ua r.l.length uc)) := Q0.out.next hb1
  have B1 : Hid (Below w.heap.size w w1) := past6 B0.out hb1
  have I1 : Hid (RsIn w1 (.slice ua r.l.length uc) r) := I0.out.kept hb1
  clear hb1 Q0 B0 I0 j1
  cases b1 with
  | false =>
    have HR : Hid (-1 = L) := HL.out.symm
    go_wp2
    go_ret
    exact ⟨ret_i10 HR.out, B1.out⟩
  | true =>
    have HR : Hid (lifeF C e d = L) := HL.out.symm
    have q1 := Q1.out.c1
    go_wp2_with fail
    refine (j2 _ I1.out.1).mono ?_
    rintro en w2 ⟨rfl, hb2⟩
    obtain ⟨xa, xs, xt, xns, xnc, xpr, xmu⟩ := C
    have B2 : Hid (Below w.heap.size w (w2.alloc (.cells #[.int .i64 xa, .int .i64 xs, .int .i64 xt, .bool xns, .bool xnc, .bool xpr, .bool xmu] 50))) := (past6 B1.out hb2).alloc (past6 B1.out hb2).size _
    have Q2 : Hid (RsB (w2.alloc (.cells #[.int .i64 xa, .int .i64 xs, .int .i64 xt, .bool xns, .bool xnc, .bool xpr, .bool xmu] 50)) w.heap.size r (.slice ua r.l.length uc)) := (Q1.out.next hb2).alloc _
    have I2 : Hid (RsIn (w2.alloc (.cells #[.int .i64 xa, .int .i64 xs, .int .i64 xt, .bool xns, .bool xnc, .bool xpr, .bool xmu] 50)) (.slice ua r.l.length uc) r) := (I1.out.kept hb2).kept ((Below.refl _ w2).alloc (Nat.le_refl _) _)
    have C2 : Hid (CtB (w2.alloc (.cells #[.int .i64 xa, .int .i64 xs, .int .i64 xt, .bool xns, .bool xnc, .bool xpr, .bool xmu] 50)) w2.heap.size ⟨xa, xs, xt, xns, xnc, xpr, xmu⟩) := CtB.born w2 ⟨xa, xs, xt, xns, xnc, xpr, xmu⟩ 50
    clear hb2 Q1 B1 I1 j2 q1
    have q2 := Q2.out.c1
    unfold ctV
    go_wp2_with fail
    refine (j3 _ I2.out.1).mono ?_
    rintro en w3 ⟨rfl, hb3⟩
    have B3 : Hid (Below w.heap.size w w3) := past6 B2.out hb3
    have Q3 : Hid (RsB w3 w.heap.size r (.slice ua r.l.length uc)) := Q2.out.next hb3
    have I3 : Hid (RsIn w3 (.slice ua r.l.length uc) r) := I2.out.kept hb3
    have C3 : Hid (CtB w3 w2.heap.size ⟨xa, xs, xt, xns, xnc, xpr, xmu⟩) := C2.out.kept hb3
    clear hb3 Q2 B2 I2 C2 j3 q2
    have q3 := Q3.out.c1
    go_wp2_with fail
    refine (j4 _ I3.out.1).mono ?_
    rintro en w4 ⟨rfl, hb4⟩
    have B4 : Hid (Below w.heap.size w w4) := past6 B3.out hb4
    have C4 : Hid (CtB w4 w2.heap.size ⟨xa, xs, xt, xns, xnc, xpr, xmu⟩) := C3.out.kept hb4
    clear hb4 Q3 B3 I3 C3 j4 q3
    have c0 := C4.out.all.1
    have c1 := C4.out.all.2.1
    simp only at c0 c1
    have HF : Hid (lifeF ⟨xa, xs, xt, xns, xnc, xpr, xmu⟩ e d = if 0 ≤ xs then xs else if 0 ≤ xa then xa else if 0 ≤ e ∧ 0 ≤ d then maxI 0 (e - d) else 0) := rfl
    rw [HF.out] at HR
    by_cases h1 : 0 ≤ xs
    · rw [if_pos h1] at HR
      go_wp2
      go_ret
      exact ⟨ret_i10 HR.out, B4.out⟩
    · rw [if_neg h1] at HR
      by_cases h2 : 0 ≤ xa
      · rw [if_pos h2] at HR
        go_wp2
        go_ret
        exact ⟨ret_i10 HR.out, B4.out⟩
      · rw [if_neg h2] at HR
        by_cases h3 : 0 ≤ e
        · by_cases h4 : 0 ≤ d
          · rw [if_pos ⟨h3, h4⟩] at HR
            have hm := fun W => specMax9 0 (e - d) W
            generalize maxI 0 (e - d) = mx at hm HR
            have ew : IntKind.i64.wrap (e - d) = e - d := by rw [IntKind.wrap_i64]; omega
            go_wp2_with (go_at_call 52; refine (hm _).mono ?_; rintro en w5 ⟨rfl, rfl⟩)
            go_ret
            exact ⟨ret_i10 HR.out, B4.out⟩
          · rw [if_neg (fun h => h4 h.2)] at HR
            go_wp2
            go_ret
            exact ⟨ret_i10 HR.out, B4.out⟩
        · rw [if_neg (fun h => h3 h.1)] at HR
          go_wp2
          go_ret
          exact ⟨ret_i10 HR.out, B4.out⟩
end Go.Proofs.YtkaogmdhjcgcdaaGreatDoor
namespace Go.Proofs.YtkaogmdhjcgcdaaGreatDoor
open Go.RowKit Go.Sort
set_option linter.unusedVariables false
set_option linter.unusedSimpArgs false

theorem numV_lim (t : ByteArray) : 0 ≤ numV 10 15 t ∧ numV 10 15 t < 1000000000000000 := by
  have nb : ∀ (l : List UInt8) (acc : Int) (m : Nat), 0 ≤ acc → acc < 10 ^ m → allB (digN 10) l = true → 0 ≤ l.foldl (fun n c => n * 10 + digV (c.toNat : Int)) acc ∧ l.foldl (fun n c => n * 10 + digV (c.toNat : Int)) acc < 10 ^ (m + l.length) := by
    intro l
    induction l with
    | nil => intro acc m h1 h2 _; exact ⟨h1, h2⟩
    | cons c l ih =>
      intro acc m h1 h2 ha
      have h3 : digN 10 (c.toNat : Int) = true ∧ allB (digN 10) l = true := by unfold allB at ha ⊢; rw [List.all_cons, Bool.and_eq_true] at ha; exact ha
      have h4 := of_decide_eq_true h3.1
      have := ih (acc * 10 + digV (c.toNat : Int)) (m + 1) (by omega) (by rw [Int.pow_succ]; omega) h3.2
      rw [List.length_cons, show m + (l.length + 1) = m + 1 + l.length by omega]
      exact this
  unfold numV
  split
  · rename_i h
    unfold numOk at h
    rw [Bool.and_eq_true] at h
    have h1 := of_decide_eq_true h.1
    have h2 := nb t.data.toList 0 0 (Int.le_refl _) (by decide) h.2
    have hl : t.data.toList.length = t.size := by simp
    rw [hl, Nat.zero_add] at h2
    refine ⟨h2.1, Int.lt_of_lt_of_le h2.2 ?_⟩
    have : (10 : Int) ^ t.size ≤ 10 ^ 15 := by
      have h3 : (10 : Nat) ^ t.size ≤ 10 ^ 15 := Nat.pow_le_pow_right (by decide) h1.2
      exact_mod_cast h3
    exact this
  · exact ⟨Int.le_refl _, by decide⟩
theorem low_dn {B n : Nat} {w w1 : World} (h : Below B w w1) : Below B w (w1.drewN n) := ⟨h.os, h.tape, h.output, h.size, h.block⟩
def apV (o : Ob) (d : Int) : Int := if 0 ≤ d then maxI 0 (o.got - d) else 0
theorem ageF_is (o : Ob) (told d now : Int) : ageF o told d now = minI 1000000000 (maxI (apV o d) (told + o.got - o.asked) + now - o.got) := rfl
theorem obB_parts {o : Ob} (h : obB o = true) : (0 ≤ o.asked ∧ o.asked ≤ 253402300799) ∧ (0 ≤ o.got ∧ o.got ≤ 253402300799) ∧ o.asked ≤ o.got := by
  unfold obB at h
  simp only [Bool.and_eq_true, decide_eq_true_eq] at h
  exact ⟨momB_iff.1 h.2.2.2.1, momB_iff.1 h.2.2.2.2.1, h.2.2.2.2.2.1⟩
set_option maxHeartbeats 4000000 in
theorem specAge (o : Ob) (v u : Value) (now d : Int) (w : World) (h : ObIn w v u o) (hd : FldMom o.r.l nDA d) (hn0 : -9223372036854775808 ≤ now) (hn1 : now ≤ 9223372036854775807) :
    Calls Tryz.prog 14 #[obV o v u, .int .i64 now] w fun en w' => en = .returned (.int .i64 (ageV o now d)) ∧ Below w.heap.size w w' := by
  have j1 := fun W hW => specObOk o v u W hW
  have j2 := fun W => specMomB now W
  have hgz := getF_max nAG h.2.1.1.2.1 h.2.1.1.2.2.1
  have j3 := fun W (hW : Fits W u o.r.l) => specGetN u o.r.l nAG W hW.1 hW.2.1 hW.2.2.1 (by decide)
  have j4 := fun W => specDig (getF o.r.l nAG).1 W (by unfold maxLen; omega)
  have j5 := fun W hW => specDateO u o.r.l nDA d W hW hd (by decide)
  have hd2 := hd.bd
  have htl := numV_lim (getF o.r.l nAG).1
  have HA : Hid (ageV o now d = if obB o = true ∧ momB now = true ∧ o.got ≤ now then ageF o (numV 10 15 (getF o.r.l nAG).1) d now else -1) := rfl
  have HO : Hid (obB o = true → (0 ≤ o.asked ∧ o.asked ≤ 253402300799) ∧ (0 ≤ o.got ∧ o.got ≤ 253402300799) ∧ o.asked ≤ o.got) := obB_parts
  have HM : Hid (momB now = true → 0 ≤ now ∧ now ≤ 253402300799) := momB_iff.1
  generalize ageV o now d = A at HA ⊢
  generalize obB o = b1 at HA j1 HO
  generalize momB now = b2 at HA j2 HM
  unfold getE at j3
  unfold numE at j4
  generalize numOk 10 15 (getF o.r.l nAG).1 = tb at j4
  generalize numV 10 15 (getF o.r.l nAG).1 = told at HA j4 htl
  generalize getF o.r.l nAG = g at j3 j4 hgz
  obtain ⟨gt, gb⟩ := g
  simp only at j3 j4 hgz
  clear hd
  obtain ⟨va, vc, rfl⟩ := h.1.form
  obtain ⟨ua, uc, rfl⟩ := h.2.1.1.form
  have Q0 : Hid (ObB (w.alloc (.cells #[.string o.k, .slice va o.l.length vc, .int .i64 o.r.s, .slice ua o.r.l.length uc, .string o.r.b, .int .i64 o.asked, .int .i64 o.got, .int .i64 o.ep] 28)) w.heap.size o (.slice va o.l.length vc) (.slice ua o.r.l.length uc)) := ObB.new w o _ _ _
  have B0 : Hid (Below w.heap.size w (w.alloc (.cells #[.string o.k, .slice va o.l.length vc, .int .i64 o.r.s, .slice ua o.r.l.length uc, .string o.r.b, .int .i64 o.asked, .int .i64 o.got, .int .i64 o.ep] 28))) := (Below.refl _ w).alloc (Nat.le_refl _) _
  have I0 : Hid (ObIn (w.alloc (.cells #[.string o.k, .slice va o.l.length vc, .int .i64 o.r.s, .slice ua o.r.l.length uc, .string o.r.b, .int .i64 o.asked, .int .i64 o.got, .int .i64 o.ep] 28)) (.slice va o.l.length vc) (.slice ua o.r.l.length uc) o) := h.kept B0.out
  clear h
  unfold obV at j1 ⊢
  unfold nAG at j3
  unfold nDA at j5
  go_enter Tryz.func14, Tryz.ntmps14
  go_wp2_with fail
  refine (j1 _ I0.out).mono ?_
  rintro en w1 ⟨rfl, hb1⟩
  have Q1 : Hid (ObB w1 w.heap.size o (.slice va o.l.length vc) (.slice ua o.r.l.length uc)) := Q0.out.next hb1
  have B1 : Hid (Below w.heap.size w w1) := past6 B0.out hb1
  have I1 : Hid (ObIn w1 (.slice va o.l.length vc) (.slice ua o.r.l.length uc) o) := I0.out.kept hb1
  clear hb1 Q0 B0 I0 j1
  cases b1 with
  | false =>
    have HR : Hid (-1 = A) := by show _ = _; rw [HA.out, if_neg (fun h => by cases h.1)]
    go_wp2
    go_ret
    exact ⟨ret_i10 HR.out, B1.out⟩
  | true =>
    obtain ⟨ha1, hg1, hag⟩ := HO.out rfl
    have q6 := Q1.out.c6
    go_wp2_with fail
    refine (j2 _).mono ?_
    rintro en w2 ⟨rfl, rfl⟩
    clear j2
    cases b2 with
    | false =>
      have HR : Hid (-1 = A) := by show _ = _; rw [HA.out, if_neg (fun h => by cases h.2.1)]
      go_wp2
      go_ret
      exact ⟨ret_i10 HR.out, B1.out⟩
    | true =>
      have hnow := HM.out rfl
      by_cases hgn : o.got ≤ now
      · have dgn : decide (now < o.got) = false := decide_eq_false (by omega)
        have HR : Hid (ageF o told d now = A) := by show _ = _; rw [HA.out, if_pos ⟨by first | rfl | trivial, by first | rfl | trivial, hgn⟩]
        rw [ageF_is] at HR
        have q3 := Q1.out.c3
        go_wp2_with fail
        refine (j3 _ I1.out.2.1.1).mono ?_
        rintro en w3 ⟨rfl, hb3⟩
        have Q3 : Hid (ObB w3 w.heap.size o (.slice va o.l.length vc) (.slice ua o.r.l.length uc)) := Q1.out.next hb3
        have B3 : Hid (Below w.heap.size w w3) := past6 B1.out hb3
        have I3 : Hid (ObIn w3 (.slice va o.l.length vc) (.slice ua o.r.l.length uc) o) := I1.out.kept hb3
        clear hb3 Q1 B1 I1 j3 q3 q6
        go_wp2_with fail
        refine (j4 _).mono ?_
        rintro en w4 ⟨rfl, hb4⟩
        have Q4 : Hid (ObB w4 w.heap.size o (.slice va o.l.length vc) (.slice ua o.r.l.length uc)) := Q3.out.next hb4
        have B4 : Hid (Below w.heap.size w w4) := past6 B3.out hb4
        have I4 : Hid (ObIn w4 (.slice va o.l.length vc) (.slice ua o.r.l.length uc) o) := I3.out.kept hb4
        clear hb4 Q3 B3 I3 j4
        have q3 := Q4.out.c3
        go_wp2_with fail
        refine (j5 _ I4.out.2.1.1).mono ?_
        rintro en w5 ⟨rfl, hb5⟩
        have Q5 : Hid (ObB w5 w.heap.size o (.slice va o.l.length vc) (.slice ua o.r.l.length uc)) := Q4.out.next hb5
        have B5 : Hid (Below w.heap.size w w5) := past6 B4.out hb5
        clear hb5 Q4 B4 I4 j5 q3
        have q5 := Q5.out.c5
        have q6 := Q5.out.c6
        have HAP : Hid (apV o d = if 0 ≤ d then maxI 0 (o.got - d) else 0) := rfl
        have hap : 0 ≤ apV o d ∧ apV o d ≤ 253402300799 := by unfold apV maxI; repeat' split; all_goals omega
        have hm2 := fun W => specMax9 (apV o d) (told + o.got - o.asked) W
        have hmb : 0 ≤ maxI (apV o d) (told + o.got - o.asked) ∧ maxI (apV o d) (told + o.got - o.asked) ≤ 2000000000000000 := by unfold maxI; split <;> omega
        have hn2 := fun W => specMin9 1000000000 (maxI (apV o d) (told + o.got - o.asked) + now - o.got) W
        have e1 : IntKind.i64.wrap (told + o.got) = told + o.got := by rw [IntKind.wrap_i64]; omega
        have e2 : IntKind.i64.wrap (told + o.got - o.asked) = told + o.got - o.asked := by rw [IntKind.wrap_i64]; omega
        generalize maxI (apV o d) (told + o.got - o.asked) = mx at hm2 hn2 hmb HR
        have e3 : IntKind.i64.wrap (mx + now) = mx + now := by rw [IntKind.wrap_i64]; omega
        have e4 : IntKind.i64.wrap (mx + now - o.got) = mx + now - o.got := by rw [IntKind.wrap_i64]; omega
        generalize minI 1000000000 (mx + now - o.got) = mn at hn2 HR
        have hmix := mixed
        by_cases hdn : 0 ≤ d
        · rw [if_pos hdn] at HAP
          have hm1 := fun W => specMax9 0 (o.got - d) W
          rw [← HAP.out] at hm1
          generalize apV o d = ap at hm1 hm2 hap
          have e5 : IntKind.i64.wrap (o.got - d) = o.got - d := by rw [IntKind.wrap_i64]; omega
          go_wp2_with fail
          refine (hm1 _).mono ?_
          rintro en w6 ⟨rfl, rfl⟩
          go_wp2
          go_quiet (first | (go_at_call 52; refine Calls.quiet_of_same ((hm2 _).mono fun _ _ h => ⟨h.1, h.2.symm⟩)) | (go_at_call 53; refine Calls.quiet_of_same ((hn2 _).mono fun _ _ h => ⟨h.1, h.2.symm⟩)))
          go_wp2
          go_ret
          exact ⟨ret_i10 HR.out, low_dn B5.out⟩
        · rw [if_neg hdn] at HAP
          rw [HAP.out] at hm2
          go_wp2
          go_quiet (first | (go_at_call 52; refine Calls.quiet_of_same ((hm2 _).mono fun _ _ h => ⟨h.1, h.2.symm⟩)) | (go_at_call 53; refine Calls.quiet_of_same ((hn2 _).mono fun _ _ h => ⟨h.1, h.2.symm⟩)))
          go_wp2
          go_ret
          exact ⟨ret_i10 HR.out, low_dn B5.out⟩
      · have dgn : decide (now < o.got) = true := decide_eq_true (by omega)
        have HR : Hid (-1 = A) := by show _ = _; rw [HA.out, if_neg (fun h => hgn h.2.2)]
        go_wp2
        go_ret
        exact ⟨ret_i10 HR.out, B1.out⟩
end Go.Proofs.YtkaogmdhjcgcdaaGreatDoor
namespace Go.Proofs.YtkaogmdhjcgcdaaGreatDoor
open Go.RowKit Go.Sort
set_option linter.unusedVariables false
set_option linter.unusedSimpArgs false

set_option maxRecDepth 100000 in
set_option maxHeartbeats 4000000 in
theorem specFresh (o : Ob) (v u : Value) (now e d : Int) (w : World) (h : ObIn w v u o) (he : FldMom o.r.l nEX e) (hd : FldMom o.r.l nDA d) (hn0 : -9223372036854775808 ≤ now) (hn1 : now ≤ 9223372036854775807) :
    Calls Tryz.prog 16 #[obV o v u, .int .i64 now] w fun en w' => en = .returned (.bool (freshV o now e d)) ∧ Below w.heap.size w w' := by
  have j1 := fun W hW => specAge o v u now d W hW hd hn0 hn1
  have j2 := fun W hW => specLife o.r u e d W hW he hd
  have j3 := fun W hW => specCtl u o.r.l W hW
  have HF : Hid (freshV o now e d = (decide (0 ≤ ageV o now d) && (decide (ageV o now d < lifeV o.r e d) && !(ctlOf o.r.l).nc))) := rfl
  generalize freshV o now e d = R at HF ⊢
  generalize ageV o now d = A at HF j1
  generalize lifeV o.r e d = L at HF j2
  generalize ctlOf o.r.l = C at HF j3
  clear he hd
  obtain ⟨va, vc, rfl⟩ := h.1.form
  obtain ⟨ua, uc, rfl⟩ := h.2.1.1.form
  have Q0 : Hid (ObB (w.alloc (.cells #[.string o.k, .slice va o.l.length vc, .int .i64 o.r.s, .slice ua o.r.l.length uc, .string o.r.b, .int .i64 o.asked, .int .i64 o.got, .int .i64 o.ep] 28)) w.heap.size o (.slice va o.l.length vc) (.slice ua o.r.l.length uc)) := ObB.new w o _ _ _
  have B0 : Hid (Below w.heap.size w (w.alloc (.cells #[.string o.k, .slice va o.l.length vc, .int .i64 o.r.s, .slice ua o.r.l.length uc, .string o.r.b, .int .i64 o.asked, .int .i64 o.got, .int .i64 o.ep] 28))) := (Below.refl _ w).alloc (Nat.le_refl _) _
  have I0 : Hid (ObIn (w.alloc (.cells #[.string o.k, .slice va o.l.length vc, .int .i64 o.r.s, .slice ua o.r.l.length uc, .string o.r.b, .int .i64 o.asked, .int .i64 o.got, .int .i64 o.ep] 28)) (.slice va o.l.length vc) (.slice ua o.r.l.length uc) o) := h.kept B0.out
  clear h
  unfold obV at j1 ⊢
  unfold rsV at j2
  go_enter Tryz.func16, Tryz.ntmps16
  go_wp2_with fail
  refine (j1 _ I0.out).mono ?_
  rintro en w1 ⟨rfl, hb1⟩
  have Q1 : Hid (ObB w1 w.heap.size o (.slice va o.l.length vc) (.slice ua o.r.l.length uc)) := Q0.out.next hb1
  have B1 : Hid (Below w.heap.size w w1) := past6 B0.out hb1
  have I1 : Hid (ObIn w1 (.slice va o.l.length vc) (.slice ua o.r.l.length uc) o) := I0.out.kept hb1
  clear hb1 Q0 B0 I0 j1
  by_cases hA : 0 ≤ A
  · have dA : decide (0 ≤ A) = true := decide_eq_true hA
    have q2 := Q1.out.c2
    have q3 := Q1.out.c3
    have q4 := Q1.out.c4
    go_wp2_with fail
    refine (j2 _ I1.out.2.1).mono ?_
    rintro en w2 ⟨rfl, hb2⟩
    have Q2 : Hid (ObB w2 w.heap.size o (.slice va o.l.length vc) (.slice ua o.r.l.length uc)) := Q1.out.next hb2
    have B2 : Hid (Below w.heap.size w w2) := past6 B1.out hb2
    have I2 : Hid (ObIn w2 (.slice va o.l.length vc) (.slice ua o.r.l.length uc) o) := I1.out.kept hb2
    clear hb2 Q1 B1 I1 j2 q2 q3 q4
    have q3 := Q2.out.c3
    by_cases hL : A < L
    · have dL : decide (A < L) = true := decide_eq_true hL
      have HR : Hid ((!C.nc) = R) := by show _ = _; rw [HF.out, dA, dL]; simp
      obtain ⟨xa, xs, xt, xns, xnc, xpr, xmu⟩ := C
      simp only at HR
      clear HF
      unfold ctV at j3
      simp only at j3
      go_wp2_with fail
      refine (j3 _ I2.out.2.1.1).mono ?_
      rintro en w3 ⟨rfl, hb3⟩
      have B3 : Hid (Below w.heap.size w w3) := past6 B2.out hb3
      clear hb3 Q2 B2 I2 j3 q3
      have hfd : ∀ W : World, (Instr.field 50 (.agg #[.int .i64 xa, .int .i64 xs, .int .i64 xt, .bool xns, .bool xnc, .bool xpr, .bool xmu]) 4).run Tryz.prog W = .ok (.bool xnc) W := fun _ => by kernel_rfl
      go_wp2
      go_ret
      exact ⟨ret_bool HR.out, B3.out⟩
    · have dL : decide (A < L) = false := decide_eq_false hL
      have HR : Hid (false = R) := by show _ = _; rw [HF.out, dA, dL]; simp
      go_wp2
      go_ret
      exact ⟨ret_bool HR.out, B2.out⟩
  · have dA : decide (0 ≤ A) = false := decide_eq_false hA
    have HR : Hid (false = R) := by show _ = _; rw [HF.out, dA]; simp
    go_wp2
    go_ret
    exact ⟨ret_bool HR.out, B1.out⟩
end Go.Proofs.YtkaogmdhjcgcdaaGreatDoor
namespace Go.Proofs.YtkaogmdhjcgcdaaGreatDoor
open Go.RowKit Go.Sort
set_option linter.unusedVariables false
set_option linter.unusedSimpArgs false

/-- A control that lies in memory, in whatever world behind. -/
theorem CtB.rg {w : World} {b : Nat} {x : Ct} (h : CtB w b x) : (∀ d os, (grow (redrawn w d) os).cell? ⟨b, 0, Option.none⟩ = some (.int .i64 x.a)) ∧ (∀ d os, (grow (redrawn w d) os).cell? ⟨b, 1, Option.none⟩ = some (.int .i64 x.s)) ∧ (∀ d os, (grow (redrawn w d) os).cell? ⟨b, 2, Option.none⟩ = some (.int .i64 x.t)) ∧ (∀ d os, (grow (redrawn w d) os).cell? ⟨b, 3, Option.none⟩ = some (.bool x.ns)) ∧ (∀ d os, (grow (redrawn w d) os).cell? ⟨b, 4, Option.none⟩ = some (.bool x.nc)) ∧ (∀ d os, (grow (redrawn w d) os).cell? ⟨b, 5, Option.none⟩ = some (.bool x.pr)) ∧ (∀ d os, (grow (redrawn w d) os).cell? ⟨b, 6, Option.none⟩ = some (.bool x.mu)) := by
  obtain ⟨h0, h1, h2, h3, h4, h5, h6⟩ := h.all
  exact ⟨cell_regrown h0, cell_regrown h1, cell_regrown h2, cell_regrown h3, cell_regrown h4, cell_regrown h5, cell_regrown h6⟩
theorem ageV_le (o : Ob) (now d : Int) : ageV o now d ≤ 1000000000 := by
  unfold ageV
  split
  · unfold ageF
    generalize maxI (if 0 ≤ d then maxI 0 (o.got - d) else 0) (numV 10 15 (getF o.r.l nAG).1 + o.got - o.asked) + now - o.got = x
    unfold minI
    split <;> omega
  · omega
theorem decV_out {l : List Fl} {o : Ob} {now e d : Int} (h : ¬ (fldsOk l = true ∧ 0 ≤ ageV o now d)) : decV l o now e d = 0 := by unfold decV; rw [if_neg h]
theorem decV_in {l : List Fl} {o : Ob} {now e d : Int} (h1 : fldsOk l = true) (h2 : 0 ≤ ageV o now d) : decV l o now e d = if mayV (ctlOf l) (ageV o now d) = true ∧ (freshV o now e d = true ∨ staleV (ctlOf l) (ctlOf o.r.l) (ageV o now d) (lifeV o.r e d) = true) then 1 else if tagOf o.r.l = true then 2 else 3 := by unfold decV; rw [if_pos ⟨h1, h2⟩]
set_option maxRecDepth 100000 in
set_option maxHeartbeats 16000000 in
theorem specDec (v0 : Value) (l : List Fl) (o : Ob) (v u : Value) (now e d : Int) (w : World) (hl : Fits w v0 l) (h : ObIn w v u o) (he : FldMom o.r.l nEX e) (hd : FldMom o.r.l nDA d) (hn0 : -9223372036854775808 ≤ now) (hn1 : now ≤ 9223372036854775807) :
    Calls Tryz.prog 30 #[v0, obV o v u, .int .i64 now] w fun en w' => en = .returned (.int .i64 (decV l o now e d)) ∧ Below w.heap.size w w' := by
  have j1 := fun W hW => specAge o v u now d W hW hd hn0 hn1
  have j2 := fun W (hW : Fits W v0 l) => specOk v0 l W hW.1 hW.2.1
  have j3 := fun W hW => specCtl v0 l W hW
  have j4 := fun W hW => specCtl u o.r.l W hW
  have j5 := fun W hW => specLife o.r u e d W hW he hd
  have j6 := fun W hW => specFresh o v u now e d W hW he hd hn0 hn1
  have j7 := fun W hW => specTagO o.r u W hW
  have hLb := lifeV_bd (r := o.r) he.bd hd.bd
  have hAb := ageV_le o now d
  have HO := @decV_out l o now e d
  have HI := @decV_in l o now e d
  generalize decV l o now e d = R at HO HI ⊢
  generalize freshV o now e d = F at HI j6
  generalize ageV o now d = A at HO HI j1 hAb
  generalize lifeV o.r e d = L at HI j5 hLb
  generalize ctlOf l = C at HI j3
  generalize ctlOf o.r.l = D at HI j4
  generalize tagOf o.r.l = T at HI j7
  generalize fldsOk l = b0 at HO HI j2
  have HO' : Hid (¬ (b0 = true ∧ 0 ≤ A) → R = 0) := HO
  have HI' : Hid (b0 = true → 0 ≤ A → R = if mayV C A = true ∧ (F = true ∨ staleV C D A L = true) then 1 else if T = true then 2 else 3) := HI
  clear he hd HO HI
  obtain ⟨za, zc, rfl⟩ := hl.form
  obtain ⟨va, vc, rfl⟩ := h.1.form
  obtain ⟨ua, uc, rfl⟩ := h.2.1.1.form
  have Q0 : Hid (ObB (w.alloc (.cells #[.string o.k, .slice va o.l.length vc, .int .i64 o.r.s, .slice ua o.r.l.length uc, .string o.r.b, .int .i64 o.asked, .int .i64 o.got, .int .i64 o.ep] 28)) w.heap.size o (.slice va o.l.length vc) (.slice ua o.r.l.length uc)) := ObB.new w o _ _ _
  have B0 : Hid (Below w.heap.size w (w.alloc (.cells #[.string o.k, .slice va o.l.length vc, .int .i64 o.r.s, .slice ua o.r.l.length uc, .string o.r.b, .int .i64 o.asked, .int .i64 o.got, .int .i64 o.ep] 28))) := (Below.refl _ w).alloc (Nat.le_refl _) _
  have I0 : Hid (ObIn (w.alloc (.cells #[.string o.k, .slice va o.l.length vc, .int .i64 o.r.s, .slice ua o.r.l.length uc, .string o.r.b, .int .i64 o.asked, .int .i64 o.got, .int .i64 o.ep] 28)) (.slice va o.l.length vc) (.slice ua o.r.l.length uc) o) := h.kept B0.out
  have F0 : Hid (Fits w (.slice za l.length zc) l) := hl
  clear h hl
  unfold obV at j1 j6 ⊢
  unfold rsV at j5 j7
  go_enter Tryz.func30, Tryz.ntmps30
  go_wp2_with fail
  refine (j1 _ I0.out).mono ?_
  rintro en w1 ⟨rfl, hb1⟩
  have Q1 : Hid (ObB w1 w.heap.size o (.slice va o.l.length vc) (.slice ua o.r.l.length uc)) := Q0.out.next hb1
  have B1 : Hid (Below w.heap.size w w1) := past6 B0.out hb1
  have I1 : Hid (ObIn w1 (.slice va o.l.length vc) (.slice ua o.r.l.length uc) o) := I0.out.kept hb1
  clear hb1 Q0 B0 I0 j1
  go_wp2_with fail
  refine (j2 _ (F0.out.kept B1.out)).mono ?_
  rintro en w2 ⟨rfl, hb2⟩
  have Q2 : Hid (ObB w2 w.heap.size o (.slice va o.l.length vc) (.slice ua o.r.l.length uc)) := Q1.out.next hb2
  have B2 : Hid (Below w.heap.size w w2) := past6 B1.out hb2
  have I2 : Hid (ObIn w2 (.slice va o.l.length vc) (.slice ua o.r.l.length uc) o) := I1.out.kept hb2
  clear hb2 Q1 B1 I1 j2
  cases b0 with
  | false =>
    have HR : Hid (0 = R) := (HO'.out (fun h => by cases h.1)).symm
    go_wp2
    go_ret
    exact ⟨ret_i10 HR.out, B2.out⟩
  | true =>
    by_cases hA : 0 ≤ A
    · have dA : decide (A < 0) = false := decide_eq_false (by omega)
      have HR := HI'.out rfl hA
      have HR' : Hid (R = if mayV C A = true ∧ (F = true ∨ staleV C D A L = true) then 1 else if T = true then 2 else 3) := HR
      clear HR HI' HO'
      go_wp2_with fail
      refine (j3 _ (F0.out.kept B2.out)).mono ?_
      rintro en w3 ⟨rfl, hb3⟩
      obtain ⟨ca, cs, ct, cns, cnc, cpr, cmu⟩ := C
      have B3 : Hid (Below w.heap.size w (w3.alloc (.cells #[.int .i64 ca, .int .i64 cs, .int .i64 ct, .bool cns, .bool cnc, .bool cpr, .bool cmu] 50))) := (past6 B2.out hb3).alloc (past6 B2.out hb3).size _
      have Q3 : Hid (ObB (w3.alloc (.cells #[.int .i64 ca, .int .i64 cs, .int .i64 ct, .bool cns, .bool cnc, .bool cpr, .bool cmu] 50)) w.heap.size o (.slice va o.l.length vc) (.slice ua o.r.l.length uc)) := (Q2.out.next hb3).next ((Below.refl _ w3).alloc (Nat.le_refl _) _)
      have I3 : Hid (ObIn (w3.alloc (.cells #[.int .i64 ca, .int .i64 cs, .int .i64 ct, .bool cns, .bool cnc, .bool cpr, .bool cmu] 50)) (.slice va o.l.length vc) (.slice ua o.r.l.length uc) o) := (I2.out.kept hb3).kept ((Below.refl _ w3).alloc (Nat.le_refl _) _)
      have C3 : Hid (CtB (w3.alloc (.cells #[.int .i64 ca, .int .i64 cs, .int .i64 ct, .bool cns, .bool cnc, .bool cpr, .bool cmu] 50)) w3.heap.size ⟨ca, cs, ct, cns, cnc, cpr, cmu⟩) := CtB.born w3 ⟨ca, cs, ct, cns, cnc, cpr, cmu⟩ 50
      clear hb3 Q2 B2 I2 j3 F0
      unfold ctV
      have q3 := Q3.out.c3
      go_wp2_with fail
      refine (j4 _ I3.out.2.1.1).mono ?_
      rintro en w4 ⟨rfl, hb4⟩
      obtain ⟨da, ds, dt, dns, dnc, dpr, dmu⟩ := D
      have B4 : Hid (Below w.heap.size w (w4.alloc (.cells #[.int .i64 da, .int .i64 ds, .int .i64 dt, .bool dns, .bool dnc, .bool dpr, .bool dmu] 50))) := (past6 B3.out hb4).alloc (past6 B3.out hb4).size _
      have Q4 : Hid (ObB (w4.alloc (.cells #[.int .i64 da, .int .i64 ds, .int .i64 dt, .bool dns, .bool dnc, .bool dpr, .bool dmu] 50)) w.heap.size o (.slice va o.l.length vc) (.slice ua o.r.l.length uc)) := (Q3.out.next hb4).next ((Below.refl _ w4).alloc (Nat.le_refl _) _)
      have I4 : Hid (ObIn (w4.alloc (.cells #[.int .i64 da, .int .i64 ds, .int .i64 dt, .bool dns, .bool dnc, .bool dpr, .bool dmu] 50)) (.slice va o.l.length vc) (.slice ua o.r.l.length uc) o) := (I3.out.kept hb4).kept ((Below.refl _ w4).alloc (Nat.le_refl _) _)
      have C4 : Hid (CtB (w4.alloc (.cells #[.int .i64 da, .int .i64 ds, .int .i64 dt, .bool dns, .bool dnc, .bool dpr, .bool dmu] 50)) w3.heap.size ⟨ca, cs, ct, cns, cnc, cpr, cmu⟩) := (C3.out.kept hb4).alloc _
      have D4 : Hid (CtB (w4.alloc (.cells #[.int .i64 da, .int .i64 ds, .int .i64 dt, .bool dns, .bool dnc, .bool dpr, .bool dmu] 50)) w4.heap.size ⟨da, ds, dt, dns, dnc, dpr, dmu⟩) := CtB.born w4 ⟨da, ds, dt, dns, dnc, dpr, dmu⟩ 50
      clear hb4 Q3 B3 I3 C3 j4 q3
      unfold ctV
      simp only
      go_upto_region 6 with fail
      generalize w4.alloc (.cells #[.int .i64 da, .int .i64 ds, .int .i64 dt, .bool dns, .bool dnc, .bool dpr, .bool dmu] 50) = w5 at B4 Q4 I4 C4 D4 ⊢
      obtain ⟨c0, c1, c2, c3, c4, c5, c6⟩ := CtB.all C4.out
      simp only at c0 c1 c2 c3 c4 c5 c6
      have HM : Hid (mayV ⟨ca, cs, ct, cns, cnc, cpr, cmu⟩ A = (!cnc && (!cns && (decide (ca < 0) || decide (A ≤ ca))))) := rfl
      have HS : Hid (staleV ⟨ca, cs, ct, cns, cnc, cpr, cmu⟩ ⟨da, ds, dt, dns, dnc, dpr, dmu⟩ A L = (!dnc && (!dmu && (decide (0 ≤ ct) && decide (A - L ≤ ct))))) := rfl
      generalize mayV ⟨ca, cs, ct, cns, cnc, cpr, cmu⟩ A = M at HM HR'
      generalize staleV ⟨ca, cs, ct, cns, cnc, cpr, cmu⟩ ⟨da, ds, dt, dns, dnc, dpr, dmu⟩ A L = S at HS HR'
      go_cut [10] (fun q wx => q = .bool M ∧ wx = w5)
      case first =>
        cases cnc with
        | true =>
          have HR2 : Hid (false = M) := by show _ = _; rw [HM.out]; rfl
          go_wp2_with fail
          go_meet
          exact ⟨congrArg Value.bool HR2.out, rfl⟩
        | false =>
          cases cns with
          | true =>
            have HR2 : Hid (false = M) := by show _ = _; rw [HM.out]; rfl
            go_wp2_with fail
            go_meet
            exact ⟨congrArg Value.bool HR2.out, rfl⟩
          | false =>
            by_cases h1 : ca < 0
            · have d1 : decide (ca < 0) = true := decide_eq_true h1
              have HR2 : Hid (true = M) := by show _ = _; rw [HM.out, d1]; rfl
              go_wp2_with fail
              go_meet
              exact ⟨congrArg Value.bool HR2.out, rfl⟩
            · have d1 : decide (ca < 0) = false := decide_eq_false h1
              have HR2 : Hid (decide (A ≤ ca) = M) := by show _ = _; rw [HM.out, d1]; rfl
              go_wp2_with fail
              go_meet
              exact ⟨congrArg Value.bool HR2.out, rfl⟩
      case rest =>
        obtain ⟨rfl, rfl⟩ := hcut
        obtain ⟨x0, rfl⟩ : ∃ z, z = wc := ⟨wc, rfl⟩
        clear c0 c1 c2 c3 c4 c5 c6 HM
        obtain ⟨k10, k11, k12, k13, k14, k15, k16⟩ := CtB.rg C4.out
        simp only at k10 k11 k12 k13 k14 k15 k16
        obtain ⟨k20, k21, k22, k23, k24, k25, k26⟩ := CtB.rg D4.out
        simp only at k20 k21 k22 k23 k24 k25 k26
        have g2 := fun d os => cell_regrown Q4.out.c2 d os
        have g3 := fun d os => cell_regrown Q4.out.c3 d os
        have g4 := fun d os => cell_regrown Q4.out.c4 d os
        have e1 : IntKind.i64.wrap (A - L) = A - L := by rw [IntKind.wrap_i64]; omega
        have cA : ∀ q os, Calls Tryz.prog 18 #[.agg #[.int .i64 o.r.s, .slice ua o.r.l.length uc, .string o.r.b]] (grow (redrawn x0 q) os) fun e w'' => e = .returned (.int .i64 L) ∧ ∃ p : Regrown, w'' = grow (redrawn x0 p.d) p.os := fun q os => Calls.regrown_of (j5 _ (I4.out.kept (below_regrown x0 q os)).2.1)
        go_upto_region 7 with fail
        go_cut [11] (fun q wx => q = .bool S ∧ Below x0.heap.size x0 wx)
        case first =>
          cases dnc with
          | true =>
            have HR2 : Hid (false = S) := by show _ = _; rw [HS.out]; rfl
            refine wp_region_quiet_below (by kernel_rfl) (by kernel_rfl) ?_
            repeat (go_big_quiet_step (first | (with_reducible exact cA _ _)))
            refine wpQuiet_nil ?_
            intro _ hw'
            obtain ⟨⟨dq, osq⟩, hw''⟩ := hw'
            subst hw''
            go_wp2
            go_meet
            exact ⟨congrArg Value.bool HR2.out, below_regrown x0 dq osq⟩
          | false =>
            cases dmu with
            | true =>
              have HR2 : Hid (false = S) := by show _ = _; rw [HS.out]; rfl
              refine wp_region_quiet_below (by kernel_rfl) (by kernel_rfl) ?_
              repeat (go_big_quiet_step (first | (with_reducible exact cA _ _)))
              refine wpQuiet_nil ?_
              intro _ hw'
              obtain ⟨⟨dq, osq⟩, hw''⟩ := hw'
              subst hw''
              go_wp2
              go_meet
              exact ⟨congrArg Value.bool HR2.out, below_regrown x0 dq osq⟩
            | false =>
              by_cases h1 : 0 ≤ ct
              · have d1 : decide (0 ≤ ct) = true := decide_eq_true h1
                have HR2 : Hid (decide (A - L ≤ ct) = S) := by show _ = _; rw [HS.out, d1]; rfl
                refine wp_region_quiet_below (by kernel_rfl) (by kernel_rfl) ?_
                repeat (go_big_quiet_step (first | (with_reducible exact cA _ _)))
                refine wpQuiet_nil ?_
                intro _ hw'
                obtain ⟨⟨dq, osq⟩, hw''⟩ := hw'
                subst hw''
                go_wp2
                go_meet
                exact ⟨congrArg Value.bool HR2.out, below_regrown x0 dq osq⟩
              · have d1 : decide (0 ≤ ct) = false := decide_eq_false h1
                have HR2 : Hid (false = S) := by show _ = _; rw [HS.out, d1]; rfl
                refine wp_region_quiet_below (by kernel_rfl) (by kernel_rfl) ?_
                repeat (go_big_quiet_step (first | (with_reducible exact cA _ _)))
                refine wpQuiet_nil ?_
                intro _ hw'
                obtain ⟨⟨dq, osq⟩, hw''⟩ := hw'
                subst hw''
                go_wp2
                go_meet
                exact ⟨congrArg Value.bool HR2.out, below_regrown x0 dq osq⟩
        case rest =>
          clear k10 k11 k12 k13 k14 k15 k16 k20 k21 k22 k23 k24 k25 k26 g2 g3 g4 e1 cA HS j5
          obtain ⟨rfl, hb5⟩ := hcut
          obtain ⟨x1, rfl⟩ : ∃ z, z = wc := ⟨wc, rfl⟩
          have B5 : Hid (Below w.heap.size w x1) := past6 B4.out hb5
          have Q5 : Hid (ObB x1 w.heap.size o (.slice va o.l.length vc) (.slice ua o.r.l.length uc)) := Q4.out.next hb5
          have I5 : Hid (ObIn x1 (.slice va o.l.length vc) (.slice ua o.r.l.length uc) o) := I4.out.kept hb5
          clear hb5 B4 Q4 I4 C4 D4
          cases M with
          | false =>
            have HR : Hid (R = if T = true then 2 else 3) := by show _ = _; rw [HR'.out, if_neg (fun h => by cases h.1)]
            clear HR' j6
            have q2 := Q5.out.c2
            have q3 := Q5.out.c3
            have q4 := Q5.out.c4
            go_wp2_with fail
            refine (j7 _ I5.out.2.1).mono ?_
            rintro en x3 ⟨rfl, hb7⟩
            have B7 : Hid (Below w.heap.size w x3) := past6 B5.out hb7
            clear hb7 j7 B5 Q5 I5 q2 q3 q4
            cases T with
            | false =>
              have HR2 : Hid (3 = R) := HR.out.symm
              go_wp2
              go_ret
              exact ⟨ret_i10 HR2.out, B7.out⟩
            | true =>
              have HR2 : Hid (2 = R) := HR.out.symm
              go_wp2
              go_ret
              exact ⟨ret_i10 HR2.out, B7.out⟩
          | true =>
            have q0 := Q5.out.c0
            have q1 := Q5.out.c1
            have q2 := Q5.out.c2
            have q3 := Q5.out.c3
            have q4 := Q5.out.c4
            have q5 := Q5.out.c5
            have q6 := Q5.out.c6
            have q7 := Q5.out.c7
            go_wp2_with fail
            refine (j6 _ I5.out).mono ?_
            rintro en x2 ⟨rfl, hb6⟩
            have B6 : Hid (Below w.heap.size w x2) := past6 B5.out hb6
            have Q6 : Hid (ObB x2 w.heap.size o (.slice va o.l.length vc) (.slice ua o.r.l.length uc)) := Q5.out.next hb6
            have I6 : Hid (ObIn x2 (.slice va o.l.length vc) (.slice ua o.r.l.length uc) o) := I5.out.kept hb6
            clear hb6 B5 Q5 I5 q0 q1 q2 q3 q4 q5 q6 q7 j6
            have q2 := Q6.out.c2
            have q3 := Q6.out.c3
            have q4 := Q6.out.c4
            cases F with
            | true =>
              have HR2 : Hid (1 = R) := by show _ = _; rw [HR'.out]; simp
              go_wp2
              go_ret
              exact ⟨ret_i10 HR2.out, B6.out⟩
            | false =>
              cases S with
              | true =>
                have HR2 : Hid (1 = R) := by show _ = _; rw [HR'.out]; simp
                go_wp2
                go_ret
                exact ⟨ret_i10 HR2.out, B6.out⟩
              | false =>
                have HR : Hid (R = if T = true then 2 else 3) := by show _ = _; rw [HR'.out, if_neg (fun h => by rcases h.2 with h | h <;> cases h)]
                clear HR'
                go_wp2_with fail
                refine (j7 _ I6.out.2.1).mono ?_
                rintro en x3 ⟨rfl, hb7⟩
                have B7 : Hid (Below w.heap.size w x3) := past6 B6.out hb7
                clear hb7 j7 B6 Q6 I6 q2 q3 q4
                cases T with
                | false =>
                  have HR2 : Hid (3 = R) := HR.out.symm
                  go_wp2
                  go_ret
                  exact ⟨ret_i10 HR2.out, B7.out⟩
                | true =>
                  have HR2 : Hid (2 = R) := HR.out.symm
                  go_wp2
                  go_ret
                  exact ⟨ret_i10 HR2.out, B7.out⟩
    · have dA : decide (A < 0) = true := decide_eq_true (by omega)
      have HR : Hid (0 = R) := (HO'.out (fun h => hA h.2)).symm
      go_wp2
      go_ret
      exact ⟨ret_i10 HR.out, B2.out⟩
end Go.Proofs.YtkaogmdhjcgcdaaGreatDoor
