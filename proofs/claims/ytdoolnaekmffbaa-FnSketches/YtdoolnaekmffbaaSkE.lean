/-
  The specification's Both.
-/
import Derived.Test.YtdoolnaekmffbaaSkD
namespace Go.Proofs.Ytdoolnaekmffbaa
open Go.RowKit Go.Sort Ow Sk
set_option linter.unusedVariables false
set_option linter.unusedSimpArgs false

/-- What lies there while two sketches are made one. -/
structure Ke (w W : World) (n : Int) (a : Option Addr) (cap : Nat) (l : List Int) (n2 : Int) (a2 : Option Addr) (cap2 : Nat) (l2 : List Int) : Prop where
  low : Below w.heap.size w W
  sx : Bx W w.heap.size 26 #[.int .i64 n, .slice a l.length cap]
  tx : Bx W (w.heap.size + 1) 26 #[.int .i64 n2, .slice a2 l2.length cap2]
  rx : Bx W (w.heap.size + 1 + 1) 26 #[.int .i64 0, .slice none 0 0]
  sl : Sls intE W (.slice a l.length cap) l
  tl : Sls intE W (.slice a2 l2.length cap2) l2
theorem Ke.kept {w W W' : World} {n : Int} {a : Option Addr} {cap : Nat} {l : List Int} {n2 : Int} {a2 : Option Addr} {cap2 : Nat} {l2 : List Int} (h : Ke w W n a cap l n2 a2 cap2 l2) (hb : Below W.heap.size W W') : Ke w W' n a cap l n2 a2 cap2 l2 :=
  ⟨pastK h.low hb, h.sx.kept hb, h.tx.kept hb, h.rx.kept hb, h.sl.kept hb, h.tl.kept hb⟩
theorem Ke.grown {w W W' : World} {n : Int} {a : Option Addr} {cap : Nat} {l : List Int} {n2 : Int} {a2 : Option Addr} {cap2 : Nat} {l2 : List Int} (h : Ke w W n a cap l n2 a2 cap2 l2) {r : Option Nat} {B : Nat} (hB : w.heap.size + 3 ≤ B) (hg : W.grownBy W' r) (hr : ∀ k, r = some k → B ≤ k) (hw : Sls intE w (.slice a l.length cap) l) (hw2 : Sls intE w (.slice a2 l2.length cap2) l2) : Ke w W' n a cap l n2 a2 cap2 l2 := by
  have hlow := belowE h.low hg h.low.size (fun k hk => by have := hr k hk; omega)
  exact ⟨hlow, h.sx.grown hg (fun e => by have := hr _ e; omega), h.tx.grown hg (fun e => by have := hr _ e; omega), h.rx.grown hg (fun e => by have := hr _ e; omega), hw.kept hlow, hw2.kept hlow⟩
theorem Ke.new (w : World) (n : Int) (a : Option Addr) (cap : Nat) (l : List Int) (n2 : Int) (a2 : Option Addr) (cap2 : Nat) (l2 : List Int) (h : Sls intE w (.slice a l.length cap) l) (h2 : Sls intE w (.slice a2 l2.length cap2) l2) : Ke w (((w.alloc (.cells #[.int .i64 n, .slice a l.length cap] 26)).alloc (.cells #[.int .i64 n2, .slice a2 l2.length cap2] 26)).alloc (.cells #[.int .i64 0, .slice none 0 0] 26)) n a cap l n2 a2 cap2 l2 := by
  have h1 : Below w.heap.size w (((w.alloc (.cells #[.int .i64 n, .slice a l.length cap] 26)).alloc (.cells #[.int .i64 n2, .slice a2 l2.length cap2] 26)).alloc (.cells #[.int .i64 0, .slice none 0 0] 26)) := (((Below.refl _ w).alloc (Nat.le_refl _) _).alloc (by simp) _).alloc (by simp; omega) _
  have b2 := Bx.new (w.alloc (.cells #[.int .i64 n, .slice a l.length cap] 26)) 26 #[.int .i64 n2, .slice a2 l2.length cap2]
  have e : (w.alloc (.cells #[.int .i64 n, .slice a l.length cap] 26)).heap.size = w.heap.size + 1 := by simp
  rw [e] at b2
  have b3 := Bx.new ((w.alloc (.cells #[.int .i64 n, .slice a l.length cap] 26)).alloc (.cells #[.int .i64 n2, .slice a2 l2.length cap2] 26)) 26 #[.int .i64 0, .slice none 0 0]
  have e3 : ((w.alloc (.cells #[.int .i64 n, .slice a l.length cap] 26)).alloc (.cells #[.int .i64 n2, .slice a2 l2.length cap2] 26)).heap.size = w.heap.size + 1 + 1 := by simp
  rw [e3] at b3
  exact ⟨h1, ((Bx.new w 26 _).alloc _).alloc _, b2.alloc _, b3, h.kept h1, h2.kept h1⟩
set_option maxRecDepth 100000 in
set_option maxHeartbeats 4000000 in
theorem specBth (n : Int) (v : Value) (l : List Int) (n2 : Int) (v2 : Value) (l2 : List Int) (w : World) (h : Sls intE w v l) (h2 : Sls intE w v2 l2) :
    Calls Try.prog 19 #[skV n v, skV n2 v2] w fun e w' => ∃ u, e = .returned (.tuple #[skV (bthQ n l n2 l2) u, .bool (bthB n l n2 l2)]) ∧ OwnsN w' w.heap.size u (bthL n l n2 l2) ∧ Below w.heap.size w w' := by
  obtain ⟨a, cap, rfl, _⟩ := h.one
  obtain ⟨a2, cap2, rfl, _⟩ := h2.one
  have hS := fun W hW => specSko n (.slice a l.length cap) l W hW
  have hT := fun W hW => specSko n2 (.slice a2 l2.length cap2) l2 W hW
  have K0 : Hid (Ke w (((w.alloc (.cells #[.int .i64 n, .slice a l.length cap] 26)).alloc (.cells #[.int .i64 n2, .slice a2 l2.length cap2] 26)).alloc (.cells #[.int .i64 0, .slice none 0 0] 26)) n a cap l n2 a2 cap2 l2) := Ke.new w n a cap l n2 a2 cap2 l2 h h2
  have HW : Hid (Sls intE w (.slice a l.length cap) l) := h
  have HW2 : Hid (Sls intE w (.slice a2 l2.length cap2) l2) := h2
  have hz0 : (((w.alloc (.cells #[.int .i64 n, .slice a l.length cap] 26)).alloc (.cells #[.int .i64 n2, .slice a2 l2.length cap2] 26)).alloc (.cells #[.int .i64 0, .slice none 0 0] 26)).heap.size = w.heap.size + 3 := by simp
  obtain ⟨M, hM⟩ : ∃ M, M = bthB n l n2 l2 := ⟨_, rfl⟩
  have HM : Hid (M = bthB n l n2 l2) := hM
  rw [← hM]
  clear hM
  unfold skV at *
  clear h h2
  go_enter Try.func19, Try.ntmps19
  generalize hwA : ((w.alloc (.cells #[.int .i64 n, .slice a l.length cap] 26)).alloc (.cells #[.int .i64 n2, .slice a2 l2.length cap2] 26)).alloc (.cells #[.int .i64 0, .slice none 0 0] 26) = wA at K0 hz0
  go_upto_region 1 with fail
  clear hwA
  go_cut [22] from 8 to 22 (fun s wx => s = .bool (!M) ∧ Hid (Ke w wx n a cap l n2 a2 cap2 l2) ∧ w.heap.size + 3 ≤ wx.heap.size)
  case first =>
    have x0 := K0.out.sx.cell 0
    have x1 := K0.out.sx.cell 1
    go_wp2_with fail
    refine (hS _ K0.out.sl).mono ?_
    rintro e w1 ⟨rfl, hb1⟩
    have K1 : Hid (Ke w w1 n a cap l n2 a2 cap2 l2) := K0.out.kept hb1
    have hz1 : w.heap.size + 3 ≤ w1.heap.size := by have := hb1.size; omega
    clear hb1 K0 x0 x1 hz0 hS
    cases hok : skOk n l with
    | false =>
      obtain rfl : M = false := by rw [HM.out]; unfold bthB; rw [hok]; rfl
      go_wp2_with fail
      go_meet
      exact ⟨rfl, K1, hz1⟩
    | true =>
      have x0 := K1.out.tx.cell 0
      have x1 := K1.out.tx.cell 1
      go_wp2_with fail
      refine (hT _ K1.out.tl).mono ?_
      rintro e w2 ⟨rfl, hb2⟩
      have K2 : Hid (Ke w w2 n a cap l n2 a2 cap2 l2) := K1.out.kept hb2
      have hz2 : w.heap.size + 3 ≤ w2.heap.size := by have := hb2.size; omega
      clear hb2 K1 x0 x1 hz1 hT
      cases hok2 : skOk n2 l2 with
      | false =>
        obtain rfl : M = false := by rw [HM.out]; unfold bthB; rw [hok, hok2]; rfl
        go_wp2_with fail
        go_meet
        exact ⟨rfl, K2, hz2⟩
      | true =>
        have x0 := K2.out.sx.cell 0
        have y0 := K2.out.tx.cell 0
        have hMe : M = decide (n = n2) := by rw [HM.out]; unfold bthB; rw [hok, hok2]; rfl
        by_cases hn : n = n2
        · have e1 : (n != n2) = false := by simp [hn]
          obtain rfl : M = true := by rw [hMe]; exact decide_eq_true hn
          clear hn hMe hok hok2 HM
          go_wp2_with fail
          go_meet
          exact ⟨rfl, K2, hz2⟩
        · have e1 : (n != n2) = true := by simp [hn]
          obtain rfl : M = false := by rw [hMe]; exact decide_eq_false hn
          clear hn hMe hok hok2 HM
          go_wp2_with fail
          go_meet
          exact ⟨rfl, K2, hz2⟩
  case rest =>
    obtain ⟨rfl, K1, hz1⟩ := hcut
    obtain ⟨w1, rfl⟩ : ∃ z, z = wc := ⟨wc, rfl⟩
    clear K0 hz0 hS hT
    cases M with
    | false =>
      have HQ : Hid (bthQ n l n2 l2 = 0 ∧ bthL n l n2 l2 = []) := by
        show _ ∧ _
        unfold bthQ bthL
        rw [← HM.out]
        exact ⟨rfl, rfl⟩
      have y0 := K1.out.rx.cell 0
      have y1 := K1.out.rx.cell 1
      have f0 := K1.out.rx.free 0
      have f1 := K1.out.rx.free 1
      go_wp2
      refine bodyPost_ret (v := .tuple #[.agg #[.int .i64 0, .slice none 0 0], .bool false]) (by simp [results, Try.results19, go_sem, y0, y1]) rfl ⟨_, by rw [HQ.out.1], by rw [HQ.out.2]; exact OwnsE.none _ _, (K1.out.low.setCell (by show w.heap.size ≤ w.heap.size + 1 + 1; omega) _).setCell (by show w.heap.size ≤ w.heap.size + 1 + 1; omega) _⟩
    | true =>
      obtain ⟨hk1, hk2, hnn⟩ := bth_parts HM.out.symm
      clear hnn
      have hl5 := (skOk_iff.1 hk1).few
      have hl6 := (skOk_iff.1 hk2).few
      have HRis : Hid (l.Pairwise (· < ·)) := (skOk_iff.1 hk1).ris
      have HQ : Hid (bthQ n l n2 l2 = n ∧ bthL n l n2 l2 = putAll l2 l) := by
        show _ ∧ _
        unfold bthQ bthL
        rw [← HM.out]
        exact ⟨rfl, rfl⟩
      have y0 := K1.out.sx.cell 0
      have y1 := K1.out.sx.cell 1
      have yl : w.heap.size < w1.heap.size := by omega
      have O1 : Hid (OwnsN (w1.alloc (.cells #[] 2)) w1.heap.size (.slice (some ⟨w1.heap.size, 0, none⟩) 0 0) []) := (show Hid _ from OwnsE.born (E := intE) (ty := 2) w1)
      have S1 : Hid (Sls intE (w1.alloc (.cells #[] 2)) (.slice a l.length cap) l) := K1.out.sl.kept ((Below.refl _ w1).alloc (Nat.le_refl _) _)
      clear hk1 hk2 HM
      simp only [Bool.not_true]
      go_wp2_with (
        at_builtin
        refine wpList_rowS (E := intE) _ rfl (.tmp 24) (.tmp 26) 24 2 (.int .i64 0) 8 Try.underlying24 Try.infoN2 rfl rfl w1.heap.size (.slice (some ⟨w1.heap.size, 0, none⟩) 0 0) [] rfl O1.out (.slice a l.length cap) l rfl S1.out (by simp only [List.length_nil]; unfold maxLen; omega) (by simp only [List.length_nil]; omega) (by simp) ?_
        intro v2 w2 ho2 hg2 hn2
        rw [List.nil_append] at ho2
        obtain ⟨g2, c2, rfl⟩ : ∃ g2 c2, v2 = .slice (some ⟨g2, 0, none⟩) l.length c2 := by
          obtain ⟨a2, c2, e2, h21, _, hor⟩ := ho2.form
          rcases hor with ⟨rfl, rfl⟩ | ⟨g2, rfl⟩
          · exfalso
            have hz : l.length = 0 := by omega
            rw [hz] at e2
            have := hn2 e2
            injection this with e _ _
            cases e
          · exact ⟨g2, c2, e2⟩
        have hz2 : w1.heap.size ≤ w2.heap.size := by have := hg2.size; simp at this; omega
        have K2 : Hid (Ke w w2 n a cap l n2 a2 cap2 l2) := (show Hid _ from (K1.out.kept ((Below.refl _ w1).alloc (Nat.le_refl _) _)).grown (B := w1.heap.size) hz1 hg2 (fun k hk => by simp [Value.ownBlock] at hk; omega) HW.out HW2.out)
        have O2 : Hid (OwnsN w2 w1.heap.size (.slice (some ⟨g2, 0, none⟩) l.length c2) l) := ho2
        clear ho2 hg2 hn2 O1 S1 y0 y1 K1)
      go_loopw [6, 7] (fun u i wr => ∃ (m g c : Nat), m ≤ l2.length ∧ i = .int .i64 m ∧ u = .slice (some ⟨g, 0, none⟩) (putAll (l2.take m) l).length c ∧ Hid (OwnsN wr w1.heap.size (.slice (some ⟨g, 0, none⟩) (putAll (l2.take m) l).length c) (putAll (l2.take m) l)) ∧ Hid (Below w2.heap.size w2 wr)) (fun _ i _ => l2.length - (intOf i).toNat)
      case atStart => exact ⟨0, _, _, Nat.zero_le _, rfl, rfl, O2, (show Hid _ from Below.refl _ _)⟩
      case round =>
        clear O2
        obtain ⟨m, g, c, hm, rfl, rfl, ho, hb⟩ := hrel
        have K3 : Hid (Ke w wr n a cap l n2 a2 cap2 l2) := K2.out.kept hb.out
        have t0 := K3.out.tx.cell 0
        have t1 := K3.out.tx.cell 1
        by_cases hlt : m < l2.length
        · have hmi : (m : Int) < (l2.length : Int) := by omega
          obtain ⟨_, _, hel, _, _, hl3⟩ := K3.out.tl.one
          injection hel with el1 _ el2
          obtain ⟨gl, ol, eal, hgl, hcl⟩ := hl3 (by omega)
          rw [← el1] at eal
          have c0 := hcl m hlt
          have hzr : w1.heap.size ≤ wr.heap.size := by have := hb.out.size; omega
          have hp := specPut g c (putAll (l2.take m) l) l2[m] w1.heap.size wr ho.out (putAll_ris _ _ HRis.out) (by have := (putAll_length (l2.take m) l).2; have := List.length_take_le m l2; omega) hzr
          rw [← putAll_take l2 l m hlt] at hp
          generalize l2[m] = z at c0 hp
          generalize putAll (l2.take m) l = L at ho hp
          clear hl3 hcl el1 el2 K3
          subst eal
          go_wp2_with fail
          refine hp.mono ?_
          rintro e w4 ⟨g4, c4, rfl, ho4, hb4⟩
          have O4 : Hid (OwnsN w4 w1.heap.size (.slice (some ⟨g4, 0, none⟩) (putAll (l2.take (m + 1)) l).length c4) (putAll (l2.take (m + 1)) l)) := ho4
          have B4 : Hid (Below w2.heap.size w2 w4) := (show Hid _ from pastK hb.out hb4)
          clear ho4 hb4 hp ho hb c0 t0 t1
          go_wp2
          go_roundw
          case rel => exact ⟨m + 1, g4, c4, by omega, by go_num, rfl, O4, B4⟩
          case measure => simp [intOf]; omega
        · obtain rfl : m = l2.length := by omega
          rw [List.take_of_length_le (Nat.le_refl _)] at ho ⊢
          have y0 := K3.out.sx.cell 0
          have y1 := K3.out.sx.cell 1
          have z0 := K3.out.rx.cell 0
          have z1 := K3.out.rx.cell 1
          have f0 := K3.out.rx.free 0
          have f1 := K3.out.rx.free 1
          have hgb := ho.out.from g rfl
          have HOF : Hid (OwnsN ((wr.setCell ⟨w.heap.size + 1 + 1, 0, none⟩ (.int .i64 n)).setCell ⟨w.heap.size + 1 + 1, 1, none⟩ (.slice (some ⟨g, 0, none⟩) (putAll l2 l).length c)) w.heap.size (.slice (some ⟨g, 0, none⟩) (putAll l2 l).length c) (putAll l2 l)) := (show Hid _ from ((ho.out.other _ _ (fun k hk => by simp [Value.ownBlock] at hk; show k ≠ w.heap.size + 1 + 1; omega)).other _ _ (fun k hk => by simp [Value.ownBlock] at hk; show k ≠ w.heap.size + 1 + 1; omega)).low (by omega))
          have HBF : Hid (Below w.heap.size w ((wr.setCell ⟨w.heap.size + 1 + 1, 0, none⟩ (.int .i64 n)).setCell ⟨w.heap.size + 1 + 1, 1, none⟩ (.slice (some ⟨g, 0, none⟩) (putAll l2 l).length c))) := (show Hid _ from (K3.out.low.setCell (by show w.heap.size ≤ w.heap.size + 1 + 1; omega) _).setCell (by show w.heap.size ≤ w.heap.size + 1 + 1; omega) _)
          generalize putAll l2 l = L at HOF HBF HQ ⊢
          clear ho hb K3 K2
          go_wp2
          refine bodyPost_ret (v := .tuple #[.agg #[.int .i64 n, .slice (some ⟨g, 0, none⟩) L.length c], .bool true]) (by simp [results, Try.results19, go_sem, z0, z1]) rfl ⟨_, by rw [HQ.out.1], by rw [HQ.out.2]; exact HOF.out, HBF.out⟩
end Go.Proofs.Ytdoolnaekmffbaa
