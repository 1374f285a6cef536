/-
  The specification's number into a list that rises, and where the list lies that it answers.
  What the specification's l17Receive answers; a message that is not right.
  The specification's l17Receive at MsLog.
  The specification's l17Receive at MsOk.
-/
import Derived.Test.YtdkhdjickkcaiaaGreatRVS
import Derived.Test.YtdkhdjickkcaiaaGreatRV26
import Derived.Test.YtdkhdjickkcaiaaGreatRV22
import Derived.Test.YtdkhdjickkcaiaaGreatRV23
import Derived.Test.YtdkhdjickkcaiaaGreatRV19
import Derived.Test.YtdkhdjickkcaiaaGreatRV18
import Derived.Test.YtdkhdjickkcaiaaGreatRV24
set_option linter.unusedVariables false
set_option linter.unusedSimpArgs false
set_option maxRecDepth 100000
set_option maxHeartbeats 64000000
namespace Go.Proofs.YtdkhdjickkcaiaaGreat
open Go.RowKit Go.Sort Ow Sk

theorem specPutG (g cap : Nat) (l : List Int) (z : Int) (B : Nat) (w : World) (ho : OwnsN w B (.slice (some ⟨g, 0, none⟩) l.length cap) l) (hris : l.Pairwise (· < ·)) (hl : l.length ≤ 2000) (hBw : B ≤ w.heap.size) :
  Calls Tryz.prog 110 #[.slice (some ⟨g, 0, none⟩) l.length cap, .int .i64 z] w fun e w' => ∃ g' c', e = .returned (.slice (some ⟨g', 0, none⟩) (put z l).length c') ∧ OwnsN w' B (.slice (some ⟨g', 0, none⟩) (put z l).length c') (put z l) ∧ Below w.heap.size w w' ∧ (g' = g ∨ w.heap.size ≤ g') := by
 have HR : Hid (l.Pairwise (· < ·)) := hris
 have HO : Hid (OwnsN w B (.slice (some ⟨g, 0, none⟩) l.length cap) l) := ho
 have hSc : l.length ≤ cap := by obtain ⟨_, _, e, h4, _⟩ := ho.form; injection e with _ _ e3; omega
 have HCm : Hid (cap ≤ maxLen) := by obtain ⟨_, _, e, _, h4, _⟩ := ho.form; injection e with _ _ e3; subst e3; exact h4
 have hg := ho.under g rfl
 have hcl : Hid (∀ j (hj : j < l.length), w.cell? ⟨g, j, none⟩ = some (.int .i64 l[j])) := hH_ (fun j hj => ownsN_at ho j hj)
 clear ho hris
 go_enter Tryz.func110, Tryz.ntmps110
 go_wp2
 go_loopw [5] (fun i wr => ∃ k : Nat, k ≤ l.length ∧ i = .int .i64 k ∧ Hid (∀ j (hj : j < l.length), j < k → l[j] < z) ∧ w = wr) (fun i _ => l.length - (intOf i).toNat)
 case atStart => exact ⟨0, Nat.zero_le _, rfl, (show ∀ _, _ from fun j hj h => by omega), rfl⟩
 case round =>
  obtain ⟨k, hk, rfl, hlt, rfl⟩ := hrel
  obtain ⟨B1, HBt, HBf⟩ : ∃ B : Bool, Hid (B = true → ∃ h : k < l.length, l[k] < z) ∧ Hid (B = false → ∀ h : k < l.length, ¬ l[k] < z) := by
   by_cases h : ∃ h : k < l.length, l[k] < z
   ·
    exact ⟨true, (show Hid _ from fun _ => h), (show Hid _ from fun e => by cases e)⟩
   ·
    exact ⟨false, (show Hid _ from fun e => by cases e), (show Hid _ from fun _ hj hle => h ⟨hj, hle⟩)⟩
  go_upto_region 2 with fail
  go_cut [18] from 7 to 18 (fun s wx => s = .bool B1 ∧ w = wx)
  case first =>
   by_cases hlk : k < l.length
   ·
    have hki : (k : Int) < (l.length : Int) := by omega
    have c1 := hcl.out k hlk
    have hB : B1 = decide (l[k] < z) := by
     cases B1 with
     | true => obtain ⟨_, h⟩ := HBt.out rfl; exact (decide_eq_true h).symm
     | false => exact (decide_eq_false (HBf.out rfl hlk)).symm
    generalize l[k] = y at c1 hB
    subst hB
    go_wp2_with fail
    go_meet
    exact ⟨rfl, rfl⟩
   ·
    have hki : ¬ (k : Int) < (l.length : Int) := by omega
    have hB : B1 = false := by
     cases B1 with
     | true => obtain ⟨h, _⟩ := HBt.out rfl; exact absurd h hlk
     | false => rfl
    subst hB
    go_wp2_with fail
    go_meet
    exact ⟨rfl, rfl⟩
  case rest =>
   obtain ⟨rfl, rfl⟩ := hcut
   cases B1 with
   | true =>
    obtain ⟨hlk, hlz⟩ := HBt.out rfl
    have HG : Hid (∀ j (hj : j < l.length), j < k + 1 → l[j] < z) := (show ∀ _, _ from fun j hj h => by
     by_cases e : j = k
     ·
      subst e; exact hlz
     ·
      exact hlt.out j hj (by omega))
    clear hlz
    go_wp2
    go_roundw
    case rel => exact ⟨k + 1, by omega, by go_num, HG, trivial⟩
    case measure => simp [intOf]; omega
   | false =>
    have HGe : Hid (∀ h : k < l.length, z ≤ l[k]) := hH_ (fun h => Int.not_lt.1 (HBf.out rfl h))
    clear HBt HBf
    obtain ⟨B2, HCt, HCf⟩ : ∃ B : Bool, Hid (B = true → ∃ h : k < l.length, l[k] = z) ∧ Hid (B = false → ∀ h : k < l.length, ¬ l[k] = z) := by
     by_cases h : ∃ h : k < l.length, l[k] = z
     ·
      exact ⟨true, (show Hid _ from fun _ => h), (show Hid _ from fun e => by cases e)⟩
     ·
      exact ⟨false, (show Hid _ from fun e => by cases e), (show Hid _ from fun _ hj hle => h ⟨hj, hle⟩)⟩
    go_upto_region 4 with fail
    go_cut [32] from 21 to 32 (fun s wx => s = .bool B2 ∧ w = wx)
    case first =>
     by_cases hlk : k < l.length
     ·
      have hki : (k : Int) < (l.length : Int) := by omega
      have c1 := hcl.out k hlk
      have hB : B2 = (l[k] == z) := by
       cases B2 with
       | true => obtain ⟨_, h⟩ := HCt.out rfl; rw [h]; simp
       | false => have := HCf.out rfl hlk; simp [this]
      generalize l[k] = y at c1 hB
      subst hB
      go_wp2_with fail
      go_meet
      exact ⟨rfl, rfl⟩
     ·
      have hki : ¬ (k : Int) < (l.length : Int) := by omega
      have hB : B2 = false := by
       cases B2 with
       | true => obtain ⟨h, _⟩ := HCt.out rfl; exact absurd h hlk
       | false => rfl
      subst hB
      go_wp2_with fail
      go_meet
      exact ⟨rfl, rfl⟩
    case rest =>
     obtain ⟨rfl, rfl⟩ := hcut
     cases B2 with
     | true =>
      obtain ⟨hlk, hlz⟩ := HCt.out rfl
      have HE : Hid (put z l = l) := put_there HR.out (by rw [← hlz]; exact List.getElem_mem hlk)
      clear hlz
      go_wp2
      go_ret
      exact ⟨g, cap, by rw [HE.out]; rfl, by rw [HE.out]; exact HO.out, Below.refl _ _, .inl rfl⟩
     | false =>
      have HE : Hid (put z l = l.take k ++ [z] ++ l.drop k) := by
       show _ = _
       rw [put_at z l k hk (fun j hj h => hlt.out j hj h) (fun h => by have h1 := HGe.out h; have h2 := HCf.out rfl h; omega)]
       simp
      obtain ⟨A, hA, hAn⟩ := cutN HO.out rfl (k := k) hk
      have hAH : Hid _ := hAn
      have hm : (l.drop k).length = l.length - k := List.length_drop
      have ht : (l.take k).length = k := by rw [List.length_take]; omega
      have hki : (k : Int) ≤ (l.length : Int) := by omega
      have hkc : (k : Int) ≤ (cap : Int) := by omega
      clear hAn HCt HCf HGe hlt
      go_wp2_with (at_builtin; refine wpList_rowE (E := intE) _ rfl (.tmp 34) (.tmp 37) 25 2 (.int .i64 0) 8 Tryz.underlying25 Tryz.infoN2 rfl rfl w.heap.size (.slice (some ⟨w.heap.size, 0, Option.none⟩) 0 0) [] rfl (OwnsE.born w) ⟨g, 0, none⟩ cap (l.take k) (by simp [Act.eval, ht]) (World.ownsRow.cells ((OwnsE.alloc HO.out _).less rfl k hk) (g := g) rfl) (by rw [ht]; simp only [List.length_nil]; unfold maxLen; omega) (by rw [ht]; simp only [List.length_nil]; omega) (by simp) ?_; intro v7 w7 ho7 hg7 hn7)
      rw [List.nil_append] at ho7
      have B7 : Hid (Below w.heap.size w w7) := hH_ (belowE ((Below.refl _ w).alloc (Nat.le_refl _) _) hg7 (by simp) (fun q hq => by simp [Value.ownBlock] at hq; omega))
      have O7 : Hid (OwnsN w7 w.heap.size v7 (l.take k)) := ho7
      obtain ⟨a7, c7, hv7, _⟩ := ho7.form
      subst hv7
      rw [ht] at O7 ⊢
      have hb7 := B7.out.block g hg
      have hz7 := B7.out.size
      have F7 : Hid (∀ q, (Value.slice a7 k c7).ownBlock = some q → w.heap.size ≤ q) := hH_ (fun q hq => O7.out.from q hq)
      have HB7 : Hid (w7.heap[g]? = w.heap[g]?) := hb7
      have hg7' : g < w7.heap.size := by omega
      clear hg7 hn7 ho7 hb7
      go_wp2_with fail
      go_region_law (first
       | (refine step_rowE (E := intE) rfl (.tmp 39) (.tmp 41) 25 2 (.int .i64 0) 8 Tryz.underlying25 Tryz.infoN2 rfl rfl w.heap.size (.slice a7 k c7) (l.take k) (by simp [Act.eval]) (OwnsE.alloc (by exact O7.out) _) ⟨w7.heap.size, 0, none⟩ 1 [z] (by simp [Act.eval]) (fresh_cell _ z #[.int .i64 z] 2 rfl) (by rw [ht]; unfold maxLen; simp; omega) (by rw [ht]; simp; omega) (by simp; omega) ?_; intro v8 w8 ho8 hg8 hn8)
       | (refine step_rowE (E := intE) rfl (.tmp 42) (.tmp 45) 25 2 (.int .i64 0) 8 Tryz.underlying25 Tryz.infoN2 rfl rfl w.heap.size v8 (l.take k ++ [z]) (by simp [Act.eval]) ho8 A (cap - k) (l.drop k) (by simp [Act.eval, hm]) (hAH.out _ (by rw [hg8.block g (by simp; omega) (fun e => by have := F7.out g e.symm; omega)]; exact (Below.heap_alloc w7 _ g hg7').trans HB7.out)) (by rw [List.length_append, ht, hm]; unfold maxLen; simp; omega) (by rw [List.length_append, ht, hm]; simp; omega) (by have := hg8.size; simp at this; omega) ?_; intro v9 w9 ho9 hg9 hn9))
      all_goals
       have hl9 : (l.take k ++ [z] ++ l.drop k).length = l.length + 1 := by rw [List.length_append, List.length_append, ht, hm]; simp; omega
       obtain ⟨g9, c9, rfl⟩ : ∃ g9 c9, v9 = .slice (some ⟨g9, 0, none⟩) (l.length + 1) c9 := by
        obtain ⟨a9, c9, e9, _⟩ := ho9.form
        subst e9
        obtain ⟨g9, e⟩ := ownsN_some ho9 (by omega)
        exact ⟨g9, c9, by rw [e, hl9]⟩
       have HO9 : Hid (OwnsN w9 B (.slice (some ⟨g9, 0, none⟩) (l.length + 1) c9) (l.take k ++ [z] ++ l.drop k)) := hH_ (ho9.low hBw)
       have HB9 : Hid (Below w.heap.size w w9) := by
        have e1 : Below w.heap.size w w8 := belowE (B7.out.trans (belDrewK ((Below.refl _ w7).alloc (by omega) _))) hg8 (by simp; omega) (fun q hq => F7.out q hq)
        exact (show Hid _ from belowE e1 hg9 e1.size (OwnsE.from ho8))
       have HF9 : Hid (w.heap.size ≤ g9) := ho9.from g9 rfl
       clear ho8 hg8 hn8 ho9 hg9 hn9 O7 B7
       go_wp2
       go_ret
       exact ⟨g9, c9, by rw [HE.out, hl9]; rfl, by rw [HE.out, hl9]; exact HO9.out, HB9.out, .inr HF9.out⟩
end Go.Proofs.YtdkhdjickkcaiaaGreat
namespace Go.Proofs.YtdkhdjickkcaiaaGreat.Rl.Fr
open Go.RowKit Go.Sort Go.Shelf Pg
def MsG (w : World) (C : Nat) (v : Value) (T : List Mx) (L : List Ms) : Prop := MsOwn w C v T L ∨ (L = [] ∧ T = [] ∧ ∃ a c, v = .slice a 0 c ∧ c ≤ maxLen)
structure RvAns (R : Rp) (L : List Ms) (B : Nat) (w w' : World) (u' : Rv) (v : Value) (T : List Mx) : Prop where
 o : RpOw w' B u' R
 a : RpAp u'
 m : ∃ C, (∀ x ∈ u'.rows, ∀ k, x.ownBlock = some k → k < C) ∧ w.heap.size ≤ C ∧ C ≤ w'.heap.size ∧ MsG w' C v T L
 b : Below B w w'
theorem RvAns.no {R : Rp} {B : Nat} {w w' : World} {u' : Rv} {p : Option Addr} (ho : RpOw w' B u' R) (ha : RpAp u') (hb : Below B w w') : RvAns R [] B w w' u' (.slice p 0 0) [] :=
 ⟨ho, ha, ⟨w'.heap.size, ho.has.under, hb.size, Nat.le_refl _, .inr ⟨rfl, rfl, _, _, rfl, Nat.zero_le _⟩⟩, hb⟩
def RvE (r : Rp) (X : Mx) (B : Nat) (w : World) (e : Ending) (w' : World) : Prop := ∃ u' v T, e = .returned (.tuple #[rpA (rcvF r X.m).1 u', v]) ∧ RvAns (rcvF r X.m).1 (rcvF r X.m).2 B w w' u' v T
theorem rcv_no {r : Rp} {m : Ms} (h : ¬ MsOk m r.p ∨ m.t ≠ r.id ∨ m.f = r.id) : rcvF r m = (r, []) := by unfold rcvF; exact if_pos h
theorem specRcvN (r : Rp) (u : Rv) (B : Nat) (X : Mx) (w : World) (ho : RpOw w B u r) (hap : RpAp u) (hX : ∀ W, Below B w W → Sls txtE W X.u X.m.l) (hr : RpOk r) (hxs : X.m.l.length ≤ 1048576 ∧ ∀ x ∈ X.m.l, x.size ≤ 1048576) (hB : B ≤ w.heap.size) (hno : ¬ MsOk X.m r.p ∨ X.m.t ≠ r.id ∨ X.m.f = r.id) :
  Calls Tryz.prog 49 #[rpA r u, .agg (mxV X)] w fun e w' => RvE r X B w e w' := by
 obtain ⟨la, lc, oa, oc, ca, cc, ta, tc, T0, rfl⟩ := ho.got.form
 obtain ⟨b, hb⟩ : ∃ b, b = w.heap.size := ⟨_, rfl⟩
 obtain ⟨w1, hw1⟩ : ∃ w1, w1 = ((w.alloc (.cells #[.int .i64 r.id, .int .i64 r.p, .int .i64 r.v, .bool r.n, .int .i64 r.la, .slice la r.l.length lc, .int .i64 r.c, .slice oa r.ok.length oc, .slice ca r.ch.length cc, .slice ta r.te.length tc] 28)).alloc (.cells #[.int .i64 X.m.k, .int .i64 X.m.f, .int .i64 X.m.t, .int .i64 X.m.v, .int .i64 X.m.la, .slice X.pl X.m.l.length X.cl, .int .i64 X.m.c] 30)).alloc (.cells #[.int .i64 0, .int .i64 0, .int .i64 0, .bool false, .int .i64 0, .slice none 0 0, .int .i64 0, .slice none 0 0, .slice none 0 0, .slice none 0 0] 28) := ⟨_, rfl⟩
 have bw1 : Below w.heap.size w w1 := by rw [hw1]; exact (((Below.refl _ w).alloc (Nat.le_refl _) _).alloc (by simp) _).alloc (by simp; omega) _
 have XB : Bx w1 b 28 #[.int .i64 r.id, .int .i64 r.p, .int .i64 r.v, .bool r.n, .int .i64 r.la, .slice la r.l.length lc, .int .i64 r.c, .slice oa r.ok.length oc, .slice ca r.ch.length cc, .slice ta r.te.length tc] := by rw [hw1, hb]; exact ((Bx.new _ _ _).alloc _).alloc _
 have XM : Bx w1 (b + 1) 30 (mxV X) := by rw [hw1, hb]; exact (Bx.at _ _ (by simp)).alloc _
 have XZ : Bx w1 (b + 2) 28 zR := by rw [hw1, hb]; exact Bx.at _ _ (by simp)
 have hru : ∀ v ∈ Rv.rows ⟨.slice la r.l.length lc, .slice oa r.ok.length oc, .slice ca r.ch.length cc, .slice ta r.te.length tc, T0⟩, ∀ k, v.ownBlock = some k → k < b := fun v hv k hk => by rw [hb]; exact ho.has.under v hv k hk
 have hat : RpAt [] w1 B b ⟨.slice la r.l.length lc, .slice oa r.ok.length oc, .slice ca r.ch.length cc, .slice ta r.te.length tc, T0⟩ r := ⟨XB, ho.kept bw1, hap, by omega, ⟨fun x hx => nomatch hx⟩⟩
 have H1 : Hid (RpAt [(b + 1, 30, mxV X), (b + 2, 28, zR)] w1 B b ⟨.slice la r.l.length lc, .slice oa r.ok.length oc, .slice ca r.ch.length cc, .slice ta r.te.length tc, T0⟩ r) := (show RpAt _ _ _ _ _ _ from (hat.beside (k := b + 2) XZ (by omega) (fun v hv e => by have := hru v hv _ e; omega)).beside (k := b + 1) XM (by omega) (fun v hv e => by have := hru v hv _ e; omega))
 have B1 : Hid (Below B w w1) := hH_ (bw1.mono hB)
 have S1 : Hid (w1.heap.size = b + 3) := (show _ = _ by rw [hw1, hb]; simp)
 have HB : Hid (b = w.heap.size ∧ B ≤ b) := hH_ (⟨hb, by omega⟩)
 have HX : Hid (∀ W, Below B w W → Sls txtE W X.u X.m.l) := hH_ (hX)
 have HR : Hid (RpOk r) := hr
 have HXS : Hid (X.m.l.length ≤ 1048576 ∧ ∀ x ∈ X.m.l, x.size ≤ 1048576) := hH_ (hxs)
 have jm := fun W (hW : Below B w W) => specMok X.m X.u r.p W (hX W hW) hxs.2 hr.p
 clear ho hap hX hr hxs hB bw1 XB XM XZ hru hat
 unfold rpA mxV
 unfold msA Mx.u at jm
 simp only at jm ⊢
 have HE : Hid (rcvF r X.m = (r, [])) := hH_ (rcv_no hno)
 cases hq : msB X.m r.p with
 | false =>
  rw [hq] at jm
  clear hno
  go_enter Tryz.func49, Tryz.ntmps49
  go_upto_region 1 with fail
  rw [← hb, ← hw1, show b + 1 + 1 = b + 2 from rfl]
  clear hw1 hb
  go_upto_region 2 with fail
  have bA : Below w1.heap.size w1 (w1.alloc (.cells #[] 30)) := (Below.refl _ w1).alloc (Nat.le_refl _) _
  obtain ⟨e0, he0⟩ : ∃ e0, e0 = w1.heap.size := ⟨_, rfl⟩
  have H2 := hH_ (H1.out.kept bA)
  have B2 := hH_ (B1.out.trans (bA.mono H1.out.le))
  have HE0 : Hid (e0 = b + 3) := (show _ = _ by rw [he0, S1.out])
  rw [← he0]
  generalize w1.alloc (.cells #[] 30) = w2 at H2 B2 ⊢
  clear bA he0 H1 B1 S1
  have y1 : w2.cell? ⟨b, 1, none⟩ = some (.int .i64 r.p) := H2.out.c.cell 1
  go_wp2_with (refine wpList_ldM rfl (.tmp 3) rfl (b + 1) rfl (H2.out.box (k := b + 1) (ty := 30) (vs := mxV X) (by simp)) rfl ?_)
  refine (jm _ B2.out).mono ?_
  rintro e w3 ⟨rfl, hb3⟩
  have H3 := hH_ (H2.out.kept hb3)
  have B3 := hH_ (B2.out.trans (hb3.mono H2.out.le))
  clear hb3 H2 B2 y1 jm
  have y0 : w3.cell? ⟨b, 0, none⟩ = some (.int .i64 r.id) := H3.out.c.cell 0
  have x1 : w3.cell? ⟨b + 1, 1, none⟩ = some (.int .i64 X.m.f) := (H3.out.box (k := b + 1) (ty := 30) (vs := mxV X) (by simp)).cell 1
  have x2 : w3.cell? ⟨b + 1, 2, none⟩ = some (.int .i64 X.m.t) := (H3.out.box (k := b + 1) (ty := 30) (vs := mxV X) (by simp)).cell 2
  go_wp2_with (first | (refine wpList_ldR rfl (.tmp 2) rfl b rfl H3.out.c rfl ?_) | (refine wpList_stR rfl rfl (.tmp 4) (.tmp 31) rfl (b + 2) (rpC r ⟨.slice la r.l.length lc, .slice oa r.ok.length oc, .slice ca r.ch.length cc, .slice ta r.te.length tc, T0⟩) rfl rfl (H3.out.box (k := b + 2) (ty := 28) (vs := zR) (by simp)) rfl rfl (rpC_one H3.out.got) ?_; intro w9 hz9 hc9))
  have B9 : Below B w w9 := hc9.below B3.out (by have:=HB.out;have := H3.out.lt; omega) (fun k hk => by have:=HB.out;omega)
  have HO : RpOw w9 B ⟨.slice la r.l.length lc, .slice oa r.ok.length oc, .slice ca r.ch.length cc, .slice ta r.te.length tc, T0⟩ r := H3.out.o.off (fun v hv k hk => hc9.block k (H3.out.under v hv k hk) (fun e => by
   have h5 := (H3.out.fr.k (b + 2, 28, zR) (by simp)).2.2 v hv
   rw [e] at hk
   exact h5 hk))
  have hrl := results_row2 (P := Tryz.prog) (fn := Tryz.f49) (p := 4) (q := 5) (ty := 28) rfl
  refine bodyPost_ret (v := .tuple #[.agg (rpC r ⟨.slice la r.l.length lc, .slice oa r.ok.length oc, .slice ca r.ch.length cc, .slice ta r.te.length tc, T0⟩), .slice (some ⟨e0, 0, none⟩) 0 0]) (hrl _ _ (b + 2) 28 _ (0, 0) _ rfl _ rfl hz9 Tryz.underlying28 rfl (by rw [Tryz.rszR]; rfl)) rfl ?_
  unfold RvE
  rw [HE.out]
  exact ⟨⟨.slice la r.l.length lc, .slice oa r.ok.length oc, .slice ca r.ch.length cc, .slice ta r.te.length tc, T0⟩, _, [], rfl, RvAns.no HO H3.out.apt B9⟩
 | true =>
  rw [hq] at jm
  by_cases ht : X.m.t = r.id
  ·
   have hf : X.m.f = r.id := by
    rcases hno with h | h | h
    ·
     exact absurd (msB_is hq) h
    ·
     exact absurd ht h
    ·
     exact h
   have bt : (X.m.t != r.id) = false := by simp [ht]
   have bf : (X.m.f == r.id) = true := by simp [hf]
   clear hno hq ht hf
   go_enter Tryz.func49, Tryz.ntmps49
   go_upto_region 1 with fail
   rw [← hb, ← hw1, show b + 1 + 1 = b + 2 from rfl]
   clear hw1 hb
   go_upto_region 2 with fail
   have bA : Below w1.heap.size w1 (w1.alloc (.cells #[] 30)) := (Below.refl _ w1).alloc (Nat.le_refl _) _
   obtain ⟨e0, he0⟩ : ∃ e0, e0 = w1.heap.size := ⟨_, rfl⟩
   have H2 := hH_ (H1.out.kept bA)
   have B2 := hH_ (B1.out.trans (bA.mono H1.out.le))
   have HE0 : Hid (e0 = b + 3) := (show _ = _ by rw [he0, S1.out])
   rw [← he0]
   generalize w1.alloc (.cells #[] 30) = w2 at H2 B2 ⊢
   clear bA he0 H1 B1 S1
   have y1 : w2.cell? ⟨b, 1, none⟩ = some (.int .i64 r.p) := H2.out.c.cell 1
   go_wp2_with (refine wpList_ldM rfl (.tmp 3) rfl (b + 1) rfl (H2.out.box (k := b + 1) (ty := 30) (vs := mxV X) (by simp)) rfl ?_)
   refine (jm _ B2.out).mono ?_
   rintro e w3 ⟨rfl, hb3⟩
   have H3 := hH_ (H2.out.kept hb3)
   have B3 := hH_ (B2.out.trans (hb3.mono H2.out.le))
   clear hb3 H2 B2 y1 jm
   have y0 : w3.cell? ⟨b, 0, none⟩ = some (.int .i64 r.id) := H3.out.c.cell 0
   have x1 : w3.cell? ⟨b + 1, 1, none⟩ = some (.int .i64 X.m.f) := (H3.out.box (k := b + 1) (ty := 30) (vs := mxV X) (by simp)).cell 1
   have x2 : w3.cell? ⟨b + 1, 2, none⟩ = some (.int .i64 X.m.t) := (H3.out.box (k := b + 1) (ty := 30) (vs := mxV X) (by simp)).cell 2
   go_wp2_with (first | (refine wpList_ldR rfl (.tmp 2) rfl b rfl H3.out.c rfl ?_) | (refine wpList_stR rfl rfl (.tmp 4) (.tmp 31) rfl (b + 2) (rpC r ⟨.slice la r.l.length lc, .slice oa r.ok.length oc, .slice ca r.ch.length cc, .slice ta r.te.length tc, T0⟩) rfl rfl (H3.out.box (k := b + 2) (ty := 28) (vs := zR) (by simp)) rfl rfl (rpC_one H3.out.got) ?_; intro w9 hz9 hc9))
   have B9 : Below B w w9 := hc9.below B3.out (by have:=HB.out;have := H3.out.lt; omega) (fun k hk => by have:=HB.out;omega)
   have HO : RpOw w9 B ⟨.slice la r.l.length lc, .slice oa r.ok.length oc, .slice ca r.ch.length cc, .slice ta r.te.length tc, T0⟩ r := H3.out.o.off (fun v hv k hk => hc9.block k (H3.out.under v hv k hk) (fun e => by
    have h5 := (H3.out.fr.k (b + 2, 28, zR) (by simp)).2.2 v hv
    rw [e] at hk
    exact h5 hk))
   have hrl := results_row2 (P := Tryz.prog) (fn := Tryz.f49) (p := 4) (q := 5) (ty := 28) rfl
   refine bodyPost_ret (v := .tuple #[.agg (rpC r ⟨.slice la r.l.length lc, .slice oa r.ok.length oc, .slice ca r.ch.length cc, .slice ta r.te.length tc, T0⟩), .slice (some ⟨e0, 0, none⟩) 0 0]) (hrl _ _ (b + 2) 28 _ (0, 0) _ rfl _ rfl hz9 Tryz.underlying28 rfl (by rw [Tryz.rszR]; rfl)) rfl ?_
   unfold RvE
   rw [HE.out]
   exact ⟨⟨.slice la r.l.length lc, .slice oa r.ok.length oc, .slice ca r.ch.length cc, .slice ta r.te.length tc, T0⟩, _, [], rfl, RvAns.no HO H3.out.apt B9⟩
  ·
   have bt : (X.m.t != r.id) = true := by simp [ht]
   clear hno hq ht
   go_enter Tryz.func49, Tryz.ntmps49
   go_upto_region 1 with fail
   rw [← hb, ← hw1, show b + 1 + 1 = b + 2 from rfl]
   clear hw1 hb
   go_upto_region 2 with fail
   have bA : Below w1.heap.size w1 (w1.alloc (.cells #[] 30)) := (Below.refl _ w1).alloc (Nat.le_refl _) _
   obtain ⟨e0, he0⟩ : ∃ e0, e0 = w1.heap.size := ⟨_, rfl⟩
   have H2 := hH_ (H1.out.kept bA)
   have B2 := hH_ (B1.out.trans (bA.mono H1.out.le))
   have HE0 : Hid (e0 = b + 3) := (show _ = _ by rw [he0, S1.out])
   rw [← he0]
   generalize w1.alloc (.cells #[] 30) = w2 at H2 B2 ⊢
   clear bA he0 H1 B1 S1
   have y1 : w2.cell? ⟨b, 1, none⟩ = some (.int .i64 r.p) := H2.out.c.cell 1
   go_wp2_with (refine wpList_ldM rfl (.tmp 3) rfl (b + 1) rfl (H2.out.box (k := b + 1) (ty := 30) (vs := mxV X) (by simp)) rfl ?_)
   refine (jm _ B2.out).mono ?_
   rintro e w3 ⟨rfl, hb3⟩
   have H3 := hH_ (H2.out.kept hb3)
   have B3 := hH_ (B2.out.trans (hb3.mono H2.out.le))
   clear hb3 H2 B2 y1 jm
   have y0 : w3.cell? ⟨b, 0, none⟩ = some (.int .i64 r.id) := H3.out.c.cell 0
   have x1 : w3.cell? ⟨b + 1, 1, none⟩ = some (.int .i64 X.m.f) := (H3.out.box (k := b + 1) (ty := 30) (vs := mxV X) (by simp)).cell 1
   have x2 : w3.cell? ⟨b + 1, 2, none⟩ = some (.int .i64 X.m.t) := (H3.out.box (k := b + 1) (ty := 30) (vs := mxV X) (by simp)).cell 2
   go_wp2_with (first | (refine wpList_ldR rfl (.tmp 2) rfl b rfl H3.out.c rfl ?_) | (refine wpList_stR rfl rfl (.tmp 4) (.tmp 31) rfl (b + 2) (rpC r ⟨.slice la r.l.length lc, .slice oa r.ok.length oc, .slice ca r.ch.length cc, .slice ta r.te.length tc, T0⟩) rfl rfl (H3.out.box (k := b + 2) (ty := 28) (vs := zR) (by simp)) rfl rfl (rpC_one H3.out.got) ?_; intro w9 hz9 hc9))
   have B9 : Below B w w9 := hc9.below B3.out (by have:=HB.out;have := H3.out.lt; omega) (fun k hk => by have:=HB.out;omega)
   have HO : RpOw w9 B ⟨.slice la r.l.length lc, .slice oa r.ok.length oc, .slice ca r.ch.length cc, .slice ta r.te.length tc, T0⟩ r := H3.out.o.off (fun v hv k hk => hc9.block k (H3.out.under v hv k hk) (fun e => by
    have h5 := (H3.out.fr.k (b + 2, 28, zR) (by simp)).2.2 v hv
    rw [e] at hk
    exact h5 hk))
   have hrl := results_row2 (P := Tryz.prog) (fn := Tryz.f49) (p := 4) (q := 5) (ty := 28) rfl
   refine bodyPost_ret (v := .tuple #[.agg (rpC r ⟨.slice la r.l.length lc, .slice oa r.ok.length oc, .slice ca r.ch.length cc, .slice ta r.te.length tc, T0⟩), .slice (some ⟨e0, 0, none⟩) 0 0]) (hrl _ _ (b + 2) 28 _ (0, 0) _ rfl _ rfl hz9 Tryz.underlying28 rfl (by rw [Tryz.rszR]; rfl)) rfl ?_
   unfold RvE
   rw [HE.out]
   exact ⟨⟨.slice la r.l.length lc, .slice oa r.ok.length oc, .slice ca r.ch.length cc, .slice ta r.te.length tc, T0⟩, _, [], rfl, RvAns.no HO H3.out.apt B9⟩
open Go.RowKit Go.Sort Go.Shelf Pg
theorem ownsM_one {w : World} {C g : Nat} {y : Mx} (h : Bx w g 30 (mxV y)) (hC : C ≤ g) : OwnsM w C (.slice (some ⟨g, 0, none⟩) 1 1) [y] := by
 refine ⟨by simp [cellsE_length, mxE], .inr ⟨g, 1, mxV y, rfl, hC, h, Nat.le_refl _, by decide, rfl, ?_⟩⟩
 simp [cellsE_single, mxE, mxC, mxV, Mx.u]
theorem msOwn_one {w : World} {C g : Nat} {m : Ms} (h : Bx w g 30 (mxV ⟨m, none, 0⟩)) (hC : C ≤ g) (hl : m.l = []) : MsOwn w C (.slice (some ⟨g, 0, none⟩) 1 1) [⟨m, none, 0⟩] [m] :=
 ⟨ownsM_one h hC, ⟨fun x hx => by
  rw [List.mem_singleton.1 hx]
  show HasX w C (.slice none m.l.length 0) m.l
  rw [hl]
  exact .inl ⟨rfl, rfl⟩, by simp⟩, fun x hx => (by
  rw [List.mem_singleton.1 hx]
  intro k h1 h2
  cases h2), rfl⟩
theorem rcv_L {r : Rp} {m : Ms} (h : MsOk m r.p ∧ m.t = r.id ∧ m.f ≠ r.id) (hk : m.k = 1) : rcvF r m = rcvL r m := by
 unfold rcvF
 rw [if_neg (fun hh => by
  rcases hh with hh | hh | hh
  ·
   exact hh h.1
  ·
   exact hh h.2.1
  ·
   exact h.2.2 hh), if_pos hk]
theorem rcvL_no {r : Rp} {m : Ms} (h : ¬ (m.f = m.v % r.p ∧ (r.v < m.v ∨ (m.v = r.v ∧ (r.n = false ∨ (¬ leads r ∧ r.l.length ≤ m.l.length)))) ∧ r.l.take r.c.toNat <+: m.l)) : rcvL r m = (r, []) := by unfold rcvL; exact if_neg h
theorem rcvL_yes {r : Rp} {m : Ms} (h : m.f = m.v % r.p ∧ (r.v < m.v ∨ (m.v = r.v ∧ (r.n = false ∨ (¬ leads r ∧ r.l.length ≤ m.l.length)))) ∧ r.l.take r.c.toNat <+: m.l) : rcvL r m = ({ r with l := m.l, v := m.v, n := true, la := m.v, c := max r.c m.c, ok := [], ch := [], te := [] }, [⟨2, r.id, m.f, m.v, 0, [], (m.l.length : Int)⟩]) := by unfold rcvL; exact if_pos h
def frRc7 (s t : Nat → Value) : Act := { tmps := #[s 0, s 1, s 2, s 3, s 4, s 5, s 6, s 7, s 8, s 9, s 10, s 11, s 12, s 13, s 14, s 15, s 16, s 17, s 18, s 19, s 20, s 21, s 22, s 23, s 24, s 25, s 26, s 27, s 28, s 29, s 30, s 31, s 32, s 33, s 34, s 35, s 36, s 37, s 38, s 39, s 40, s 41, s 42, s 43, s 44, s 45, s 46, s 47, s 48, s 49, s 50, s 51, s 52, s 53, s 54, s 55, s 56, s 57, s 58, s 59, s 60, s 61, s 62, s 63, s 64, s 65, s 66, s 67, t 68, t 69, t 70, t 71, t 72, t 73, t 74, t 75, t 76, t 77, t 78, t 79, t 80, t 81, t 82, t 83, t 84, t 85, t 86, t 87, t 88, t 89, s 90, s 91, s 92, s 93, s 94, s 95, s 96, s 97, s 98, s 99, s 100, s 101, s 102, s 103, s 104, s 105, s 106, s 107, s 108, s 109, s 110, s 111, s 112, s 113, s 114, s 115, s 116, s 117, s 118, s 119, s 120, s 121, s 122, s 123, s 124, s 125, s 126, s 127, s 128, s 129, s 130, s 131, s 132, s 133, s 134, s 135, s 136, s 137, s 138, s 139, s 140, s 141, s 142, s 143, s 144, s 145, s 146, s 147, s 148, s 149, s 150, s 151, s 152, s 153, s 154, s 155, s 156, s 157, s 158, s 159, s 160, s 161, s 162, s 163, s 164, s 165, s 166, s 167, s 168, s 169, s 170, s 171, s 172, s 173, s 174, s 175, s 176, s 177, s 178, s 179, s 180, s 181, s 182, s 183, s 184, s 185, s 186, s 187, s 188, s 189, s 190, s 191, s 192, s 193, s 194, s 195, s 196, s 197, s 198, s 199, s 200, s 201, s 202, s 203, s 204, s 205, s 206, s 207, s 208, s 209, s 210, s 211, s 212, s 213, s 214, s 215, s 216, s 217, s 218, s 219, s 220, s 221, s 222, s 223, s 224, s 225, s 226, s 227, s 228, s 229, s 230, s 231, s 232, s 233, s 234, s 235, s 236, s 237, s 238, s 239, s 240, s 241, s 242], defers := [] }
def LRc7 : List Nat := [68, 69, 70, 71, 72, 73, 74, 75, 76, 77, 78, 79, 80, 81, 82, 83, 84, 85, 86, 87, 88, 89]
def dRc7 (i : Nat) : Nat := LRc7.getD i (i + 5000)
theorem dRc7_ne {i j : Nat} (hi : i < 22) (hj : j < 22) (h : j ≠ i) : dRc7 j ≠ dRc7 i := slotsNe (L := LRc7) (by decide) rfl hi hj h
def GRc7 (r : Rp) (X : Mx) (b cN nl lc : Nat) (la : Option Addr) (q : Int) (D : Bool) (i : Nat) (x : World) (v : Value) : Prop := match i with
 | 0 => v = .pointer (some ⟨b + 1, 1, none⟩)
 | 1 => v = .int .i64 X.m.f
 | 2 => v = .pointer (some ⟨b + 1, 3, none⟩)
 | 3 => v = .int .i64 X.m.v
 | 4 => v = .pointer (some ⟨b, 1, none⟩)
 | 5 => v = .int .i64 r.p
 | 6 => v = .int .i64 q
 | 7 => v = .bool false
 | 8 => v = .bool false
 | 9 => v = .bool true
 | 10 => v = .bool false
 | 11 => v = .bool false
 | 12 => v = .bool false
 | 13 => v = .pointer (some ⟨b + 1, 5, none⟩)
 | 14 => v = .slice X.pl X.m.l.length X.cl
 | 15 => v = .pointer (some ⟨b, 5, none⟩)
 | 16 => v = .slice la nl lc
 | 17 => v = .pointer (some ⟨b, 6, none⟩)
 | 18 => v = .int .i64 (cN : Int)
 | 19 => v = .slice la cN lc
 | 20 => v = .bool D
 | 21 => v = .bool !D
 | _ => True
theorem GRc7.keep {r : Rp} {X : Mx} {b cN nl lc : Nat} {la : Option Addr} {q : Int} {D : Bool} {x y : World} (hb : Below x.heap.size x y) (j : Nat) (v : Value) (hj : j < 22) (h : GRc7 r X b cN nl lc la q D j x v) : GRc7 r X b cN nl lc la q D j y v := h
def frRc17 (s t : Nat → Value) : Act := { tmps := #[s 0, s 1, s 2, s 3, s 4, s 5, s 6, s 7, s 8, s 9, s 10, s 11, s 12, s 13, s 14, s 15, s 16, s 17, s 18, s 19, s 20, s 21, s 22, s 23, s 24, s 25, s 26, s 27, s 28, s 29, s 30, s 31, s 32, s 33, s 34, s 35, s 36, s 37, s 38, s 39, s 40, s 41, s 42, s 43, s 44, s 45, s 46, s 47, s 48, s 49, s 50, s 51, s 52, s 53, s 54, s 55, s 56, s 57, s 58, s 59, s 60, s 61, s 62, s 63, s 64, s 65, s 66, s 67, s 68, s 69, s 70, s 71, s 72, s 73, s 74, s 75, s 76, s 77, s 78, s 79, s 80, s 81, s 82, s 83, s 84, s 85, s 86, s 87, s 88, s 89, s 90, s 91, s 92, s 93, s 94, s 95, s 96, s 97, s 98, s 99, s 100, s 101, s 102, s 103, s 104, s 105, s 106, s 107, s 108, s 109, s 110, s 111, s 112, s 113, s 114, s 115, t 116, t 117, t 118, t 119, t 120, t 121, t 122, t 123, t 124, t 125, t 126, t 127, s 128, s 129, s 130, s 131, s 132, s 133, s 134, s 135, s 136, s 137, s 138, s 139, s 140, s 141, s 142, s 143, s 144, s 145, s 146, s 147, s 148, s 149, s 150, s 151, s 152, s 153, s 154, s 155, s 156, s 157, s 158, s 159, s 160, s 161, s 162, s 163, s 164, s 165, s 166, s 167, s 168, s 169, s 170, s 171, s 172, s 173, s 174, s 175, s 176, s 177, s 178, s 179, s 180, s 181, s 182, s 183, s 184, s 185, s 186, s 187, s 188, s 189, s 190, s 191, s 192, s 193, s 194, s 195, s 196, s 197, s 198, s 199, s 200, s 201, s 202, s 203, s 204, s 205, s 206, s 207, s 208, s 209, s 210, s 211, s 212, s 213, s 214, s 215, s 216, s 217, s 218, s 219, s 220, s 221, s 222, s 223, s 224, s 225, s 226, s 227, s 228, s 229, s 230, s 231, s 232, s 233, s 234, s 235, s 236, s 237, s 238, s 239, s 240, s 241, s 242], defers := [] }
def LRc17 : List Nat := [116, 117, 118, 119, 120, 121, 122, 123, 124, 125, 126, 127, 100012]
def dRc17 (i : Nat) : Nat := LRc17.getD i (i + 5000)
theorem dRc17_ne {i j : Nat} (hi : i < 13) (hj : j < 13) (h : j ≠ i) : dRc17 j ≠ dRc17 i := slotsNe (L := LRc17) (by decide) rfl hi hj h
def GRc17 (R : Rp) (ux : Rv) (X : Mx) (b lo : Nat) (lx : Option Addr) (cx : Nat) (i : Nat) (x : World) (v : Value) : Prop := match i with
 | 0 => v = .agg (rpC R ux)
 | 1 => v = .pointer (some ⟨b, 0, none⟩)
 | 2 => v = .int .i64 R.id
 | 3 => v = .pointer (some ⟨b + 1, 1, none⟩)
 | 4 => v = .int .i64 X.m.f
 | 5 => v = .pointer (some ⟨b, 2, none⟩)
 | 6 => v = .int .i64 R.v
 | 7 => v = .pointer (some ⟨b, 5, none⟩)
 | 8 => v = .slice lx R.l.length cx
 | 9 => v = .int .i64 (R.l.length : Int)
 | 10 => v = .agg #[.int .i64 2, .int .i64 R.id, .int .i64 X.m.f, .int .i64 R.v, .int .i64 0, .slice none 0 0, .int .i64 (R.l.length : Int)]
 | 11 => ∃ (gb : Nat), v = .slice (some ⟨gb, 0, none⟩) 1 1 ∧ (lo ≤ gb ∧ Bx x gb 30 #[.int .i64 2, .int .i64 R.id, .int .i64 X.m.f, .int .i64 R.v, .int .i64 0, .slice none 0 0, .int .i64 (R.l.length : Int)])
 | 12 => (v = undef ∧ Bx x (b + 2) 28 (rpC R ux))
 | _ => True
theorem GRc17.keep {R : Rp} {ux : Rv} {X : Mx} {b lo : Nat} {lx : Option Addr} {cx : Nat} {x y : World} (hb : Below x.heap.size x y) (j : Nat) (v : Value) (hj : j < 13) (h : GRc17 R ux X b lo lx cx j x v) : GRc17 R ux X b lo lx cx j y v := by
 iterate 13 rcases ltS hj with hj | rfl
 cases hj
 ·
  exact h
 ·
  exact h
 ·
  exact h
 ·
  exact h
 ·
  exact h
 ·
  exact h
 ·
  exact h
 ·
  exact h
 ·
  exact h
 ·
  exact h
 ·
  exact h
 ·
  obtain ⟨gb, h1, h2⟩ := h; exact ⟨gb, h1, h2.1, h2.2.kept hb⟩
 ·
  exact ⟨h.1, h.2.kept hb⟩
theorem GRc17.keepS {R : Rp} {ux : Rv} {X : Mx} {b lo : Nat} {lx : Option Addr} {cx : Nat} {x y : World} (hlc : b + 2 < lo) (hc : ChS (fun k => k = b + 2) x y) (j : Nat) (v : Value) (hj : j < 13) (hne : j ≠ 12) (h : GRc17 R ux X b lo lx cx j x v) : GRc17 R ux X b lo lx cx j y v := by
 iterate 13 rcases ltS hj with hj | rfl
 cases hj
 ·
  exact h
 ·
  exact h
 ·
  exact h
 ·
  exact h
 ·
  exact h
 ·
  exact h
 ·
  exact h
 ·
  exact h
 ·
  exact h
 ·
  exact h
 ·
  exact h
 ·
  obtain ⟨gb, h1, h2⟩ := h; exact ⟨gb, h1, h2.1, (hc.block gb (Bx.lt h2.2) (by have := h2.1; omega)).trans h2.2⟩
 ·
  exact absurd rfl hne
theorem specRcvL (r : Rp) (u : Rv) (B : Nat) (X : Mx) (w : World) (ho : RpOw w B u r) (hap : RpAp u) (hX : ∀ W, Below B w W → Sls txtE W X.u X.m.l) (hr : RpOk r) (hxs : X.m.l.length ≤ 1048576 ∧ ∀ x ∈ X.m.l, x.size ≤ 1048576) (hB : B ≤ w.heap.size) (hm : MsOk X.m r.p) (ht : X.m.t = r.id) (hf : X.m.f ≠ r.id) (hk : X.m.k = 1) :
  Calls Tryz.prog 49 #[rpA r u, .agg (mxV X)] w fun e w' => RvE r X B w e w' := by
 obtain ⟨la, lc, oa, oc, ca, cc, ta, tc, T0, rfl⟩ := ho.got.form
 obtain ⟨b, hb⟩ : ∃ b, b = w.heap.size := ⟨_, rfl⟩
 obtain ⟨w1, hw1⟩ : ∃ w1, w1 = ((w.alloc (.cells #[.int .i64 r.id, .int .i64 r.p, .int .i64 r.v, .bool r.n, .int .i64 r.la, .slice la r.l.length lc, .int .i64 r.c, .slice oa r.ok.length oc, .slice ca r.ch.length cc, .slice ta r.te.length tc] 28)).alloc (.cells #[.int .i64 X.m.k, .int .i64 X.m.f, .int .i64 X.m.t, .int .i64 X.m.v, .int .i64 X.m.la, .slice X.pl X.m.l.length X.cl, .int .i64 X.m.c] 30)).alloc (.cells #[.int .i64 0, .int .i64 0, .int .i64 0, .bool false, .int .i64 0, .slice none 0 0, .int .i64 0, .slice none 0 0, .slice none 0 0, .slice none 0 0] 28) := ⟨_, rfl⟩
 have bw1 : Below w.heap.size w w1 := by rw [hw1]; exact (((Below.refl _ w).alloc (Nat.le_refl _) _).alloc (by simp) _).alloc (by simp; omega) _
 have XB : Bx w1 b 28 #[.int .i64 r.id, .int .i64 r.p, .int .i64 r.v, .bool r.n, .int .i64 r.la, .slice la r.l.length lc, .int .i64 r.c, .slice oa r.ok.length oc, .slice ca r.ch.length cc, .slice ta r.te.length tc] := by rw [hw1, hb]; exact ((Bx.new _ _ _).alloc _).alloc _
 have XM : Bx w1 (b + 1) 30 (mxV X) := by rw [hw1, hb]; exact (Bx.at _ _ (by simp)).alloc _
 have XZ : Bx w1 (b + 2) 28 zR := by rw [hw1, hb]; exact Bx.at _ _ (by simp)
 have hru : ∀ v ∈ Rv.rows ⟨.slice la r.l.length lc, .slice oa r.ok.length oc, .slice ca r.ch.length cc, .slice ta r.te.length tc, T0⟩, ∀ k, v.ownBlock = some k → k < b := fun v hv k hk => by rw [hb]; exact ho.has.under v hv k hk
 have hat : RpAt [] w1 B b ⟨.slice la r.l.length lc, .slice oa r.ok.length oc, .slice ca r.ch.length cc, .slice ta r.te.length tc, T0⟩ r := ⟨XB, ho.kept bw1, hap, by omega, ⟨fun x hx => nomatch hx⟩⟩
 have H1 : Hid (RpAt [(b + 1, 30, mxV X), (b + 2, 28, zR)] w1 B b ⟨.slice la r.l.length lc, .slice oa r.ok.length oc, .slice ca r.ch.length cc, .slice ta r.te.length tc, T0⟩ r) := (show RpAt _ _ _ _ _ _ from (hat.beside (k := b + 2) XZ (by omega) (fun v hv e => by have := hru v hv _ e; omega)).beside (k := b + 1) XM (by omega) (fun v hv e => by have := hru v hv _ e; omega))
 have B1 : Hid (Below B w w1) := hH_ (bw1.mono hB)
 have S1 : Hid (w1.heap.size = b + 3) := (show _ = _ by rw [hw1, hb]; simp)
 have HB : Hid (b = w.heap.size ∧ B ≤ b) := hH_ (⟨hb, by omega⟩)
 have HX : Hid (∀ W, Below B w W → Sls txtE W X.u X.m.l) := hH_ (hX)
 have HR : Hid (RpOk r) := hr
 have HXS : Hid (X.m.l.length ≤ 1048576 ∧ ∀ x ∈ X.m.l, x.size ≤ 1048576) := hH_ (hxs)
 have jm := fun W (hW : Below B w W) => specMok X.m X.u r.p W (hX W hW) hxs.2 hr.p
 clear ho hap hX hr hxs hB bw1 XB XM XZ hru hat
 unfold rpA mxV
 unfold msA Mx.u at jm
 simp only at jm ⊢
 have HM : Hid (MsOk X.m r.p ∧ X.m.t = r.id ∧ X.m.f ≠ r.id) := hH_ (⟨hm, ht, hf⟩)
 have bt : (X.m.t != r.id) = false := by simp [ht]
 have bf : (X.m.f == r.id) = false := by simp [hf]
 rw [msB_yes hm] at jm
 clear hm ht hf
 have HK : Hid (X.m.k = 1) := hk
 clear hk
 have em : Int.tmod X.m.v r.p = X.m.v % r.p := modE HM.out.1.v.1
 have hpz : ¬ r.p = 0 := by rcases HR.out.p with h | h | h <;> rw [h] <;> decide
 have ew : wrap64 (X.m.v % r.p) = X.m.v % r.p := by have := HM.out.1.v; unfold wrap64; rcases HR.out.p with h | h | h <;> rw [h] <;> omega
 obtain ⟨q, hq⟩ : ∃ q : Int, q = X.m.v % r.p := ⟨_, rfl⟩
 have HQ : Hid (q = X.m.v % r.p) := hq
 rw [← hq] at em ew
 clear hq
 go_enter Tryz.func49, Tryz.ntmps49
 go_upto_region 1 with fail
 rw [← hb, ← hw1, show b + 1 + 1 = b + 2 from rfl]
 clear hw1 hb
 go_upto_region 2 with fail
 have bA : Below w1.heap.size w1 (w1.alloc (.cells #[] 30)) := (Below.refl _ w1).alloc (Nat.le_refl _) _
 obtain ⟨e0, he0⟩ : ∃ e0, e0 = w1.heap.size := ⟨_, rfl⟩
 have H2 := hH_ (H1.out.kept bA)
 have B2 := hH_ (B1.out.trans (bA.mono H1.out.le))
 have HE0 : Hid (e0 = b + 3) := (show _ = _ by rw [he0, S1.out])
 rw [← he0]
 generalize w1.alloc (.cells #[] 30) = w2 at H2 B2 ⊢
 clear bA he0 H1 B1 S1
 have y1 : w2.cell? ⟨b, 1, none⟩ = some (.int .i64 r.p) := H2.out.c.cell 1
 go_wp2_with (refine wpList_ldM rfl (.tmp 3) rfl (b + 1) rfl (H2.out.box (k := b + 1) (ty := 30) (vs := mxV X) (by simp)) rfl ?_)
 refine (jm _ B2.out).mono ?_
 rintro e w3 ⟨rfl, hb3⟩
 have H3 := hH_ (H2.out.kept hb3)
 have B3 := hH_ (B2.out.trans (hb3.mono H2.out.le))
 clear hb3 H2 B2 y1 jm
 have y0 : w3.cell? ⟨b, 0, none⟩ = some (.int .i64 r.id) := H3.out.c.cell 0
 have x1 : w3.cell? ⟨b + 1, 1, none⟩ = some (.int .i64 X.m.f) := (H3.out.box (k := b + 1) (ty := 30) (vs := mxV X) (by simp)).cell 1
 have x2 : w3.cell? ⟨b + 1, 2, none⟩ = some (.int .i64 X.m.t) := (H3.out.box (k := b + 1) (ty := 30) (vs := mxV X) (by simp)).cell 2
 have x0 : w3.cell? ⟨b + 1, 0, none⟩ = some (.int .i64 1) := by rw [← HK.out]; exact (H3.out.box (k := b + 1) (ty := 30) (vs := mxV X) (by simp)).cell 0
 go_upto_region 6 with fail
 clear y0 x1 x2 x0
 obtain ⟨NW, hNW⟩ : ∃ NW : Bool, NW = dB (r.v < X.m.v ∨ (X.m.v = r.v ∧ (r.n = false ∨ (¬ leads r ∧ r.l.length ≤ X.m.l.length)))) := ⟨_, rfl⟩
 have HNW : Hid (NW = dB (r.v < X.m.v ∨ (X.m.v = r.v ∧ (r.n = false ∨ (¬ leads r ∧ r.l.length ≤ X.m.l.length))))) := hNW
 clear hNW
 have CELLS := fun W (hW : Below w3.heap.size w3 W) => (show (W.cell? ⟨b, 0, none⟩ = some (.int .i64 r.id) ∧ W.cell? ⟨b, 1, none⟩ = some (.int .i64 r.p) ∧ W.cell? ⟨b, 2, none⟩ = some (.int .i64 r.v) ∧ W.cell? ⟨b, 3, none⟩ = some (.bool r.n) ∧ W.cell? ⟨b, 4, none⟩ = some (.int .i64 r.la) ∧ W.cell? ⟨b, 5, none⟩ = some (.slice la r.l.length lc) ∧ W.cell? ⟨b, 6, none⟩ = some (.int .i64 r.c) ∧ W.cell? ⟨b, 7, none⟩ = some (.slice oa r.ok.length oc) ∧ W.cell? ⟨b, 8, none⟩ = some (.slice ca r.ch.length cc) ∧ W.cell? ⟨b, 9, none⟩ = some (.slice ta r.te.length tc)) ∧ W.cell? ⟨b + 1, 3, none⟩ = some (.int .i64 X.m.v) ∧ W.cell? ⟨b + 1, 5, none⟩ = some (.slice X.pl X.m.l.length X.cl) from ⟨(H3.out.kept hW).c.cells, ((H3.out.kept hW).box (k := b + 1) (ty := 30) (vs := mxV X) (by simp)).cell 3, ((H3.out.kept hW).box (k := b + 1) (ty := 30) (vs := mxV X) (by simp)).cell 5⟩)
 have jl := fun W => specLds r ⟨.slice la r.l.length lc, .slice oa r.ok.length oc, .slice ca r.ch.length cc, .slice ta r.te.length tc, T0⟩ W ⟨HR.out.v.1, by have := HR.out.v; omega⟩ HR.out.p
 unfold rpA at jl
 simp only at jl
 go_cut [7] from 37 to 67 (fun s wx => s = .bool NW ∧ Hid (Below w3.heap.size w3 wx))
 case first =>
  obtain ⟨⟨z0, z1, z2, z3, z4, z5, z6, z7, z8, z9⟩, a3, a5⟩ := CELLS w3 (Below.refl _ _)
  have BR : Hid (Below w3.heap.size w3 w3) := hH_ (Below.refl _ _)
  by_cases hlt : r.v < X.m.v
  ·
   have hv : NW = true := HNW.out.trans (dB_yes (.inl hlt))
   subst hv
   clear HNW
   go_wp2_with fail
   go_meet
   exact ⟨rfl, BR⟩
  ·
   by_cases heq : X.m.v = r.v
   ·
    have beq : (X.m.v == r.v) = true := by simp [heq]
    rcases Bool.eq_false_or_eq_true r.n with hn | hn
    case inr =>
     have hv : NW = true := HNW.out.trans (dB_yes (.inr ⟨heq, .inl hn⟩))
     subst hv
     rw [hn] at z3
     clear HNW heq hn
     go_wp2_with fail
     go_meet
     exact ⟨rfl, BR⟩
    case inl =>
     have jl := jl
     rw [hn] at jl
     rw [hn] at z3
     cases hd : dB (leads r) with
     | true =>
      have hv : NW = false := HNW.out.trans (dB_no (by
       rintro (h | ⟨_, h | h⟩)
       ·
        exact hlt h
       ·
        rw [hn] at h; cases h
       ·
        exact h.1 (dB_is hd)))
      subst hv
      rw [hd] at jl
      clear HNW heq hn
      go_wp2_with fail
      refine (jl _).mono ?_
      rintro e w4 ⟨rfl, hb4⟩
      go_wp2_with fail
      go_meet
      exact ⟨rfl, (show Hid _ from hb4)⟩
     | false =>
      by_cases hle : (r.l.length : Int) ≤ (X.m.l.length : Int)
      ·
       have hv : NW = true := HNW.out.trans (dB_yes (.inr ⟨heq, .inr ⟨dB_not hd, by omega⟩⟩))
       subst hv
       rw [hd] at jl
       clear HNW heq hn
       go_wp2_with fail
       refine (jl _).mono ?_
       rintro e w4 ⟨rfl, hb4⟩
       obtain ⟨⟨z0', z1', z2', z3', z4', z5', z6', z7', z8', z9'⟩, a3', a5'⟩ := CELLS w4 hb4
       go_wp2_with fail
       go_meet
       exact ⟨rfl, (show Hid _ from hb4)⟩
      ·
       have hv : NW = false := HNW.out.trans (dB_no (by
        rintro (h | ⟨_, h | h⟩)
        ·
         exact hlt h
        ·
         rw [hn] at h; cases h
        ·
         exact hle (by have := h.2; omega)))
       subst hv
       rw [hd] at jl
       clear HNW heq hn
       go_wp2_with fail
       refine (jl _).mono ?_
       rintro e w4 ⟨rfl, hb4⟩
       obtain ⟨⟨z0', z1', z2', z3', z4', z5', z6', z7', z8', z9'⟩, a3', a5'⟩ := CELLS w4 hb4
       go_wp2_with fail
       go_meet
       exact ⟨by first | rfl | (simp only [Value.bool.injEq, decide_eq_false_iff_not]; omega), (show Hid _ from hb4)⟩
   ·
    have beq : (X.m.v == r.v) = false := by simp [heq]
    have hv : NW = false := HNW.out.trans (dB_no (by
     rintro (h | ⟨h, _⟩)
     ·
      exact hlt h
     ·
      exact heq h))
    subst hv
    clear HNW heq
    go_wp2_with fail
    go_meet
    exact ⟨rfl, BR⟩
 case rest =>
  obtain ⟨rfl, hb4⟩ := hcut
  have H4 := hH_ (H3.out.kept hb4.out)
  have B4 := hH_ (B3.out.trans (hb4.out.mono H3.out.le))
  clear jl CELLS hb4 H3 B3
  obtain ⟨w4, rfl⟩ : ∃ x, x = wc := ⟨wc, rfl⟩
  go_upto_region 7 with fail
  by_cases hfq : X.m.f = q
  case neg =>
   have bne : (X.m.f != q) = true := by simp [hfq]
   have HE : Hid (rcvF r X.m = (r, [])) := hH_ (by rw [rcv_L HM.out HK.out]; exact rcvL_no (fun h => hfq (by rw [HQ.out]; exact h.1)))
   clear hfq
   have x1 : w4.cell? ⟨b + 1, 1, none⟩ = some (.int .i64 X.m.f) := (H4.out.box (k := b + 1) (ty := 30) (vs := mxV X) (by simp)).cell 1
   have x3 : w4.cell? ⟨b + 1, 3, none⟩ = some (.int .i64 X.m.v) := (H4.out.box (k := b + 1) (ty := 30) (vs := mxV X) (by simp)).cell 3
   have y1 : w4.cell? ⟨b, 1, none⟩ = some (.int .i64 r.p) := H4.out.c.cell 1
   go_quiet (fail)
   have BN := hH_ (dwNB w4 nq)
   generalize w4.drewN nq = w5 at BN ⊢
   have H5 := hH_ (H4.out.kept BN.out)
   have B5 := hH_ (B4.out.trans (BN.out.mono H4.out.le))
   clear x1 x3 y1 BN H4 B4
   go_wp2_with (first | (refine wpList_ldR rfl (.tmp 2) rfl b rfl H5.out.c rfl ?_) | (refine wpList_stR rfl rfl (.tmp 4) (.tmp 91) rfl (b + 2) (rpC r ⟨.slice la r.l.length lc, .slice oa r.ok.length oc, .slice ca r.ch.length cc, .slice ta r.te.length tc, T0⟩) rfl rfl (H5.out.box (k := b + 2) (ty := 28) (vs := zR) (by simp)) rfl rfl (rpC_one H5.out.got) ?_; intro w9 hz9 hc9))
   have B9 : Below B w w9 := hc9.below B5.out (by have:=HB.out;have := H5.out.lt; omega) (fun k hk => by have:=HB.out;omega)
   have HO : RpOw w9 B ⟨.slice la r.l.length lc, .slice oa r.ok.length oc, .slice ca r.ch.length cc, .slice ta r.te.length tc, T0⟩ r := H5.out.o.off (fun v hv k hk => hc9.block k (H5.out.under v hv k hk) (fun e => by
    have h5 := (H5.out.fr.k (b + 2, 28, zR) (by simp)).2.2 v hv
    rw [e] at hk
    exact h5 hk))
   have hrl := results_row2 (P := Tryz.prog) (fn := Tryz.f49) (p := 4) (q := 5) (ty := 28) rfl
   refine bodyPost_ret (v := .tuple #[.agg (rpC r ⟨.slice la r.l.length lc, .slice oa r.ok.length oc, .slice ca r.ch.length cc, .slice ta r.te.length tc, T0⟩), .slice (some ⟨e0, 0, none⟩) 0 0]) (hrl _ _ (b + 2) 28 _ (0, 0) _ rfl _ rfl hz9 Tryz.underlying28 rfl (by rw [Tryz.rszR]; rfl)) rfl ?_
   unfold RvE
   rw [HE.out]
   exact ⟨⟨.slice la r.l.length lc, .slice oa r.ok.length oc, .slice ca r.ch.length cc, .slice ta r.te.length tc, T0⟩, _, [], rfl, RvAns.no HO H5.out.apt B9⟩
  have bne : (X.m.f != q) = false := by simp [hfq]
  have HFQ : Hid (X.m.f = q) := hfq
  cases NW with
  | false =>
   have HE : Hid (rcvF r X.m = (r, [])) := hH_ (by rw [rcv_L HM.out HK.out]; exact rcvL_no (fun h => dB_not HNW.out.symm h.2.1))
   clear hfq
   have x1 : w4.cell? ⟨b + 1, 1, none⟩ = some (.int .i64 X.m.f) := (H4.out.box (k := b + 1) (ty := 30) (vs := mxV X) (by simp)).cell 1
   have x3 : w4.cell? ⟨b + 1, 3, none⟩ = some (.int .i64 X.m.v) := (H4.out.box (k := b + 1) (ty := 30) (vs := mxV X) (by simp)).cell 3
   have y1 : w4.cell? ⟨b, 1, none⟩ = some (.int .i64 r.p) := H4.out.c.cell 1
   go_quiet (fail)
   have BN := hH_ (dwNB w4 nq)
   generalize w4.drewN nq = w5 at BN ⊢
   have H5 := hH_ (H4.out.kept BN.out)
   have B5 := hH_ (B4.out.trans (BN.out.mono H4.out.le))
   clear x1 x3 y1 BN H4 B4
   go_wp2_with (first | (refine wpList_ldR rfl (.tmp 2) rfl b rfl H5.out.c rfl ?_) | (refine wpList_stR rfl rfl (.tmp 4) (.tmp 91) rfl (b + 2) (rpC r ⟨.slice la r.l.length lc, .slice oa r.ok.length oc, .slice ca r.ch.length cc, .slice ta r.te.length tc, T0⟩) rfl rfl (H5.out.box (k := b + 2) (ty := 28) (vs := zR) (by simp)) rfl rfl (rpC_one H5.out.got) ?_; intro w9 hz9 hc9))
   have B9 : Below B w w9 := hc9.below B5.out (by have:=HB.out;have := H5.out.lt; omega) (fun k hk => by have:=HB.out;omega)
   have HO : RpOw w9 B ⟨.slice la r.l.length lc, .slice oa r.ok.length oc, .slice ca r.ch.length cc, .slice ta r.te.length tc, T0⟩ r := H5.out.o.off (fun v hv k hk => hc9.block k (H5.out.under v hv k hk) (fun e => by
    have h5 := (H5.out.fr.k (b + 2, 28, zR) (by simp)).2.2 v hv
    rw [e] at hk
    exact h5 hk))
   have hrl := results_row2 (P := Tryz.prog) (fn := Tryz.f49) (p := 4) (q := 5) (ty := 28) rfl
   refine bodyPost_ret (v := .tuple #[.agg (rpC r ⟨.slice la r.l.length lc, .slice oa r.ok.length oc, .slice ca r.ch.length cc, .slice ta r.te.length tc, T0⟩), .slice (some ⟨e0, 0, none⟩) 0 0]) (hrl _ _ (b + 2) 28 _ (0, 0) _ rfl _ rfl hz9 Tryz.underlying28 rfl (by rw [Tryz.rszR]; rfl)) rfl ?_
   unfold RvE
   rw [HE.out]
   exact ⟨⟨.slice la r.l.length lc, .slice oa r.ok.length oc, .slice ca r.ch.length cc, .slice ta r.te.length tc, T0⟩, _, [], rfl, RvAns.no HO H5.out.apt B9⟩
  | true =>
   obtain ⟨cN, hcN⟩ : ∃ cN, cN = r.c.toNat := ⟨_, rfl⟩
   obtain ⟨nl, hnl⟩ : ∃ nl, nl = r.l.length := ⟨_, rfl⟩
   have hcr := HR.out.c
   have hcc : (cN : Int) = r.c := by omega
   have hSl := H4.out.got.l
   have hcl : cN ≤ lc := by
    obtain ⟨_, c', e, k1, k2, _⟩ := hSl
    injection e with _ _ e3
    subst e3
    omega
   have hcl3 : lc ≤ 9223372036854775807 := by
    obtain ⟨_, c', e, k1, k2, _⟩ := hSl
    injection e with _ _ e3
    subst e3
    exact k2
   have hcl2 : ((cN : Nat) : Int) ≤ (lc : Int) := by omega
   have HCN : Hid (cN = r.c.toNat ∧ nl = r.l.length) := hH_ (⟨hcN, hnl⟩)
   obtain ⟨D, hD⟩ : ∃ D, D = dB (r.l.take cN <+: X.m.l) := ⟨_, rfl⟩
   have HD : Hid (D = dB (r.l.take cN <+: X.m.l)) := hD
   have C7 := fun x (hS : Below w4.heap.size w4 x) => (show x.cell? ⟨b + 1, 1, none⟩ = some (.int .i64 X.m.f) ∧ x.cell? ⟨b + 1, 3, none⟩ = some (.int .i64 X.m.v) ∧ x.cell? ⟨b + 1, 5, none⟩ = some (.slice X.pl X.m.l.length X.cl) ∧ x.cell? ⟨b, 1, none⟩ = some (.int .i64 r.p) ∧ x.cell? ⟨b, 5, none⟩ = some (.slice la nl lc) ∧ x.cell? ⟨b, 6, none⟩ = some (.int .i64 (cN : Int)) from ⟨((H4.out.kept hS).box (k := b + 1) (ty := 30) (vs := mxV X) (by simp)).cell 1, ((H4.out.kept hS).box (k := b + 1) (ty := 30) (vs := mxV X) (by simp)).cell 3, ((H4.out.kept hS).box (k := b + 1) (ty := 30) (vs := mxV X) (by simp)).cell 5, (H4.out.kept hS).c.cell 1, by rw [hnl]; exact (H4.out.kept hS).c.cell 5, by rw [hcc]; exact (H4.out.kept hS).c.cell 6⟩)
   have jB := fun x (hS : Below w4.heap.size w4 x) => specBeg X.u (.slice la cN lc) X.m.l (r.l.take cN) x (HX.out x (B4.out.trans (hS.mono H4.out.le))) (Sls.take (H4.out.kept hS).got.l (by omega)) HXS.out.1 (by rw [List.length_take]; have := (logB_sm HR.out.l).1; omega)
   rw [← hD] at jB
   unfold Mx.u at jB
   clear hcN hnl hD hcr hcc hSl hfq
   have S0 := dwB w4
   generalize hA : Act.mk _ _ = A
   obtain ⟨s, hs, s2_, s3_, s4_, s6_, s7_⟩ : ∃ s : Nat → Value, A = frRc7 s s ∧ s 2 = .pointer (some ⟨b, 0, none⟩) ∧ s 3 = .pointer (some ⟨b + 1, 0, none⟩) ∧ s 4 = .pointer (some ⟨b + 2, 0, none⟩) ∧ s 6 = .slice (some ⟨e0, 0, none⟩) 0 0 ∧ s 7 = .bool true := by
    refine ⟨fun i => A.tmps.getD i undef, ?_, ?_, ?_, ?_, ?_, ?_⟩ <;> rw [← hA] <;> rfl
   rw [hs]
   clear hs hA
   refine region_heads 22 mixed (by decide) (by kernel_rfl) (by kernel_rfl) (by kernel_rfl) (by kernel_rfl) (frRc7 s) dRc7 (fun x => Below w4.heap.size w4 x) (GRc7 r X b cN nl lc la q D) (fun i j hi hj h => dRc7_ne hi hj h) ?put s rfl S0 ?step ?done
   case put =>
    intro i o hi ho t v
    iterate 22 rcases ltS hi with hi | rfl
    cases hi
    all_goals
     obtain rfl := Option.some.inj ho
     rfl
   case step =>
    intro i o hi ho t x hS hdep K hK
    iterate 22 rcases ltS hi with hi | rfl
    cases hi
    all_goals obtain rfl := Option.some.inj ho
    iterate 20
     ·
      have y0 := (C7 x hS).1
      have y1 := (C7 x hS).2.1
      have y2 := (C7 x hS).2.2.2.1
      have y3 := (C7 x hS).2.2.1
      have y4 := (C7 x hS).2.2.2.2.1
      have y5 := (C7 x hS).2.2.2.2.2
      have h2 := hK _ x hS kI_ rfl
      try simp [Region.binds, GRc7, dRc7, LRc7] at hdep
      unfold frRc7 at h2 ⊢
      clear hK
      go_simp
      first | simpa [Act.put, hdep, y0, y1, y2, y3, y4, y5, s2_, s3_, s4_, s6_, s7_, em, ew, hpz, bne, hcl, hcl2, hcl3] using h2 | simpa [Act.put, y0, y1, y2, y3, y4, y5, s2_, s3_, s4_, s6_, s7_, em, ew, hpz, bne, hcl, hcl2, hcl3] using h2
    ·
     have e14 : t 82 = .slice X.pl X.m.l.length X.cl := hdep ⟨14, .data⟩ (by simp) rfl
     have e19 : t 87 = .slice la cN lc := hdep ⟨19, .data⟩ (by simp) rfl
     have e12 : t 80 = .bool false := hdep ⟨12, .guard⟩ (by simp) rfl
     refine callG2 (wantG 12 false rfl _ rfl 80 rfl (congrArg some e12)) 107 (.tmp 82) (.tmp 87) _ rfl (.slice X.pl X.m.l.length X.cl) (.slice la cN lc) e14 e19 (Go.Proofs.enters_of Tryz.func107 (by kernel_rfl) rfl _) (fun v y => (v = .bool D) ∧ Below x.heap.size x y) ((jB x hS).mono ?_) ?_
     ·
      rintro e0 y0 ⟨h0, h2⟩
      exact ⟨_, h0, rfl, h2⟩
     ·
      rintro v y ⟨h0, hb2⟩
      exact hK v y (hS.trans (hb2.mono hS.size)) (fun j u hj hne h => GRc7.keep hb2 j u hj h) h0
    ·
     have e20 : t 88 = .bool D := hdep ⟨20, .data⟩ (by simp) rfl
     have e12 : t 80 = .bool false := hdep ⟨12, .guard⟩ (by simp) rfl
     have h2 := hK (.bool !D) x hS kI_ rfl
     unfold frRc7 at h2 ⊢
     clear hK
     go_simp
     simpa [Act.put, e20, e12, s2_, s3_, s4_, s6_, s7_] using h2
   case done =>
    intro tt w5 hS hG
    have e12 : tt 80 = .bool false := hG 12 (by decide)
    have e21 : tt 89 = .bool !D := hG 21 (by decide)
    have H5 := hH_ (H4.out.kept hS)
    have B5 := hH_ (B4.out.trans (hS.mono H4.out.le))
    clear jB C7 hG hS S0 H4 B4 hcl hcl2 hcl3 bne em ew hpz
    show wpList Tryz.prog _ _ [_] _ w5
    unfold frRc7
    simp only [e12, e21, s2_, s3_, s4_, s6_, s7_]
    clear e12 e21 s2_ s3_ s4_ s6_ s7_
    cases D with
    | false =>
     have HE : Hid (rcvF r X.m = (r, [])) := hH_ (by rw [rcv_L HM.out HK.out]; exact rcvL_no (fun h => dB_not HD.out.symm (by rw [HCN.out.1]; exact h.2.2)))
     simp only [Bool.not_false]
     go_wp2_with (first | (refine wpList_ldR rfl (.tmp 2) rfl b rfl H5.out.c rfl ?_) | (refine wpList_stR rfl rfl (.tmp 4) (.tmp 91) rfl (b + 2) (rpC r ⟨.slice la r.l.length lc, .slice oa r.ok.length oc, .slice ca r.ch.length cc, .slice ta r.te.length tc, T0⟩) rfl rfl (H5.out.box (k := b + 2) (ty := 28) (vs := zR) (by simp)) rfl rfl (rpC_one H5.out.got) ?_; intro w9 hz9 hc9))
     have B9 : Below B w w9 := hc9.below B5.out (by have:=HB.out;have := H5.out.lt; omega) (fun k hk => by have:=HB.out;omega)
     have HO : RpOw w9 B ⟨.slice la r.l.length lc, .slice oa r.ok.length oc, .slice ca r.ch.length cc, .slice ta r.te.length tc, T0⟩ r := H5.out.o.off (fun v hv k hk => hc9.block k (H5.out.under v hv k hk) (fun e => by
      have h5 := (H5.out.fr.k (b + 2, 28, zR) (by simp)).2.2 v hv
      rw [e] at hk
      exact h5 hk))
     have hrl := results_row2 (P := Tryz.prog) (fn := Tryz.f49) (p := 4) (q := 5) (ty := 28) rfl
     refine bodyPost_ret (v := .tuple #[.agg (rpC r ⟨.slice la r.l.length lc, .slice oa r.ok.length oc, .slice ca r.ch.length cc, .slice ta r.te.length tc, T0⟩), .slice (some ⟨e0, 0, none⟩) 0 0]) (hrl _ _ (b + 2) 28 _ (0, 0) _ rfl _ rfl hz9 Tryz.underlying28 rfl (by rw [Tryz.rszR]; rfl)) rfl ?_
     unfold RvE
     rw [HE.out]
     exact ⟨⟨.slice la r.l.length lc, .slice oa r.ok.length oc, .slice ca r.ch.length cc, .slice ta r.te.length tc, T0⟩, _, [], rfl, RvAns.no HO H5.out.apt B9⟩
    | true =>
     have HE : Hid (rcvF r X.m = ({ r with l := X.m.l, v := X.m.v, n := true, la := X.m.v, c := max r.c X.m.c, ok := [], ch := [], te := [] }, [⟨2, r.id, X.m.f, X.m.v, 0, [], (X.m.l.length : Int)⟩])) := hH_ (by rw [rcv_L HM.out HK.out]; exact rcvL_yes ⟨by rw [← HQ.out]; exact HFQ.out, dB_is HNW.out.symm, by rw [← HCN.out.1]; exact dB_is HD.out.symm⟩)
     simp only [Bool.not_true]
     clear HNW HD HCN
     clear HFQ HQ
     have a5 : w5.cell? ⟨b + 1, 5, none⟩ = some (.slice X.pl X.m.l.length X.cl) := (H5.out.box (k := b + 1) (ty := 30) (vs := mxV X) (by simp)).cell 5
     have jt := specTxs X.u X.m.l w5 (HX.out w5 B5.out) HXS.out.1
     unfold Mx.u at jt
     go_upto_region 10 with (first | (go_at_call 98; refine jt.mono ?_; rintro e w6 ⟨v6, rfl, h6, b6⟩; obtain ⟨p6, q6, rfl, _⟩ := h6.form) | (refine wpList_rpL H5.out b6 rfl rfl _ _ rfl h6.has rfl rfl ?_; intro w7 h7 b7))
     have H7 : Hid (RpAt [(b + 1, 30, mxV X), (b + 2, 28, zR)] w7 B b _ { r with l := X.m.l }) := h7
     have B7 := hH_ (B5.out.trans b7)
     clear h7 b7 h6 b6 jt a5 H5 B5
     have x3 : w7.cell? ⟨b + 1, 3, none⟩ = some (.int .i64 X.m.v) := (H7.out.box (k := b + 1) (ty := 30) (vs := mxV X) (by simp)).cell 3
     go_upto_region 11 with (refine wpList_rpV H7.out (Below.refl _ _) rfl rfl _ _ rfl X.m.v rfl rfl ?_; intro w8 h8 b8)
     have H8 : Hid (RpAt [(b + 1, 30, mxV X), (b + 2, 28, zR)] w8 B b _ { r with l := X.m.l, v := X.m.v }) := h8
     have B8 := hH_ (B7.out.trans b8)
     clear h8 b8 x3 H7 B7
     go_upto_region 12 with (refine wpList_rpN H8.out (Below.refl _ _) rfl rfl _ _ rfl true rfl rfl ?_; intro w9 h9 b9)
     have H9 : Hid (RpAt [(b + 1, 30, mxV X), (b + 2, 28, zR)] w9 B b _ { r with l := X.m.l, v := X.m.v, n := true }) := h9
     have B9 := hH_ (B8.out.trans b9)
     clear h9 b9 H8 B8
     have x3 : w9.cell? ⟨b + 1, 3, none⟩ = some (.int .i64 X.m.v) := (H9.out.box (k := b + 1) (ty := 30) (vs := mxV X) (by simp)).cell 3
     go_upto_region 13 with (refine wpList_rpLa H9.out (Below.refl _ _) rfl rfl _ _ rfl X.m.v rfl rfl ?_; intro w10 h10 b10)
     have H10 : Hid (RpAt [(b + 1, 30, mxV X), (b + 2, 28, zR)] w10 B b _ { r with l := X.m.l, v := X.m.v, n := true, la := X.m.v }) := h10
     have B10 := hH_ (B9.out.trans b10)
     clear h10 b10 x3 H9 B9
     have x6 : w10.cell? ⟨b + 1, 6, none⟩ = some (.int .i64 X.m.c) := (H10.out.box (k := b + 1) (ty := 30) (vs := mxV X) (by simp)).cell 6
     have y6 : w10.cell? ⟨b, 6, none⟩ = some (.int .i64 r.c) := H10.out.c.cell 6
     go_upto_region 14 with (first | (go_at_call 97; refine (specMx _ _ _).mono ?_; rintro e w10' ⟨rfl, rfl⟩) | (refine wpList_rpC H10.out (Below.refl _ _) rfl rfl _ _ rfl (max r.c X.m.c) rfl rfl ?_; intro w11 h11 b11))
     have H11 : Hid (RpAt [(b + 1, 30, mxV X), (b + 2, 28, zR)] w11 B b _ { r with l := X.m.l, v := X.m.v, n := true, la := X.m.v, c := max r.c X.m.c }) := h11
     have B11 := hH_ (B10.out.trans b11)
     clear h11 b11 x6 y6 H10 B10
     go_upto_region 15 with (refine wpList_rpOk H11.out ((Below.refl _ w11).alloc (Nat.le_refl _) _) rfl rfl _ _ rfl (OwnsE.born w11).has rfl rfl ?_; intro w12 h12 b12)
     have H12 : Hid (RpAt [(b + 1, 30, mxV X), (b + 2, 28, zR)] w12 B b _ { r with l := X.m.l, v := X.m.v, n := true, la := X.m.v, c := max r.c X.m.c, ok := [] }) := hH_ (h12)
     have B12 := hH_ (B11.out.trans b12)
     clear h12 b12 H11 B11
     go_upto_region 16 with (refine wpList_rpCh H12.out ((Below.refl _ w12).alloc (Nat.le_refl _) _) rfl rfl _ _ rfl (OwnsE.born w12) rfl rfl ?_; intro w13 h13 b13)
     have H13 : Hid (RpAt [(b + 1, 30, mxV X), (b + 2, 28, zR)] w13 B b _ { r with l := X.m.l, v := X.m.v, n := true, la := X.m.v, c := max r.c X.m.c, ok := [], ch := [] }) := hH_ (h13)
     have B13 := hH_ (B12.out.trans b13)
     clear h13 b13 H12 B12
     go_upto_region 17 with (refine wpList_rpTe0 H13.out ((Below.refl _ w13).alloc (Nat.le_refl _) _) rfl rfl _ _ rfl (OwnsE.born w13) rfl rfl ?_; intro w16 h16 b16)
     obtain ⟨R, hR⟩ : ∃ R : Rp, R = { r with l := X.m.l, v := X.m.v, n := true, la := X.m.v, c := max r.c X.m.c, ok := [], ch := [], te := [] } := ⟨_, rfl⟩
     have HE2 : Hid (rcvF r X.m = (R, [⟨2, R.id, X.m.f, R.v, 0, [], (R.l.length : Int)⟩])) := hH_ (by rw [HE.out, hR])
     have B16 := hH_ (B13.out.trans b16)
     obtain ⟨ux, H16⟩ : ∃ ux, Hid (RpAt [(b + 1, 30, mxV X), (b + 2, 28, zR)] w16 B b ux R) := ⟨_, (show Hid _ from by rw [hR]; exact h16)⟩
     have Z16 : Hid (w.heap.size ≤ w16.heap.size) := hH_ (B16.out.size)
     clear h16 b16 H13 B13 HE hR
     obtain ⟨lx, cx, elx⟩ := H16.out.lslice
     have hz2 := Bx.lt (H16.out.box (k := b + 2) (ty := 28) (vs := zR) (by simp))
     have hz1 := Bx.lt (H16.out.box (k := b + 1) (ty := 30) (vs := mxV X) (by simp))
     have HC : Hid (∀ x, StS w16 (b + 2) x → Bx x b 28 (rpC R ux)) := hH_ (fun x hS => (hS.ch.block b H16.out.lt (by omega)).trans H16.out.c)
     have C17 := fun x (hS : StS w16 (b + 2) x) => (show x.cell? ⟨b + 1, 1, none⟩ = some (.int .i64 X.m.f) ∧ x.cell? ⟨b, 0, none⟩ = some (.int .i64 R.id) ∧ x.cell? ⟨b, 2, none⟩ = some (.int .i64 R.v) ∧ x.cell? ⟨b, 5, none⟩ = some (.slice lx R.l.length cx) from ⟨Bx.cell (vs := mxV X) ((hS.ch.block (b + 1) hz1 (by omega)).trans (H16.out.box (k := b + 1) (ty := 30) (vs := mxV X) (by simp))) 1, (HC.out x hS).cell 0, (HC.out x hS).cell 2, by rw [← elx]; exact (HC.out x hS).cell 5⟩)
     have S0 : StS w16 (b + 2) w16.drew := ⟨⟨rfl, rfl, rfl, Nat.le_refl _, fun _ _ _ => rfl⟩, zR, (H16.out.box (k := b + 2) (ty := 28) (vs := zR) (by simp)), rfl⟩
     have HLT : Hid (b + 2 < w16.heap.size) := hz2
     clear hz1 hz2 elx
     obtain ⟨lo, hlo⟩ : ∃ lo, lo = w16.heap.size := ⟨_, rfl⟩
     generalize hA : Act.mk _ _ = A
     obtain ⟨s, hs, s2_, s3_, s4_⟩ : ∃ s : Nat → Value, A = frRc17 s s ∧ s 2 = .pointer (some ⟨b, 0, none⟩) ∧ s 3 = .pointer (some ⟨b + 1, 0, none⟩) ∧ s 4 = .pointer (some ⟨b + 2, 0, none⟩) := by
      refine ⟨fun i => A.tmps.getD i undef, ?_, ?_, ?_, ?_⟩ <;> rw [← hA] <;> rfl
     rw [hs]
     clear hs hA
     refine region_heads 13 mixed (by decide) (by kernel_rfl) (by kernel_rfl) (by kernel_rfl) (by kernel_rfl) (frRc17 s) dRc17 (fun x => StS w16 (b + 2) x) (GRc17 R ux X b lo lx cx) (fun i j hi hj h => dRc17_ne hi hj h) ?put s rfl S0 ?step ?done
     case put =>
      intro i o hi ho t v
      iterate 13 rcases ltS hi with hi | rfl
      cases hi
      all_goals
       obtain rfl := Option.some.inj ho
       rfl
     case step =>
      intro i o hi ho t x hS hdep K hK
      iterate 13 rcases ltS hi with hi | rfl
      cases hi
      all_goals obtain rfl := Option.some.inj ho
      ·
       have h2 := hK (.agg (rpC R ux)) x hS kI_ rfl
       refine ldG (by rfl) (.tmp 2) rfl b (by show (frRc17 s t).eval (.tmp 2) = _; unfold frRc17; simp [Act.eval, s2_]) (HC.out x hS) (rpC_size R ux) ?_
       exact h2
      iterate 10
       ·
        have y0 := (C17 x hS).2.1
        have y1 := (C17 x hS).1
        have y2 := (C17 x hS).2.2.1
        have y3 := (C17 x hS).2.2.2
        have h2 := hK _ x hS kI_ rfl
        try simp [Region.binds, GRc17, dRc17, LRc17] at hdep
        unfold frRc17 at h2 ⊢
        clear hK
        go_simp
        first | simpa [Act.put, hdep, y0, y1, y2, y3, s2_, s3_, s4_] using h2 | simpa [Act.put, y0, y1, y2, y3, s2_, s3_, s4_] using h2
      ·
       have e10 : t 126 = .agg #[.int .i64 2, .int .i64 R.id, .int .i64 X.m.f, .int .i64 R.v, .int .i64 0, .slice none 0 0, .int .i64 (R.l.length : Int)] := hdep ⟨10, .data⟩ (by simp) rfl
       have hba := (Below.refl x.heap.size x).alloc (Nat.le_refl _) (.cells #[.int .i64 2, .int .i64 R.id, .int .i64 X.m.f, .int .i64 R.v, .int .i64 0, .slice none 0 0, .int .i64 (R.l.length : Int)] 30)
       have h2 := hK (.slice (some ⟨x.heap.size, 0, none⟩) 1 1) (x.alloc (.cells #[.int .i64 2, .int .i64 R.id, .int .i64 X.m.f, .int .i64 R.v, .int .i64 0, .slice none 0 0, .int .i64 (R.l.length : Int)] 30)) (hS.kept hba) (fun j u hj hne h => GRc17.keep hba j u hj h) ⟨x.heap.size, rfl, by rw [hlo]; exact hS.ch.size, Bx.new _ _ _⟩
       unfold frRc17 at h2 ⊢
       clear hK
       go_simp
       simpa [Act.put, e10, s2_, s3_, s4_] using h2
      ·
       have e0 : t 116 = .agg (rpC R ux) := hdep ⟨0, .data⟩ (by simp) rfl
       obtain ⟨old, ho1, ho2⟩ := hS.bx
       refine stG (by rfl) (.tmp 4) (.tmp 116) rfl (b + 2) (rpC R ux) (by show (frRc17 s t).eval (.tmp 4) = _; unfold frRc17; simp [Act.eval, s4_]) (by show (frRc17 s t).eval (.tmp 116) = _; unfold frRc17; simp [Act.eval, e0]) ho1 ho2 (rpC_size R ux) (rpC_one H16.out.got) ?_
       intro W hW hc
       exact hK undef W (hS.put hW (rpC_size R ux) hc) (fun j u hj hne h => GRc17.keepS (by rw [hlo]; exact HLT.out) hc j u hj hne h) ⟨rfl, hW⟩
     case done =>
      intro tt w17 hS hG
      obtain ⟨gb, e11, k1, k2⟩ : ∃ gb, tt 127 = .slice (some ⟨gb, 0, none⟩) 1 1 ∧ (lo ≤ gb ∧ Bx w17 gb 30 #[.int .i64 2, .int .i64 R.id, .int .i64 X.m.f, .int .i64 R.v, .int .i64 0, .slice none 0 0, .int .i64 (R.l.length : Int)]) := hG 11 (by decide)
      obtain ⟨_, hz17⟩ : tt 100012 = undef ∧ Bx w17 (b + 2) 28 (rpC R ux) := hG 12 (by decide)
      have hmo : MsOwn w17 lo (.slice (some ⟨gb, 0, none⟩) 1 1) [⟨⟨2, R.id, X.m.f, R.v, 0, [], (R.l.length : Int)⟩, none, 0⟩] [⟨2, R.id, X.m.f, R.v, 0, [], (R.l.length : Int)⟩] := msOwn_one k2 k1 rfl
      rw [hlo] at hmo
      have OM : Hid (MsOwn w17 w16.heap.size (.slice (some ⟨gb, 0, none⟩) 1 1) [⟨⟨2, R.id, X.m.f, R.v, 0, [], (R.l.length : Int)⟩, none, 0⟩] [⟨2, R.id, X.m.f, R.v, 0, [], (R.l.length : Int)⟩]) := hmo
      have HZ : Hid (Bx w17 (b + 2) 28 (rpC R ux)) := hz17
      have HO : Hid (RpOw w17 B ux R) := (show Hid _ from H16.out.o.off (fun v hv k hk => hS.ch.block k (H16.out.under v hv k hk) (fun e => by
       have h5 := (H16.out.fr.k (b + 2, 28, zR) (by simp)).2.2 v hv
       rw [e] at hk
       exact h5 hk)))
      have BB : Hid (Below B w w17) := hH_ (hS.ch.below B16.out H16.out.le (fun k hk => by have:=HB.out;omega))
      have HS9 : Hid (w16.heap.size ≤ w17.heap.size) := hS.ch.size
      clear C17 HC hG hS S0 hlo k1 k2 hmo hz17
      show wpList Tryz.prog _ _ [_] _ w17
      unfold frRc17
      simp only [e11, s2_, s3_, s4_]
      clear e11 s2_ s3_ s4_
      go_wp2_with fail
      have hrl := results_row2 (P := Tryz.prog) (fn := Tryz.f49) (p := 4) (q := 5) (ty := 28) rfl
      refine bodyPost_ret (v := .tuple #[.agg (rpC R ux), .slice (some ⟨gb, 0, none⟩) 1 1]) (hrl _ _ (b + 2) 28 _ (0, 0) _ rfl _ rfl HZ.out Tryz.underlying28 rfl (by rw [Tryz.rszR]; rfl)) rfl ?_
      unfold RvE
      rw [HE2.out]
      exact ⟨ux, _, _, rfl, ⟨HO.out, H16.out.apt, ⟨w16.heap.size, H16.out.under, Z16.out, HS9.out, .inl OM.out⟩, BB.out⟩⟩
open Go.RowKit Go.Sort Go.Shelf Pg
theorem rcv_O {r : Rp} {m : Ms} (h : MsOk m r.p ∧ m.t = r.id ∧ m.f ≠ r.id) (hk : m.k = 2) : rcvF r m = rcvO r m := by
 unfold rcvF
 rw [if_neg (fun hh => by
  rcases hh with hh | hh | hh
  ·
   exact hh h.1
  ·
   exact hh h.2.1
  ·
   exact h.2.2 hh), if_neg (by omega), if_pos hk]
theorem rcvO_no {r : Rp} {m : Ms} (h : ¬ (m.v = r.v ∧ leads r)) : rcvO r m = (r, []) := by unfold rcvO; exact if_neg h
theorem rcvO_yes {r : Rp} {m : Ms} (h : m.v = r.v ∧ leads r) : rcvO r m = (cntd { r with ok := r.ok.set m.f.toNat (max (r.ok.getD m.f.toNat 0) (min m.c (r.l.length : Int))) }, []) := by unfold rcvO; exact if_pos h
def frRc20 (s t : Nat → Value) : Act := { tmps := #[s 0, s 1, s 2, s 3, s 4, s 5, s 6, s 7, s 8, s 9, s 10, s 11, s 12, s 13, s 14, s 15, s 16, s 17, s 18, s 19, s 20, s 21, s 22, s 23, s 24, s 25, s 26, s 27, s 28, s 29, s 30, s 31, s 32, s 33, s 34, s 35, s 36, s 37, s 38, s 39, s 40, s 41, s 42, s 43, s 44, s 45, s 46, s 47, s 48, s 49, s 50, s 51, s 52, s 53, s 54, s 55, s 56, s 57, s 58, s 59, s 60, s 61, s 62, s 63, s 64, s 65, s 66, s 67, s 68, s 69, s 70, s 71, s 72, s 73, s 74, s 75, s 76, s 77, s 78, s 79, s 80, s 81, s 82, s 83, s 84, s 85, s 86, s 87, s 88, s 89, s 90, s 91, s 92, s 93, s 94, s 95, s 96, s 97, s 98, s 99, s 100, s 101, s 102, s 103, s 104, s 105, s 106, s 107, s 108, s 109, s 110, s 111, s 112, s 113, s 114, s 115, s 116, s 117, s 118, s 119, s 120, s 121, s 122, s 123, s 124, s 125, s 126, s 127, s 128, s 129, s 130, s 131, s 132, s 133, s 134, s 135, s 136, s 137, s 138, t 139, t 140, t 141, t 142, t 143, t 144, t 145, t 146, t 147, t 148, t 149, t 150, t 151, t 152, t 153, t 154, t 155, t 156, s 157, s 158, s 159, s 160, s 161, s 162, s 163, s 164, s 165, s 166, s 167, s 168, s 169, s 170, s 171, s 172, s 173, s 174, s 175, s 176, s 177, s 178, s 179, s 180, s 181, s 182, s 183, s 184, s 185, s 186, s 187, s 188, s 189, s 190, s 191, s 192, s 193, s 194, s 195, s 196, s 197, s 198, s 199, s 200, s 201, s 202, s 203, s 204, s 205, s 206, s 207, s 208, s 209, s 210, s 211, s 212, s 213, s 214, s 215, s 216, s 217, s 218, s 219, s 220, s 221, s 222, s 223, s 224, s 225, s 226, s 227, s 228, s 229, s 230, s 231, s 232, s 233, s 234, s 235, s 236, s 237, s 238, s 239, s 240, s 241, s 242], defers := [] }
def LRc20 : List Nat := [139, 140, 141, 142, 143, 144, 145, 146, 147, 148, 149, 150, 151, 152, 153, 154, 155, 156]
def dRc20 (i : Nat) : Nat := LRc20.getD i (i + 5000)
theorem dRc20_ne {i j : Nat} (hi : i < 18) (hj : j < 18) (h : j ≠ i) : dRc20 j ≠ dRc20 i := slotsNe (L := LRc20) (by decide) rfl hi hj h
def GRc20 (X : Mx) (b go fi no oc nl lc : Nat) (la : Option Addr) (ov : Int) (i : Nat) (x : World) (v : Value) : Prop := match i with
 | 0 => v = .pointer (some ⟨b, 7, none⟩)
 | 1 => v = .slice (some ⟨go, 0, none⟩) no oc
 | 2 => v = .pointer (some ⟨b + 1, 1, none⟩)
 | 3 => v = .int .i64 (fi : Int)
 | 4 => v = .pointer (some ⟨b, 7, none⟩)
 | 5 => v = .slice (some ⟨go, 0, none⟩) no oc
 | 6 => v = .pointer (some ⟨b + 1, 1, none⟩)
 | 7 => v = .int .i64 (fi : Int)
 | 8 => v = .pointer (some ⟨go, fi, none⟩)
 | 9 => v = .int .i64 ov
 | 10 => v = .pointer (some ⟨b + 1, 6, none⟩)
 | 11 => v = .int .i64 X.m.c
 | 12 => v = .pointer (some ⟨b, 5, none⟩)
 | 13 => v = .slice la nl lc
 | 14 => v = .int .i64 (nl : Int)
 | 15 => v = .int .i64 (min X.m.c (nl : Int))
 | 16 => v = .int .i64 (max ov (min X.m.c (nl : Int)))
 | 17 => v = .pointer (some ⟨go, fi, none⟩)
 | _ => True
theorem GRc20.keep {X : Mx} {b go fi no oc nl lc : Nat} {la : Option Addr} {ov : Int} {x y : World} (hb : Below x.heap.size x y) (j : Nat) (v : Value) (hj : j < 18) (h : GRc20 X b go fi no oc nl lc la ov j x v) : GRc20 X b go fi no oc nl lc la ov j y v := h
theorem specRcvO (r : Rp) (u : Rv) (B : Nat) (X : Mx) (w : World) (ho : RpOw w B u r) (hap : RpAp u) (hX : ∀ W, Below B w W → Sls txtE W X.u X.m.l) (hr : RpOk r) (hxs : X.m.l.length ≤ 1048576 ∧ ∀ x ∈ X.m.l, x.size ≤ 1048576) (hB : B ≤ w.heap.size) (hm : MsOk X.m r.p) (ht : X.m.t = r.id) (hf : X.m.f ≠ r.id) (hk : X.m.k = 2) :
  Calls Tryz.prog 49 #[rpA r u, .agg (mxV X)] w fun e w' => RvE r X B w e w' := by
 obtain ⟨la, lc, oa, oc, ca, cc, ta, tc, T0, rfl⟩ := ho.got.form
 obtain ⟨b, hb⟩ : ∃ b, b = w.heap.size := ⟨_, rfl⟩
 obtain ⟨w1, hw1⟩ : ∃ w1, w1 = ((w.alloc (.cells #[.int .i64 r.id, .int .i64 r.p, .int .i64 r.v, .bool r.n, .int .i64 r.la, .slice la r.l.length lc, .int .i64 r.c, .slice oa r.ok.length oc, .slice ca r.ch.length cc, .slice ta r.te.length tc] 28)).alloc (.cells #[.int .i64 X.m.k, .int .i64 X.m.f, .int .i64 X.m.t, .int .i64 X.m.v, .int .i64 X.m.la, .slice X.pl X.m.l.length X.cl, .int .i64 X.m.c] 30)).alloc (.cells #[.int .i64 0, .int .i64 0, .int .i64 0, .bool false, .int .i64 0, .slice none 0 0, .int .i64 0, .slice none 0 0, .slice none 0 0, .slice none 0 0] 28) := ⟨_, rfl⟩
 have bw1 : Below w.heap.size w w1 := by rw [hw1]; exact (((Below.refl _ w).alloc (Nat.le_refl _) _).alloc (by simp) _).alloc (by simp; omega) _
 have XB : Bx w1 b 28 #[.int .i64 r.id, .int .i64 r.p, .int .i64 r.v, .bool r.n, .int .i64 r.la, .slice la r.l.length lc, .int .i64 r.c, .slice oa r.ok.length oc, .slice ca r.ch.length cc, .slice ta r.te.length tc] := by rw [hw1, hb]; exact ((Bx.new _ _ _).alloc _).alloc _
 have XM : Bx w1 (b + 1) 30 (mxV X) := by rw [hw1, hb]; exact (Bx.at _ _ (by simp)).alloc _
 have XZ : Bx w1 (b + 2) 28 zR := by rw [hw1, hb]; exact Bx.at _ _ (by simp)
 have hru : ∀ v ∈ Rv.rows ⟨.slice la r.l.length lc, .slice oa r.ok.length oc, .slice ca r.ch.length cc, .slice ta r.te.length tc, T0⟩, ∀ k, v.ownBlock = some k → k < b := fun v hv k hk => by rw [hb]; exact ho.has.under v hv k hk
 have hat : RpAt [] w1 B b ⟨.slice la r.l.length lc, .slice oa r.ok.length oc, .slice ca r.ch.length cc, .slice ta r.te.length tc, T0⟩ r := ⟨XB, ho.kept bw1, hap, by omega, ⟨fun x hx => nomatch hx⟩⟩
 have H1 : Hid (RpAt [(b + 1, 30, mxV X), (b + 2, 28, zR)] w1 B b ⟨.slice la r.l.length lc, .slice oa r.ok.length oc, .slice ca r.ch.length cc, .slice ta r.te.length tc, T0⟩ r) := (show RpAt _ _ _ _ _ _ from (hat.beside (k := b + 2) XZ (by omega) (fun v hv e => by have := hru v hv _ e; omega)).beside (k := b + 1) XM (by omega) (fun v hv e => by have := hru v hv _ e; omega))
 have B1 : Hid (Below B w w1) := hH_ (bw1.mono hB)
 have S1 : Hid (w1.heap.size = b + 3) := (show _ = _ by rw [hw1, hb]; simp)
 have HB : Hid (b = w.heap.size ∧ B ≤ b) := hH_ (⟨hb, by omega⟩)
 have HX : Hid (∀ W, Below B w W → Sls txtE W X.u X.m.l) := hH_ (hX)
 have HR : Hid (RpOk r) := hr
 have HXS : Hid (X.m.l.length ≤ 1048576 ∧ ∀ x ∈ X.m.l, x.size ≤ 1048576) := hH_ (hxs)
 have jm := fun W (hW : Below B w W) => specMok X.m X.u r.p W (hX W hW) hxs.2 hr.p
 clear ho hap hX hr hxs hB bw1 XB XM XZ hru hat
 unfold rpA mxV
 unfold msA Mx.u at jm
 simp only at jm ⊢
 have HM : Hid (MsOk X.m r.p ∧ X.m.t = r.id ∧ X.m.f ≠ r.id) := hH_ (⟨hm, ht, hf⟩)
 have bt : (X.m.t != r.id) = false := by simp [ht]
 have bf : (X.m.f == r.id) = false := by simp [hf]
 rw [msB_yes hm] at jm
 clear hm ht hf
 have HK : Hid (X.m.k = 2) := hk
 clear hk
 by_cases heq : X.m.v = r.v
 case neg =>
  have HE : Hid (rcvF r X.m = (r, [])) := hH_ (by rw [rcv_O HM.out HK.out]; exact rcvO_no (fun h => heq h.1))
  have beq : (X.m.v == r.v) = false := by simp [heq]
  clear heq
  go_enter Tryz.func49, Tryz.ntmps49
  go_upto_region 1 with fail
  rw [← hb, ← hw1, show b + 1 + 1 = b + 2 from rfl]
  clear hw1 hb
  go_upto_region 2 with fail
  have bA : Below w1.heap.size w1 (w1.alloc (.cells #[] 30)) := (Below.refl _ w1).alloc (Nat.le_refl _) _
  obtain ⟨e0, he0⟩ : ∃ e0, e0 = w1.heap.size := ⟨_, rfl⟩
  have H2 := hH_ (H1.out.kept bA)
  have B2 := hH_ (B1.out.trans (bA.mono H1.out.le))
  have HE0 : Hid (e0 = b + 3) := (show _ = _ by rw [he0, S1.out])
  rw [← he0]
  generalize w1.alloc (.cells #[] 30) = w2 at H2 B2 ⊢
  clear bA he0 H1 B1 S1
  have y1 : w2.cell? ⟨b, 1, none⟩ = some (.int .i64 r.p) := H2.out.c.cell 1
  go_wp2_with (refine wpList_ldM rfl (.tmp 3) rfl (b + 1) rfl (H2.out.box (k := b + 1) (ty := 30) (vs := mxV X) (by simp)) rfl ?_)
  refine (jm _ B2.out).mono ?_
  rintro e w3 ⟨rfl, hb3⟩
  have H3 := hH_ (H2.out.kept hb3)
  have B3 := hH_ (B2.out.trans (hb3.mono H2.out.le))
  clear hb3 H2 B2 y1 jm
  have y0 : w3.cell? ⟨b, 0, none⟩ = some (.int .i64 r.id) := H3.out.c.cell 0
  have x1 : w3.cell? ⟨b + 1, 1, none⟩ = some (.int .i64 X.m.f) := (H3.out.box (k := b + 1) (ty := 30) (vs := mxV X) (by simp)).cell 1
  have x2 : w3.cell? ⟨b + 1, 2, none⟩ = some (.int .i64 X.m.t) := (H3.out.box (k := b + 1) (ty := 30) (vs := mxV X) (by simp)).cell 2
  have x0 : w3.cell? ⟨b + 1, 0, none⟩ = some (.int .i64 2) := by rw [← HK.out]; exact (H3.out.box (k := b + 1) (ty := 30) (vs := mxV X) (by simp)).cell 0
  go_upto_region 19 with fail
  clear y0 x1 x2 x0
  have x3 : w3.cell? ⟨b + 1, 3, none⟩ = some (.int .i64 X.m.v) := (H3.out.box (k := b + 1) (ty := 30) (vs := mxV X) (by simp)).cell 3
  obtain ⟨z0, z1, z2, z3, z4, z5, z6, z7, z8, z9⟩ := H3.out.c.cells
  go_wp2_with (first | (refine wpList_ldR rfl (.tmp 2) rfl b rfl H3.out.c rfl ?_) | (refine wpList_stR rfl rfl (.tmp 4) (.tmp 158) rfl (b + 2) (rpC r ⟨.slice la r.l.length lc, .slice oa r.ok.length oc, .slice ca r.ch.length cc, .slice ta r.te.length tc, T0⟩) rfl rfl (H3.out.box (k := b + 2) (ty := 28) (vs := zR) (by simp)) rfl rfl (rpC_one H3.out.got) ?_; intro w9 hz9 hc9))
  have B9 : Below B w w9 := hc9.below B3.out (by have:=HB.out;have := H3.out.lt; omega) (fun k hk => by have:=HB.out;omega)
  have HO : RpOw w9 B ⟨.slice la r.l.length lc, .slice oa r.ok.length oc, .slice ca r.ch.length cc, .slice ta r.te.length tc, T0⟩ r := H3.out.o.off (fun v hv k hk => hc9.block k (H3.out.under v hv k hk) (fun e => by
   have h5 := (H3.out.fr.k (b + 2, 28, zR) (by simp)).2.2 v hv
   rw [e] at hk
   exact h5 hk))
  have hrl := results_row2 (P := Tryz.prog) (fn := Tryz.f49) (p := 4) (q := 5) (ty := 28) rfl
  refine bodyPost_ret (v := .tuple #[.agg (rpC r ⟨.slice la r.l.length lc, .slice oa r.ok.length oc, .slice ca r.ch.length cc, .slice ta r.te.length tc, T0⟩), .slice (some ⟨e0, 0, none⟩) 0 0]) (hrl _ _ (b + 2) 28 _ (0, 0) _ rfl _ rfl hz9 Tryz.underlying28 rfl (by rw [Tryz.rszR]; rfl)) rfl ?_
  unfold RvE
  rw [HE.out]
  exact ⟨⟨.slice la r.l.length lc, .slice oa r.ok.length oc, .slice ca r.ch.length cc, .slice ta r.te.length tc, T0⟩, _, [], rfl, RvAns.no HO H3.out.apt B9⟩
 have beq : (X.m.v == r.v) = true := by simp [heq]
 have HEQ : Hid (X.m.v = r.v) := heq
 have jl := fun W => specLds r ⟨.slice la r.l.length lc, .slice oa r.ok.length oc, .slice ca r.ch.length cc, .slice ta r.te.length tc, T0⟩ W ⟨HR.out.v.1, by have := HR.out.v; omega⟩ HR.out.p
 unfold rpA at jl
 simp only at jl
 clear heq
 cases hd : dB (leads r) with
 | false =>
  have HE : Hid (rcvF r X.m = (r, [])) := hH_ (by rw [rcv_O HM.out HK.out]; exact rcvO_no (fun h => dB_not hd h.2))
  rw [hd] at jl
  clear hd
  go_enter Tryz.func49, Tryz.ntmps49
  go_upto_region 1 with fail
  rw [← hb, ← hw1, show b + 1 + 1 = b + 2 from rfl]
  clear hw1 hb
  go_upto_region 2 with fail
  have bA : Below w1.heap.size w1 (w1.alloc (.cells #[] 30)) := (Below.refl _ w1).alloc (Nat.le_refl _) _
  obtain ⟨e0, he0⟩ : ∃ e0, e0 = w1.heap.size := ⟨_, rfl⟩
  have H2 := hH_ (H1.out.kept bA)
  have B2 := hH_ (B1.out.trans (bA.mono H1.out.le))
  have HE0 : Hid (e0 = b + 3) := (show _ = _ by rw [he0, S1.out])
  rw [← he0]
  generalize w1.alloc (.cells #[] 30) = w2 at H2 B2 ⊢
  clear bA he0 H1 B1 S1
  have y1 : w2.cell? ⟨b, 1, none⟩ = some (.int .i64 r.p) := H2.out.c.cell 1
  go_wp2_with (refine wpList_ldM rfl (.tmp 3) rfl (b + 1) rfl (H2.out.box (k := b + 1) (ty := 30) (vs := mxV X) (by simp)) rfl ?_)
  refine (jm _ B2.out).mono ?_
  rintro e w3 ⟨rfl, hb3⟩
  have H3 := hH_ (H2.out.kept hb3)
  have B3 := hH_ (B2.out.trans (hb3.mono H2.out.le))
  clear hb3 H2 B2 y1 jm
  have y0 : w3.cell? ⟨b, 0, none⟩ = some (.int .i64 r.id) := H3.out.c.cell 0
  have x1 : w3.cell? ⟨b + 1, 1, none⟩ = some (.int .i64 X.m.f) := (H3.out.box (k := b + 1) (ty := 30) (vs := mxV X) (by simp)).cell 1
  have x2 : w3.cell? ⟨b + 1, 2, none⟩ = some (.int .i64 X.m.t) := (H3.out.box (k := b + 1) (ty := 30) (vs := mxV X) (by simp)).cell 2
  have x0 : w3.cell? ⟨b + 1, 0, none⟩ = some (.int .i64 2) := by rw [← HK.out]; exact (H3.out.box (k := b + 1) (ty := 30) (vs := mxV X) (by simp)).cell 0
  go_upto_region 19 with fail
  clear y0 x1 x2 x0
  have x3 : w3.cell? ⟨b + 1, 3, none⟩ = some (.int .i64 X.m.v) := (H3.out.box (k := b + 1) (ty := 30) (vs := mxV X) (by simp)).cell 3
  obtain ⟨z0, z1, z2, z3, z4, z5, z6, z7, z8, z9⟩ := H3.out.c.cells
  go_wp2_with fail
  refine (jl _).mono ?_
  rintro e w4 ⟨rfl, hb4⟩
  have H4 := hH_ (H3.out.kept hb4)
  have B4 := hH_ (B3.out.trans (hb4.mono H3.out.le))
  clear jl x3 z0 z1 z2 z3 z4 z5 z6 z7 z8 z9 hb4 H3 B3 beq
  go_wp2_with (first | (refine wpList_ldR rfl (.tmp 2) rfl b rfl H4.out.c rfl ?_) | (refine wpList_stR rfl rfl (.tmp 4) (.tmp 158) rfl (b + 2) (rpC r ⟨.slice la r.l.length lc, .slice oa r.ok.length oc, .slice ca r.ch.length cc, .slice ta r.te.length tc, T0⟩) rfl rfl (H4.out.box (k := b + 2) (ty := 28) (vs := zR) (by simp)) rfl rfl (rpC_one H4.out.got) ?_; intro w9 hz9 hc9))
  have B9 : Below B w w9 := hc9.below B4.out (by have:=HB.out;have := H4.out.lt; omega) (fun k hk => by have:=HB.out;omega)
  have HO : RpOw w9 B ⟨.slice la r.l.length lc, .slice oa r.ok.length oc, .slice ca r.ch.length cc, .slice ta r.te.length tc, T0⟩ r := H4.out.o.off (fun v hv k hk => hc9.block k (H4.out.under v hv k hk) (fun e => by
   have h5 := (H4.out.fr.k (b + 2, 28, zR) (by simp)).2.2 v hv
   rw [e] at hk
   exact h5 hk))
  have hrl := results_row2 (P := Tryz.prog) (fn := Tryz.f49) (p := 4) (q := 5) (ty := 28) rfl
  refine bodyPost_ret (v := .tuple #[.agg (rpC r ⟨.slice la r.l.length lc, .slice oa r.ok.length oc, .slice ca r.ch.length cc, .slice ta r.te.length tc, T0⟩), .slice (some ⟨e0, 0, none⟩) 0 0]) (hrl _ _ (b + 2) 28 _ (0, 0) _ rfl _ rfl hz9 Tryz.underlying28 rfl (by rw [Tryz.rszR]; rfl)) rfl ?_
  unfold RvE
  rw [HE.out]
  exact ⟨⟨.slice la r.l.length lc, .slice oa r.ok.length oc, .slice ca r.ch.length cc, .slice ta r.te.length tc, T0⟩, _, [], rfl, RvAns.no HO H4.out.apt B9⟩
 | true =>
  have HLD : Hid (leads r) := dB_is hd
  rw [hd] at jl
  clear hd
  go_enter Tryz.func49, Tryz.ntmps49
  go_upto_region 1 with fail
  rw [← hb, ← hw1, show b + 1 + 1 = b + 2 from rfl]
  clear hw1 hb
  go_upto_region 2 with fail
  have bA : Below w1.heap.size w1 (w1.alloc (.cells #[] 30)) := (Below.refl _ w1).alloc (Nat.le_refl _) _
  obtain ⟨e0, he0⟩ : ∃ e0, e0 = w1.heap.size := ⟨_, rfl⟩
  have H2 := hH_ (H1.out.kept bA)
  have B2 := hH_ (B1.out.trans (bA.mono H1.out.le))
  have HE0 : Hid (e0 = b + 3) := (show _ = _ by rw [he0, S1.out])
  rw [← he0]
  generalize w1.alloc (.cells #[] 30) = w2 at H2 B2 ⊢
  clear bA he0 H1 B1 S1
  have y1 : w2.cell? ⟨b, 1, none⟩ = some (.int .i64 r.p) := H2.out.c.cell 1
  go_wp2_with (refine wpList_ldM rfl (.tmp 3) rfl (b + 1) rfl (H2.out.box (k := b + 1) (ty := 30) (vs := mxV X) (by simp)) rfl ?_)
  refine (jm _ B2.out).mono ?_
  rintro e w3 ⟨rfl, hb3⟩
  have H3 := hH_ (H2.out.kept hb3)
  have B3 := hH_ (B2.out.trans (hb3.mono H2.out.le))
  clear hb3 H2 B2 y1 jm
  have y0 : w3.cell? ⟨b, 0, none⟩ = some (.int .i64 r.id) := H3.out.c.cell 0
  have x1 : w3.cell? ⟨b + 1, 1, none⟩ = some (.int .i64 X.m.f) := (H3.out.box (k := b + 1) (ty := 30) (vs := mxV X) (by simp)).cell 1
  have x2 : w3.cell? ⟨b + 1, 2, none⟩ = some (.int .i64 X.m.t) := (H3.out.box (k := b + 1) (ty := 30) (vs := mxV X) (by simp)).cell 2
  have x0 : w3.cell? ⟨b + 1, 0, none⟩ = some (.int .i64 2) := by rw [← HK.out]; exact (H3.out.box (k := b + 1) (ty := 30) (vs := mxV X) (by simp)).cell 0
  go_upto_region 19 with fail
  clear y0 x1 x2 x0
  have x3 : w3.cell? ⟨b + 1, 3, none⟩ = some (.int .i64 X.m.v) := (H3.out.box (k := b + 1) (ty := 30) (vs := mxV X) (by simp)).cell 3
  obtain ⟨z0, z1, z2, z3, z4, z5, z6, z7, z8, z9⟩ := H3.out.c.cells
  go_wp2_with fail
  refine (jl _).mono ?_
  rintro e w4 ⟨rfl, hb4⟩
  have H4 := hH_ (H3.out.kept hb4)
  have B4 := hH_ (B3.out.trans (hb4.mono H3.out.le))
  clear jl x3 z0 z1 z2 z3 z4 z5 z6 z7 z8 z9 hb4 H3 B3 beq
  go_upto_region 20 with fail
  have hok := HR.out.ok1 HLD.out.1 HLD.out.2
  have hf := HM.out.1.f
  have hid := HR.out.id
  obtain ⟨fi, hfi0⟩ : ∃ fi : Nat, (fi : Int) = X.m.f := ⟨X.m.f.toNat, by omega⟩
  have hfl : fi < r.ok.length := by have := hok.1; omega
  obtain ⟨go, hgo⟩ : ∃ go, oa = some ⟨go, 0, none⟩ := by
   rcases H4.out.o.ok with ⟨h1, h2⟩ | ⟨g, cap, cur, h1, _⟩
   ·
    rw [h2] at hfl
    exact absurd hfl (by simp)
   ·
    injection h1 with h1 _ _
    exact ⟨g, h1⟩
  subst hgo
  obtain ⟨no, hno0⟩ : ∃ no, no = r.ok.length := ⟨_, rfl⟩
  obtain ⟨nl, hnl⟩ : ∃ nl, nl = r.l.length := ⟨_, rfl⟩
  obtain ⟨ov, hov⟩ : ∃ ov, ov = r.ok[fi] := ⟨_, rfl⟩
  have hfn : (fi : Int) < (no : Int) := by omega
  have hfi : ¬ (fi : Int) < 0 := by omega
  have hno : fi < no := by omega
  have HFI : Hid ((fi : Int) = X.m.f ∧ fi < r.ok.length ∧ no = r.ok.length ∧ nl = r.l.length ∧ r.ok.getD fi 0 = ov) := hH_ (⟨hfi0, hfl, hno0, hnl, by rw [List.getD_eq_getElem?_getD, List.getElem?_eq_getElem hfl, hov]; rfl⟩)
  have C20 := fun x (hS : Below w4.heap.size w4 x) => (show x.cell? ⟨b + 1, 1, none⟩ = some (.int .i64 (fi : Int)) ∧ x.cell? ⟨b + 1, 6, none⟩ = some (.int .i64 X.m.c) ∧ x.cell? ⟨b, 7, none⟩ = some (.slice (some ⟨go, 0, none⟩) no oc) ∧ x.cell? ⟨b, 5, none⟩ = some (.slice la nl lc) ∧ x.cell? ⟨go, fi, none⟩ = some (.int .i64 ov) from ⟨by rw [hfi0]; exact ((H4.out.kept hS).box (k := b + 1) (ty := 30) (vs := mxV X) (by simp)).cell 1, ((H4.out.kept hS).box (k := b + 1) (ty := 30) (vs := mxV X) (by simp)).cell 6, by rw [hno0]; exact (H4.out.kept hS).c.cell 7, by rw [hnl]; exact (H4.out.kept hS).c.cell 5, by rw [hov]; exact hasN_at (H4.out.kept hS).o.ok fi hfl⟩)
  have S0 := dwB w4
  clear hok hf hid hfi0 hfl hno0 hnl hov
  generalize hA : Act.mk _ _ = A
  obtain ⟨s, hs, s2_, s3_, s4_, s6_⟩ : ∃ s : Nat → Value, A = frRc20 s s ∧ s 2 = .pointer (some ⟨b, 0, none⟩) ∧ s 3 = .pointer (some ⟨b + 1, 0, none⟩) ∧ s 4 = .pointer (some ⟨b + 2, 0, none⟩) ∧ s 6 = .slice (some ⟨e0, 0, none⟩) 0 0 := by
   refine ⟨fun i => A.tmps.getD i undef, ?_, ?_, ?_, ?_, ?_⟩ <;> rw [← hA] <;> rfl
  rw [hs]
  clear hs hA
  refine region_heads 18 mixed (by decide) (by kernel_rfl) (by kernel_rfl) (by kernel_rfl) (by kernel_rfl) (frRc20 s) dRc20 (fun x => Below w4.heap.size w4 x) (GRc20 X b go fi no oc nl lc la ov) (fun i j hi hj h => dRc20_ne hi hj h) ?put s rfl S0 ?step ?done
  case put =>
   intro i o hi ho t v
   iterate 18 rcases ltS hi with hi | rfl
   cases hi
   all_goals
    obtain rfl := Option.some.inj ho
    rfl
  case step =>
   intro i o hi ho t x hS hdep K hK
   iterate 18 rcases ltS hi with hi | rfl
   cases hi
   all_goals obtain rfl := Option.some.inj ho
   iterate 15
    ·
     have y0 := (C20 x hS).2.2.1
     have y1 := (C20 x hS).1
     have y2 := (C20 x hS).2.1
     have y3 := (C20 x hS).2.2.2.1
     have h2 := hK _ x hS kI_ rfl
     try simp [Region.binds, GRc20, dRc20, LRc20] at hdep
     unfold frRc20 at h2 ⊢
     clear hK
     go_simp
     first | simpa [Act.put, hdep, y0, y1, y2, y3, s2_, s3_, s4_, s6_, hfi, hfn, hno] using h2 | simpa [Act.put, y0, y1, y2, y3, s2_, s3_, s4_, s6_, hfi, hfn, hno] using h2
   ·
    have e11 : t 150 = .int .i64 X.m.c := hdep ⟨11, .data⟩ (by simp) rfl
    have e14 : t 153 = .int .i64 (nl : Int) := hdep ⟨14, .data⟩ (by simp) rfl
    refine callG2 (by rfl) 108 (.tmp 150) (.tmp 153) _ rfl (.int .i64 X.m.c) (.int .i64 (nl : Int)) e11 e14 (Go.Proofs.enters_of Tryz.func108 (by kernel_rfl) rfl _) (fun v y => (v = .int .i64 (min X.m.c (nl : Int))) ∧ Below x.heap.size x y) ((specMn X.m.c (nl : Int) x).mono ?_) ?_
    ·
     rintro e0 y0 ⟨h0, rfl⟩
     exact ⟨_, h0, rfl, Below.refl _ _⟩
    ·
     rintro v y ⟨h0, hb2⟩
     exact hK v y (hS.trans (hb2.mono hS.size)) (fun j u hj hne h => GRc20.keep hb2 j u hj h) h0
   ·
    have e9 : t 148 = .int .i64 ov := hdep ⟨9, .data⟩ (by simp) rfl
    have e15 : t 154 = .int .i64 (min X.m.c (nl : Int)) := hdep ⟨15, .data⟩ (by simp) rfl
    refine callG2 (by rfl) 97 (.tmp 148) (.tmp 154) _ rfl (.int .i64 ov) (.int .i64 (min X.m.c (nl : Int))) e9 e15 (Go.Proofs.enters_of Tryz.func97 (by kernel_rfl) rfl _) (fun v y => (v = .int .i64 (max ov (min X.m.c (nl : Int)))) ∧ Below x.heap.size x y) ((specMx ov (min X.m.c (nl : Int)) x).mono ?_) ?_
    ·
     rintro e0 y0 ⟨h0, rfl⟩
     exact ⟨_, h0, rfl, Below.refl _ _⟩
    ·
     rintro v y ⟨h0, hb2⟩
     exact hK v y (hS.trans (hb2.mono hS.size)) (fun j u hj hne h => GRc20.keep hb2 j u hj h) h0
   ·
    have e1 : t 140 = .slice (some ⟨go, 0, none⟩) no oc := hdep ⟨1, .data⟩ (by simp) rfl
    have e3 : t 142 = .int .i64 (fi : Int) := hdep ⟨3, .data⟩ (by simp) rfl
    have h2 := hK (.pointer (some ⟨go, fi, none⟩)) x hS kI_ rfl
    unfold frRc20 at h2 ⊢
    clear hK
    go_simp
    simpa [Act.put, hfi, hfn, hno, e1, e3, s2_, s3_, s4_, s6_] using h2
  case done =>
   intro tt w5 hS hG
   have e16 : tt 155 = .int .i64 (max ov (min X.m.c (nl : Int))) := hG 16 (by decide)
   have e17 : tt 156 = .pointer (some ⟨go, fi, none⟩) := hG 17 (by decide)
   have H5 := hH_ (H4.out.kept hS)
   have B5 := hH_ (B4.out.trans (hS.mono H4.out.le))
   clear C20 hG hS S0 H4 B4 hfn hfi hno
   show wpList Tryz.prog _ _ [_] _ w5
   unfold frRc20
   simp only [e16, e17, s2_, s3_, s4_, s6_]
   clear e16 e17 s2_ s3_ s4_ s6_
   have cf : w5.cell? ⟨go, fi, none⟩ = some (.int .i64 (r.ok[fi]'HFI.out.2.1)) := hasN_at H5.out.o.ok fi HFI.out.2.1
   have ff : w5.frozen? ⟨go, fi, none⟩ = false := HasE.free H5.out.o.ok fi
   go_upto_region 21 with fail
   obtain ⟨r1, hr1⟩ : ∃ r1 : Rp, r1 = { r with ok := r.ok.set fi (max ov (min X.m.c (nl : Int))) } := ⟨_, rfl⟩
   have hs6 := H5.out.okSet (g := go) (c := oc) rfl HFI.out.2.1 (max ov (min X.m.c (nl : Int)))
   rw [← hr1] at hs6
   obtain ⟨h6, b6⟩ := hs6
   have HE : Hid (rcvF r X.m = (cntd r1, [])) := (show _ = _ from by
    rw [rcv_O HM.out HK.out, rcvO_yes ⟨HEQ.out, HLD.out⟩, hr1, show X.m.f.toNat = fi from by have := HFI.out.1; omega, HFI.out.2.2.2.2, HFI.out.2.2.2.1])
   have hl1 : r1.ok.length = r.ok.length := by rw [hr1]; exact List.length_set
   have e5 : r1.l = r.l ∧ r1.p = r.p ∧ r1.id = r.id ∧ r1.c = r.c := by rw [hr1]; exact ⟨rfl, rfl, rfl, rfl⟩
   generalize hw6 : w5.setCell ⟨go, fi, none⟩ (.int .i64 (max ov (min X.m.c (nl : Int)))) = w6 at h6 b6 ⊢
   have H6 : Hid (RpAt [(b + 1, 30, mxV X), (b + 2, 28, zR)] w6 B b _ r1) := hH_ (h6)
   have B6 := hH_ (B5.out.trans b6)
   have hok := HR.out.ok1 HLD.out.1 HLD.out.2
   have jc := specCnt r1 _ b B w6 H6.out.c H6.out.o.ok H6.out.lslice (H6.out.o.ne H6.out.c _ (rows_ok _)) (by rw [e5.2.1]; exact HR.out.p) (by rw [hl1, e5.2.1]; exact hok.1) (by rw [e5.2.2.1, e5.2.1]; exact HR.out.id) (by rw [e5.2.2.2, e5.1]; exact HR.out.c) (by rw [e5.1]; have := (logB_sm HR.out.l).1; omega)
   clear h6 b6 hw6 cf ff hl1 e5 hok hr1 H5 B5
   go_upto_region 22 with (go_at_call 72; refine jc.mono ?_; rintro e w7 ⟨rfl, k1, k2, k3⟩)
   obtain ⟨h7, b7⟩ := H6.out.counted k1 k2 k3
   obtain ⟨R, hR⟩ : ∃ R, R = cntd r1 := ⟨_, rfl⟩
   rw [← hR] at h7 HE
   have H7 : Hid (RpAt [(b + 1, 30, mxV X), (b + 2, 28, zR)] w7 B b _ R) := hH_ (h7)
   have B7 := hH_ (B6.out.trans b7)
   clear h7 b7 k1 k2 k3 jc H6 B6 hR
   go_wp2_with (first | (refine wpList_ldR rfl (.tmp 2) rfl b rfl H7.out.c rfl ?_) | (refine wpList_stR rfl rfl (.tmp 4) (.tmp 158) rfl (b + 2) (rpC R ⟨.slice la r.l.length lc, .slice (some ⟨go, 0, none⟩) r.ok.length oc, .slice ca r.ch.length cc, .slice ta r.te.length tc, T0⟩) rfl rfl (H7.out.box (k := b + 2) (ty := 28) (vs := zR) (by simp)) rfl rfl (rpC_one H7.out.got) ?_; intro w9 hz9 hc9))
   have B9 : Below B w w9 := hc9.below B7.out (by have:=HB.out;have := H7.out.lt; omega) (fun k hk => by have:=HB.out;omega)
   have HO : RpOw w9 B ⟨.slice la r.l.length lc, .slice (some ⟨go, 0, none⟩) r.ok.length oc, .slice ca r.ch.length cc, .slice ta r.te.length tc, T0⟩ R := H7.out.o.off (fun v hv k hk => hc9.block k (H7.out.under v hv k hk) (fun e => by
    have h5 := (H7.out.fr.k (b + 2, 28, zR) (by simp)).2.2 v hv
    rw [e] at hk
    exact h5 hk))
   have hrl := results_row2 (P := Tryz.prog) (fn := Tryz.f49) (p := 4) (q := 5) (ty := 28) rfl
   refine bodyPost_ret (v := .tuple #[.agg (rpC R ⟨.slice la r.l.length lc, .slice (some ⟨go, 0, none⟩) r.ok.length oc, .slice ca r.ch.length cc, .slice ta r.te.length tc, T0⟩), .slice (some ⟨e0, 0, none⟩) 0 0]) (hrl _ _ (b + 2) 28 _ (0, 0) _ rfl _ rfl hz9 Tryz.underlying28 rfl (by rw [Tryz.rszR]; rfl)) rfl ?_
   unfold RvE
   rw [HE.out]
   exact ⟨⟨.slice la r.l.length lc, .slice (some ⟨go, 0, none⟩) r.ok.length oc, .slice ca r.ch.length cc, .slice ta r.te.length tc, T0⟩, _, [], rfl, RvAns.no HO H7.out.apt B9⟩
end Go.Proofs.YtdkhdjickkcaiaaGreat.Rl.Fr
