/-
  The walks of FnExactRecord and FnExactRecords, given what the program's Record and Records answer in worlds of a kind.
  The program's eachRecord and Records, by their contracts.
  What the listed table of powers of ten gives to the walks of the store.
-/
import Derived.Test.YtemmgfnepdgpbaaGreatDoorJ22
import Derived.Test.YtemmgfnepdgpbaaGreatDoorJ23
import Derived.Test.YtemmgfnepdgpbaaGreatDoorJ20
import Derived.BigQuiet
import Derived.Test.YtemmgfnepdgpbaaGreatDoorJ14
import Derived.ProofKit
import Derived.Lib.LaidU8
import Derived.MakeChecks
namespace Go.Proofs.YtemmgfnepdgpbaaGreatDoor
open Go.RowKit Go.Sort St Ow
set_option linter.unusedVariables false
set_option linter.unusedSimpArgs false

theorem OwnsS.x {w : World} {B : Nat} {v : Value} {l : List ByteArray} (h : OwnsS w B v l) : OwnsX w B v l := by
  show w.ownsRow B 9 1 v l.length (cellsE txtE l)
  rw [cellsX_map]
  exact h.2
set_option maxRecDepth 100000 in
set_option maxHeartbeats 4000000 in
theorem walkRcsX (X : World → Prop) (hX : ∀ w w', X w → Below w.heap.size w w' → X w') (hi : ∀ (d : ByteArray) (w : World), X w → d.size ≤ 1048576 → Calls Tryz.prog 20 #[.string d] w fun e w' => ∃ u, e = .returned (.tuple #[u, .int .i64 ((rcsL d.data.toList).2 : Nat)]) ∧ HasX w' w.heap.size u ((rcsL d.data.toList).1.map txtL) ∧ Below w.heap.size w w')
    (d : ByteArray) (w : World) (hs : d.size ≤ maxLen) (hx : X w) :
    Calls Tryz.prog 5 #[.string d] w fun e w' => e = .returned (.bool true) ∧ Below w.heap.size w w' := by
  unfold maxLen at hs
  by_cases hb : 1048576 < d.size
  · have hbi : 1048576 < (d.size : Int) := by omega
    go_enter Tryz.func5, Tryz.ntmps5
    go_wp2
    go_ret
    exact ⟨rfl, Below.refl _ _⟩
  · have hbi : ¬ 1048576 < (d.size : Int) := by omega
    have hdl : d.data.toList.length = d.size := by simp
    have hML : ((rcsL d.data.toList).1.map txtL).length ≤ 1048576 := by
      rw [List.length_map]
      have := (rcs_bound d.size d.data.toList (by omega)).1
      omega
    have hsp := fun W => specRcs d W (by omega)
    have him := fun W (hW : Below w.heap.size w W) => hi d W (hX _ _ hx hW) (by omega)
    generalize (((rcsL d.data.toList).2 : Nat) : Int) = n at hsp him
    have heq := fun u v W hu hv => (eqTxt u v ((rcsL d.data.toList).1.map txtL) W hu hv hML).mono fun e w' (h : _ ∧ Grew W w') => (⟨h.1, h.2.low⟩ : e = .returned (.bool true) ∧ Below W.heap.size W w')
    have hmk := fun u B W hu => markTxt 1 (by decide) (by decide) u ((rcsL d.data.toList).1.map txtL) B W hu hML
    have hhd := fun u W hu => heldTxt 1 (by decide) (by decide) u ((rcsL d.data.toList).1.map txtL).length W hu hML
    generalize (rcsL d.data.toList).1.map txtL = M at hsp him heq hmk hhd hML
    simp only [Int.cast_ofNat_Int] at hmk hhd
    generalize hmm : (1 + (M.length : Int)) = mm at hmk hhd
    have hm0 : ¬ mm < 0 := by omega
    have dmm : (mm != mm) = false := by simp
    have dn : (n != n) = false := by simp
    clear hi hmm hdl hX hx
    go_enter Tryz.func5, Tryz.ntmps5
    go_wp2_with fail
    refine (hsp _).mono ?_
    rintro e w1 ⟨r0, rfl, ho, hb⟩
    have R : Hid (Liv w.heap.size w1.heap.size (RowF txtE 9 w.heap.size w1.heap.size r0 M) w1) := (show Hid _ from Liv.new ho.x.has)
    have Z1 : Hid (w.heap.size ≤ w1.heap.size) := hb.size
    have BB : Hid (Below w.heap.size w w1) := hb
    clear hb
    clear ho
    go_wp2_with fail
    refine (him _ BB.out).mono ?_
    rintro e w2 ⟨g0, rfl, ho, hb⟩
    replace R : Hid (Liv w.heap.size w1.heap.size (RowF txtE 9 w.heap.size w1.heap.size r0 M) w2) := R.out.kept hb
    have G : Hid (Liv w1.heap.size w2.heap.size (RowF txtE 9 w1.heap.size w2.heap.size g0 M) w2) := (show Hid _ from Liv.new ho)
    have Z2 : Hid (w1.heap.size ≤ w2.heap.size) := hb.size
    replace BB : Hid (Below w.heap.size w w2) := (show Hid _ from BB.out.trans (hb.mono BB.out.size))
    clear hb
    clear ho
    go_wp2_with fail
    refine (heq _ _ _ G.out.now.sls R.out.now.sls).mono ?_
    rintro e w3 ⟨rfl, hb⟩
    replace R : Hid (Liv w.heap.size w1.heap.size (RowF txtE 9 w.heap.size w1.heap.size r0 M) w3) := R.out.kept hb
    replace G : Hid (Liv w1.heap.size w2.heap.size (RowF txtE 9 w1.heap.size w2.heap.size g0 M) w3) := G.out.kept hb
    have Z3 : Hid (w2.heap.size ≤ w3.heap.size) := hb.size
    replace BB : Hid (Below w.heap.size w w3) := (show Hid _ from BB.out.trans (hb.mono BB.out.size))
    clear hb
    go_wp2_with fail
    refine (hmk _ _ _ G.out.now.1).mono ?_
    rintro e w4 ⟨rfl, hm, hb⟩
    have hc : Chg w1.heap.size w2.heap.size w3 w4 := G.out.now.chg hb
    replace R : Hid (Liv w.heap.size w1.heap.size (RowF txtE 9 w.heap.size w1.heap.size r0 M) w4) := R.out.off hc (by have := Z1.out; have := Z2.out; have := Z3.out; omega)
    replace G : Hid (Liv w1.heap.size w2.heap.size (RowF txtE 9 w1.heap.size w2.heap.size g0 (marksX 1 M.length)) w4) := (show Hid _ from G.out.marked hm hb)
    have Z4 : Hid (w3.heap.size ≤ w4.heap.size) := hc.size
    replace BB : Hid (Below w.heap.size w w4) := (show Hid _ from hc.below BB.out BB.out.size (by have := Z1.out; have := Z2.out; have := Z3.out; have := Z4.out; omega))
    clear hb hc
    clear hm
    go_wp2_with fail
    refine (hhd _ _ G.out.now.sls).mono ?_
    rintro e w5 ⟨rfl, hb⟩
    replace R : Hid (Liv w.heap.size w1.heap.size (RowF txtE 9 w.heap.size w1.heap.size r0 M) w5) := R.out.kept hb
    replace G : Hid (Liv w1.heap.size w2.heap.size (RowF txtE 9 w1.heap.size w2.heap.size g0 (marksX 1 M.length)) w5) := G.out.kept hb
    have Z5 : Hid (w4.heap.size ≤ w5.heap.size) := hb.size
    replace BB : Hid (Below w.heap.size w w5) := (show Hid _ from BB.out.trans (hb.mono BB.out.size))
    clear hb
    go_wp2_with fail
    refine (him _ BB.out).mono ?_
    rintro e w6 ⟨h0, rfl, ho, hb⟩
    replace R : Hid (Liv w.heap.size w1.heap.size (RowF txtE 9 w.heap.size w1.heap.size r0 M) w6) := R.out.kept hb
    replace G : Hid (Liv w1.heap.size w2.heap.size (RowF txtE 9 w1.heap.size w2.heap.size g0 (marksX 1 M.length)) w6) := G.out.kept hb
    have H : Hid (Liv w5.heap.size w6.heap.size (RowF txtE 9 w5.heap.size w6.heap.size h0 M) w6) := (show Hid _ from Liv.new ho)
    have Z6 : Hid (w5.heap.size ≤ w6.heap.size) := hb.size
    replace BB : Hid (Below w.heap.size w w6) := (show Hid _ from BB.out.trans (hb.mono BB.out.size))
    clear hb
    clear ho
    go_wp2_with fail
    refine (heq _ _ _ H.out.now.sls R.out.now.sls).mono ?_
    rintro e w7 ⟨rfl, hb⟩
    replace R : Hid (Liv w.heap.size w1.heap.size (RowF txtE 9 w.heap.size w1.heap.size r0 M) w7) := R.out.kept hb
    replace G : Hid (Liv w1.heap.size w2.heap.size (RowF txtE 9 w1.heap.size w2.heap.size g0 (marksX 1 M.length)) w7) := G.out.kept hb
    clear H
    have Z7 : Hid (w6.heap.size ≤ w7.heap.size) := hb.size
    replace BB : Hid (Below w.heap.size w w7) := (show Hid _ from BB.out.trans (hb.mono BB.out.size))
    clear hb
    go_wp2_with fail
    refine (hhd _ _ G.out.now.sls).mono ?_
    rintro e w8 ⟨rfl, hb⟩
    replace R : Hid (Liv w.heap.size w1.heap.size (RowF txtE 9 w.heap.size w1.heap.size r0 M) w8) := R.out.kept hb
    replace G : Hid (Liv w1.heap.size w2.heap.size (RowF txtE 9 w1.heap.size w2.heap.size g0 (marksX 1 M.length)) w8) := G.out.kept hb
    have Z8 : Hid (w7.heap.size ≤ w8.heap.size) := hb.size
    replace BB : Hid (Below w.heap.size w w8) := (show Hid _ from BB.out.trans (hb.mono BB.out.size))
    clear hb
    go_wp2
    go_ret
    exact ⟨rfl, BB.out⟩
end Go.Proofs.YtemmgfnepdgpbaaGreatDoor
namespace Go.Proofs.YtemmgfnepdgpbaaGreatDoor
open Go.RowKit Go.Sort St Ow
set_option linter.unusedVariables false
set_option linter.unusedSimpArgs false

theorem drop_textJ (t : ByteArray) (k : Nat) : (t.extract k t.size).data.toList = t.data.toList.drop k := by
  rw [ByteArray.data_extract, Array.toList_extract, List.extract_eq_take_drop]
  exact List.take_of_length_le (by simp)
/-- What eachRecord leaves: how many bytes were taken, in the error's own cell; the texts. -/
structure EaQ (w w' : World) (B b : Nat) (d : ByteArray) (e : Nat) : Prop where
  er : ∃ x, Bx w' e 107 #[.int .i64 ((rcsL d.data.toList).2 : Nat), x]
  tv : Tv w' B b ((rcsL d.data.toList).1.map txtL)
  low : Below B w w'
set_option maxRecDepth 100000 in
set_option maxHeartbeats 8000000 in
theorem implEach (d : ByteArray) (B b : Nat) (w : World) (hx : XsR w) (hs : d.size ≤ 1048576) (h : Tv w B b []) (hB : B ≤ b) (hBw : B ≤ w.heap.size) (hX : ∀ w', Below B w w' → XsR w') :
    Calls Tryz.prog 54 #[.string d, .func (.func 55) #[] #[.pointer (some ⟨b, 0, none⟩)]] w fun e w' => ∃ q, e = .returned (.iface 105 (.pointer (some ⟨q, 0, none⟩))) ∧ EaQ w w' B b d q := by
  have hl : d.data.toList.length = d.size := by simp
  have HX : Hid (∀ w', Below B w w' → XsR w') := hX
  have H0 : Hid (RcAt d.data.toList 0 []) := RcAt.start _
  have T0 : Hid (Tv w B b []) := h
  clear hx h hX
  go_enter Tryz.func54, Tryz.ntmps54
  go_wp2
  go_loopw [5] (fun i wr => ∃ (k : Nat) (out : List (List UInt8)), i = .int .i64 k ∧ Hid (RcAt d.data.toList k out) ∧ Hid (Tv wr B b (out.map txtL)) ∧ Hid (Below B w wr)) (fun i _ => d.size - (intOf i).toNat)
  case atStart => exact ⟨0, [], rfl, H0, T0, (show Hid _ from Below.refl _ _)⟩
  case round =>
    clear H0 T0
    obtain ⟨k, out, rfl, hat, ht, hb⟩ := hrel
    have hk : k ≤ d.size := by have := hat.out.1; omega
    have hol : out.length ≤ d.size := by have := hat.out.2.1; omega
    have hxs : (d.extract k d.size).size = d.size - k := by rw [ByteArray.size_extract]; omega
    have hrd := implRdR (d.extract k d.size) wr (HX.out _ hb.out) (by omega)
    unfold RdQ at hrd
    rw [drop_textJ] at hrd
    have hwr : B ≤ wr.heap.size := Nat.le_trans hBw hb.out.size
    cases hr : rdR (d.data.toList.drop k) with
    | none =>
      rw [hr] at hrd
      simp only at hrd
      have HD : Hid (rcsL d.data.toList = (out, k)) := hat.out.done hr
      clear hr hat
      go_wp2_with fail
      refine hrd.mono ?_
      rintro e w1 ⟨⟨g, rfl⟩, hb1⟩
      have B1 := hb.out.trans (hb1.mono hwr)
      have hw1 : B ≤ w1.heap.size := Nat.le_trans hBw B1.size
      have HQ : Hid (EaQ w (w1.alloc (.cells #[.int .i64 k, .iface 216 (.pointer (some g))] 107)) B b d w1.heap.size) := (show EaQ _ _ _ _ _ _ from
        ⟨⟨_, by rw [HD.out]; exact Bx.new _ _ _⟩, by rw [HD.out]; exact (ht.out.kept hb1).kept ((Below.refl _ w1).alloc (Nat.le_refl _) _), B1.alloc hw1 _⟩)
      clear B1 hw1 HD ht hb hb1 hrd hwr
      go_wp2
      go_ret
      exact ⟨w1.heap.size, rfl, HQ.out⟩
    | some x =>
      rw [hr] at hrd
      simp only at hrd
      have HN : Hid (RcAt d.data.toList (k + (recL x).length) (out ++ [x])) := hat.out.next hr
      have hpos := rec_pos x
      have hk2 : k + (recL x).length ≤ d.size := by have := HN.out.1; omega
      have hol2 : out.length + 1 ≤ d.size := by have := HN.out.2.1; simp at this; omega
      generalize (recL x).length = n at hrd HN hpos hk2
      clear hr hat
      go_wp2_with fail
      refine hrd.mono ?_
      rintro e w1 ⟨rfl, hb1⟩
      have B1 := hb.out.trans (hb1.mono hwr)
      have hw1 : B ≤ w1.heap.size := Nat.le_trans hBw B1.size
      have hcl := implClo (txtL x) B b (out.map txtL) w1 (ht.out.kept hb1) hB hw1 (by rw [List.length_map]; omega)
      have HB1 : Hid (Below B w w1) := B1
      rw [show out.map txtL ++ [txtL x] = (out ++ [x]).map txtL from by simp] at hcl
      clear B1 ht hb hb1 hrd hwr
      generalize txtL x = X at hcl
      go_wp2_with fail
      refine hcl.mono ?_
      rintro e w2 ⟨rfl, ht2, hb2⟩
      have HT2 : Hid (Tv w2 B b ((out ++ [x]).map txtL)) := ht2
      have HB2 : Hid (Below B w w2) := (show Below _ _ _ from HB1.out.trans hb2)
      clear ht2 hb2 HB1 hcl
      go_wp2
      go_roundw
      case rel => exact ⟨k + n, out ++ [x], by go_num, HN, HT2, HB2⟩
      case measure => simp [intOf]; omega
set_option maxRecDepth 100000 in
set_option maxHeartbeats 4000000 in
theorem implRcs (d : ByteArray) (w : World) (hx : XsR w) (hs : d.size ≤ 1048576) :
    Calls Tryz.prog 20 #[.string d] w fun e w' => ∃ u, e = .returned (.tuple #[u, .int .i64 ((rcsL d.data.toList).2 : Nat)]) ∧ HasX w' w.heap.size u ((rcsL d.data.toList).1.map txtL) ∧ Below w.heap.size w w' := by
  have hmf : ∀ (fn : Fn) (first cap : Array Value) (w : World), (Instr.makeFunc fn first cap).run Tryz.prog w = .ok (.func fn first cap) w := fun _ _ _ _ => rfl
  have HX : Hid (XsR w) := hx
  obtain ⟨⟨L0, n0⟩, hP⟩ : ∃ P, rcsL d.data.toList = P := ⟨_, rfl⟩
  have HP : Hid (rcsL d.data.toList = (L0, n0)) := hP
  rw [hP]
  clear hP
  have b1 := (Below.refl w.heap.size w).alloc (Nat.le_refl _) (.cells #[] 9)
  have b2 := b1.alloc b1.size (.cells #[.slice (some ⟨w.heap.size, 0, none⟩) 0 0] 39)
  have hz1 : (w.alloc (.cells #[] 9)).heap.size = w.heap.size + 1 := by simp
  have T0 : Tv ((w.alloc (.cells #[] 9)).alloc (.cells #[.slice (some ⟨w.heap.size, 0, none⟩) 0 0] 39)) w.heap.size (w.heap.size + 1) [] := by
    refine ⟨_, ?_, (OwnsE.born (E := txtE) (ty := 9) w).alloc _, fun k hk => ?_⟩
    · have := Bx.new (w.alloc (.cells #[] 9)) 39 #[.slice (some ⟨w.heap.size, 0, none⟩) 0 0]
      rw [hz1] at this
      exact this
    · have h2 : some w.heap.size = some k := hk
      injection h2 with h2
      omega
  have hea := implEach d w.heap.size (w.heap.size + 1) _ (hx.low b2) hs T0 (by omega) b2.size (fun w' h => hx.low (b2.trans h))
  clear hx T0 b1 hz1
  have HB2 : Hid (Below w.heap.size w ((w.alloc (.cells #[] 9)).alloc (.cells #[.slice (some ⟨w.heap.size, 0, none⟩) 0 0] 39))) := b2
  clear b2
  go_enter Tryz.func20, Tryz.ntmps20
  go_wp2_with fail
  refine hea.mono ?_
  rintro e w3 ⟨q, rfl, hq⟩
  obtain ⟨x, hE⟩ := hq.er
  obtain ⟨v, hV, hO, _⟩ := hq.tv.bx
  rw [HP.out] at hE hO
  simp only at hE hO
  have B3 : Below w.heap.size w w3 := HB2.out.trans hq.low
  have HL : Hid (Below w.heap.size w w3) := B3
  have HOV : Hid (OwnsE txtE 9 w3 w.heap.size v (L0.map txtL)) := hO
  have k1 := cell_regrown (show w3.cell? ⟨w.heap.size + 1, 0, none⟩ = some v from hV.cell 0)
  have g1 : ∀ dd os, Calls Tryz.prog 56 #[.iface 105 (.pointer (some ⟨q, 0, none⟩))] (grow (redrawn w3 dd) os) fun e w'' => e = .returned (.int .i64 (n0 : Nat)) ∧ ∃ p : Regrown, w'' = grow (redrawn w3 p.d) p.os := fun dd os => Calls.regrown_of (implTkn q _ x _ (HX.out.low (B3.trans ((below_regrown w3 dd os).mono B3.size))) (hE.kept (below_regrown w3 dd os)))
  clear hq hea hmf B3 hV hO hE HB2
  go_wp2_with fail
  refine wp_region_quiet_below (by kernel_rfl) (by kernel_rfl) ?_
  repeat (go_big_quiet_step (first | (with_reducible exact g1 _ _)))
  refine wpQuiet_nil ?_
  intro _ hw'
  obtain ⟨⟨dq3, osq3⟩, hw''⟩ := hw'
  subst hw''
  have O4 : Hid (OwnsE txtE 9 (grow (redrawn w3 dq3) osq3) w.heap.size v (L0.map txtL)) := HOV.out.kept (below_regrown w3 dq3 osq3)
  have B4 : Hid (Below w.heap.size w (grow (redrawn w3 dq3) osq3)) := (show Below _ _ _ from HL.out.trans ((below_regrown w3 dq3 osq3).mono HL.out.size))
  clear k1 g1
  go_wp2
  go_ret2
  exact ⟨v, rfl, O4.out.has, B4.out⟩
end Go.Proofs.YtemmgfnepdgpbaaGreatDoor
namespace Go.Proofs.YtemmgfnepdgpbaaGreatDoor
open Go

theorem gPowTypeS : (Tryz.prog.globals[2]?).map (·.type) = some 175 := by kernel_rfl
theorem underPAS : Tryz.prog.underlying 175 = some (.array 20 145) := by kernel_rfl
theorem underPUS : Tryz.prog.underlying 145 = some (.int .u64) := by kernel_rfl
theorem cellsPAS : Tryz.prog.cellsOf 175 = 20 := by kernel_rfl
theorem cellsPUS : Tryz.prog.cellsOf 145 = 1 := by kernel_rfl
theorem powS_is : (Rows.laid_internal_strconv_uint64pow10 : DataW Unit) = Lib.tabData .u64 Lib.pow10Tab := rfl
theorem powS_reads {W : World} (h : Lib.VarReads Tryz.prog W "internal/strconv.uint64pow10" Rows.laid_internal_strconv_uint64pow10) : TabS W := by
  obtain ⟨g, t, cs, fuel, p, hg, ht, hv, hd⟩ := h
  obtain rfl := Option.some.inj (gPowS.symm.trans hg)
  obtain rfl := Option.some.inj (gPowTypeS.symm.trans ht)
  rw [powS_is] at hd
  unfold TabS Lib.TabIs
  rw [hv, ← Lib.cells_of_tab underPAS underPUS cellsPUS cellsPAS hd]
end Go.Proofs.YtemmgfnepdgpbaaGreatDoor
