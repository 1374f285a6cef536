/-
  The walk of FnControls, given what the program's own functions answer.
-/
import Derived.Test.YtccnkmffadmfhaaGreatDoorCtlO
import Derived.Test.YtccnkmffadmfhaaGreatDoorCtlK
import Derived.Test.YtccnkmffadmfhaaGreatDoorCtlR
import Derived.Lib.QuietBelow
import Derived.BigQuiet
namespace Go.Proofs.YtccnkmffadmfhaaGreatDoor
open Go.RowKit Go.Sort
set_option linter.unusedVariables false
set_option linter.unusedSimpArgs false

theorem past9w {w w1 w2 : World} (h : Below w.heap.size w w1) (hb : Below w1.heap.size w1 w2) : Below w.heap.size w w2 := h.trans (hb.mono h.size)
theorem code_up9 {w W : World} {sa : Option Addr} {sl : Nat} (h : Code8 w w.heap.size sa sl) (hb : Below w.heap.size w W) : Code8 W W.heap.size sa sl := fun j hj => by
  obtain ⟨g, q, z, h1, h2, h3⟩ := (h.kept hb (Nat.le_refl _)) j hj
  exact ⟨g, q, z, h1, Nat.lt_of_lt_of_le h2 hb.size, h3⟩
theorem rdC_ok9 (s : ByteArray) : ctB (rdCt s) = true := rdL_ok (fun t => (numV_bound9 t).1) _
theorem bel_alloc9 {w W : World} (h : Below w.heap.size w W) (o : Obj) : Below w.heap.size w (W.alloc o) := h.alloc h.size o
/-- A control that lies in memory, in whatever world behind. -/
theorem CtB.re {w : World} {b : Nat} {x : Ct} (h : CtB w b x) : (∀ d os, (grow (redrawn w d) os).cell? ⟨b, 0, Option.none⟩ = some (.int .i64 x.a)) ∧ (∀ d os, (grow (redrawn w d) os).cell? ⟨b, 1, Option.none⟩ = some (.int .i64 x.s)) ∧ (∀ d os, (grow (redrawn w d) os).cell? ⟨b, 2, Option.none⟩ = some (.int .i64 x.t)) ∧ (∀ d os, (grow (redrawn w d) os).cell? ⟨b, 3, Option.none⟩ = some (.bool x.ns)) ∧ (∀ d os, (grow (redrawn w d) os).cell? ⟨b, 4, Option.none⟩ = some (.bool x.nc)) ∧ (∀ d os, (grow (redrawn w d) os).cell? ⟨b, 5, Option.none⟩ = some (.bool x.pr)) ∧ (∀ d os, (grow (redrawn w d) os).cell? ⟨b, 6, Option.none⟩ = some (.bool x.mu)) := by
  obtain ⟨h0, h1, h2, h3, h4, h5, h6⟩ := h.all
  exact ⟨cell_regrown h0, cell_regrown h1, cell_regrown h2, cell_regrown h3, cell_regrown h4, cell_regrown h5, cell_regrown h6⟩
set_option maxRecDepth 100000 in
set_option maxHeartbeats 16000000 in
theorem fnCtl (X : World → Prop) (hX : ∀ w w', X w → Below w.heap.size w w' → X w')
    (hiK : ∀ (x : Ct) (w : World), Calls Tryz.prog 14 #[ctV x] w fun e w' => e = .returned (.bool (ctB x)) ∧ Below w.heap.size w w')
    (hiT : ∀ (x y : Ct) (w : World), Calls Tryz.prog 10 #[ctV x, ctV y] w fun e w' => e = .returned (ctV (tgtC x y)) ∧ Below w.heap.size w w')
    (hiS : ∀ (x : Ct) (w : World), X w → Calls Tryz.prog 6 #[ctV x] w fun e w' => e = .returned (.string (shC x)) ∧ Below w.heap.size w w')
    (hiR : ∀ (s : ByteArray) (w : World), s.size ≤ 1048576 → X w → Calls Tryz.prog 8 #[.string s] w fun e w' => e = .returned (ctV (rdCt s)) ∧ Below w.heap.size w w')
    (sa : Option Addr) (sl sc : Nat) (zs : List Int) (w : World) (hw : IsRow w sa sl sc zs) (hx : X w) :
    Calls Tryz.prog 3 #[.slice sa sl sc] w fun e w' => e = .returned (.bool true) ∧ Below w.heap.size w w' := by
  by_cases hbig : 4096 < sl
  · have hlen := hw.len
    clear hw
    go_enter Tryz.func3, Tryz.ntmps3
    go_wp2_with (go_at_call 4; refine (isBig sa sl sc _ hbig hlen).mono ?_; rintro e w1 ⟨rfl, rfl⟩)
    go_ret
    exact ⟨rfl, Below.refl _ _⟩
  · have hl : sl ≤ 4096 := by omega
    have h8 : Hid (Code8 w w.heap.size sa sl) := hw.code.code
    have XX : Hid (∀ W, Below w.heap.size w W → X W) := fun W hb => hX w W hx hb
    clear hw hbig hx hX
    go_enter Tryz.func3, Tryz.ntmps3
    go_wp2_with fail
    refine (notBig sa sl sc _ hl).mono ?_
    rintro e w0 ⟨rfl, rfl⟩
    go_wp2_with fail
    refine (drawShC sa sl sc _ h8.out hl).mono ?_
    rintro e w1 ⟨⟨⟨ca, cs, ct, cns, cnc, cpr, cmu⟩, rfl⟩, hb1⟩
    have B1 : Hid (Below w.heap.size w (w1.alloc (.cells #[.int .i64 ca, .int .i64 cs, .int .i64 ct, .bool cns, .bool cnc, .bool cpr, .bool cmu] 25))) := bel_alloc9 hb1 _
    have C1 : Hid (CtB (w1.alloc (.cells #[.int .i64 ca, .int .i64 cs, .int .i64 ct, .bool cns, .bool cnc, .bool cpr, .bool cmu] 25)) w1.heap.size ⟨ca, cs, ct, cns, cnc, cpr, cmu⟩) := CtB.born w1 ⟨ca, cs, ct, cns, cnc, cpr, cmu⟩ 25
    have iS := fun W (hb : Below w.heap.size w W) => hiS ⟨ca, cs, ct, cns, cnc, cpr, cmu⟩ W (XX.out W hb)
    have sS := fun W => specShC ⟨ca, cs, ct, cns, cnc, cpr, cmu⟩ W
    have iK := fun W => hiK ⟨ca, cs, ct, cns, cnc, cpr, cmu⟩ W
    have sK := fun W => specCok ⟨ca, cs, ct, cns, cnc, cpr, cmu⟩ W
    have hSz := shC_size ⟨ca, cs, ct, cns, cnc, cpr, cmu⟩
    have iRS := fun W (hb : Below w.heap.size w W) => hiR (shC ⟨ca, cs, ct, cns, cnc, cpr, cmu⟩) W (by omega) (XX.out W hb)
    have HRS : Hid (ctB ⟨ca, cs, ct, cns, cnc, cpr, cmu⟩ = true → rdCt (shC ⟨ca, cs, ct, cns, cnc, cpr, cmu⟩) = ⟨ca, cs, ct, cns, cnc, cpr, cmu⟩) := fun h => rdC_shC h
    generalize shC ⟨ca, cs, ct, cns, cnc, cpr, cmu⟩ = S at iS sS hSz iRS HRS
    generalize ctB ⟨ca, cs, ct, cns, cnc, cpr, cmu⟩ = K at iK sK HRS
    have dS : (S.toList == S.toList) = true := by simp
    have dK : (K != K) = false := by simp
    unfold ctV at iS sS iK sK iRS ⊢
    clear hb1
    go_wp2_with fail
    refine (iS _ B1.out).mono ?_
    rintro e w2 ⟨rfl, hb2⟩
    have B2 : Hid (Below w.heap.size w w2) := past9w B1.out hb2
    have C2 : Hid (CtB w2 w1.heap.size ⟨ca, cs, ct, cns, cnc, cpr, cmu⟩) := C1.out.kept hb2
    clear hb2 B1 C1 iS
    go_wp2_with fail
    refine (drawRdC sa sl sc _ (code_up9 h8.out B2.out) hl).mono ?_
    rintro e w3 ⟨⟨t, rfl, ht⟩, hb3⟩
    have B3 : Hid (Below w.heap.size w w3) := past9w B2.out hb3
    have C3 : Hid (CtB w3 w1.heap.size ⟨ca, cs, ct, cns, cnc, cpr, cmu⟩) := C2.out.kept hb3
    have iR := fun W (hb : Below w.heap.size w W) => hiR t W (by omega) (XX.out W hb)
    have sR := fun W => specRdC t W (by unfold maxLen; omega) (items_size t)
    have hRk : ctB (rdCt t) = true := rdC_ok9 t
    have iRk := fun W => hiK (rdCt t) W
    rw [hRk] at iRk
    have iSr := fun W (hb : Below w.heap.size w W) => hiS (rdCt t) W (XX.out W hb)
    have iRr := fun W (hb : Below w.heap.size w W) => hiR (shC (rdCt t)) W (by have := shC_size (rdCt t); omega) (XX.out W hb)
    rw [rdC_shC hRk] at iRr
    generalize shC (rdCt t) = S2 at iSr iRr
    generalize rdCt t = R at iR sR iRk iSr iRr hRk
    obtain ⟨ra, rs, rt, rns, rnc, rpr, rmu⟩ := R
    unfold ctV at iR sR iRk iSr iRr
    clear hb3 B2 C2 hRk
    go_wp2_with fail
    refine (iR _ B3.out).mono ?_
    rintro e w4 ⟨rfl, hb4⟩
    have B4 : Hid (Below w.heap.size w (w4.alloc (.cells #[.int .i64 ra, .int .i64 rs, .int .i64 rt, .bool rns, .bool rnc, .bool rpr, .bool rmu] 25))) := bel_alloc9 (past9w B3.out hb4) _
    have C4 : Hid (CtB (w4.alloc (.cells #[.int .i64 ra, .int .i64 rs, .int .i64 rt, .bool rns, .bool rnc, .bool rpr, .bool rmu] 25)) w1.heap.size ⟨ca, cs, ct, cns, cnc, cpr, cmu⟩) := (C3.out.kept hb4).alloc _
    have R4 : Hid (CtB (w4.alloc (.cells #[.int .i64 ra, .int .i64 rs, .int .i64 rt, .bool rns, .bool rnc, .bool rpr, .bool rmu] 25)) w4.heap.size ⟨ra, rs, rt, rns, rnc, rpr, rmu⟩) := CtB.born w4 ⟨ra, rs, rt, rns, rnc, rpr, rmu⟩ 25
    clear hb4 B3 C3 iR
    go_wp2_with fail
    refine (drawTgt sa sl sc _ (code_up9 h8.out B4.out) hl).mono ?_
    rintro e w5 ⟨⟨⟨pa, ps, pt, pns, pnc, ppr, pmu⟩, ⟨qa, qs, qt, qns, qnc, qpr, qmu⟩, rfl⟩, hb5⟩
    have B5 : Hid (Below w.heap.size w ((w5.alloc (.cells #[.int .i64 pa, .int .i64 ps, .int .i64 pt, .bool pns, .bool pnc, .bool ppr, .bool pmu] 25)).alloc (.cells #[.int .i64 qa, .int .i64 qs, .int .i64 qt, .bool qns, .bool qnc, .bool qpr, .bool qmu] 25))) := bel_alloc9 (bel_alloc9 (past9w B4.out hb5) _) _
    have C5 : Hid (CtB ((w5.alloc (.cells #[.int .i64 pa, .int .i64 ps, .int .i64 pt, .bool pns, .bool pnc, .bool ppr, .bool pmu] 25)).alloc (.cells #[.int .i64 qa, .int .i64 qs, .int .i64 qt, .bool qns, .bool qnc, .bool qpr, .bool qmu] 25)) w1.heap.size ⟨ca, cs, ct, cns, cnc, cpr, cmu⟩) := ((C4.out.kept hb5).alloc _).alloc _
    have R5 : Hid (CtB ((w5.alloc (.cells #[.int .i64 pa, .int .i64 ps, .int .i64 pt, .bool pns, .bool pnc, .bool ppr, .bool pmu] 25)).alloc (.cells #[.int .i64 qa, .int .i64 qs, .int .i64 qt, .bool qns, .bool qnc, .bool qpr, .bool qmu] 25)) w4.heap.size ⟨ra, rs, rt, rns, rnc, rpr, rmu⟩) := ((R4.out.kept hb5).alloc _).alloc _
    have A5 : Hid (CtB ((w5.alloc (.cells #[.int .i64 pa, .int .i64 ps, .int .i64 pt, .bool pns, .bool pnc, .bool ppr, .bool pmu] 25)).alloc (.cells #[.int .i64 qa, .int .i64 qs, .int .i64 qt, .bool qns, .bool qnc, .bool qpr, .bool qmu] 25)) w5.heap.size ⟨pa, ps, pt, pns, pnc, ppr, pmu⟩) := (CtB.born w5 ⟨pa, ps, pt, pns, pnc, ppr, pmu⟩ 25).alloc _
    have D5 : Hid (CtB ((w5.alloc (.cells #[.int .i64 pa, .int .i64 ps, .int .i64 pt, .bool pns, .bool pnc, .bool ppr, .bool pmu] 25)).alloc (.cells #[.int .i64 qa, .int .i64 qs, .int .i64 qt, .bool qns, .bool qnc, .bool qpr, .bool qmu] 25)) (w5.heap.size + 1) ⟨qa, qs, qt, qns, qnc, qpr, qmu⟩) := by
      have := CtB.born (w5.alloc (.cells #[.int .i64 pa, .int .i64 ps, .int .i64 pt, .bool pns, .bool pnc, .bool ppr, .bool pmu] 25)) ⟨qa, qs, qt, qns, qnc, qpr, qmu⟩ 25
      simp only [World.size_alloc] at this
      exact this
    have iT := fun W => hiT ⟨pa, ps, pt, pns, pnc, ppr, pmu⟩ ⟨qa, qs, qt, qns, qnc, qpr, qmu⟩ W
    have sT := fun W => specTgt ⟨pa, ps, pt, pns, pnc, ppr, pmu⟩ ⟨qa, qs, qt, qns, qnc, qpr, qmu⟩ W
    have iKa := fun W => hiK ⟨pa, ps, pt, pns, pnc, ppr, pmu⟩ W
    have iKb := fun W => hiK ⟨qa, qs, qt, qns, qnc, qpr, qmu⟩ W
    have iTba := fun W => hiT ⟨qa, qs, qt, qns, qnc, qpr, qmu⟩ ⟨pa, ps, pt, pns, pnc, ppr, pmu⟩ W
    have iTaa := fun W => hiT ⟨pa, ps, pt, pns, pnc, ppr, pmu⟩ ⟨pa, ps, pt, pns, pnc, ppr, pmu⟩ W
    have iTx := fun W => hiT (tgtC ⟨pa, ps, pt, pns, pnc, ppr, pmu⟩ ⟨qa, qs, qt, qns, qnc, qpr, qmu⟩) ⟨pa, ps, pt, pns, pnc, ppr, pmu⟩ W
    have HT : Hid (¬ (ctB ⟨pa, ps, pt, pns, pnc, ppr, pmu⟩ = true ∧ ctB ⟨qa, qs, qt, qns, qnc, qpr, qmu⟩ = true) → tgtC ⟨pa, ps, pt, pns, pnc, ppr, pmu⟩ ⟨qa, qs, qt, qns, qnc, qpr, qmu⟩ = ctZ) := fun h => tgtC_no h
    have HU : Hid (ctB ⟨pa, ps, pt, pns, pnc, ppr, pmu⟩ = true → ctB ⟨qa, qs, qt, qns, qnc, qpr, qmu⟩ = true → tgtC ⟨qa, qs, qt, qns, qnc, qpr, qmu⟩ ⟨pa, ps, pt, pns, pnc, ppr, pmu⟩ = tgtC ⟨pa, ps, pt, pns, pnc, ppr, pmu⟩ ⟨qa, qs, qt, qns, qnc, qpr, qmu⟩ ∧ tgtC ⟨pa, ps, pt, pns, pnc, ppr, pmu⟩ ⟨pa, ps, pt, pns, pnc, ppr, pmu⟩ = ⟨pa, ps, pt, pns, pnc, ppr, pmu⟩ ∧ tgtC (tgtC ⟨pa, ps, pt, pns, pnc, ppr, pmu⟩ ⟨qa, qs, qt, qns, qnc, qpr, qmu⟩) ⟨pa, ps, pt, pns, pnc, ppr, pmu⟩ = tgtC ⟨pa, ps, pt, pns, pnc, ppr, pmu⟩ ⟨qa, qs, qt, qns, qnc, qpr, qmu⟩ ∧ ((tgtC ⟨pa, ps, pt, pns, pnc, ppr, pmu⟩ ⟨qa, qs, qt, qns, qnc, qpr, qmu⟩).a ≤ pa ∨ pa < 0) ∧ (tgtC ⟨pa, ps, pt, pns, pnc, ppr, pmu⟩ ⟨qa, qs, qt, qns, qnc, qpr, qmu⟩).ns = (pns || qns)) := fun h1 h2 => ⟨tgtC_comm h1 h2, tgtC_self h1, tgtC_abs h1 h2, by rw [tgtC_yes h1 h2]; exact lessI_le, by rw [tgtC_yes h1 h2]; rfl⟩
    generalize tgtC ⟨qa, qs, qt, qns, qnc, qpr, qmu⟩ ⟨pa, ps, pt, pns, pnc, ppr, pmu⟩ = y1 at iTba HU
    generalize tgtC ⟨pa, ps, pt, pns, pnc, ppr, pmu⟩ ⟨pa, ps, pt, pns, pnc, ppr, pmu⟩ = y2 at iTaa HU
    generalize tgtC (tgtC ⟨pa, ps, pt, pns, pnc, ppr, pmu⟩ ⟨qa, qs, qt, qns, qnc, qpr, qmu⟩) ⟨pa, ps, pt, pns, pnc, ppr, pmu⟩ = y3 at iTx HU
    generalize tgtC ⟨pa, ps, pt, pns, pnc, ppr, pmu⟩ ⟨qa, qs, qt, qns, qnc, qpr, qmu⟩ = x at iT sT iTx HT HU
    generalize ctB ⟨pa, ps, pt, pns, pnc, ppr, pmu⟩ = Ka at iKa HT HU
    generalize ctB ⟨qa, qs, qt, qns, qnc, qpr, qmu⟩ = Kb at iKb HT HU
    obtain ⟨xa, xs, xt, xns, xnc, xpr, xmu⟩ := x
    unfold ctV at iT sT iKa iKb iTba iTaa iTx ⊢
    clear hb5 B4 C4 R4
    go_wp2_with fail
    refine (iT _).mono ?_
    rintro e w6 ⟨rfl, hb6⟩
    have B6 : Hid (Below w.heap.size w (w6.alloc (.cells #[.int .i64 xa, .int .i64 xs, .int .i64 xt, .bool xns, .bool xnc, .bool xpr, .bool xmu] 25))) := bel_alloc9 (past9w B5.out hb6) _
    have C6 : Hid (CtB (w6.alloc (.cells #[.int .i64 xa, .int .i64 xs, .int .i64 xt, .bool xns, .bool xnc, .bool xpr, .bool xmu] 25)) w1.heap.size ⟨ca, cs, ct, cns, cnc, cpr, cmu⟩) := (C5.out.kept hb6).alloc _
    have R6 : Hid (CtB (w6.alloc (.cells #[.int .i64 xa, .int .i64 xs, .int .i64 xt, .bool xns, .bool xnc, .bool xpr, .bool xmu] 25)) w4.heap.size ⟨ra, rs, rt, rns, rnc, rpr, rmu⟩) := (R5.out.kept hb6).alloc _
    have A6 : Hid (CtB (w6.alloc (.cells #[.int .i64 xa, .int .i64 xs, .int .i64 xt, .bool xns, .bool xnc, .bool xpr, .bool xmu] 25)) w5.heap.size ⟨pa, ps, pt, pns, pnc, ppr, pmu⟩) := (A5.out.kept hb6).alloc _
    have D6 : Hid (CtB (w6.alloc (.cells #[.int .i64 xa, .int .i64 xs, .int .i64 xt, .bool xns, .bool xnc, .bool xpr, .bool xmu] 25)) (w5.heap.size + 1) ⟨qa, qs, qt, qns, qnc, qpr, qmu⟩) := (D5.out.kept hb6).alloc _
    have Y6 : Hid (CtB (w6.alloc (.cells #[.int .i64 xa, .int .i64 xs, .int .i64 xt, .bool xns, .bool xnc, .bool xpr, .bool xmu] 25)) w6.heap.size ⟨xa, xs, xt, xns, xnc, xpr, xmu⟩) := CtB.born w6 ⟨xa, xs, xt, xns, xnc, xpr, xmu⟩ 25
    clear hb6 B5 C5 R5 A5 D5 iT
    have hmx : Tryz.prog.follows .mixedOrders = true := by kernel_rfl
    go_wp2
    generalize w6.alloc (.cells #[.int .i64 xa, .int .i64 xs, .int .i64 xt, .bool xns, .bool xnc, .bool xpr, .bool xmu] 25) = w7 at B6 C6 R6 A6 D6 Y6 ⊢
    obtain ⟨k00, k01, k02, k03, k04, k05, k06⟩ := CtB.re C6.out
    simp only at k00 k01 k02 k03 k04 k05 k06
    obtain ⟨k10, k11, k12, k13, k14, k15, k16⟩ := CtB.re R6.out
    simp only at k10 k11 k12 k13 k14 k15 k16
    obtain ⟨k20, k21, k22, k23, k24, k25, k26⟩ := CtB.re A6.out
    simp only at k20 k21 k22 k23 k24 k25 k26
    obtain ⟨k30, k31, k32, k33, k34, k35, k36⟩ := CtB.re D6.out
    simp only at k30 k31 k32 k33 k34 k35 k36
    obtain ⟨k40, k41, k42, k43, k44, k45, k46⟩ := CtB.re Y6.out
    simp only at k40 k41 k42 k43 k44 k45 k46
    have cA : ∀ q os, Calls Tryz.prog 11 #[.agg #[.int .i64 ca, .int .i64 cs, .int .i64 ct, .bool cns, .bool cnc, .bool cpr, .bool cmu]] (grow (redrawn w7 q) os) fun e w'' => e = .returned (.string S) ∧ ∃ p : Regrown, w'' = grow (redrawn w7 p.d) p.os := fun q os => Calls.regrown_of (sS _)
    have cB : ∀ q os, Calls Tryz.prog 12 #[.string t] (grow (redrawn w7 q) os) fun e w'' => e = .returned (.agg #[.int .i64 ra, .int .i64 rs, .int .i64 rt, .bool rns, .bool rnc, .bool rpr, .bool rmu]) ∧ ∃ p : Regrown, w'' = grow (redrawn w7 p.d) p.os := fun q os => Calls.regrown_of (sR _)
    have cC : ∀ q os, Calls Tryz.prog 13 #[.agg #[.int .i64 pa, .int .i64 ps, .int .i64 pt, .bool pns, .bool pnc, .bool ppr, .bool pmu], .agg #[.int .i64 qa, .int .i64 qs, .int .i64 qt, .bool qns, .bool qnc, .bool qpr, .bool qmu]] (grow (redrawn w7 q) os) fun e w'' => e = .returned (.agg #[.int .i64 xa, .int .i64 xs, .int .i64 xt, .bool xns, .bool xnc, .bool xpr, .bool xmu]) ∧ ∃ p : Regrown, w'' = grow (redrawn w7 p.d) p.os := fun q os => Calls.regrown_of (sT _)
    have cD : ∀ q os, Calls Tryz.prog 14 #[.agg #[.int .i64 ca, .int .i64 cs, .int .i64 ct, .bool cns, .bool cnc, .bool cpr, .bool cmu]] (grow (redrawn w7 q) os) fun e w'' => e = .returned (.bool K) ∧ ∃ p : Regrown, w'' = grow (redrawn w7 p.d) p.os := fun q os => Calls.regrown_of (iK _)
    have cE : ∀ q os, Calls Tryz.prog 15 #[.agg #[.int .i64 ca, .int .i64 cs, .int .i64 ct, .bool cns, .bool cnc, .bool cpr, .bool cmu]] (grow (redrawn w7 q) os) fun e w'' => e = .returned (.bool K) ∧ ∃ p : Regrown, w'' = grow (redrawn w7 p.d) p.os := fun q os => Calls.regrown_of (sK _)
    have cF : ∀ q os, Calls Tryz.prog 14 #[.agg #[.int .i64 ra, .int .i64 rs, .int .i64 rt, .bool rns, .bool rnc, .bool rpr, .bool rmu]] (grow (redrawn w7 q) os) fun e w'' => e = .returned (.bool true) ∧ ∃ p : Regrown, w'' = grow (redrawn w7 p.d) p.os := fun q os => Calls.regrown_of (iRk _)
    refine wp_region_quiet_below (by kernel_rfl) (by kernel_rfl) ?_
    repeat (go_big_quiet_step (first | (with_reducible exact cA _ _) | (with_reducible exact cB _ _) | (with_reducible exact cC _ _) | (with_reducible exact cD _ _) | (with_reducible exact cE _ _) | (with_reducible exact cF _ _)))
    refine wpQuiet_nil ?_
    intro _ hw'
    obtain ⟨⟨dq, osq⟩, hw''⟩ := hw'
    subst hw''

    have B7 : Hid (Below w.heap.size w (grow (redrawn w7 dq) osq)) := past9w B6.out (below_regrown w7 dq osq)
    have C7 : Hid (CtB (grow (redrawn w7 dq) osq) w1.heap.size ⟨ca, cs, ct, cns, cnc, cpr, cmu⟩) := C6.out.kept (below_regrown w7 dq osq)
    have R7 : Hid (CtB (grow (redrawn w7 dq) osq) w4.heap.size ⟨ra, rs, rt, rns, rnc, rpr, rmu⟩) := R6.out.kept (below_regrown w7 dq osq)
    have A7 : Hid (CtB (grow (redrawn w7 dq) osq) w5.heap.size ⟨pa, ps, pt, pns, pnc, ppr, pmu⟩) := A6.out.kept (below_regrown w7 dq osq)
    have D7 : Hid (CtB (grow (redrawn w7 dq) osq) (w5.heap.size + 1) ⟨qa, qs, qt, qns, qnc, qpr, qmu⟩) := D6.out.kept (below_regrown w7 dq osq)
    have Y7 : Hid (CtB (grow (redrawn w7 dq) osq) w6.heap.size ⟨xa, xs, xt, xns, xnc, xpr, xmu⟩) := Y6.out.kept (below_regrown w7 dq osq)
    generalize grow (redrawn w7 dq) osq = w7x at B7 C7 R7 A7 D7 Y7 ⊢
    clear k00 k01 k02 k03 k04 k05 k06 k10 k11 k12 k13 k14 k15 k16 k20 k21 k22 k23 k24 k25 k26 k30 k31 k32 k33 k34 k35 k36 k40 k41 k42 k43 k44 k45 k46 cA cB cC cD cE cF C6 R6 A6 D6 Y6 B6
    have P : Hid (Below w.heap.size w w7x) := B7
    go_wp2
    cases K with
    | false =>
      obtain ⟨k00, k01, k02, k03, k04, k05, k06⟩ := CtB.re C7.out
      simp only at k00 k01 k02 k03 k04 k05 k06
      have cD : ∀ q os, Calls Tryz.prog 14 #[.agg #[.int .i64 ca, .int .i64 cs, .int .i64 ct, .bool cns, .bool cnc, .bool cpr, .bool cmu]] (grow (redrawn w7x q) os) fun e w'' => e = .returned (.bool false) ∧ ∃ p : Regrown, w'' = grow (redrawn w7x p.d) p.os := fun q os => Calls.regrown_of (iK _)
      refine wp_region_quiet_below (by kernel_rfl) (by kernel_rfl) ?_
      repeat (go_big_quiet_step (first | (with_reducible exact cD _ _)))
      refine wpQuiet_nil ?_
      intro _ hw'
      obtain ⟨⟨dq, osq⟩, hw''⟩ := hw'
      subst hw''
      have B8 : Hid (Below w.heap.size w (grow (redrawn w7x dq) osq)) := past9w B7.out (below_regrown w7x dq osq)
      have C8 : Hid (CtB (grow (redrawn w7x dq) osq) w1.heap.size ⟨ca, cs, ct, cns, cnc, cpr, cmu⟩) := C7.out.kept (below_regrown w7x dq osq)
      have R8 : Hid (CtB (grow (redrawn w7x dq) osq) w4.heap.size ⟨ra, rs, rt, rns, rnc, rpr, rmu⟩) := R7.out.kept (below_regrown w7x dq osq)
      have A8 : Hid (CtB (grow (redrawn w7x dq) osq) w5.heap.size ⟨pa, ps, pt, pns, pnc, ppr, pmu⟩) := A7.out.kept (below_regrown w7x dq osq)
      have D8 : Hid (CtB (grow (redrawn w7x dq) osq) (w5.heap.size + 1) ⟨qa, qs, qt, qns, qnc, qpr, qmu⟩) := D7.out.kept (below_regrown w7x dq osq)
      have Y8 : Hid (CtB (grow (redrawn w7x dq) osq) w6.heap.size ⟨xa, xs, xt, xns, xnc, xpr, xmu⟩) := Y7.out.kept (below_regrown w7x dq osq)
      generalize grow (redrawn w7x dq) osq = w8x at B8 C8 R8 A8 D8 Y8 ⊢
      clear k00 k01 k02 k03 k04 k05 k06 cD B7 C7 R7 A7 D7 Y7 P iK
      obtain ⟨a0, a1, a2, a3, a4, a5, a6⟩ := CtB.all A8.out
      simp only at a0 a1 a2 a3 a4 a5 a6
      go_wp2_with fail
      refine (iKa _).mono ?_
      rintro e w9 ⟨rfl, hb9⟩
      have B9 : Hid (Below w.heap.size w w9) := past9w B8.out hb9
      have C9 : Hid (CtB w9 w1.heap.size ⟨ca, cs, ct, cns, cnc, cpr, cmu⟩) := C8.out.kept hb9
      have R9 : Hid (CtB w9 w4.heap.size ⟨ra, rs, rt, rns, rnc, rpr, rmu⟩) := R8.out.kept hb9
      have A9 : Hid (CtB w9 w5.heap.size ⟨pa, ps, pt, pns, pnc, ppr, pmu⟩) := A8.out.kept hb9
      have D9 : Hid (CtB w9 (w5.heap.size + 1) ⟨qa, qs, qt, qns, qnc, qpr, qmu⟩) := D8.out.kept hb9
      have Y9 : Hid (CtB w9 w6.heap.size ⟨xa, xs, xt, xns, xnc, xpr, xmu⟩) := Y8.out.kept hb9
      clear hb9 B8 C8 R8 A8 D8 Y8 iKa a0 a1 a2 a3 a4 a5 a6
      cases Ka with
      | false =>
        have HZ := HT.out (fun h => by cases h.1)
        obtain ⟨y0, y1, y2, y3, y4, y5, y6⟩ := CtB.all Y9.out
        simp only at y0 y1 y2 y3 y4 y5 y6
        unfold ctZ at HZ
        injection HZ with z1 z2 z3 z4 z5 z6 z7
        subst z1 z2 z3 z4 z5 z6 z7
        go_wp2
        go_ret
        exact ⟨rfl, B9.out⟩
      | true =>
        obtain ⟨b0, b1, b2, b3, b4, b5, b6⟩ := CtB.all D9.out
        simp only at b0 b1 b2 b3 b4 b5 b6
        go_wp2_with fail
        refine (iKb _).mono ?_
        rintro e wa ⟨rfl, hba⟩
        have B10 : Hid (Below w.heap.size w wa) := past9w B9.out hba
        have C10 : Hid (CtB wa w1.heap.size ⟨ca, cs, ct, cns, cnc, cpr, cmu⟩) := C9.out.kept hba
        have R10 : Hid (CtB wa w4.heap.size ⟨ra, rs, rt, rns, rnc, rpr, rmu⟩) := R9.out.kept hba
        have A10 : Hid (CtB wa w5.heap.size ⟨pa, ps, pt, pns, pnc, ppr, pmu⟩) := A9.out.kept hba
        have D10 : Hid (CtB wa (w5.heap.size + 1) ⟨qa, qs, qt, qns, qnc, qpr, qmu⟩) := D9.out.kept hba
        have Y10 : Hid (CtB wa w6.heap.size ⟨xa, xs, xt, xns, xnc, xpr, xmu⟩) := Y9.out.kept hba
        clear hba B9 C9 R9 A9 D9 Y9 iKb b0 b1 b2 b3 b4 b5 b6
        cases Kb with
        | false =>
          have HZ := HT.out (fun h => by cases h.2)
          obtain ⟨y0, y1, y2, y3, y4, y5, y6⟩ := CtB.all Y10.out
          simp only at y0 y1 y2 y3 y4 y5 y6
          unfold ctZ at HZ
          injection HZ with z1 z2 z3 z4 z5 z6 z7
          subst z1 z2 z3 z4 z5 z6 z7
          go_wp2
          go_ret
          exact ⟨rfl, B10.out⟩
        | true =>
          obtain ⟨u1, u2, u3, u4, u5⟩ := HU.out (by first | rfl | trivial) (by first | rfl | trivial)
          subst u1 u2 u3
          try simp only at u4 u5
          subst u5
          clear HT HU
          by_cases hle : xa ≤ pa
          · have dl : decide (xa ≤ pa) = true := decide_eq_true hle
            cases pns with
            | true =>
              go_wp2
              obtain ⟨k10, k11, k12, k13, k14, k15, k16⟩ := CtB.re R10.out
              simp only at k10 k11 k12 k13 k14 k15 k16
              obtain ⟨k20, k21, k22, k23, k24, k25, k26⟩ := CtB.re A10.out
              simp only at k20 k21 k22 k23 k24 k25 k26
              obtain ⟨k30, k31, k32, k33, k34, k35, k36⟩ := CtB.re D10.out
              simp only at k30 k31 k32 k33 k34 k35 k36
              obtain ⟨k40, k41, k42, k43, k44, k45, k46⟩ := CtB.re Y10.out
              simp only at k40 k41 k42 k43 k44 k45 k46
              have dA : ∀ q os, Calls Tryz.prog 10 #[.agg #[.int .i64 qa, .int .i64 qs, .int .i64 qt, .bool qns, .bool qnc, .bool qpr, .bool qmu], .agg #[.int .i64 pa, .int .i64 ps, .int .i64 pt, .bool true, .bool pnc, .bool ppr, .bool pmu]] (grow (redrawn wa q) os) fun e w'' => e = .returned (.agg #[.int .i64 xa, .int .i64 xs, .int .i64 xt, .bool true, .bool xnc, .bool xpr, .bool xmu]) ∧ ∃ p : Regrown, w'' = grow (redrawn wa p.d) p.os := fun q os => Calls.regrown_of (iTba _)
              have dB : ∀ q os, Calls Tryz.prog 10 #[.agg #[.int .i64 xa, .int .i64 xs, .int .i64 xt, .bool true, .bool xnc, .bool xpr, .bool xmu], .agg #[.int .i64 pa, .int .i64 ps, .int .i64 pt, .bool true, .bool pnc, .bool ppr, .bool pmu]] (grow (redrawn wa q) os) fun e w'' => e = .returned (.agg #[.int .i64 xa, .int .i64 xs, .int .i64 xt, .bool true, .bool xnc, .bool xpr, .bool xmu]) ∧ ∃ p : Regrown, w'' = grow (redrawn wa p.d) p.os := fun q os => Calls.regrown_of (iTx _)
              have dC : ∀ q os, Calls Tryz.prog 10 #[.agg #[.int .i64 pa, .int .i64 ps, .int .i64 pt, .bool true, .bool pnc, .bool ppr, .bool pmu], .agg #[.int .i64 pa, .int .i64 ps, .int .i64 pt, .bool true, .bool pnc, .bool ppr, .bool pmu]] (grow (redrawn wa q) os) fun e w'' => e = .returned (.agg #[.int .i64 pa, .int .i64 ps, .int .i64 pt, .bool true, .bool pnc, .bool ppr, .bool pmu]) ∧ ∃ p : Regrown, w'' = grow (redrawn wa p.d) p.os := fun q os => Calls.regrown_of (iTaa _)
              have dD : ∀ q os, Calls Tryz.prog 6 #[.agg #[.int .i64 ra, .int .i64 rs, .int .i64 rt, .bool rns, .bool rnc, .bool rpr, .bool rmu]] (grow (redrawn wa q) os) fun e w'' => e = .returned (.string S2) ∧ ∃ p : Regrown, w'' = grow (redrawn wa p.d) p.os := fun q os => Calls.regrown_of (iSr _ (past9w B10.out (below_regrown wa q os)))
              have dE : ∀ q os, Calls Tryz.prog 8 #[.string S2] (grow (redrawn wa q) os) fun e w'' => e = .returned (.agg #[.int .i64 ra, .int .i64 rs, .int .i64 rt, .bool rns, .bool rnc, .bool rpr, .bool rmu]) ∧ ∃ p : Regrown, w'' = grow (redrawn wa p.d) p.os := fun q os => Calls.regrown_of (iRr _ (past9w B10.out (below_regrown wa q os)))
              refine wp_region_quiet_below (by kernel_rfl) (by kernel_rfl) ?_
              repeat (go_big_quiet_step (first | (with_reducible exact dA _ _) | (with_reducible exact dB _ _) | (with_reducible exact dC _ _) | (with_reducible exact dD _ _) | (with_reducible exact dE _ _)))
              refine wpQuiet_nil ?_
              intro _ hw'
              obtain ⟨⟨dq, osq⟩, hw''⟩ := hw'
              subst hw''
              have BF : Hid (Below w.heap.size w (grow (redrawn wa dq) osq)) := past9w B10.out (below_regrown wa dq osq)
              generalize grow (redrawn wa dq) osq = wz at BF ⊢
              go_wp2
              go_ret
              exact ⟨rfl, BF.out⟩
            | false =>
              simp only [Bool.false_or] at Y10 iTba iTx
              cases qns with
              | true =>
                go_wp2
                obtain ⟨k10, k11, k12, k13, k14, k15, k16⟩ := CtB.re R10.out
                simp only at k10 k11 k12 k13 k14 k15 k16
                obtain ⟨k20, k21, k22, k23, k24, k25, k26⟩ := CtB.re A10.out
                simp only at k20 k21 k22 k23 k24 k25 k26
                obtain ⟨k30, k31, k32, k33, k34, k35, k36⟩ := CtB.re D10.out
                simp only at k30 k31 k32 k33 k34 k35 k36
                obtain ⟨k40, k41, k42, k43, k44, k45, k46⟩ := CtB.re Y10.out
                simp only at k40 k41 k42 k43 k44 k45 k46
                have dA : ∀ q os, Calls Tryz.prog 10 #[.agg #[.int .i64 qa, .int .i64 qs, .int .i64 qt, .bool true, .bool qnc, .bool qpr, .bool qmu], .agg #[.int .i64 pa, .int .i64 ps, .int .i64 pt, .bool false, .bool pnc, .bool ppr, .bool pmu]] (grow (redrawn wa q) os) fun e w'' => e = .returned (.agg #[.int .i64 xa, .int .i64 xs, .int .i64 xt, .bool true, .bool xnc, .bool xpr, .bool xmu]) ∧ ∃ p : Regrown, w'' = grow (redrawn wa p.d) p.os := fun q os => Calls.regrown_of (iTba _)
                have dB : ∀ q os, Calls Tryz.prog 10 #[.agg #[.int .i64 xa, .int .i64 xs, .int .i64 xt, .bool true, .bool xnc, .bool xpr, .bool xmu], .agg #[.int .i64 pa, .int .i64 ps, .int .i64 pt, .bool false, .bool pnc, .bool ppr, .bool pmu]] (grow (redrawn wa q) os) fun e w'' => e = .returned (.agg #[.int .i64 xa, .int .i64 xs, .int .i64 xt, .bool true, .bool xnc, .bool xpr, .bool xmu]) ∧ ∃ p : Regrown, w'' = grow (redrawn wa p.d) p.os := fun q os => Calls.regrown_of (iTx _)
                have dC : ∀ q os, Calls Tryz.prog 10 #[.agg #[.int .i64 pa, .int .i64 ps, .int .i64 pt, .bool false, .bool pnc, .bool ppr, .bool pmu], .agg #[.int .i64 pa, .int .i64 ps, .int .i64 pt, .bool false, .bool pnc, .bool ppr, .bool pmu]] (grow (redrawn wa q) os) fun e w'' => e = .returned (.agg #[.int .i64 pa, .int .i64 ps, .int .i64 pt, .bool false, .bool pnc, .bool ppr, .bool pmu]) ∧ ∃ p : Regrown, w'' = grow (redrawn wa p.d) p.os := fun q os => Calls.regrown_of (iTaa _)
                have dD : ∀ q os, Calls Tryz.prog 6 #[.agg #[.int .i64 ra, .int .i64 rs, .int .i64 rt, .bool rns, .bool rnc, .bool rpr, .bool rmu]] (grow (redrawn wa q) os) fun e w'' => e = .returned (.string S2) ∧ ∃ p : Regrown, w'' = grow (redrawn wa p.d) p.os := fun q os => Calls.regrown_of (iSr _ (past9w B10.out (below_regrown wa q os)))
                have dE : ∀ q os, Calls Tryz.prog 8 #[.string S2] (grow (redrawn wa q) os) fun e w'' => e = .returned (.agg #[.int .i64 ra, .int .i64 rs, .int .i64 rt, .bool rns, .bool rnc, .bool rpr, .bool rmu]) ∧ ∃ p : Regrown, w'' = grow (redrawn wa p.d) p.os := fun q os => Calls.regrown_of (iRr _ (past9w B10.out (below_regrown wa q os)))
                refine wp_region_quiet_below (by kernel_rfl) (by kernel_rfl) ?_
                repeat (go_big_quiet_step (first | (with_reducible exact dA _ _) | (with_reducible exact dB _ _) | (with_reducible exact dC _ _) | (with_reducible exact dD _ _) | (with_reducible exact dE _ _)))
                refine wpQuiet_nil ?_
                intro _ hw'
                obtain ⟨⟨dq, osq⟩, hw''⟩ := hw'
                subst hw''
                have BF : Hid (Below w.heap.size w (grow (redrawn wa dq) osq)) := past9w B10.out (below_regrown wa dq osq)
                generalize grow (redrawn wa dq) osq = wz at BF ⊢
                go_wp2
                go_ret
                exact ⟨rfl, BF.out⟩
              | false =>
                go_wp2
                obtain ⟨k10, k11, k12, k13, k14, k15, k16⟩ := CtB.re R10.out
                simp only at k10 k11 k12 k13 k14 k15 k16
                obtain ⟨k20, k21, k22, k23, k24, k25, k26⟩ := CtB.re A10.out
                simp only at k20 k21 k22 k23 k24 k25 k26
                obtain ⟨k30, k31, k32, k33, k34, k35, k36⟩ := CtB.re D10.out
                simp only at k30 k31 k32 k33 k34 k35 k36
                obtain ⟨k40, k41, k42, k43, k44, k45, k46⟩ := CtB.re Y10.out
                simp only at k40 k41 k42 k43 k44 k45 k46
                have dA : ∀ q os, Calls Tryz.prog 10 #[.agg #[.int .i64 qa, .int .i64 qs, .int .i64 qt, .bool false, .bool qnc, .bool qpr, .bool qmu], .agg #[.int .i64 pa, .int .i64 ps, .int .i64 pt, .bool false, .bool pnc, .bool ppr, .bool pmu]] (grow (redrawn wa q) os) fun e w'' => e = .returned (.agg #[.int .i64 xa, .int .i64 xs, .int .i64 xt, .bool false, .bool xnc, .bool xpr, .bool xmu]) ∧ ∃ p : Regrown, w'' = grow (redrawn wa p.d) p.os := fun q os => Calls.regrown_of (iTba _)
                have dB : ∀ q os, Calls Tryz.prog 10 #[.agg #[.int .i64 xa, .int .i64 xs, .int .i64 xt, .bool false, .bool xnc, .bool xpr, .bool xmu], .agg #[.int .i64 pa, .int .i64 ps, .int .i64 pt, .bool false, .bool pnc, .bool ppr, .bool pmu]] (grow (redrawn wa q) os) fun e w'' => e = .returned (.agg #[.int .i64 xa, .int .i64 xs, .int .i64 xt, .bool false, .bool xnc, .bool xpr, .bool xmu]) ∧ ∃ p : Regrown, w'' = grow (redrawn wa p.d) p.os := fun q os => Calls.regrown_of (iTx _)
                have dC : ∀ q os, Calls Tryz.prog 10 #[.agg #[.int .i64 pa, .int .i64 ps, .int .i64 pt, .bool false, .bool pnc, .bool ppr, .bool pmu], .agg #[.int .i64 pa, .int .i64 ps, .int .i64 pt, .bool false, .bool pnc, .bool ppr, .bool pmu]] (grow (redrawn wa q) os) fun e w'' => e = .returned (.agg #[.int .i64 pa, .int .i64 ps, .int .i64 pt, .bool false, .bool pnc, .bool ppr, .bool pmu]) ∧ ∃ p : Regrown, w'' = grow (redrawn wa p.d) p.os := fun q os => Calls.regrown_of (iTaa _)
                have dD : ∀ q os, Calls Tryz.prog 6 #[.agg #[.int .i64 ra, .int .i64 rs, .int .i64 rt, .bool rns, .bool rnc, .bool rpr, .bool rmu]] (grow (redrawn wa q) os) fun e w'' => e = .returned (.string S2) ∧ ∃ p : Regrown, w'' = grow (redrawn wa p.d) p.os := fun q os => Calls.regrown_of (iSr _ (past9w B10.out (below_regrown wa q os)))
                have dE : ∀ q os, Calls Tryz.prog 8 #[.string S2] (grow (redrawn wa q) os) fun e w'' => e = .returned (.agg #[.int .i64 ra, .int .i64 rs, .int .i64 rt, .bool rns, .bool rnc, .bool rpr, .bool rmu]) ∧ ∃ p : Regrown, w'' = grow (redrawn wa p.d) p.os := fun q os => Calls.regrown_of (iRr _ (past9w B10.out (below_regrown wa q os)))
                refine wp_region_quiet_below (by kernel_rfl) (by kernel_rfl) ?_
                repeat (go_big_quiet_step (first | (with_reducible exact dA _ _) | (with_reducible exact dB _ _) | (with_reducible exact dC _ _) | (with_reducible exact dD _ _) | (with_reducible exact dE _ _)))
                refine wpQuiet_nil ?_
                intro _ hw'
                obtain ⟨⟨dq, osq⟩, hw''⟩ := hw'
                subst hw''
                have BF : Hid (Below w.heap.size w (grow (redrawn wa dq) osq)) := past9w B10.out (below_regrown wa dq osq)
                generalize grow (redrawn wa dq) osq = wz at BF ⊢
                go_wp2
                go_ret
                exact ⟨rfl, BF.out⟩
          · have dl : decide (xa ≤ pa) = false := decide_eq_false hle
            have dl2 : decide (pa < 0) = true := decide_eq_true (by omega)
            cases pns with
            | true =>
              go_wp2
              obtain ⟨k10, k11, k12, k13, k14, k15, k16⟩ := CtB.re R10.out
              simp only at k10 k11 k12 k13 k14 k15 k16
              obtain ⟨k20, k21, k22, k23, k24, k25, k26⟩ := CtB.re A10.out
              simp only at k20 k21 k22 k23 k24 k25 k26
              obtain ⟨k30, k31, k32, k33, k34, k35, k36⟩ := CtB.re D10.out
              simp only at k30 k31 k32 k33 k34 k35 k36
              obtain ⟨k40, k41, k42, k43, k44, k45, k46⟩ := CtB.re Y10.out
              simp only at k40 k41 k42 k43 k44 k45 k46
              have dA : ∀ q os, Calls Tryz.prog 10 #[.agg #[.int .i64 qa, .int .i64 qs, .int .i64 qt, .bool qns, .bool qnc, .bool qpr, .bool qmu], .agg #[.int .i64 pa, .int .i64 ps, .int .i64 pt, .bool true, .bool pnc, .bool ppr, .bool pmu]] (grow (redrawn wa q) os) fun e w'' => e = .returned (.agg #[.int .i64 xa, .int .i64 xs, .int .i64 xt, .bool true, .bool xnc, .bool xpr, .bool xmu]) ∧ ∃ p : Regrown, w'' = grow (redrawn wa p.d) p.os := fun q os => Calls.regrown_of (iTba _)
              have dB : ∀ q os, Calls Tryz.prog 10 #[.agg #[.int .i64 xa, .int .i64 xs, .int .i64 xt, .bool true, .bool xnc, .bool xpr, .bool xmu], .agg #[.int .i64 pa, .int .i64 ps, .int .i64 pt, .bool true, .bool pnc, .bool ppr, .bool pmu]] (grow (redrawn wa q) os) fun e w'' => e = .returned (.agg #[.int .i64 xa, .int .i64 xs, .int .i64 xt, .bool true, .bool xnc, .bool xpr, .bool xmu]) ∧ ∃ p : Regrown, w'' = grow (redrawn wa p.d) p.os := fun q os => Calls.regrown_of (iTx _)
              have dC : ∀ q os, Calls Tryz.prog 10 #[.agg #[.int .i64 pa, .int .i64 ps, .int .i64 pt, .bool true, .bool pnc, .bool ppr, .bool pmu], .agg #[.int .i64 pa, .int .i64 ps, .int .i64 pt, .bool true, .bool pnc, .bool ppr, .bool pmu]] (grow (redrawn wa q) os) fun e w'' => e = .returned (.agg #[.int .i64 pa, .int .i64 ps, .int .i64 pt, .bool true, .bool pnc, .bool ppr, .bool pmu]) ∧ ∃ p : Regrown, w'' = grow (redrawn wa p.d) p.os := fun q os => Calls.regrown_of (iTaa _)
              have dD : ∀ q os, Calls Tryz.prog 6 #[.agg #[.int .i64 ra, .int .i64 rs, .int .i64 rt, .bool rns, .bool rnc, .bool rpr, .bool rmu]] (grow (redrawn wa q) os) fun e w'' => e = .returned (.string S2) ∧ ∃ p : Regrown, w'' = grow (redrawn wa p.d) p.os := fun q os => Calls.regrown_of (iSr _ (past9w B10.out (below_regrown wa q os)))
              have dE : ∀ q os, Calls Tryz.prog 8 #[.string S2] (grow (redrawn wa q) os) fun e w'' => e = .returned (.agg #[.int .i64 ra, .int .i64 rs, .int .i64 rt, .bool rns, .bool rnc, .bool rpr, .bool rmu]) ∧ ∃ p : Regrown, w'' = grow (redrawn wa p.d) p.os := fun q os => Calls.regrown_of (iRr _ (past9w B10.out (below_regrown wa q os)))
              refine wp_region_quiet_below (by kernel_rfl) (by kernel_rfl) ?_
              repeat (go_big_quiet_step (first | (with_reducible exact dA _ _) | (with_reducible exact dB _ _) | (with_reducible exact dC _ _) | (with_reducible exact dD _ _) | (with_reducible exact dE _ _)))
              refine wpQuiet_nil ?_
              intro _ hw'
              obtain ⟨⟨dq, osq⟩, hw''⟩ := hw'
              subst hw''
              have BF : Hid (Below w.heap.size w (grow (redrawn wa dq) osq)) := past9w B10.out (below_regrown wa dq osq)
              generalize grow (redrawn wa dq) osq = wz at BF ⊢
              go_wp2
              go_ret
              exact ⟨rfl, BF.out⟩
            | false =>
              simp only [Bool.false_or] at Y10 iTba iTx
              cases qns with
              | true =>
                go_wp2
                obtain ⟨k10, k11, k12, k13, k14, k15, k16⟩ := CtB.re R10.out
                simp only at k10 k11 k12 k13 k14 k15 k16
                obtain ⟨k20, k21, k22, k23, k24, k25, k26⟩ := CtB.re A10.out
                simp only at k20 k21 k22 k23 k24 k25 k26
                obtain ⟨k30, k31, k32, k33, k34, k35, k36⟩ := CtB.re D10.out
                simp only at k30 k31 k32 k33 k34 k35 k36
                obtain ⟨k40, k41, k42, k43, k44, k45, k46⟩ := CtB.re Y10.out
                simp only at k40 k41 k42 k43 k44 k45 k46
                have dA : ∀ q os, Calls Tryz.prog 10 #[.agg #[.int .i64 qa, .int .i64 qs, .int .i64 qt, .bool true, .bool qnc, .bool qpr, .bool qmu], .agg #[.int .i64 pa, .int .i64 ps, .int .i64 pt, .bool false, .bool pnc, .bool ppr, .bool pmu]] (grow (redrawn wa q) os) fun e w'' => e = .returned (.agg #[.int .i64 xa, .int .i64 xs, .int .i64 xt, .bool true, .bool xnc, .bool xpr, .bool xmu]) ∧ ∃ p : Regrown, w'' = grow (redrawn wa p.d) p.os := fun q os => Calls.regrown_of (iTba _)
                have dB : ∀ q os, Calls Tryz.prog 10 #[.agg #[.int .i64 xa, .int .i64 xs, .int .i64 xt, .bool true, .bool xnc, .bool xpr, .bool xmu], .agg #[.int .i64 pa, .int .i64 ps, .int .i64 pt, .bool false, .bool pnc, .bool ppr, .bool pmu]] (grow (redrawn wa q) os) fun e w'' => e = .returned (.agg #[.int .i64 xa, .int .i64 xs, .int .i64 xt, .bool true, .bool xnc, .bool xpr, .bool xmu]) ∧ ∃ p : Regrown, w'' = grow (redrawn wa p.d) p.os := fun q os => Calls.regrown_of (iTx _)
                have dC : ∀ q os, Calls Tryz.prog 10 #[.agg #[.int .i64 pa, .int .i64 ps, .int .i64 pt, .bool false, .bool pnc, .bool ppr, .bool pmu], .agg #[.int .i64 pa, .int .i64 ps, .int .i64 pt, .bool false, .bool pnc, .bool ppr, .bool pmu]] (grow (redrawn wa q) os) fun e w'' => e = .returned (.agg #[.int .i64 pa, .int .i64 ps, .int .i64 pt, .bool false, .bool pnc, .bool ppr, .bool pmu]) ∧ ∃ p : Regrown, w'' = grow (redrawn wa p.d) p.os := fun q os => Calls.regrown_of (iTaa _)
                have dD : ∀ q os, Calls Tryz.prog 6 #[.agg #[.int .i64 ra, .int .i64 rs, .int .i64 rt, .bool rns, .bool rnc, .bool rpr, .bool rmu]] (grow (redrawn wa q) os) fun e w'' => e = .returned (.string S2) ∧ ∃ p : Regrown, w'' = grow (redrawn wa p.d) p.os := fun q os => Calls.regrown_of (iSr _ (past9w B10.out (below_regrown wa q os)))
                have dE : ∀ q os, Calls Tryz.prog 8 #[.string S2] (grow (redrawn wa q) os) fun e w'' => e = .returned (.agg #[.int .i64 ra, .int .i64 rs, .int .i64 rt, .bool rns, .bool rnc, .bool rpr, .bool rmu]) ∧ ∃ p : Regrown, w'' = grow (redrawn wa p.d) p.os := fun q os => Calls.regrown_of (iRr _ (past9w B10.out (below_regrown wa q os)))
                refine wp_region_quiet_below (by kernel_rfl) (by kernel_rfl) ?_
                repeat (go_big_quiet_step (first | (with_reducible exact dA _ _) | (with_reducible exact dB _ _) | (with_reducible exact dC _ _) | (with_reducible exact dD _ _) | (with_reducible exact dE _ _)))
                refine wpQuiet_nil ?_
                intro _ hw'
                obtain ⟨⟨dq, osq⟩, hw''⟩ := hw'
                subst hw''
                have BF : Hid (Below w.heap.size w (grow (redrawn wa dq) osq)) := past9w B10.out (below_regrown wa dq osq)
                generalize grow (redrawn wa dq) osq = wz at BF ⊢
                go_wp2
                go_ret
                exact ⟨rfl, BF.out⟩
              | false =>
                go_wp2
                obtain ⟨k10, k11, k12, k13, k14, k15, k16⟩ := CtB.re R10.out
                simp only at k10 k11 k12 k13 k14 k15 k16
                obtain ⟨k20, k21, k22, k23, k24, k25, k26⟩ := CtB.re A10.out
                simp only at k20 k21 k22 k23 k24 k25 k26
                obtain ⟨k30, k31, k32, k33, k34, k35, k36⟩ := CtB.re D10.out
                simp only at k30 k31 k32 k33 k34 k35 k36
                obtain ⟨k40, k41, k42, k43, k44, k45, k46⟩ := CtB.re Y10.out
                simp only at k40 k41 k42 k43 k44 k45 k46
                have dA : ∀ q os, Calls Tryz.prog 10 #[.agg #[.int .i64 qa, .int .i64 qs, .int .i64 qt, .bool false, .bool qnc, .bool qpr, .bool qmu], .agg #[.int .i64 pa, .int .i64 ps, .int .i64 pt, .bool false, .bool pnc, .bool ppr, .bool pmu]] (grow (redrawn wa q) os) fun e w'' => e = .returned (.agg #[.int .i64 xa, .int .i64 xs, .int .i64 xt, .bool false, .bool xnc, .bool xpr, .bool xmu]) ∧ ∃ p : Regrown, w'' = grow (redrawn wa p.d) p.os := fun q os => Calls.regrown_of (iTba _)
                have dB : ∀ q os, Calls Tryz.prog 10 #[.agg #[.int .i64 xa, .int .i64 xs, .int .i64 xt, .bool false, .bool xnc, .bool xpr, .bool xmu], .agg #[.int .i64 pa, .int .i64 ps, .int .i64 pt, .bool false, .bool pnc, .bool ppr, .bool pmu]] (grow (redrawn wa q) os) fun e w'' => e = .returned (.agg #[.int .i64 xa, .int .i64 xs, .int .i64 xt, .bool false, .bool xnc, .bool xpr, .bool xmu]) ∧ ∃ p : Regrown, w'' = grow (redrawn wa p.d) p.os := fun q os => Calls.regrown_of (iTx _)
                have dC : ∀ q os, Calls Tryz.prog 10 #[.agg #[.int .i64 pa, .int .i64 ps, .int .i64 pt, .bool false, .bool pnc, .bool ppr, .bool pmu], .agg #[.int .i64 pa, .int .i64 ps, .int .i64 pt, .bool false, .bool pnc, .bool ppr, .bool pmu]] (grow (redrawn wa q) os) fun e w'' => e = .returned (.agg #[.int .i64 pa, .int .i64 ps, .int .i64 pt, .bool false, .bool pnc, .bool ppr, .bool pmu]) ∧ ∃ p : Regrown, w'' = grow (redrawn wa p.d) p.os := fun q os => Calls.regrown_of (iTaa _)
                have dD : ∀ q os, Calls Tryz.prog 6 #[.agg #[.int .i64 ra, .int .i64 rs, .int .i64 rt, .bool rns, .bool rnc, .bool rpr, .bool rmu]] (grow (redrawn wa q) os) fun e w'' => e = .returned (.string S2) ∧ ∃ p : Regrown, w'' = grow (redrawn wa p.d) p.os := fun q os => Calls.regrown_of (iSr _ (past9w B10.out (below_regrown wa q os)))
                have dE : ∀ q os, Calls Tryz.prog 8 #[.string S2] (grow (redrawn wa q) os) fun e w'' => e = .returned (.agg #[.int .i64 ra, .int .i64 rs, .int .i64 rt, .bool rns, .bool rnc, .bool rpr, .bool rmu]) ∧ ∃ p : Regrown, w'' = grow (redrawn wa p.d) p.os := fun q os => Calls.regrown_of (iRr _ (past9w B10.out (below_regrown wa q os)))
                refine wp_region_quiet_below (by kernel_rfl) (by kernel_rfl) ?_
                repeat (go_big_quiet_step (first | (with_reducible exact dA _ _) | (with_reducible exact dB _ _) | (with_reducible exact dC _ _) | (with_reducible exact dD _ _) | (with_reducible exact dE _ _)))
                refine wpQuiet_nil ?_
                intro _ hw'
                obtain ⟨⟨dq, osq⟩, hw''⟩ := hw'
                subst hw''
                have BF : Hid (Below w.heap.size w (grow (redrawn wa dq) osq)) := past9w B10.out (below_regrown wa dq osq)
                generalize grow (redrawn wa dq) osq = wz at BF ⊢
                go_wp2
                go_ret
                exact ⟨rfl, BF.out⟩
    | true =>
      rw [HRS.out rfl] at iRS
      obtain ⟨k00, k01, k02, k03, k04, k05, k06⟩ := CtB.re C7.out
      simp only at k00 k01 k02 k03 k04 k05 k06
      have cD : ∀ q os, Calls Tryz.prog 14 #[.agg #[.int .i64 ca, .int .i64 cs, .int .i64 ct, .bool cns, .bool cnc, .bool cpr, .bool cmu]] (grow (redrawn w7x q) os) fun e w'' => e = .returned (.bool true) ∧ ∃ p : Regrown, w'' = grow (redrawn w7x p.d) p.os := fun q os => Calls.regrown_of (iK _)
      have cE : ∀ q os, Calls Tryz.prog 8 #[.string S] (grow (redrawn w7x q) os) fun e w'' => e = .returned (.agg #[.int .i64 ca, .int .i64 cs, .int .i64 ct, .bool cns, .bool cnc, .bool cpr, .bool cmu]) ∧ ∃ p : Regrown, w'' = grow (redrawn w7x p.d) p.os := fun q os => Calls.regrown_of (iRS _ (past9w P.out (below_regrown w7x q os)))
      refine wp_region_quiet_below (by kernel_rfl) (by kernel_rfl) ?_
      repeat (go_big_quiet_step (first | (with_reducible exact cD _ _) | (with_reducible exact cE _ _)))
      refine wpQuiet_nil ?_
      intro _ hw'
      obtain ⟨⟨dq, osq⟩, hw''⟩ := hw'
      subst hw''
      have B8 : Hid (Below w.heap.size w (grow (redrawn w7x dq) osq)) := past9w B7.out (below_regrown w7x dq osq)
      have C8 : Hid (CtB (grow (redrawn w7x dq) osq) w1.heap.size ⟨ca, cs, ct, cns, cnc, cpr, cmu⟩) := C7.out.kept (below_regrown w7x dq osq)
      have R8 : Hid (CtB (grow (redrawn w7x dq) osq) w4.heap.size ⟨ra, rs, rt, rns, rnc, rpr, rmu⟩) := R7.out.kept (below_regrown w7x dq osq)
      have A8 : Hid (CtB (grow (redrawn w7x dq) osq) w5.heap.size ⟨pa, ps, pt, pns, pnc, ppr, pmu⟩) := A7.out.kept (below_regrown w7x dq osq)
      have D8 : Hid (CtB (grow (redrawn w7x dq) osq) (w5.heap.size + 1) ⟨qa, qs, qt, qns, qnc, qpr, qmu⟩) := D7.out.kept (below_regrown w7x dq osq)
      have Y8 : Hid (CtB (grow (redrawn w7x dq) osq) w6.heap.size ⟨xa, xs, xt, xns, xnc, xpr, xmu⟩) := Y7.out.kept (below_regrown w7x dq osq)
      generalize grow (redrawn w7x dq) osq = w8x at B8 C8 R8 A8 D8 Y8 ⊢
      clear k00 k01 k02 k03 k04 k05 k06 cD cE B7 C7 R7 A7 D7 Y7 P iK iRS
      obtain ⟨a0, a1, a2, a3, a4, a5, a6⟩ := CtB.all A8.out
      simp only at a0 a1 a2 a3 a4 a5 a6
      go_wp2_with fail
      refine (iKa _).mono ?_
      rintro e w9 ⟨rfl, hb9⟩
      have B9 : Hid (Below w.heap.size w w9) := past9w B8.out hb9
      have C9 : Hid (CtB w9 w1.heap.size ⟨ca, cs, ct, cns, cnc, cpr, cmu⟩) := C8.out.kept hb9
      have R9 : Hid (CtB w9 w4.heap.size ⟨ra, rs, rt, rns, rnc, rpr, rmu⟩) := R8.out.kept hb9
      have A9 : Hid (CtB w9 w5.heap.size ⟨pa, ps, pt, pns, pnc, ppr, pmu⟩) := A8.out.kept hb9
      have D9 : Hid (CtB w9 (w5.heap.size + 1) ⟨qa, qs, qt, qns, qnc, qpr, qmu⟩) := D8.out.kept hb9
      have Y9 : Hid (CtB w9 w6.heap.size ⟨xa, xs, xt, xns, xnc, xpr, xmu⟩) := Y8.out.kept hb9
      clear hb9 B8 C8 R8 A8 D8 Y8 iKa a0 a1 a2 a3 a4 a5 a6
      cases Ka with
      | false =>
        have HZ := HT.out (fun h => by cases h.1)
        obtain ⟨y0, y1, y2, y3, y4, y5, y6⟩ := CtB.all Y9.out
        simp only at y0 y1 y2 y3 y4 y5 y6
        unfold ctZ at HZ
        injection HZ with z1 z2 z3 z4 z5 z6 z7
        subst z1 z2 z3 z4 z5 z6 z7
        go_wp2
        go_ret
        exact ⟨rfl, B9.out⟩
      | true =>
        obtain ⟨b0, b1, b2, b3, b4, b5, b6⟩ := CtB.all D9.out
        simp only at b0 b1 b2 b3 b4 b5 b6
        go_wp2_with fail
        refine (iKb _).mono ?_
        rintro e wa ⟨rfl, hba⟩
        have B10 : Hid (Below w.heap.size w wa) := past9w B9.out hba
        have C10 : Hid (CtB wa w1.heap.size ⟨ca, cs, ct, cns, cnc, cpr, cmu⟩) := C9.out.kept hba
        have R10 : Hid (CtB wa w4.heap.size ⟨ra, rs, rt, rns, rnc, rpr, rmu⟩) := R9.out.kept hba
        have A10 : Hid (CtB wa w5.heap.size ⟨pa, ps, pt, pns, pnc, ppr, pmu⟩) := A9.out.kept hba
        have D10 : Hid (CtB wa (w5.heap.size + 1) ⟨qa, qs, qt, qns, qnc, qpr, qmu⟩) := D9.out.kept hba
        have Y10 : Hid (CtB wa w6.heap.size ⟨xa, xs, xt, xns, xnc, xpr, xmu⟩) := Y9.out.kept hba
        clear hba B9 C9 R9 A9 D9 Y9 iKb b0 b1 b2 b3 b4 b5 b6
        cases Kb with
        | false =>
          have HZ := HT.out (fun h => by cases h.2)
          obtain ⟨y0, y1, y2, y3, y4, y5, y6⟩ := CtB.all Y10.out
          simp only at y0 y1 y2 y3 y4 y5 y6
          unfold ctZ at HZ
          injection HZ with z1 z2 z3 z4 z5 z6 z7
          subst z1 z2 z3 z4 z5 z6 z7
          go_wp2
          go_ret
          exact ⟨rfl, B10.out⟩
        | true =>
          obtain ⟨u1, u2, u3, u4, u5⟩ := HU.out (by first | rfl | trivial) (by first | rfl | trivial)
          subst u1 u2 u3
          try simp only at u4 u5
          subst u5
          clear HT HU
          by_cases hle : xa ≤ pa
          · have dl : decide (xa ≤ pa) = true := decide_eq_true hle
            cases pns with
            | true =>
              go_wp2
              obtain ⟨k10, k11, k12, k13, k14, k15, k16⟩ := CtB.re R10.out
              simp only at k10 k11 k12 k13 k14 k15 k16
              obtain ⟨k20, k21, k22, k23, k24, k25, k26⟩ := CtB.re A10.out
              simp only at k20 k21 k22 k23 k24 k25 k26
              obtain ⟨k30, k31, k32, k33, k34, k35, k36⟩ := CtB.re D10.out
              simp only at k30 k31 k32 k33 k34 k35 k36
              obtain ⟨k40, k41, k42, k43, k44, k45, k46⟩ := CtB.re Y10.out
              simp only at k40 k41 k42 k43 k44 k45 k46
              have dA : ∀ q os, Calls Tryz.prog 10 #[.agg #[.int .i64 qa, .int .i64 qs, .int .i64 qt, .bool qns, .bool qnc, .bool qpr, .bool qmu], .agg #[.int .i64 pa, .int .i64 ps, .int .i64 pt, .bool true, .bool pnc, .bool ppr, .bool pmu]] (grow (redrawn wa q) os) fun e w'' => e = .returned (.agg #[.int .i64 xa, .int .i64 xs, .int .i64 xt, .bool true, .bool xnc, .bool xpr, .bool xmu]) ∧ ∃ p : Regrown, w'' = grow (redrawn wa p.d) p.os := fun q os => Calls.regrown_of (iTba _)
              have dB : ∀ q os, Calls Tryz.prog 10 #[.agg #[.int .i64 xa, .int .i64 xs, .int .i64 xt, .bool true, .bool xnc, .bool xpr, .bool xmu], .agg #[.int .i64 pa, .int .i64 ps, .int .i64 pt, .bool true, .bool pnc, .bool ppr, .bool pmu]] (grow (redrawn wa q) os) fun e w'' => e = .returned (.agg #[.int .i64 xa, .int .i64 xs, .int .i64 xt, .bool true, .bool xnc, .bool xpr, .bool xmu]) ∧ ∃ p : Regrown, w'' = grow (redrawn wa p.d) p.os := fun q os => Calls.regrown_of (iTx _)
              have dC : ∀ q os, Calls Tryz.prog 10 #[.agg #[.int .i64 pa, .int .i64 ps, .int .i64 pt, .bool true, .bool pnc, .bool ppr, .bool pmu], .agg #[.int .i64 pa, .int .i64 ps, .int .i64 pt, .bool true, .bool pnc, .bool ppr, .bool pmu]] (grow (redrawn wa q) os) fun e w'' => e = .returned (.agg #[.int .i64 pa, .int .i64 ps, .int .i64 pt, .bool true, .bool pnc, .bool ppr, .bool pmu]) ∧ ∃ p : Regrown, w'' = grow (redrawn wa p.d) p.os := fun q os => Calls.regrown_of (iTaa _)
              have dD : ∀ q os, Calls Tryz.prog 6 #[.agg #[.int .i64 ra, .int .i64 rs, .int .i64 rt, .bool rns, .bool rnc, .bool rpr, .bool rmu]] (grow (redrawn wa q) os) fun e w'' => e = .returned (.string S2) ∧ ∃ p : Regrown, w'' = grow (redrawn wa p.d) p.os := fun q os => Calls.regrown_of (iSr _ (past9w B10.out (below_regrown wa q os)))
              have dE : ∀ q os, Calls Tryz.prog 8 #[.string S2] (grow (redrawn wa q) os) fun e w'' => e = .returned (.agg #[.int .i64 ra, .int .i64 rs, .int .i64 rt, .bool rns, .bool rnc, .bool rpr, .bool rmu]) ∧ ∃ p : Regrown, w'' = grow (redrawn wa p.d) p.os := fun q os => Calls.regrown_of (iRr _ (past9w B10.out (below_regrown wa q os)))
              refine wp_region_quiet_below (by kernel_rfl) (by kernel_rfl) ?_
              repeat (go_big_quiet_step (first | (with_reducible exact dA _ _) | (with_reducible exact dB _ _) | (with_reducible exact dC _ _) | (with_reducible exact dD _ _) | (with_reducible exact dE _ _)))
              refine wpQuiet_nil ?_
              intro _ hw'
              obtain ⟨⟨dq, osq⟩, hw''⟩ := hw'
              subst hw''
              have BF : Hid (Below w.heap.size w (grow (redrawn wa dq) osq)) := past9w B10.out (below_regrown wa dq osq)
              generalize grow (redrawn wa dq) osq = wz at BF ⊢
              go_wp2
              go_ret
              exact ⟨rfl, BF.out⟩
            | false =>
              simp only [Bool.false_or] at Y10 iTba iTx
              cases qns with
              | true =>
                go_wp2
                obtain ⟨k10, k11, k12, k13, k14, k15, k16⟩ := CtB.re R10.out
                simp only at k10 k11 k12 k13 k14 k15 k16
                obtain ⟨k20, k21, k22, k23, k24, k25, k26⟩ := CtB.re A10.out
                simp only at k20 k21 k22 k23 k24 k25 k26
                obtain ⟨k30, k31, k32, k33, k34, k35, k36⟩ := CtB.re D10.out
                simp only at k30 k31 k32 k33 k34 k35 k36
                obtain ⟨k40, k41, k42, k43, k44, k45, k46⟩ := CtB.re Y10.out
                simp only at k40 k41 k42 k43 k44 k45 k46
                have dA : ∀ q os, Calls Tryz.prog 10 #[.agg #[.int .i64 qa, .int .i64 qs, .int .i64 qt, .bool true, .bool qnc, .bool qpr, .bool qmu], .agg #[.int .i64 pa, .int .i64 ps, .int .i64 pt, .bool false, .bool pnc, .bool ppr, .bool pmu]] (grow (redrawn wa q) os) fun e w'' => e = .returned (.agg #[.int .i64 xa, .int .i64 xs, .int .i64 xt, .bool true, .bool xnc, .bool xpr, .bool xmu]) ∧ ∃ p : Regrown, w'' = grow (redrawn wa p.d) p.os := fun q os => Calls.regrown_of (iTba _)
                have dB : ∀ q os, Calls Tryz.prog 10 #[.agg #[.int .i64 xa, .int .i64 xs, .int .i64 xt, .bool true, .bool xnc, .bool xpr, .bool xmu], .agg #[.int .i64 pa, .int .i64 ps, .int .i64 pt, .bool false, .bool pnc, .bool ppr, .bool pmu]] (grow (redrawn wa q) os) fun e w'' => e = .returned (.agg #[.int .i64 xa, .int .i64 xs, .int .i64 xt, .bool true, .bool xnc, .bool xpr, .bool xmu]) ∧ ∃ p : Regrown, w'' = grow (redrawn wa p.d) p.os := fun q os => Calls.regrown_of (iTx _)
                have dC : ∀ q os, Calls Tryz.prog 10 #[.agg #[.int .i64 pa, .int .i64 ps, .int .i64 pt, .bool false, .bool pnc, .bool ppr, .bool pmu], .agg #[.int .i64 pa, .int .i64 ps, .int .i64 pt, .bool false, .bool pnc, .bool ppr, .bool pmu]] (grow (redrawn wa q) os) fun e w'' => e = .returned (.agg #[.int .i64 pa, .int .i64 ps, .int .i64 pt, .bool false, .bool pnc, .bool ppr, .bool pmu]) ∧ ∃ p : Regrown, w'' = grow (redrawn wa p.d) p.os := fun q os => Calls.regrown_of (iTaa _)
                have dD : ∀ q os, Calls Tryz.prog 6 #[.agg #[.int .i64 ra, .int .i64 rs, .int .i64 rt, .bool rns, .bool rnc, .bool rpr, .bool rmu]] (grow (redrawn wa q) os) fun e w'' => e = .returned (.string S2) ∧ ∃ p : Regrown, w'' = grow (redrawn wa p.d) p.os := fun q os => Calls.regrown_of (iSr _ (past9w B10.out (below_regrown wa q os)))
                have dE : ∀ q os, Calls Tryz.prog 8 #[.string S2] (grow (redrawn wa q) os) fun e w'' => e = .returned (.agg #[.int .i64 ra, .int .i64 rs, .int .i64 rt, .bool rns, .bool rnc, .bool rpr, .bool rmu]) ∧ ∃ p : Regrown, w'' = grow (redrawn wa p.d) p.os := fun q os => Calls.regrown_of (iRr _ (past9w B10.out (below_regrown wa q os)))
                refine wp_region_quiet_below (by kernel_rfl) (by kernel_rfl) ?_
                repeat (go_big_quiet_step (first | (with_reducible exact dA _ _) | (with_reducible exact dB _ _) | (with_reducible exact dC _ _) | (with_reducible exact dD _ _) | (with_reducible exact dE _ _)))
                refine wpQuiet_nil ?_
                intro _ hw'
                obtain ⟨⟨dq, osq⟩, hw''⟩ := hw'
                subst hw''
                have BF : Hid (Below w.heap.size w (grow (redrawn wa dq) osq)) := past9w B10.out (below_regrown wa dq osq)
                generalize grow (redrawn wa dq) osq = wz at BF ⊢
                go_wp2
                go_ret
                exact ⟨rfl, BF.out⟩
              | false =>
                go_wp2
                obtain ⟨k10, k11, k12, k13, k14, k15, k16⟩ := CtB.re R10.out
                simp only at k10 k11 k12 k13 k14 k15 k16
                obtain ⟨k20, k21, k22, k23, k24, k25, k26⟩ := CtB.re A10.out
                simp only at k20 k21 k22 k23 k24 k25 k26
                obtain ⟨k30, k31, k32, k33, k34, k35, k36⟩ := CtB.re D10.out
                simp only at k30 k31 k32 k33 k34 k35 k36
                obtain ⟨k40, k41, k42, k43, k44, k45, k46⟩ := CtB.re Y10.out
                simp only at k40 k41 k42 k43 k44 k45 k46
                have dA : ∀ q os, Calls Tryz.prog 10 #[.agg #[.int .i64 qa, .int .i64 qs, .int .i64 qt, .bool false, .bool qnc, .bool qpr, .bool qmu], .agg #[.int .i64 pa, .int .i64 ps, .int .i64 pt, .bool false, .bool pnc, .bool ppr, .bool pmu]] (grow (redrawn wa q) os) fun e w'' => e = .returned (.agg #[.int .i64 xa, .int .i64 xs, .int .i64 xt, .bool false, .bool xnc, .bool xpr, .bool xmu]) ∧ ∃ p : Regrown, w'' = grow (redrawn wa p.d) p.os := fun q os => Calls.regrown_of (iTba _)
                have dB : ∀ q os, Calls Tryz.prog 10 #[.agg #[.int .i64 xa, .int .i64 xs, .int .i64 xt, .bool false, .bool xnc, .bool xpr, .bool xmu], .agg #[.int .i64 pa, .int .i64 ps, .int .i64 pt, .bool false, .bool pnc, .bool ppr, .bool pmu]] (grow (redrawn wa q) os) fun e w'' => e = .returned (.agg #[.int .i64 xa, .int .i64 xs, .int .i64 xt, .bool false, .bool xnc, .bool xpr, .bool xmu]) ∧ ∃ p : Regrown, w'' = grow (redrawn wa p.d) p.os := fun q os => Calls.regrown_of (iTx _)
                have dC : ∀ q os, Calls Tryz.prog 10 #[.agg #[.int .i64 pa, .int .i64 ps, .int .i64 pt, .bool false, .bool pnc, .bool ppr, .bool pmu], .agg #[.int .i64 pa, .int .i64 ps, .int .i64 pt, .bool false, .bool pnc, .bool ppr, .bool pmu]] (grow (redrawn wa q) os) fun e w'' => e = .returned (.agg #[.int .i64 pa, .int .i64 ps, .int .i64 pt, .bool false, .bool pnc, .bool ppr, .bool pmu]) ∧ ∃ p : Regrown, w'' = grow (redrawn wa p.d) p.os := fun q os => Calls.regrown_of (iTaa _)
                have dD : ∀ q os, Calls Tryz.prog 6 #[.agg #[.int .i64 ra, .int .i64 rs, .int .i64 rt, .bool rns, .bool rnc, .bool rpr, .bool rmu]] (grow (redrawn wa q) os) fun e w'' => e = .returned (.string S2) ∧ ∃ p : Regrown, w'' = grow (redrawn wa p.d) p.os := fun q os => Calls.regrown_of (iSr _ (past9w B10.out (below_regrown wa q os)))
                have dE : ∀ q os, Calls Tryz.prog 8 #[.string S2] (grow (redrawn wa q) os) fun e w'' => e = .returned (.agg #[.int .i64 ra, .int .i64 rs, .int .i64 rt, .bool rns, .bool rnc, .bool rpr, .bool rmu]) ∧ ∃ p : Regrown, w'' = grow (redrawn wa p.d) p.os := fun q os => Calls.regrown_of (iRr _ (past9w B10.out (below_regrown wa q os)))
                refine wp_region_quiet_below (by kernel_rfl) (by kernel_rfl) ?_
                repeat (go_big_quiet_step (first | (with_reducible exact dA _ _) | (with_reducible exact dB _ _) | (with_reducible exact dC _ _) | (with_reducible exact dD _ _) | (with_reducible exact dE _ _)))
                refine wpQuiet_nil ?_
                intro _ hw'
                obtain ⟨⟨dq, osq⟩, hw''⟩ := hw'
                subst hw''
                have BF : Hid (Below w.heap.size w (grow (redrawn wa dq) osq)) := past9w B10.out (below_regrown wa dq osq)
                generalize grow (redrawn wa dq) osq = wz at BF ⊢
                go_wp2
                go_ret
                exact ⟨rfl, BF.out⟩
          · have dl : decide (xa ≤ pa) = false := decide_eq_false hle
            have dl2 : decide (pa < 0) = true := decide_eq_true (by omega)
            cases pns with
            | true =>
              go_wp2
              obtain ⟨k10, k11, k12, k13, k14, k15, k16⟩ := CtB.re R10.out
              simp only at k10 k11 k12 k13 k14 k15 k16
              obtain ⟨k20, k21, k22, k23, k24, k25, k26⟩ := CtB.re A10.out
              simp only at k20 k21 k22 k23 k24 k25 k26
              obtain ⟨k30, k31, k32, k33, k34, k35, k36⟩ := CtB.re D10.out
              simp only at k30 k31 k32 k33 k34 k35 k36
              obtain ⟨k40, k41, k42, k43, k44, k45, k46⟩ := CtB.re Y10.out
              simp only at k40 k41 k42 k43 k44 k45 k46
              have dA : ∀ q os, Calls Tryz.prog 10 #[.agg #[.int .i64 qa, .int .i64 qs, .int .i64 qt, .bool qns, .bool qnc, .bool qpr, .bool qmu], .agg #[.int .i64 pa, .int .i64 ps, .int .i64 pt, .bool true, .bool pnc, .bool ppr, .bool pmu]] (grow (redrawn wa q) os) fun e w'' => e = .returned (.agg #[.int .i64 xa, .int .i64 xs, .int .i64 xt, .bool true, .bool xnc, .bool xpr, .bool xmu]) ∧ ∃ p : Regrown, w'' = grow (redrawn wa p.d) p.os := fun q os => Calls.regrown_of (iTba _)
              have dB : ∀ q os, Calls Tryz.prog 10 #[.agg #[.int .i64 xa, .int .i64 xs, .int .i64 xt, .bool true, .bool xnc, .bool xpr, .bool xmu], .agg #[.int .i64 pa, .int .i64 ps, .int .i64 pt, .bool true, .bool pnc, .bool ppr, .bool pmu]] (grow (redrawn wa q) os) fun e w'' => e = .returned (.agg #[.int .i64 xa, .int .i64 xs, .int .i64 xt, .bool true, .bool xnc, .bool xpr, .bool xmu]) ∧ ∃ p : Regrown, w'' = grow (redrawn wa p.d) p.os := fun q os => Calls.regrown_of (iTx _)
              have dC : ∀ q os, Calls Tryz.prog 10 #[.agg #[.int .i64 pa, .int .i64 ps, .int .i64 pt, .bool true, .bool pnc, .bool ppr, .bool pmu], .agg #[.int .i64 pa, .int .i64 ps, .int .i64 pt, .bool true, .bool pnc, .bool ppr, .bool pmu]] (grow (redrawn wa q) os) fun e w'' => e = .returned (.agg #[.int .i64 pa, .int .i64 ps, .int .i64 pt, .bool true, .bool pnc, .bool ppr, .bool pmu]) ∧ ∃ p : Regrown, w'' = grow (redrawn wa p.d) p.os := fun q os => Calls.regrown_of (iTaa _)
              have dD : ∀ q os, Calls Tryz.prog 6 #[.agg #[.int .i64 ra, .int .i64 rs, .int .i64 rt, .bool rns, .bool rnc, .bool rpr, .bool rmu]] (grow (redrawn wa q) os) fun e w'' => e = .returned (.string S2) ∧ ∃ p : Regrown, w'' = grow (redrawn wa p.d) p.os := fun q os => Calls.regrown_of (iSr _ (past9w B10.out (below_regrown wa q os)))
              have dE : ∀ q os, Calls Tryz.prog 8 #[.string S2] (grow (redrawn wa q) os) fun e w'' => e = .returned (.agg #[.int .i64 ra, .int .i64 rs, .int .i64 rt, .bool rns, .bool rnc, .bool rpr, .bool rmu]) ∧ ∃ p : Regrown, w'' = grow (redrawn wa p.d) p.os := fun q os => Calls.regrown_of (iRr _ (past9w B10.out (below_regrown wa q os)))
              refine wp_region_quiet_below (by kernel_rfl) (by kernel_rfl) ?_
              repeat (go_big_quiet_step (first | (with_reducible exact dA _ _) | (with_reducible exact dB _ _) | (with_reducible exact dC _ _) | (with_reducible exact dD _ _) | (with_reducible exact dE _ _)))
              refine wpQuiet_nil ?_
              intro _ hw'
              obtain ⟨⟨dq, osq⟩, hw''⟩ := hw'
              subst hw''
              have BF : Hid (Below w.heap.size w (grow (redrawn wa dq) osq)) := past9w B10.out (below_regrown wa dq osq)
              generalize grow (redrawn wa dq) osq = wz at BF ⊢
              go_wp2
              go_ret
              exact ⟨rfl, BF.out⟩
            | false =>
              simp only [Bool.false_or] at Y10 iTba iTx
              cases qns with
              | true =>
                go_wp2
                obtain ⟨k10, k11, k12, k13, k14, k15, k16⟩ := CtB.re R10.out
                simp only at k10 k11 k12 k13 k14 k15 k16
                obtain ⟨k20, k21, k22, k23, k24, k25, k26⟩ := CtB.re A10.out
                simp only at k20 k21 k22 k23 k24 k25 k26
                obtain ⟨k30, k31, k32, k33, k34, k35, k36⟩ := CtB.re D10.out
                simp only at k30 k31 k32 k33 k34 k35 k36
                obtain ⟨k40, k41, k42, k43, k44, k45, k46⟩ := CtB.re Y10.out
                simp only at k40 k41 k42 k43 k44 k45 k46
                have dA : ∀ q os, Calls Tryz.prog 10 #[.agg #[.int .i64 qa, .int .i64 qs, .int .i64 qt, .bool true, .bool qnc, .bool qpr, .bool qmu], .agg #[.int .i64 pa, .int .i64 ps, .int .i64 pt, .bool false, .bool pnc, .bool ppr, .bool pmu]] (grow (redrawn wa q) os) fun e w'' => e = .returned (.agg #[.int .i64 xa, .int .i64 xs, .int .i64 xt, .bool true, .bool xnc, .bool xpr, .bool xmu]) ∧ ∃ p : Regrown, w'' = grow (redrawn wa p.d) p.os := fun q os => Calls.regrown_of (iTba _)
                have dB : ∀ q os, Calls Tryz.prog 10 #[.agg #[.int .i64 xa, .int .i64 xs, .int .i64 xt, .bool true, .bool xnc, .bool xpr, .bool xmu], .agg #[.int .i64 pa, .int .i64 ps, .int .i64 pt, .bool false, .bool pnc, .bool ppr, .bool pmu]] (grow (redrawn wa q) os) fun e w'' => e = .returned (.agg #[.int .i64 xa, .int .i64 xs, .int .i64 xt, .bool true, .bool xnc, .bool xpr, .bool xmu]) ∧ ∃ p : Regrown, w'' = grow (redrawn wa p.d) p.os := fun q os => Calls.regrown_of (iTx _)
                have dC : ∀ q os, Calls Tryz.prog 10 #[.agg #[.int .i64 pa, .int .i64 ps, .int .i64 pt, .bool false, .bool pnc, .bool ppr, .bool pmu], .agg #[.int .i64 pa, .int .i64 ps, .int .i64 pt, .bool false, .bool pnc, .bool ppr, .bool pmu]] (grow (redrawn wa q) os) fun e w'' => e = .returned (.agg #[.int .i64 pa, .int .i64 ps, .int .i64 pt, .bool false, .bool pnc, .bool ppr, .bool pmu]) ∧ ∃ p : Regrown, w'' = grow (redrawn wa p.d) p.os := fun q os => Calls.regrown_of (iTaa _)
                have dD : ∀ q os, Calls Tryz.prog 6 #[.agg #[.int .i64 ra, .int .i64 rs, .int .i64 rt, .bool rns, .bool rnc, .bool rpr, .bool rmu]] (grow (redrawn wa q) os) fun e w'' => e = .returned (.string S2) ∧ ∃ p : Regrown, w'' = grow (redrawn wa p.d) p.os := fun q os => Calls.regrown_of (iSr _ (past9w B10.out (below_regrown wa q os)))
                have dE : ∀ q os, Calls Tryz.prog 8 #[.string S2] (grow (redrawn wa q) os) fun e w'' => e = .returned (.agg #[.int .i64 ra, .int .i64 rs, .int .i64 rt, .bool rns, .bool rnc, .bool rpr, .bool rmu]) ∧ ∃ p : Regrown, w'' = grow (redrawn wa p.d) p.os := fun q os => Calls.regrown_of (iRr _ (past9w B10.out (below_regrown wa q os)))
                refine wp_region_quiet_below (by kernel_rfl) (by kernel_rfl) ?_
                repeat (go_big_quiet_step (first | (with_reducible exact dA _ _) | (with_reducible exact dB _ _) | (with_reducible exact dC _ _) | (with_reducible exact dD _ _) | (with_reducible exact dE _ _)))
                refine wpQuiet_nil ?_
                intro _ hw'
                obtain ⟨⟨dq, osq⟩, hw''⟩ := hw'
                subst hw''
                have BF : Hid (Below w.heap.size w (grow (redrawn wa dq) osq)) := past9w B10.out (below_regrown wa dq osq)
                generalize grow (redrawn wa dq) osq = wz at BF ⊢
                go_wp2
                go_ret
                exact ⟨rfl, BF.out⟩
              | false =>
                go_wp2
                obtain ⟨k10, k11, k12, k13, k14, k15, k16⟩ := CtB.re R10.out
                simp only at k10 k11 k12 k13 k14 k15 k16
                obtain ⟨k20, k21, k22, k23, k24, k25, k26⟩ := CtB.re A10.out
                simp only at k20 k21 k22 k23 k24 k25 k26
                obtain ⟨k30, k31, k32, k33, k34, k35, k36⟩ := CtB.re D10.out
                simp only at k30 k31 k32 k33 k34 k35 k36
                obtain ⟨k40, k41, k42, k43, k44, k45, k46⟩ := CtB.re Y10.out
                simp only at k40 k41 k42 k43 k44 k45 k46
                have dA : ∀ q os, Calls Tryz.prog 10 #[.agg #[.int .i64 qa, .int .i64 qs, .int .i64 qt, .bool false, .bool qnc, .bool qpr, .bool qmu], .agg #[.int .i64 pa, .int .i64 ps, .int .i64 pt, .bool false, .bool pnc, .bool ppr, .bool pmu]] (grow (redrawn wa q) os) fun e w'' => e = .returned (.agg #[.int .i64 xa, .int .i64 xs, .int .i64 xt, .bool false, .bool xnc, .bool xpr, .bool xmu]) ∧ ∃ p : Regrown, w'' = grow (redrawn wa p.d) p.os := fun q os => Calls.regrown_of (iTba _)
                have dB : ∀ q os, Calls Tryz.prog 10 #[.agg #[.int .i64 xa, .int .i64 xs, .int .i64 xt, .bool false, .bool xnc, .bool xpr, .bool xmu], .agg #[.int .i64 pa, .int .i64 ps, .int .i64 pt, .bool false, .bool pnc, .bool ppr, .bool pmu]] (grow (redrawn wa q) os) fun e w'' => e = .returned (.agg #[.int .i64 xa, .int .i64 xs, .int .i64 xt, .bool false, .bool xnc, .bool xpr, .bool xmu]) ∧ ∃ p : Regrown, w'' = grow (redrawn wa p.d) p.os := fun q os => Calls.regrown_of (iTx _)
                have dC : ∀ q os, Calls Tryz.prog 10 #[.agg #[.int .i64 pa, .int .i64 ps, .int .i64 pt, .bool false, .bool pnc, .bool ppr, .bool pmu], .agg #[.int .i64 pa, .int .i64 ps, .int .i64 pt, .bool false, .bool pnc, .bool ppr, .bool pmu]] (grow (redrawn wa q) os) fun e w'' => e = .returned (.agg #[.int .i64 pa, .int .i64 ps, .int .i64 pt, .bool false, .bool pnc, .bool ppr, .bool pmu]) ∧ ∃ p : Regrown, w'' = grow (redrawn wa p.d) p.os := fun q os => Calls.regrown_of (iTaa _)
                have dD : ∀ q os, Calls Tryz.prog 6 #[.agg #[.int .i64 ra, .int .i64 rs, .int .i64 rt, .bool rns, .bool rnc, .bool rpr, .bool rmu]] (grow (redrawn wa q) os) fun e w'' => e = .returned (.string S2) ∧ ∃ p : Regrown, w'' = grow (redrawn wa p.d) p.os := fun q os => Calls.regrown_of (iSr _ (past9w B10.out (below_regrown wa q os)))
                have dE : ∀ q os, Calls Tryz.prog 8 #[.string S2] (grow (redrawn wa q) os) fun e w'' => e = .returned (.agg #[.int .i64 ra, .int .i64 rs, .int .i64 rt, .bool rns, .bool rnc, .bool rpr, .bool rmu]) ∧ ∃ p : Regrown, w'' = grow (redrawn wa p.d) p.os := fun q os => Calls.regrown_of (iRr _ (past9w B10.out (below_regrown wa q os)))
                refine wp_region_quiet_below (by kernel_rfl) (by kernel_rfl) ?_
                repeat (go_big_quiet_step (first | (with_reducible exact dA _ _) | (with_reducible exact dB _ _) | (with_reducible exact dC _ _) | (with_reducible exact dD _ _) | (with_reducible exact dE _ _)))
                refine wpQuiet_nil ?_
                intro _ hw'
                obtain ⟨⟨dq, osq⟩, hw''⟩ := hw'
                subst hw''
                have BF : Hid (Below w.heap.size w (grow (redrawn wa dq) osq)) := past9w B10.out (below_regrown wa dq osq)
                generalize grow (redrawn wa dq) osq = wz at BF ⊢
                go_wp2
                go_ret
                exact ⟨rfl, BF.out⟩
end Go.Proofs.YtccnkmffadmfhaaGreatDoor
