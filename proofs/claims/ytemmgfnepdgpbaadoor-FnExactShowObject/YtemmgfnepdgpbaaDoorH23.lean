/-
  The walk of FnExactShowObject, given what the program's ShowObject answers.
  What the listed table of powers of ten gives to the walks of the store.
  What the listed variables give to the walks of FnExactShowObject and FnExactRecord.
-/
import Derived.Test.YtemmgfnepdgpbaaDoorH22
import Derived.Test.YtemmgfnepdgpbaaDoorH20
import Derived.Deep.RegionWith
import Derived.Test.YtemmgfnepdgpbaaDoorH10
import Derived.ProofKit
import Derived.Lib.LaidU8
import Derived.MakeChecks
namespace Go.Proofs.YtemmgfnepdgpbaaDoor
open Go.RowKit Go.Sort St
set_option linter.unusedVariables false

set_option maxHeartbeats 8000000 in
theorem walkShO (X : World → Prop) (hX : ∀ w w', X w → Below w.heap.size w w' → X w')
    (hi : ∀ (o : Ob) (v u : Value) (w : World), X w → ObIn w v u o → Calls Tryd.prog 8 #[obV o v u] w fun e w' => e = .returned (.string (shwO o)) ∧ Below w.heap.size w w')
    (o : Ob) (v u : Value) (w : World) (h : ObGot w v u o) (hx : X w) :
    Calls Tryd.prog 3 #[obV o v u] w fun e w' => e = .returned (.bool true) ∧ Below w.heap.size w w' := by
  have hfs := h.1
  obtain ⟨va, vc, rfl, hcap⟩ := hfs
  clear hcap
  have hrs := h.2.2.2.1.1
  obtain ⟨ua, uc, rfl, hcap⟩ := hrs
  clear hcap
  have B0' : Below w.heap.size w (w.alloc (.cells #[.string o.k, .slice va o.l.length vc, .int .i64 o.r.s, .slice ua o.r.l.length uc, .string o.r.b, .int .i64 o.asked, .int .i64 o.got, .int .i64 o.ep] 26)) := (Below.refl _ w).alloc (Nat.le_refl _) _
  have hsz := lawSzOb o _ _ _ (h.kept B0')
  have F0 : Hid (TwoF (w.alloc (.cells #[.string o.k, .slice va o.l.length vc, .int .i64 o.r.s, .slice ua o.r.l.length uc, .string o.r.b, .int .i64 o.asked, .int .i64 o.got, .int .i64 o.ep] 26)) (.slice va o.l.length vc) (.slice ua o.r.l.length uc) o) := ⟨h.1.kept B0', h.2.2.2.1.1.kept B0'⟩
  have Q0 : Hid (ObB (w.alloc (.cells #[.string o.k, .slice va o.l.length vc, .int .i64 o.r.s, .slice ua o.r.l.length uc, .string o.r.b, .int .i64 o.asked, .int .i64 o.got, .int .i64 o.ep] 26)) w.heap.size o (.slice va o.l.length vc) (.slice ua o.r.l.length uc)) := ObB.new w o _ _ _
  have B0 : Hid (Below w.heap.size w (w.alloc (.cells #[.string o.k, .slice va o.l.length vc, .int .i64 o.r.s, .slice ua o.r.l.length uc, .string o.r.b, .int .i64 o.asked, .int .i64 o.got, .int .i64 o.ep] 26))) := B0'
  have X0 : Hid (X (w.alloc (.cells #[.string o.k, .slice va o.l.length vc, .int .i64 o.r.s, .slice ua o.r.l.length uc, .string o.r.b, .int .i64 o.asked, .int .i64 o.got, .int .i64 o.ep] 26))) := hX _ _ hx B0'
  have HX : Hid (∀ w w', X w → Below w.heap.size w w' → X w') := hX
  clear h hx B0' hX
  unfold obV at hsz ⊢
  go_enter Tryd.func3, Tryd.ntmps3
  go_wp2_with fail
  refine hsz.mono ?_
  rintro e w1 ⟨⟨x, rfl, hx⟩, hb1⟩
  have Q1 : Hid (ObB w1 w.heap.size o (.slice va o.l.length vc) (.slice ua o.r.l.length uc)) := Q0.out.next hb1
  have B1 : Hid (Below w.heap.size w w1) := past6 B0.out hb1
  have F1 : Hid (TwoF w1 (.slice va o.l.length vc) (.slice ua o.r.l.length uc) o) := F0.out.kept hb1
  have X1 : Hid (X w1) := HX.out _ _ X0.out hb1
  clear Q0 B0 F0 X0 hb1 hsz
  rcases hx with rfl | ⟨hx0, hxs⟩
  · go_wp2
    go_ret
    exact ⟨rfl, B1.out⟩
  · have hxn : ¬ x < 0 := by omega
    have hlen : o.l.length ≤ 1048576 := by omega
    have hszl : szL o.l ≤ 1048576 := by omega
    have hlen2 : o.r.l.length ≤ 1048576 := by omega
    have hszl2 : szL o.r.l ≤ 1048576 := by omega
    have hk : o.k.size ≤ 1048576 := by omega
    have HI : Hid (∀ (W : World) (v u : Value) (B : Nat), OwnsF W B v o.l → OwnsF W B u o.r.l → ObIn W v u o) := fun W v u B h1 h2 => ⟨h1.fits10 hszl hlen, ⟨h2.fits10 hszl2 hlen2, by omega⟩, hk⟩
    have hto : Hid (∀ (W : World), TwoF W (.slice va o.l.length vc) (.slice ua o.r.l.length uc) o → Calls Tryd.prog 7 #[obV o (.slice va o.l.length vc) (.slice ua o.r.l.length uc)] W fun e w' => ∃ v2 u2, e = .returned (obV o v2 u2) ∧ OwnsF w' W.heap.size v2 o.l ∧ OwnsF w' W.heap.size u2 o.r.l ∧ (∀ g, v2.ownBlock = some g → u2.ownBlock ≠ some g) ∧ Below W.heap.size W w') := fun W F => lawToOb o _ _ W F.1 F.2 hlen hlen2
    have hsp : Hid (∀ (W : World) (v u : Value), ObIn W v u o → Calls Tryd.prog 6 #[obV o v u] W fun e w' => e = .returned (.string (shwO o)) ∧ Below W.heap.size W w') := fun W v u F => specShO o v u W F
    have him : Hid (∀ (W : World) (v u : Value), X W → ObIn W v u o → Calls Tryd.prog 8 #[obV o v u] W fun e w' => e = .returned (.string (shwO o)) ∧ Below W.heap.size W w') := fun W v u x F => hi o v u W x F 
    have heq : Hid (∀ (W : World) (v u v' u' : Value), TwoF W v u o → TwoF W v' u' o → Calls Tryd.prog 9 #[obV o v u, obV o v' u'] W fun e w' => e = .returned (.bool true) ∧ Below W.heap.size W w') := fun W v u v' u' F F' => lawEqOb o v v' u u' W F.1 F'.1 F.2 F'.2 hlen hlen2 hk
    generalize shwO o = ans at hsp him
    have dT : (ans.toList != ans.toList) = false := by simp
    unfold obV at hto hsp him heq
    clear hx0 hxs hi 
    have a0 := Q1.out.c0
    have a1 := Q1.out.c1
    have a2 := Q1.out.c2
    have a3 := Q1.out.c3
    have a4 := Q1.out.c4
    have a5 := Q1.out.c5
    have a6 := Q1.out.c6
    have a7 := Q1.out.c7
    go_wp2_with fail
    refine (hto.out _ F1.out).mono ?_
    rintro e w2 ⟨v2, u2, rfl, ho2, hp2, _, hb2⟩
    have I2' := HI.out _ _ _ _ ho2 hp2
    obtain ⟨A2, c2, rfl, _⟩ := ho2.form
    obtain ⟨E2, d2, rfl, _⟩ := hp2.form
    have I2 : Hid (ObIn w2 (.slice A2 o.l.length c2) (.slice E2 o.r.l.length d2) o) := I2'
    have Q2 : Hid (ObB w2 w.heap.size o (.slice va o.l.length vc) (.slice ua o.r.l.length uc)) := Q1.out.next hb2
    have B2 : Hid (Below w.heap.size w w2) := past6 B1.out hb2
    have F2 : Hid (TwoF w2 (.slice va o.l.length vc) (.slice ua o.r.l.length uc) o) := F1.out.kept hb2
    have X2 : Hid (X w2) := HX.out _ _ X1.out hb2
    clear a0 a1 a2 a3 a4 a5 a6 a7 Q1 B1 F1 X1 hb2 ho2 hp2 I2'
    go_wp2_with fail
    refine (hsp.out _ _ _ I2.out).mono ?_
    rintro e w3 ⟨rfl, hb3⟩
    have Q3 : Hid (ObB w3 w.heap.size o (.slice va o.l.length vc) (.slice ua o.r.l.length uc)) := Q2.out.next hb3
    have B3 : Hid (Below w.heap.size w w3) := past6 B2.out hb3
    have F3 : Hid (TwoF w3 (.slice va o.l.length vc) (.slice ua o.r.l.length uc) o) := F2.out.kept hb3
    have X3 : Hid (X w3) := HX.out _ _ X2.out hb3
    clear Q2 B2 F2 X2 hb3 I2 hsp
    have a0 := Q3.out.c0
    have a1 := Q3.out.c1
    have a2 := Q3.out.c2
    have a3 := Q3.out.c3
    have a4 := Q3.out.c4
    have a5 := Q3.out.c5
    have a6 := Q3.out.c6
    have a7 := Q3.out.c7
    go_wp2_with fail
    refine (hto.out _ F3.out).mono ?_
    rintro e w4 ⟨v4, u4, rfl, ho4, hp4, _, hb4⟩
    have I4' := HI.out _ _ _ _ (ho4.alloc (.cells #[.string o.k, v4, .int .i64 o.r.s, u4, .string o.r.b, .int .i64 o.asked, .int .i64 o.got, .int .i64 o.ep] 33)) (hp4.alloc (.cells #[.string o.k, v4, .int .i64 o.r.s, u4, .string o.r.b, .int .i64 o.asked, .int .i64 o.got, .int .i64 o.ep] 33))
    have G4' : TwoF (w4.alloc (.cells #[.string o.k, v4, .int .i64 o.r.s, u4, .string o.r.b, .int .i64 o.asked, .int .i64 o.got, .int .i64 o.ep] 33)) v4 u4 o := ⟨(ho4.alloc (.cells #[.string o.k, v4, .int .i64 o.r.s, u4, .string o.r.b, .int .i64 o.asked, .int .i64 o.got, .int .i64 o.ep] 33)).fls, (hp4.alloc (.cells #[.string o.k, v4, .int .i64 o.r.s, u4, .string o.r.b, .int .i64 o.asked, .int .i64 o.got, .int .i64 o.ep] 33)).fls⟩
    obtain ⟨A4, c4, rfl, _⟩ := ho4.form
    obtain ⟨E4, d4, rfl, _⟩ := hp4.form
    have I4 : Hid (ObIn (w4.alloc (.cells #[.string o.k, .slice A4 o.l.length c4, .int .i64 o.r.s, .slice E4 o.r.l.length d4, .string o.r.b, .int .i64 o.asked, .int .i64 o.got, .int .i64 o.ep] 33)) (.slice A4 o.l.length c4) (.slice E4 o.r.l.length d4) o) := I4'
    have G4 : Hid (TwoF (w4.alloc (.cells #[.string o.k, .slice A4 o.l.length c4, .int .i64 o.r.s, .slice E4 o.r.l.length d4, .string o.r.b, .int .i64 o.asked, .int .i64 o.got, .int .i64 o.ep] 33)) (.slice A4 o.l.length c4) (.slice E4 o.r.l.length d4) o) := G4'
    have Q4 : Hid (ObB (w4.alloc (.cells #[.string o.k, .slice A4 o.l.length c4, .int .i64 o.r.s, .slice E4 o.r.l.length d4, .string o.r.b, .int .i64 o.asked, .int .i64 o.got, .int .i64 o.ep] 33)) w.heap.size o (.slice va o.l.length vc) (.slice ua o.r.l.length uc)) := (Q3.out.next hb4).alloc _
    have P4 : Hid (ObB (w4.alloc (.cells #[.string o.k, .slice A4 o.l.length c4, .int .i64 o.r.s, .slice E4 o.r.l.length d4, .string o.r.b, .int .i64 o.asked, .int .i64 o.got, .int .i64 o.ep] 33)) w4.heap.size o (.slice A4 o.l.length c4) (.slice E4 o.r.l.length d4)) := ObB.new w4 o _ _ _
    have B4 : Hid (Below w.heap.size w (w4.alloc (.cells #[.string o.k, .slice A4 o.l.length c4, .int .i64 o.r.s, .slice E4 o.r.l.length d4, .string o.r.b, .int .i64 o.asked, .int .i64 o.got, .int .i64 o.ep] 33))) := (past6 B3.out hb4).alloc (past6 B3.out hb4).size _
    have F4 : Hid (TwoF (w4.alloc (.cells #[.string o.k, .slice A4 o.l.length c4, .int .i64 o.r.s, .slice E4 o.r.l.length d4, .string o.r.b, .int .i64 o.asked, .int .i64 o.got, .int .i64 o.ep] 33)) (.slice va o.l.length vc) (.slice ua o.r.l.length uc) o) := (F3.out.kept hb4).kept ((Below.refl _ w4).alloc (Nat.le_refl _) _)
    have X4 : Hid (X (w4.alloc (.cells #[.string o.k, .slice A4 o.l.length c4, .int .i64 o.r.s, .slice E4 o.r.l.length d4, .string o.r.b, .int .i64 o.asked, .int .i64 o.got, .int .i64 o.ep] 33))) := HX.out _ _ (HX.out _ _ X3.out hb4) ((Below.refl _ w4).alloc (Nat.le_refl _) _)
    clear a0 a1 a2 a3 a4 a5 a6 a7 Q3 B3 F3 X3 hb4 ho4 hp4 I4' G4'
    go_wp2_with fail
    refine (him.out _ _ _ X4.out I4.out).mono ?_
    rintro e w5 ⟨rfl, hb5⟩
    have Q5 : Hid (ObB w5 w.heap.size o (.slice va o.l.length vc) (.slice ua o.r.l.length uc)) := Q4.out.next hb5
    have P5 : Hid (ObB w5 w4.heap.size o (.slice A4 o.l.length c4) (.slice E4 o.r.l.length d4)) := P4.out.next hb5
    have B5 : Hid (Below w.heap.size w w5) := past6 B4.out hb5
    have F5' : TwoF w5 (.slice va o.l.length vc) (.slice ua o.r.l.length uc) o := F4.out.kept hb5
    have F5 : Hid (TwoF w5.drew (.slice va o.l.length vc) (.slice ua o.r.l.length uc) o) := F5'
    have G5' : TwoF w5 (.slice A4 o.l.length c4) (.slice E4 o.r.l.length d4) o := G4.out.kept hb5
    have G5 : Hid (TwoF w5.drew (.slice A4 o.l.length c4) (.slice E4 o.r.l.length d4) o) := G5'
    clear Q4 P4 B4 F4 G4 X4 hb5 I4 him F5' G5'
    have a0 := Q5.out.c0
    have a1 := Q5.out.c1
    have a2 := Q5.out.c2
    have a3 := Q5.out.c3
    have a4 := Q5.out.c4
    have a5 := Q5.out.c5
    have a6 := Q5.out.c6
    have a7 := Q5.out.c7
    have p0 := P5.out.c0
    have p1 := P5.out.c1
    have p2 := P5.out.c2
    have p3 := P5.out.c3
    have p4 := P5.out.c4
    have p5 := P5.out.c5
    have p6 := P5.out.c6
    have p7 := P5.out.c7
    go_wp2
    go_region_with (first
      | (go_at_call 7; refine (hto.out _ F5.out).mono ?_; rintro e w6 ⟨v6, u6, rfl, ho6, hp6, _, hb6⟩; have G6' : TwoF w6 v6 u6 o := ⟨ho6.fls, hp6.fls⟩; obtain ⟨A6, c6, rfl, _⟩ := ho6.form; obtain ⟨E6, d6, rfl, _⟩ := hp6.form; have G6 : Hid (TwoF w6 (.slice A6 o.l.length c6) (.slice E6 o.r.l.length d6) o) := G6'; have H6 : Hid (TwoF w6 (.slice A4 o.l.length c4) (.slice E4 o.r.l.length d4) o) := G5.out.kept hb6; have hb6' : Below w5.heap.size w5 w6 := ⟨hb6.os, hb6.tape, hb6.output, hb6.size, hb6.block⟩; have B6 : Hid (Below w.heap.size w w6) := past6 B5.out hb6'; have P6 : Hid (ObB w6 w4.heap.size o (.slice A4 o.l.length c4) (.slice E4 o.r.l.length d4)) := P5.out.next hb6'; have q0 := P6.out.c0; have q1 := P6.out.c1; have q2 := P6.out.c2; have q3 := P6.out.c3; have q4 := P6.out.c4; have q5 := P6.out.c5; have q6 := P6.out.c6; have q7 := P6.out.c7; clear hb6 hb6' ho6 hp6 G6')
      | (go_at_call 9; refine (heq.out _ _ _ _ _ H6.out G6.out).mono ?_; rintro e w7 ⟨rfl, hb7⟩))
    all_goals
      go_wp2
      go_ret
      exact ⟨rfl, past6 B6.out hb7⟩
end Go.Proofs.YtemmgfnepdgpbaaDoor
namespace Go.Proofs.YtemmgfnepdgpbaaDoor
open Go

theorem gPowTypeS : (Tryd.prog.globals[0]?).map (·.type) = some 95 := by kernel_rfl
theorem underPAS : Tryd.prog.underlying 95 = some (.array 20 82) := by kernel_rfl
theorem underPUS : Tryd.prog.underlying 82 = some (.int .u64) := by kernel_rfl
theorem cellsPAS : Tryd.prog.cellsOf 95 = 20 := by kernel_rfl
theorem cellsPUS : Tryd.prog.cellsOf 82 = 1 := by kernel_rfl
theorem powS_is : (Rows.laid_internal_strconv_uint64pow10 : DataW Unit) = Lib.tabData .u64 Lib.pow10Tab := rfl
theorem powS_reads {W : World} (h : Lib.VarReads Tryd.prog W "internal/strconv.uint64pow10" Rows.laid_internal_strconv_uint64pow10) : TabS W := by
  obtain ⟨g, t, cs, fuel, p, hg, ht, hv, hd⟩ := h
  obtain rfl := Option.some.inj (gPowS.symm.trans hg)
  obtain rfl := Option.some.inj (gPowTypeS.symm.trans ht)
  rw [powS_is] at hd
  unfold TabS Lib.TabIs
  rw [hv, ← Lib.cells_of_tab underPAS underPUS cellsPUS cellsPAS hd]
end Go.Proofs.YtemmgfnepdgpbaaDoor
namespace Go.Proofs.YtemmgfnepdgpbaaDoor
open Go

theorem showObject_laid {W : World} (h : laidMetH Tryd.prog Rows.fnExactShowObjectRow.laid W) : TabS W := by
  rw [MakeChecks.laidMetH_plain _ _ _ (by kernel_rfl)] at h
  exact powS_reads (Lib.laidMet.reads h (.tail _ (.tail _ (.head _))))
end Go.Proofs.YtemmgfnepdgpbaaDoor
