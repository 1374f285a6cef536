/-
  The specification's ShowObject by its contract.
  A block of cells of one's own: what lies in it, and for how long.
  The program's ShowObject, by its contract.
-/
import Derived.Test.YtemmgfnepdgpbaaDoorH10
import Derived.Test.YtemmgfnepdgpbaaDoorH18
import Derived.Test.YtemmgfnepdgpbaaDoorH19
import Derived.Lib.QuietBelow
import Derived.Test.YtemmgfnepdgpbaaDoorH11
namespace Go.Proofs.YtemmgfnepdgpbaaDoor
open Go.RowKit Go.Sort St
set_option linter.unusedVariables false
set_option linter.unusedSimpArgs false

theorem bytes_extG {a b : ByteArray} (h : a.data.toList = b.data.toList) : a = b := ByteArray.ext (Array.toList_inj.1 h)
/-- An object that came in, in a box of its own. -/
structure Og (w W : World) (o : Ob) (v u : Value) : Prop where
  low : Below w.heap.size w W
  ob : ObB W w.heap.size o v u
  inn : ObIn W v u o
theorem Og.kept {w W W' : World} {o : Ob} {v u : Value} (h : Og w W o v u) (hb : Below W.heap.size W W') : Og w W' o v u := ⟨h.low.trans (hb.mono h.low.size), h.ob.next hb, h.inn.kept hb⟩
theorem Og.new (w : World) (o : Ob) (v u : Value) (h : ObIn w v u o) : Og w (w.alloc (.cells #[.string o.k, v, .int .i64 o.r.s, u, .string o.r.b, .int .i64 o.asked, .int .i64 o.got, .int .i64 o.ep] 33)) o v u :=
  ⟨(Below.refl _ w).alloc (Nat.le_refl _) _, ObB.new w o v u 33, h.kept ((Below.refl _ w).alloc (Nat.le_refl _) _)⟩
theorem int_of {n : Int} (h0 : 0 ≤ n) (h1 : n ≤ 253402300799) (w : World) : Calls Tryd.prog 23 #[.int .i64 n] w fun e w' => e = .returned (.string (txtL (dd n))) ∧ Below w.heap.size w w' := by
  have := specIntZ n.toNat w (by omega)
  rw [show ((n.toNat : Nat) : Int) = n from by omega] at this
  exact this
theorem txt_sizG (l : List UInt8) : (txtL l).size = l.length := by show l.toArray.size = _; simp
theorem txt_lstG (l : List UInt8) : (txtL l).data.toList = l := by unfold txtL; simp
set_option maxRecDepth 100000 in
set_option maxHeartbeats 8000000 in
theorem specSh16 (o : Ob) (v u : Value) (w : World) (h : ObIn w v u o) (hok : obB o = true) :
    Calls Tryd.prog 15 #[obV o v u] w fun e w' => e = .returned (.string (txtL (shoL o))) ∧ Below w.heap.size w w' := by
  have hk := obOk hok
  have hfl := (fldsOk_parts hk.fl).1
  have hrl := (fldsOk_parts hk.rl).1
  have hst := hk.st
  have hbd := hk.bd
  have hep := hk.ep
  have iA := fun W => int_of hk.asked.1 hk.asked.2 W
  have iG := fun W => int_of hk.got.1 hk.got.2 W
  have iE := fun W => int_of hep.1 (by omega) W
  have i1 := fun W => int_of (n := (o.l.length : Int)) (by omega) (by omega) W
  have i2 := fun W => int_of (n := o.r.s) (by omega) (by omega) W
  have i3 := fun W => int_of (n := (o.r.l.length : Int)) (by omega) (by omega) W
  have i4 := fun W => int_of (n := (o.r.b.size : Int)) (by omega) (by omega) W
  have f1 := fun W (hW : Fits W v o.l) => specShowL v o.l W hW.1 hk.fl
  have f2 := fun W (hW : Fits W u o.r.l) => specShowL u o.r.l W hW.1 hk.rl
  have zA : (txtL (dd o.asked)).size ≤ 12 := by rw [txt_sizG]; exact dec_small15 hk.asked.2
  have zG : (txtL (dd o.got)).size ≤ 12 := by rw [txt_sizG]; exact dec_small15 hk.got.2
  have zE : (txtL (dd o.ep)).size ≤ 12 := by rw [txt_sizG]; exact dec_small15 (by omega)
  have z1 : (txtL (dd (o.l.length : Int))).size ≤ 12 := by rw [txt_sizG]; exact dec_small15 (by omega)
  have z2 : (txtL (dd o.r.s)).size ≤ 12 := by rw [txt_sizG]; exact dec_small15 (by omega)
  have z3 : (txtL (dd (o.r.l.length : Int))).size ≤ 12 := by rw [txt_sizG]; exact dec_small15 (by omega)
  have z4 : (txtL (dd (o.r.b.size : Int))).size ≤ 12 := by rw [txt_sizG]; exact dec_small15 (by omega)
  have zf1 : (⟨(showL o.l).toArray⟩ : ByteArray).size ≤ 14040 := by show (txtL _).size ≤ _; rw [txt_sizG]; exact showL_len hk.fl
  have zf2 : (⟨(showL o.r.l).toArray⟩ : ByteArray).size ≤ 14040 := by show (txtL _).size ≤ _; rw [txt_sizG]; exact showL_len hk.rl
  have zK := hk.ksz
  have HT : Hid (∀ K A G E N1 N2 N3 N4 F1 F2 B S1 S2 : ByteArray, K = o.k → A = txtL (dd o.asked) → G = txtL (dd o.got) → E = txtL (dd o.ep) → N1 = txtL (dd (o.l.length : Int)) → N2 = txtL (dd o.r.s) → N3 = txtL (dd (o.r.l.length : Int)) → N4 = txtL (dd (o.r.b.size : Int)) → F1 = ⟨(showL o.l).toArray⟩ → F2 = ⟨(showL o.r.l).toArray⟩ → B = o.r.b →
      S1 = (((((((K ++ (⟨#[10]⟩ : ByteArray)) ++ A) ++ (⟨#[32]⟩ : ByteArray)) ++ G) ++ (⟨#[32]⟩ : ByteArray)) ++ E) ++ (⟨#[10]⟩ : ByteArray)) → S2 = ((((((((S1 ++ N1) ++ (⟨#[32]⟩ : ByteArray)) ++ N2) ++ (⟨#[32]⟩ : ByteArray)) ++ N3) ++ (⟨#[32]⟩ : ByteArray)) ++ N4) ++ (⟨#[10]⟩ : ByteArray)) → ((((S2 ++ F1) ++ F2) ++ B) ++ (⟨#[10]⟩ : ByteArray)) = txtL (shoL o)) := (show ∀ _, _ from by
    rintro K A G E N1 N2 N3 N4 F1 F2 B S1 S2 rfl rfl rfl rfl rfl rfl rfl rfl rfl rfl rfl rfl rfl
    apply bytes_extG
    rw [txt_lstG]
    unfold shoL hdL
    simp [txtL])
  obtain ⟨va, vc, rfl⟩ := h.1.form
  obtain ⟨ua, uc, rfl⟩ := h.2.1.1.form
  have P0 : Hid (Og w (w.alloc (.cells #[.string o.k, .slice va o.l.length vc, .int .i64 o.r.s, .slice ua o.r.l.length uc, .string o.r.b, .int .i64 o.asked, .int .i64 o.got, .int .i64 o.ep] 33)) o (.slice va o.l.length vc) (.slice ua o.r.l.length uc)) := (show Og w _ o _ _ from Og.new w o _ _ h)
  replace HT := HT.out o.k _ _ _ _ _ _ _ _ _ o.r.b _ _ rfl rfl rfl rfl rfl rfl rfl rfl rfl rfl rfl rfl rfl
  have HT2 : Hid (_ = txtL (shoL o)) := HT
  clear HT h hk hok hep
  generalize txtL (shoL o) = R at HT2 ⊢
  generalize txtL (dd o.asked) = A at iA zA HT2
  generalize txtL (dd o.got) = G at iG zG HT2
  generalize txtL (dd o.ep) = E at iE zE HT2
  generalize txtL (dd (o.l.length : Int)) = N1 at i1 z1 HT2
  generalize txtL (dd o.r.s) = N2 at i2 z2 HT2
  generalize txtL (dd (o.r.l.length : Int)) = N3 at i3 z3 HT2
  generalize txtL (dd (o.r.b.size : Int)) = N4 at i4 z4 HT2
  generalize (⟨(showL o.l).toArray⟩ : ByteArray) = F1 at f1 zf1 HT2
  generalize (⟨(showL o.r.l).toArray⟩ : ByteArray) = F2 at f2 zf2 HT2
  unfold obV
  go_enter Tryd.func15, Tryd.ntmps15
  go_wp2_with fail
  generalize w.alloc (.cells #[.string o.k, .slice va o.l.length vc, .int .i64 o.r.s, .slice ua o.r.l.length uc, .string o.r.b, .int .i64 o.asked, .int .i64 o.got, .int .i64 o.ep] 33) = wA at P0 ⊢
  have HT2K : Hid (∀ K, K = o.k → K.size ≤ 500) := (show ∀ _, _ from fun K h => by rw [h]; exact zK)
  have y0 : (o.k ++ (⟨#[10]⟩ : ByteArray)).size = o.k.size + 1 := by rw [ByteArray.size_append]; rfl
  have y1 : ((o.k ++ (⟨#[10]⟩ : ByteArray)) ++ A).size = o.k.size + 1 + A.size := by rw [ByteArray.size_append, y0]
  have y2 : (((o.k ++ (⟨#[10]⟩ : ByteArray)) ++ A) ++ (⟨#[32]⟩ : ByteArray)).size = o.k.size + 1 + A.size + 1 := by rw [ByteArray.size_append, y1]; rfl
  have y3 : ((((o.k ++ (⟨#[10]⟩ : ByteArray)) ++ A) ++ (⟨#[32]⟩ : ByteArray)) ++ G).size = o.k.size + 1 + A.size + 1 + G.size := by rw [ByteArray.size_append, y2]
  have y4 : (((((o.k ++ (⟨#[10]⟩ : ByteArray)) ++ A) ++ (⟨#[32]⟩ : ByteArray)) ++ G) ++ (⟨#[32]⟩ : ByteArray)).size = o.k.size + 1 + A.size + 1 + G.size + 1 := by rw [ByteArray.size_append, y3]; rfl
  have y5 : ((((((o.k ++ (⟨#[10]⟩ : ByteArray)) ++ A) ++ (⟨#[32]⟩ : ByteArray)) ++ G) ++ (⟨#[32]⟩ : ByteArray)) ++ E).size = o.k.size + 1 + A.size + 1 + G.size + 1 + E.size := by rw [ByteArray.size_append, y4]
  have y6 : (((((((o.k ++ (⟨#[10]⟩ : ByteArray)) ++ A) ++ (⟨#[32]⟩ : ByteArray)) ++ G) ++ (⟨#[32]⟩ : ByteArray)) ++ E) ++ (⟨#[10]⟩ : ByteArray)).size = o.k.size + 1 + A.size + 1 + G.size + 1 + E.size + 1 := by rw [ByteArray.size_append, y5]; rfl
  have k0 := cell_regrown P0.out.ob.c0
  have k5 := cell_regrown P0.out.ob.c5
  have k6 := cell_regrown P0.out.ob.c6
  have k7 := cell_regrown P0.out.ob.c7
  have jA : ∀ d os, Calls Tryd.prog 23 #[.int .i64 o.asked] (grow (redrawn wA d) os) fun e w'' => e = .returned (.string A) ∧ ∃ p : Regrown, w'' = grow (redrawn wA p.d) p.os := fun d os => Calls.regrown_of (iA _)
  have jG : ∀ d os, Calls Tryd.prog 23 #[.int .i64 o.got] (grow (redrawn wA d) os) fun e w'' => e = .returned (.string G) ∧ ∃ p : Regrown, w'' = grow (redrawn wA p.d) p.os := fun d os => Calls.regrown_of (iG _)
  have jE : ∀ d os, Calls Tryd.prog 23 #[.int .i64 o.ep] (grow (redrawn wA d) os) fun e w'' => e = .returned (.string E) ∧ ∃ p : Regrown, w'' = grow (redrawn wA p.d) p.os := fun d os => Calls.regrown_of (iE _)
  clear iA iG iE
  refine wp_region_quiet_below (by kernel_rfl) (by kernel_rfl) ?_
  repeat (go_big_quiet_step (first | (with_reducible exact jA _ _) | (with_reducible exact jG _ _) | (with_reducible exact jE _ _)))
  refine wpQuiet_nil ?_
  intro _ hw'
  obtain ⟨⟨dq, osq⟩, hw''⟩ := hw'
  subst hw''
  have P1 : Hid (Og w (grow (redrawn wA dq) osq) o (.slice va o.l.length vc) (.slice ua o.r.l.length uc)) := (show Og w _ o _ _ from P0.out.kept (below_regrown wA dq osq))
  clear P0 k0 k5 k6 k7 jA jG jE
  generalize grow (redrawn wA dq) osq = wB at P1 ⊢
  have hS1 : (((((((o.k ++ (⟨#[10]⟩ : ByteArray)) ++ A) ++ (⟨#[32]⟩ : ByteArray)) ++ G) ++ (⟨#[32]⟩ : ByteArray)) ++ E) ++ (⟨#[10]⟩ : ByteArray)).size ≤ 600 := by omega
  generalize (((((((o.k ++ (⟨#[10]⟩ : ByteArray)) ++ A) ++ (⟨#[32]⟩ : ByteArray)) ++ G) ++ (⟨#[32]⟩ : ByteArray)) ++ E) ++ (⟨#[10]⟩ : ByteArray)) = S1 at HT2 hS1 ⊢
  clear y0 y1 y2 y3 y4 y5 y6
  go_wp2_with fail
  have y0 : (S1 ++ N1).size = S1.size + N1.size := by rw [ByteArray.size_append]
  have y1 : ((S1 ++ N1) ++ (⟨#[32]⟩ : ByteArray)).size = S1.size + N1.size + 1 := by rw [ByteArray.size_append, y0]; rfl
  have y2 : (((S1 ++ N1) ++ (⟨#[32]⟩ : ByteArray)) ++ N2).size = S1.size + N1.size + 1 + N2.size := by rw [ByteArray.size_append, y1]
  have y3 : ((((S1 ++ N1) ++ (⟨#[32]⟩ : ByteArray)) ++ N2) ++ (⟨#[32]⟩ : ByteArray)).size = S1.size + N1.size + 1 + N2.size + 1 := by rw [ByteArray.size_append, y2]; rfl
  have y4 : (((((S1 ++ N1) ++ (⟨#[32]⟩ : ByteArray)) ++ N2) ++ (⟨#[32]⟩ : ByteArray)) ++ N3).size = S1.size + N1.size + 1 + N2.size + 1 + N3.size := by rw [ByteArray.size_append, y3]
  have y5 : ((((((S1 ++ N1) ++ (⟨#[32]⟩ : ByteArray)) ++ N2) ++ (⟨#[32]⟩ : ByteArray)) ++ N3) ++ (⟨#[32]⟩ : ByteArray)).size = S1.size + N1.size + 1 + N2.size + 1 + N3.size + 1 := by rw [ByteArray.size_append, y4]; rfl
  have y6 : (((((((S1 ++ N1) ++ (⟨#[32]⟩ : ByteArray)) ++ N2) ++ (⟨#[32]⟩ : ByteArray)) ++ N3) ++ (⟨#[32]⟩ : ByteArray)) ++ N4).size = S1.size + N1.size + 1 + N2.size + 1 + N3.size + 1 + N4.size := by rw [ByteArray.size_append, y5]
  have y7 : ((((((((S1 ++ N1) ++ (⟨#[32]⟩ : ByteArray)) ++ N2) ++ (⟨#[32]⟩ : ByteArray)) ++ N3) ++ (⟨#[32]⟩ : ByteArray)) ++ N4) ++ (⟨#[10]⟩ : ByteArray)).size = S1.size + N1.size + 1 + N2.size + 1 + N3.size + 1 + N4.size + 1 := by rw [ByteArray.size_append, y6]; rfl
  have k1 := cell_regrown P1.out.ob.c1
  have k2 := cell_regrown P1.out.ob.c2
  have k3 := cell_regrown P1.out.ob.c3
  have k4 := cell_regrown P1.out.ob.c4
  have j1 : ∀ d os, Calls Tryd.prog 23 #[.int .i64 (o.l.length : Int)] (grow (redrawn wB d) os) fun e w'' => e = .returned (.string N1) ∧ ∃ p : Regrown, w'' = grow (redrawn wB p.d) p.os := fun d os => Calls.regrown_of (i1 _)
  have j2 : ∀ d os, Calls Tryd.prog 23 #[.int .i64 o.r.s] (grow (redrawn wB d) os) fun e w'' => e = .returned (.string N2) ∧ ∃ p : Regrown, w'' = grow (redrawn wB p.d) p.os := fun d os => Calls.regrown_of (i2 _)
  have j3 : ∀ d os, Calls Tryd.prog 23 #[.int .i64 (o.r.l.length : Int)] (grow (redrawn wB d) os) fun e w'' => e = .returned (.string N3) ∧ ∃ p : Regrown, w'' = grow (redrawn wB p.d) p.os := fun d os => Calls.regrown_of (i3 _)
  have j4 : ∀ d os, Calls Tryd.prog 23 #[.int .i64 (o.r.b.size : Int)] (grow (redrawn wB d) os) fun e w'' => e = .returned (.string N4) ∧ ∃ p : Regrown, w'' = grow (redrawn wB p.d) p.os := fun d os => Calls.regrown_of (i4 _)
  clear i1 i2 i3 i4
  refine wp_region_quiet_below (by kernel_rfl) (by kernel_rfl) ?_
  repeat (go_big_quiet_step (first | (with_reducible exact j1 _ _) | (with_reducible exact j2 _ _) | (with_reducible exact j3 _ _) | (with_reducible exact j4 _ _)))
  refine wpQuiet_nil ?_
  intro _ hw'
  obtain ⟨⟨dq2, osq2⟩, hw''⟩ := hw'
  subst hw''
  have P2 : Hid (Og w (grow (redrawn wB dq2) osq2) o (.slice va o.l.length vc) (.slice ua o.r.l.length uc)) := (show Og w _ o _ _ from P1.out.kept (below_regrown wB dq2 osq2))
  clear P1 k1 k2 k3 k4 j1 j2 j3 j4
  generalize grow (redrawn wB dq2) osq2 = wC at P2 ⊢
  have hS2 : ((((((((S1 ++ N1) ++ (⟨#[32]⟩ : ByteArray)) ++ N2) ++ (⟨#[32]⟩ : ByteArray)) ++ N3) ++ (⟨#[32]⟩ : ByteArray)) ++ N4) ++ (⟨#[10]⟩ : ByteArray)).size ≤ 700 := by omega
  generalize ((((((((S1 ++ N1) ++ (⟨#[32]⟩ : ByteArray)) ++ N2) ++ (⟨#[32]⟩ : ByteArray)) ++ N3) ++ (⟨#[32]⟩ : ByteArray)) ++ N4) ++ (⟨#[10]⟩ : ByteArray)) = S2 at HT2 hS2 ⊢
  clear y0 y1 y2 y3 y4 y5 y6 y7
  go_wp2_with fail
  have y0 : (S2 ++ F1).size = S2.size + F1.size := by rw [ByteArray.size_append]
  have y1 : ((S2 ++ F1) ++ F2).size = S2.size + F1.size + F2.size := by rw [ByteArray.size_append, y0]
  have y2 : (((S2 ++ F1) ++ F2) ++ o.r.b).size = S2.size + F1.size + F2.size + o.r.b.size := by rw [ByteArray.size_append, y1]
  have y3 : ((((S2 ++ F1) ++ F2) ++ o.r.b) ++ (⟨#[10]⟩ : ByteArray)).size = S2.size + F1.size + F2.size + o.r.b.size + 1 := by rw [ByteArray.size_append, y2]; rfl
  have k1 := cell_regrown P2.out.ob.c1
  have k3 := cell_regrown P2.out.ob.c3
  have k4 := cell_regrown P2.out.ob.c4
  have g1 : ∀ d os, Calls Tryd.prog 32 #[.slice va o.l.length vc] (grow (redrawn wC d) os) fun e w'' => e = .returned (.string F1) ∧ ∃ p : Regrown, w'' = grow (redrawn wC p.d) p.os := fun d os => Calls.regrown_of (f1 _ (P2.out.inn.1.kept (below_regrown wC d os)))
  have g2 : ∀ d os, Calls Tryd.prog 32 #[.slice ua o.r.l.length uc] (grow (redrawn wC d) os) fun e w'' => e = .returned (.string F2) ∧ ∃ p : Regrown, w'' = grow (redrawn wC p.d) p.os := fun d os => Calls.regrown_of (f2 _ (P2.out.inn.2.1.1.kept (below_regrown wC d os)))
  clear f1 f2
  refine wp_region_quiet_below (by kernel_rfl) (by kernel_rfl) ?_
  repeat (go_big_quiet_step (first | (with_reducible exact g1 _ _) | (with_reducible exact g2 _ _)))
  refine wpQuiet_nil ?_
  intro _ hw'
  obtain ⟨⟨dq3, osq3⟩, hw''⟩ := hw'
  subst hw''
  have B3 : Hid (Below w.heap.size w (grow (redrawn wC dq3) osq3)) := (show Below _ _ _ from past6 P2.out.low (below_regrown wC dq3 osq3))
  clear P2 k1 k3 k4 g1 g2
  go_wp2
  go_ret
  exact ⟨by rw [← HT2.out]; rfl, B3.out⟩
set_option maxHeartbeats 2000000 in
theorem specShO (o : Ob) (v u : Value) (w : World) (h : ObIn w v u o) :
    Calls Tryd.prog 6 #[obV o v u] w fun e w' => e = .returned (.string (shwO o)) ∧ Below w.heap.size w w' := by
  have j1 := fun W hW => specObOk o v u W hW
  have j2 := fun (hok : obB o = true) W hW => specSh16 o v u W hW hok
  have HR : Hid (shwO o = if obB o = true then txtL (shoL o) else ⟨#[]⟩) := rfl
  obtain ⟨va, vc, rfl⟩ := h.1.form
  obtain ⟨ua, uc, rfl⟩ := h.2.1.1.form
  have P0 : Hid (Og w (w.alloc (.cells #[.string o.k, .slice va o.l.length vc, .int .i64 o.r.s, .slice ua o.r.l.length uc, .string o.r.b, .int .i64 o.asked, .int .i64 o.got, .int .i64 o.ep] 33)) o (.slice va o.l.length vc) (.slice ua o.r.l.length uc)) := (show Og w _ o _ _ from Og.new w o _ _ h)
  generalize shwO o = R at HR ⊢
  generalize txtL (shoL o) = T at HR j2
  clear h
  unfold obV at *
  go_enter Tryd.func6, Tryd.ntmps6
  generalize hwA : w.alloc (.cells #[.string o.k, .slice va o.l.length vc, .int .i64 o.r.s, .slice ua o.r.l.length uc, .string o.r.b, .int .i64 o.asked, .int .i64 o.got, .int .i64 o.ep] 33) = wA at P0
  obtain ⟨q0, q1, q2, q3, q4, q5, q6, q7, qf, qh⟩ := P0.out.ob
  go_wp2_with fail
  refine (j1 _ P0.out.inn).mono ?_
  rintro e w1 ⟨rfl, hb1⟩
  have P1 : Hid (Og w w1 o (.slice va o.l.length vc) (.slice ua o.r.l.length uc)) := (show Og w _ o _ _ from P0.out.kept hb1)
  clear P0 hb1 q0 q1 q2 q3 q4 q5 q6 q7 qf qh hwA j1
  cases hB : obB o with
  | false =>
    have HE : Hid (R = ⟨#[]⟩) := by show _ = _; rw [HR.out, hB]; rfl
    clear HR j2 hB
    go_wp2
    go_ret
    exact ⟨by rw [HE.out]; rfl, P1.out.low⟩
  | true =>
    have HE : Hid (R = T) := by show _ = _; rw [HR.out, if_pos hB]
    have j2 := j2 hB
    obtain ⟨q0, q1, q2, q3, q4, q5, q6, q7, qf, qh⟩ := P1.out.ob
    clear HR hB
    go_wp2_with fail
    refine (j2 _ P1.out.inn).mono ?_
    rintro e w2 ⟨rfl, hb2⟩
    have B2 : Hid (Below w.heap.size w w2) := (show Below _ _ _ from past6 P1.out.low hb2)
    clear hb2 P1 q0 q1 q2 q3 q4 q5 q6 q7 qf qh
    go_wp2
    go_ret
    exact ⟨by rw [HE.out]; rfl, B2.out⟩
end Go.Proofs.YtemmgfnepdgpbaaDoor
namespace Go.Proofs.YtemmgfnepdgpbaaDoor
open Go.RowKit
set_option linter.unusedVariables false

/-- The block b holds just these cells, and may be written. -/
def Bx (W : World) (b : Nat) (ty : TypeId) (vs : Array Value) : Prop := W.heap[b]? = some (.cells vs ty (0, 0))
theorem Bx.new (W : World) (ty : TypeId) (vs : Array Value) : Bx (W.alloc (.cells vs ty)) W.heap.size ty vs := by
  show (W.heap.push _)[W.heap.size]? = _
  simp
theorem Bx.cell {W : World} {b : Nat} {ty : TypeId} {vs : Array Value} (h : Bx W b ty vs) (i : Nat) : W.cell? ⟨b, i, none⟩ = vs[i]? := by
  have h : W.heap[b]? = some (.cells vs ty (0, 0)) := h
  simp [World.cell?, h]
theorem Bx.free {W : World} {b : Nat} {ty : TypeId} {vs : Array Value} (h : Bx W b ty vs) (i : Nat) : W.frozen? ⟨b, i, none⟩ = false := by
  have h : W.heap[b]? = some (.cells vs ty (0, 0)) := h
  simp [World.frozen?, h]
theorem Bx.lt {W : World} {b : Nat} {ty : TypeId} {vs : Array Value} (h : Bx W b ty vs) : b < W.heap.size := (Array.getElem?_eq_some_iff.1 h).1
theorem Bx.low {W W' : World} {b B : Nat} {ty : TypeId} {vs : Array Value} (h : Bx W b ty vs) (hb : Below B W W') (hB : b < B) : Bx W' b ty vs := (hb.block b hB).trans h
theorem Bx.kept {W W' : World} {b : Nat} {ty : TypeId} {vs : Array Value} (h : Bx W b ty vs) (hb : Below W.heap.size W W') : Bx W' b ty vs := h.low hb h.lt
theorem Bx.grown {W W' : World} {b : Nat} {ty : TypeId} {vs : Array Value} {r : Option Nat} (h : Bx W b ty vs) (hg : W.grownBy W' r) (hr : r ≠ some b) : Bx W' b ty vs := (hg.block b h.lt fun e => hr e.symm).trans h
theorem Bx.put {W : World} {b : Nat} {ty : TypeId} {vs : Array Value} (h : Bx W b ty vs) (i : Nat) (v : Value) : Bx (W.setCell ⟨b, i, none⟩ v) b ty (vs.setIfInBounds i v) := heap_setCell_same W b i _ _ v h
theorem Bx.alloc {W : World} {b : Nat} {ty : TypeId} {vs : Array Value} (h : Bx W b ty vs) (o : Obj) : Bx (W.alloc o) b ty vs := h.kept ((Below.refl _ W).alloc (Nat.le_refl _) _)
theorem Bx.drew {W : World} {b : Nat} {ty : TypeId} {vs : Array Value} (h : Bx W b ty vs) : Bx W.drew b ty vs := h
end Go.Proofs.YtemmgfnepdgpbaaDoor
namespace Go.Proofs.YtemmgfnepdgpbaaDoor
open Go.RowKit Go.Sort St
set_option linter.unusedVariables false
set_option linter.unusedSimpArgs false

theorem implShR3 (a b c : Int) (ha : few a) (hb : few b) (hc : few c) (W : World) (B : Nat) (hB : B = W.heap.size) (ht : TabS W) :
    Calls Tryd.prog 19 #[.slice (some ⟨B, 0, none⟩) 3 3] (W.alloc (.cells #[.int .i64 a, .int .i64 b, .int .i64 c] 2)) fun e w' => e = .returned (.string (txtL (rwL [a, b, c]))) ∧ Below W.heap.size W w' :=
  implShRn [a, b, c] (by simp) (by simp) (by simp [ha, hb, hc]) W B hB ht
theorem implShR4 (a b c d : Int) (ha : few a) (hb : few b) (hc : few c) (hd : few d) (W : World) (B : Nat) (hB : B = W.heap.size) (ht : TabS W) :
    Calls Tryd.prog 19 #[.slice (some ⟨B, 0, none⟩) 4 4] (W.alloc (.cells #[.int .i64 a, .int .i64 b, .int .i64 c, .int .i64 d] 2)) fun e w' => e = .returned (.string (txtL (rwL [a, b, c, d]))) ∧ Below W.heap.size W w' :=
  implShRn [a, b, c, d] (by simp) (by simp) (by simp [ha, hb, hc, hd]) W B hB ht
theorem rw_len3 {a b c : Int} (ha : few a) (hb : few b) (hc : few c) : (txtL (rwL [a, b, c])).size ≤ 48 := by
  have h1 := dd_len ha.2
  have h2 := dd_len hb.2
  have h3 := dd_len hc.2
  rw [txt_sizG, rw_3]
  simp
  omega
theorem rw_len4 {a b c d : Int} (ha : few a) (hb : few b) (hc : few c) (hd : few d) : (txtL (rwL [a, b, c, d])).size ≤ 64 := by
  have h1 := dd_len ha.2
  have h2 := dd_len hb.2
  have h3 := dd_len hc.2
  have h4 := dd_len hd.2
  rw [txt_sizG, rw_4]
  simp
  omega
set_option maxRecDepth 100000 in
set_option maxHeartbeats 8000000 in
theorem implShO (o : Ob) (v u : Value) (w : World) (h : ObIn w v u o) (ht : TabS w) :
    Calls Tryd.prog 8 #[obV o v u] w fun e w' => e = .returned (.string (shwO o)) ∧ Below w.heap.size w w' := by
  have j1 := fun W hW => implObOk o v u W hW
  have HR : Hid (shwO o = if obB o = true then txtL (shoL o) else ⟨#[]⟩) := rfl
  obtain ⟨va, vc, rfl⟩ := h.1.form
  obtain ⟨ua, uc, rfl⟩ := h.2.1.1.form
  have P0 : Hid (Og w (w.alloc (.cells #[.string o.k, .slice va o.l.length vc, .int .i64 o.r.s, .slice ua o.r.l.length uc, .string o.r.b, .int .i64 o.asked, .int .i64 o.got, .int .i64 o.ep] 33)) o (.slice va o.l.length vc) (.slice ua o.r.l.length uc)) := (show Og w _ o _ _ from Og.new w o _ _ h)
  have HT : Hid (TabS w) := ht
  generalize shwO o = R at HR ⊢
  clear h ht
  unfold obV at *
  cases hB : obB o with
  | false =>
    have HE : Hid (R = ⟨#[]⟩) := by show _ = _; rw [HR.out, hB]; rfl
    rw [hB] at j1
    clear HR HT hB
    go_enter Tryd.func8, Tryd.ntmps8
    generalize hwA : w.alloc (.cells #[.string o.k, .slice va o.l.length vc, .int .i64 o.r.s, .slice ua o.r.l.length uc, .string o.r.b, .int .i64 o.asked, .int .i64 o.got, .int .i64 o.ep] 33) = wA at P0
    obtain ⟨q0, q1, q2, q3, q4, q5, q6, q7, qf, qh⟩ := P0.out.ob
    go_wp2_with fail
    refine (j1 _ P0.out.inn).mono ?_
    rintro e w1 ⟨rfl, hb1⟩
    have B1 : Hid (Below w.heap.size w w1) := (show Below _ _ _ from past6 P0.out.low hb1)
    clear P0 hb1 q0 q1 q2 q3 q4 q5 q6 q7 qf qh hwA j1
    go_wp2
    go_ret
    exact ⟨by rw [HE.out]; rfl, B1.out⟩
  | true =>
    have hk := obOk hB
    have hfl := (fldsOk_parts hk.fl).1
    have hrl := (fldsOk_parts hk.rl).1
    have hst := hk.st
    have hbd := hk.bd
    have hep := hk.ep
    have zK := hk.ksz
    have wA' : few o.asked := few_of hk.asked (by decide)
    have wG' : few o.got := few_of hk.got (by decide)
    have wE' : few o.ep := few_of hk.ep (by decide)
    have w1' : few (o.l.length : Int) := ⟨by omega, by omega⟩
    have w2' : few o.r.s := ⟨by omega, by omega⟩
    have w3' : few (o.r.l.length : Int) := ⟨by omega, by omega⟩
    have w4' : few (o.r.b.size : Int) := ⟨by omega, by omega⟩
    have i3 := implShR3 o.asked o.got o.ep wA' wG' wE'
    have i4 := implShR4 (o.l.length : Int) o.r.s (o.r.l.length : Int) (o.r.b.size : Int) w1' w2' w3' w4'
    have z3 := rw_len3 wA' wG' wE'
    have z4 := rw_len4 w1' w2' w3' w4'
    have eF1 : showA o.l = txtL (showL o.l) := (showA_yes hk.fl).symm
    have eF2 : showA o.r.l = txtL (showL o.r.l) := (showA_yes hk.rl).symm
    have f1 := fun W (hW : Fits W (.slice va o.l.length vc) o.l) => implShow _ o.l W hW.1 hW.2.1
    have f2 := fun W (hW : Fits W (.slice ua o.r.l.length uc) o.r.l) => implShow _ o.r.l W hW.1 hW.2.1
    rw [eF1] at f1
    rw [eF2] at f2
    have zf1 : (txtL (showL o.l)).size ≤ 14040 := by rw [txt_sizG]; exact showL_len hk.fl
    have zf2 : (txtL (showL o.r.l)).size ≤ 14040 := by rw [txt_sizG]; exact showL_len hk.rl
    have HT2 : Hid (∀ S, S = (o.k ++ (⟨#[10]⟩ : ByteArray)) ++ txtL (rwL [o.asked, o.got, o.ep]) → ∀ S2, S2 = S ++ txtL (rwL [(o.l.length : Int), o.r.s, (o.r.l.length : Int), (o.r.b.size : Int)]) → (((S2 ++ txtL (showL o.l)) ++ txtL (showL o.r.l)) ++ o.r.b) ++ (⟨#[10]⟩ : ByteArray) = R) := (show ∀ _, _ from by
      rintro S rfl S2 rfl
      rw [HR.out, if_pos hB]
      apply bytes_extG
      rw [txt_lstG, rw_3, rw_4]
      unfold shoL hdL
      simp [txtL])
    replace HT2 := HT2.out _ rfl _ rfl
    have HT3 : Hid (_ = R) := HT2
    rw [hB] at j1
    clear HT2 HR hk hep hB wA' wG' wE' w1' w2' w3' w4' eF1 eF2
    generalize txtL (rwL [o.asked, o.got, o.ep]) = N3 at i3 z3 HT3
    generalize txtL (rwL [(o.l.length : Int), o.r.s, (o.r.l.length : Int), (o.r.b.size : Int)]) = N4 at i4 z4 HT3
    generalize txtL (showL o.l) = F1 at f1 zf1 HT3
    generalize txtL (showL o.r.l) = F2 at f2 zf2 HT3
    go_enter Tryd.func8, Tryd.ntmps8
    generalize hwA : w.alloc (.cells #[.string o.k, .slice va o.l.length vc, .int .i64 o.r.s, .slice ua o.r.l.length uc, .string o.r.b, .int .i64 o.asked, .int .i64 o.got, .int .i64 o.ep] 33) = wA at P0
    obtain ⟨q0, q1, q2, q3, q4, q5, q6, q7, qf, qh⟩ := P0.out.ob
    go_wp2_with fail
    refine (j1 _ P0.out.inn).mono ?_
    rintro e w1 ⟨rfl, hb1⟩
    have P1 : Hid (Og w (w1.alloc (.cells #[.int .i64 o.r.s, .slice ua o.r.l.length uc, .string o.r.b] 31)) o (.slice va o.l.length vc) (.slice ua o.r.l.length uc)) := (show Og w _ o _ _ from (P0.out.kept hb1).kept ((Below.refl _ w1).alloc (Nat.le_refl _) _))
    have X1 : Hid (Bx (w1.alloc (.cells #[.int .i64 o.r.s, .slice ua o.r.l.length uc, .string o.r.b] 31)) w1.heap.size 31 #[.int .i64 o.r.s, .slice ua o.r.l.length uc, .string o.r.b]) := (show Bx _ _ _ _ from Bx.new _ _ _)
    have Q1 : Hid (Og w w1 o (.slice va o.l.length vc) (.slice ua o.r.l.length uc)) := (show Og w _ o _ _ from P0.out.kept hb1)
    clear P0 hb1 q0 q1 q2 q3 q4 q5 q6 q7 qf qh hwA j1
    obtain ⟨q0, q1, q2, q3, q4, q5, q6, q7, qf, qh⟩ := Q1.out.ob
    have T1 := HT.out.low P1.out.low
    have i3' := i3 _ (w1.heap.size + 1) (by simp) T1
    have y0 : (o.k ++ (⟨#[10]⟩ : ByteArray)).size = o.k.size + 1 := by rw [ByteArray.size_append]; rfl
    go_wp2_with fail
    refine i3'.mono ?_
    rintro e w2 ⟨rfl, hb2⟩
    have P2 : Hid (Og w w2 o (.slice va o.l.length vc) (.slice ua o.r.l.length uc)) := (show Og w _ o _ _ from P1.out.kept hb2)
    have X2 : Hid (Bx w2 w1.heap.size 31 #[.int .i64 o.r.s, .slice ua o.r.l.length uc, .string o.r.b]) := X1.out.kept hb2
    clear Q1 P1 X1 hb2 q0 q1 q2 q3 q4 q5 q6 q7 qf qh T1 i3 i3'
    have hS1 : ((o.k ++ (⟨#[10]⟩ : ByteArray)) ++ N3).size = o.k.size + 1 + N3.size := by rw [ByteArray.size_append, y0]
    obtain ⟨r0, r1, r2, r3, r4, r5, r6, r7, rf, rh⟩ := P2.out.ob
    have x0 := X2.out.cell 0
    have x1 := X2.out.cell 1
    have x2 := X2.out.cell 2
    simp only [List.getElem?_toArray, List.getElem?_cons_zero, List.getElem?_cons_succ] at x0 x1 x2
    have i4' := i4 w2 _ rfl (HT.out.low P2.out.low)
    go_wp2_with fail
    refine i4'.mono ?_
    rintro e w3 ⟨rfl, hb3⟩
    have P3 : Hid (Og w w3 o (.slice va o.l.length vc) (.slice ua o.r.l.length uc)) := (show Og w _ o _ _ from P2.out.kept hb3)
    have X3 : Hid (Bx w3 w1.heap.size 31 #[.int .i64 o.r.s, .slice ua o.r.l.length uc, .string o.r.b]) := X2.out.kept hb3
    clear P2 X2 hb3 r0 r1 r2 r3 r4 r5 r6 r7 rf rh x0 x1 x2 i4 i4'
    have hS2 : (((o.k ++ (⟨#[10]⟩ : ByteArray)) ++ N3) ++ N4).size = o.k.size + 1 + N3.size + N4.size := by rw [ByteArray.size_append, hS1]
    go_wp2_with fail
    have hS2' : (((o.k ++ (⟨#[10]⟩ : ByteArray)) ++ N3) ++ N4).size ≤ 700 := by omega
    generalize (((o.k ++ (⟨#[10]⟩ : ByteArray)) ++ N3) ++ N4) = S2 at HT3 hS2' ⊢
    clear y0 hS1 hS2
    have y0 : (S2 ++ F1).size = S2.size + F1.size := by rw [ByteArray.size_append]
    have y1 : ((S2 ++ F1) ++ F2).size = S2.size + F1.size + F2.size := by rw [ByteArray.size_append, y0]
    have y2 : (((S2 ++ F1) ++ F2) ++ o.r.b).size = S2.size + F1.size + F2.size + o.r.b.size := by rw [ByteArray.size_append, y1]
    have y3 : ((((S2 ++ F1) ++ F2) ++ o.r.b) ++ (⟨#[10]⟩ : ByteArray)).size = S2.size + F1.size + F2.size + o.r.b.size + 1 := by rw [ByteArray.size_append, y2]; rfl
    have k1 := cell_regrown P3.out.ob.c1
    have x1 := X3.out.cell 1
    have x2 := X3.out.cell 2
    simp only [List.getElem?_toArray, List.getElem?_cons_zero, List.getElem?_cons_succ] at x1 x2
    have l1 := cell_regrown x1
    have l2 := cell_regrown x2
    have g1 : ∀ d os, Calls Tryd.prog 20 #[.slice va o.l.length vc] (grow (redrawn w3 d) os) fun e w'' => e = .returned (.string F1) ∧ ∃ p : Regrown, w'' = grow (redrawn w3 p.d) p.os := fun d os => Calls.regrown_of (f1 _ (P3.out.inn.1.kept (below_regrown w3 d os)))
    have g2 : ∀ d os, Calls Tryd.prog 20 #[.slice ua o.r.l.length uc] (grow (redrawn w3 d) os) fun e w'' => e = .returned (.string F2) ∧ ∃ p : Regrown, w'' = grow (redrawn w3 p.d) p.os := fun d os => Calls.regrown_of (f2 _ (P3.out.inn.2.1.1.kept (below_regrown w3 d os)))
    clear f1 f2 x1 x2
    refine wp_region_quiet_below (by kernel_rfl) (by kernel_rfl) ?_
    repeat (go_big_quiet_step (first | (with_reducible exact g1 _ _) | (with_reducible exact g2 _ _)))
    refine wpQuiet_nil ?_
    intro _ hw'
    obtain ⟨⟨dq3, osq3⟩, hw''⟩ := hw'
    subst hw''
    have B3 : Hid (Below w.heap.size w (grow (redrawn w3 dq3) osq3)) := (show Below _ _ _ from past6 P3.out.low (below_regrown w3 dq3 osq3))
    clear P3 X3 k1 l1 l2 g1 g2
    go_wp2
    go_ret
    exact ⟨by rw [← HT3.out]; rfl, B3.out⟩
end Go.Proofs.YtemmgfnepdgpbaaDoor
