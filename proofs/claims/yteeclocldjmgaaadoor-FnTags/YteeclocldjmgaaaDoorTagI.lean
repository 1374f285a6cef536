/-
  A tag is read from what it is shown as, what is strong is alike, what matches none matches not any: the walk of the law, given what the program's functions answer.
-/
import Derived.Test.YteeclocldjmgaaaDoorTagH
import Derived.Test.YteeclocldjmgaaaDoorTagC
import Derived.Lib.QuietBelow
import Derived.Laws.StructEq
import Derived.BigQuiet
namespace Go.Proofs.YteeclocldjmgaaaDoor
open Go.RowKit Go.Sort
set_option linter.unusedVariables false

theorem empty_list7 : (⟨#[]⟩ : ByteArray).toList = [] := by rw [ByteArray.toList_eq]
theorem full7 {s : ByteArray} (h : ¬ s = ⟨#[]⟩) : s.toList.isEmpty = false ∧ (s.toList == []) = false ∧ (s.toList != []) = true := by
  have h1 := tdiff h
  rw [empty_list7] at h1
  refine ⟨?_, h1, by show (!(s.toList == [])) = true; rw [h1]; rfl⟩
  cases hs : s.toList with
  | nil => rw [hs] at h1; cases h1
  | cons c r => rfl
theorem code_up7 {w w' : World} {sa : Option Addr} {sl : Nat} (h : Code8 w w.heap.size sa sl) (hb : Below w.heap.size w w') : Code8 w' w'.heap.size sa sl := (h.kept hb (Nat.le_refl _)).up7 hb.size
set_option maxRecDepth 100000 in
set_option maxHeartbeats 8000000 in
theorem fnTg (X : World → Prop) (hX : ∀ w w', X w → Below w.heap.size w w' → X w')
    (hiT : ∀ (x : Tg) (w : World), X w → x.t.size ≤ 1048576 → Calls Tryd.prog 10 #[tgV x] w fun e w' => e = .returned (.bool (tagB x.t)) ∧ Below w.heap.size w w')
    (hiS : ∀ (x : Tg) (w : World), X w → x.t.size ≤ 1048576 → Calls Tryd.prog 8 #[tgV x] w fun e w' => e = .returned (.string (shT x)) ∧ Below w.heap.size w w')
    (hiR : ∀ (s : ByteArray) (w : World), X w → s.size ≤ 1048576 → Calls Tryd.prog 11 #[.string s] w fun e w' => e = .returned (rdV (rdT s)) ∧ Below w.heap.size w w')
    (hiG : ∀ (x y : Tg) (w : World), X w → x.t.size ≤ 1048576 → y.t.size ≤ 1048576 → Calls Tryd.prog 18 #[tgV x, tgV y] w fun e w' => e = .returned (.bool (strB x y)) ∧ Below w.heap.size w w')
    (hiL : ∀ (x y : Tg) (w : World), X w → x.t.size ≤ 1048576 → y.t.size ≤ 1048576 → Calls Tryd.prog 20 #[tgV x, tgV y] w fun e w' => e = .returned (.bool (likB x y)) ∧ Below w.heap.size w w')
    (hiN : ∀ (s : ByteArray) (x : Tg) (b : Bool) (w : World), X w → s.size ≤ 1048576 → x.t.size ≤ 1048576 → Calls Tryd.prog 16 #[.string s, tgV x, .bool b] w fun e w' => e = .returned (.bool (nonM s x b)) ∧ Below w.heap.size w w')
    (hiA : ∀ (s : ByteArray) (x : Tg) (b : Bool) (w : World), X w → s.size ≤ 1048576 → x.t.size ≤ 1048576 → Calls Tryd.prog 17 #[.string s, tgV x, .bool b] w fun e w' => e = .returned (.bool (anyM s x b)) ∧ Below w.heap.size w w')
    (sa : Option Addr) (sl sc : Nat) (zs : List Int) (w : World) (hw : IsRow w sa sl sc zs) (hx : X w) :
    Calls Tryd.prog 3 #[.slice sa sl sc] w fun e w' => e = .returned (.bool true) ∧ Below w.heap.size w w' := by
  by_cases hbig : 4096 < sl
  · have hlen := hw.len
    clear hw
    go_enter Tryd.func3, Tryd.ntmps3
    go_wp2_with (go_at_call 6; refine (isBig sa sl sc _ hbig hlen).mono ?_; rintro e w1 ⟨rfl, rfl⟩)
    go_ret
    exact ⟨rfl, Below.refl _ _⟩
  · have hl : sl ≤ 4096 := by omega
    have h8 : Hid (Code8 w w.heap.size sa sl) := hw.code.code
    have XX : Hid (∀ W, Below w.heap.size w W → X W) := fun W hb => hX w W hx hb
    clear hw hbig hx hX
    go_enter Tryd.func3, Tryd.ntmps3
    go_wp2_with fail
    refine (notBig sa sl sc _ hl).mono ?_
    rintro e w0 ⟨rfl, rfl⟩
    go_wp2_with fail
    refine (drawTsh sa sl sc _ h8.out hl).mono ?_
    rintro e w1 ⟨⟨x, rfl, hsx⟩, hb1⟩
    have T1 : Hid (TgB (w1.alloc (.cells #[.bool x.w, .string x.t] 25)) w1.heap.size x) := TgB.new w1 x 25
    have B1 : Hid (Below w.heap.size w (w1.alloc (.cells #[.bool x.w, .string x.t] 25))) := hb1.alloc hb1.size _
    have iS := fun W (hb : Below w.heap.size w W) => hiS x W (XX.out W hb) (by omega)
    have sS := fun W => specSh x W (by unfold maxLen; omega)
    have iT := fun W (hb : Below w.heap.size w W) => hiT x W (XX.out W hb) (by omega)
    have iR := fun W (hb : Below w.heap.size w W) => hiR (shT x) W (XX.out W hb) (by have := @shT_size x; omega)
    have hsome := @shT_some x
    have hrd := @rdT_show x
    unfold tgV at iS sS iT ⊢
    generalize shT x = S at iS sS iR hsome hrd
    have dS : (S.toList == S.toList) = true := by simp
    clear hb1 hiT
    go_wp2_with fail
    refine (iS _ B1.out).mono ?_
    rintro e w2 ⟨rfl, hb2⟩
    have T2 : Hid (TgB w2 w1.heap.size x) := T1.out.kept hb2
    have B2 : Hid (Below w.heap.size w w2) := past7 B1.out hb2
    have c0 := T2.out.c0
    have c1 := T2.out.c1
    clear hb2 T1 B1 iS
    go_wp2_with fail
    refine (sS _).mono ?_
    rintro e w3 ⟨rfl, hb3⟩
    have T3 : Hid (TgB w3 w1.heap.size x) := T2.out.kept hb3
    have B3 : Hid (Below w.heap.size w w3) := past7 B2.out hb3
    clear hb3 T2 B2 sS c0 c1
    have c0 := T3.out.c0
    have c1 := T3.out.c1
    go_wp2_with fail
    refine (iT _ B3.out).mono ?_
    rintro e w4 ⟨rfl, hb4⟩
    have T4 : Hid (TgB w4 w1.heap.size x) := T3.out.kept hb4
    have B4 : Hid (Below w.heap.size w w4) := past7 B3.out hb4
    clear hb4 T3 B3 iT c0 c1
    cases hok : tagB x.t with
    | false =>
      have hS0 : S = ⟨#[]⟩ := by
        by_cases h : S = ⟨#[]⟩
        · exact h
        · rw [hsome.1 h] at hok; cases hok
      subst hS0
      clear hsome hrd iR dS hok T4
      go_wp2_with fail
      refine (drawTrd sa sl sc _ (code_up7 h8.out B4.out) hl).mono ?_
      rintro e v1 ⟨⟨y, rfl, hsy⟩, hv1⟩
      have V1 : Hid (Below w.heap.size w v1) := past7 B4.out hv1
      have jR := fun W (hb : Below w.heap.size w W) => hiR y W (XX.out W hb) (by omega)
      have kR := fun W => specRd y W (by unfold maxLen; omega)
      clear hv1 B4 hiR
      cases hry : rdT y with
      | none =>
        simp only [hry, rdV_none] at jR kR
        clear hry hiS
        go_wp2_with fail
        refine (jR _ V1.out).mono ?_
        rintro e v2 ⟨rfl, hv2⟩
        have V2 : Hid (Below w.heap.size w (v2.alloc (.cells #[.bool false, .string ⟨#[]⟩] 25))) := by
          have := past7 V1.out hv2
          exact this.alloc this.size _
        have U2 : Hid (TgB (v2.alloc (.cells #[.bool false, .string ⟨#[]⟩] 25)) v2.heap.size noT) := TgB.new v2 noT 25
        clear hv2 V1
        go_wp2_with fail
        refine (kR _).mono ?_
        rintro e v3 ⟨rfl, hv3⟩
        have V3' : Hid (Below w.heap.size w v3) := past7 V2.out hv3
        have V3 : Hid (Below w.heap.size w (v3.alloc (.cells #[.bool false, .string ⟨#[]⟩] 25))) := V3'.out.alloc V3'.out.size _
        have U3 : Hid (TgB (v3.alloc (.cells #[.bool false, .string ⟨#[]⟩] 25)) v2.heap.size noT) := (U2.out.kept hv3).alloc _
        have u0 := U3.out.c0
        have u1 := U3.out.c1
        have lt3 : v2.heap.size < v3.heap.size := by have := hv3.size; simp at this; omega
        unfold noT at u0 u1
        simp only at u0 u1
        clear hv3 V2 V3'
        go_wp2_with fail
        clear u0 u1 U2 U3
        refine (drawTst sa sl sc _ (code_up7 h8.out V3.out) hl).mono ?_
        rintro e wa ⟨⟨a, b, rfl, hsa, hsb⟩, hba⟩
        have BA : Hid (Below w.heap.size w wa) := past7 V3.out hba
        have BA2 : Hid (Below w.heap.size w ((wa.alloc (.cells #[.bool a.w, .string a.t] 25)).alloc (.cells #[.bool b.w, .string b.t] 25))) := (BA.out.alloc BA.out.size _).alloc (Nat.le_trans BA.out.size (by simp)) _
        have TA : Hid (TgB ((wa.alloc (.cells #[.bool a.w, .string a.t] 25)).alloc (.cells #[.bool b.w, .string b.t] 25)) wa.heap.size a) := (TgB.new wa a 25).alloc _
        have TB : Hid (TgB ((wa.alloc (.cells #[.bool a.w, .string a.t] 25)).alloc (.cells #[.bool b.w, .string b.t] 25)) (wa.heap.size + 1) b) := by
          have := TgB.new (wa.alloc (.cells #[.bool a.w, .string a.t] 25)) b 25
          simp only [World.size_alloc] at this
          exact this
        have iG := fun W (hb : Below w.heap.size w W) => hiG a b W (XX.out W hb) (by omega) (by omega)
        have iL := fun W (hb : Below w.heap.size w W) => hiL a b W (XX.out W hb) (by omega) (by omega)
        have iM := fun W (hb : Below w.heap.size w W) => hiL b a W (XX.out W hb) (by omega) (by omega)
        have sG := fun W => specStr a b W (by unfold maxLen; omega) (by unfold maxLen; omega)
        have sL := fun W => specLik a b W (by unfold maxLen; omega) (by unfold maxLen; omega)
        rw [likB_comm b a] at iM
        have hpq := @strB_lik a b
        generalize strB a b = p at iG sG hpq
        generalize likB a b = q at iL iM sL hpq
        unfold tgV at iG iL iM sG sL ⊢
        clear hba BA V3
        go_wp2_with fail
        refine (drawTnm sa sl sc _ (code_up7 h8.out BA2.out) hl).mono ?_
        rintro e wb ⟨⟨l, c, th, rfl, hsl, hsc⟩, hbb⟩
        have BB : Hid (Below w.heap.size w wb) := past7 BA2.out hbb
        have BC : Hid (Below w.heap.size w (wb.alloc (.cells #[.bool c.w, .string c.t] 25))) := BB.out.alloc BB.out.size _
        have TA1 : Hid (TgB (wb.alloc (.cells #[.bool c.w, .string c.t] 25)) wa.heap.size a) := (TA.out.kept hbb).alloc _
        have TB1 : Hid (TgB (wb.alloc (.cells #[.bool c.w, .string c.t] 25)) (wa.heap.size + 1) b) := (TB.out.kept hbb).alloc _
        have TC1 : Hid (TgB (wb.alloc (.cells #[.bool c.w, .string c.t] 25)) wb.heap.size c) := TgB.new wb c 25
        have lt1 : wa.heap.size + 1 < wb.heap.size := by have := hbb.size; simp at this; omega
        have iN := fun W (hb : Below w.heap.size w W) => hiN l c th W (XX.out W hb) (by omega) (by omega)
        have iA := fun W (hb : Below w.heap.size w W) => hiA l c th W (XX.out W hb) (by omega) (by omega)
        have iZ := fun W (hb : Below w.heap.size w W) => hiA starS c th W (XX.out W hb) (by decide) (by omega)
        rw [any_star] at iZ
        have sN := fun W => specNon l c th W (by unfold maxLen; omega) (by unfold maxLen; omega)
        have sA := fun W => specAny l c th W (by unfold maxLen; omega) (by unfold maxLen; omega)
        have hmn := match_not l c th
        generalize nonM l c th = m at iN sN hmn
        generalize anyM l c th = n at iA sA hmn
        unfold tgV at iN iA iZ sN sA ⊢
        unfold starS at iZ
        clear hbb BA2 TA TB BB hiG hiL hiN hiA
        go_wp2_with fail
        refine (iN _ BC.out).mono ?_
        rintro e wd ⟨rfl, hbd⟩
        have BD : Hid (Below w.heap.size w wd) := past7 BC.out hbd
        have TA2 : Hid (TgB wd wa.heap.size a) := TA1.out.kept hbd
        have TB2 : Hid (TgB wd (wa.heap.size + 1) b) := TB1.out.kept hbd
        have TC2 : Hid (TgB wd wb.heap.size c) := TC1.out.kept hbd
        have c0 := TC2.out.c0
        have c1 := TC2.out.c1
        clear hbd BC TA1 TB1 TC1 iN
        go_wp2_with fail
        refine (iA _ BD.out).mono ?_
        rintro e we ⟨rfl, hbe⟩
        have BE : Hid (Below w.heap.size w we) := past7 BD.out hbe
        have TA3 : Hid (TgB we wa.heap.size a) := TA2.out.kept hbe
        have TB3 : Hid (TgB we (wa.heap.size + 1) b) := TB2.out.kept hbe
        have TC3 : Hid (TgB we wb.heap.size c) := TC2.out.kept hbe
        clear hbe BD TA2 TB2 TC2 iA c0 c1
        go_wp2
        have ka0 := cell_regrown TA3.out.c0
        have ka1 := cell_regrown TA3.out.c1
        have kb0 := cell_regrown TB3.out.c0
        have kb1 := cell_regrown TB3.out.c1
        have kc0 := cell_regrown TC3.out.c0
        have kc1 := cell_regrown TC3.out.c1
        have cG : ∀ d os, Calls Tryd.prog 18 #[.agg #[.bool a.w, .string a.t], .agg #[.bool b.w, .string b.t]] (grow (redrawn we d) os) fun e' w'' => e' = .returned (.bool p) ∧ ∃ p : Regrown, w'' = grow (redrawn we p.d) p.os := fun d os => Calls.regrown_of (iG _ (past7 BE.out (below_regrown we d os)))
        have cH : ∀ d os, Calls Tryd.prog 19 #[.agg #[.bool a.w, .string a.t], .agg #[.bool b.w, .string b.t]] (grow (redrawn we d) os) fun e' w'' => e' = .returned (.bool p) ∧ ∃ p : Regrown, w'' = grow (redrawn we p.d) p.os := fun d os => Calls.regrown_of (sG _)
        have cL : ∀ d os, Calls Tryd.prog 20 #[.agg #[.bool a.w, .string a.t], .agg #[.bool b.w, .string b.t]] (grow (redrawn we d) os) fun e' w'' => e' = .returned (.bool q) ∧ ∃ p : Regrown, w'' = grow (redrawn we p.d) p.os := fun d os => Calls.regrown_of (iL _ (past7 BE.out (below_regrown we d os)))
        have cM : ∀ d os, Calls Tryd.prog 21 #[.agg #[.bool a.w, .string a.t], .agg #[.bool b.w, .string b.t]] (grow (redrawn we d) os) fun e' w'' => e' = .returned (.bool q) ∧ ∃ p : Regrown, w'' = grow (redrawn we p.d) p.os := fun d os => Calls.regrown_of (sL _)
        have cN : ∀ d os, Calls Tryd.prog 22 #[.string l, .agg #[.bool c.w, .string c.t], .bool th] (grow (redrawn we d) os) fun e' w'' => e' = .returned (.bool m) ∧ ∃ p : Regrown, w'' = grow (redrawn we p.d) p.os := fun d os => Calls.regrown_of (sN _)
        have cA : ∀ d os, Calls Tryd.prog 23 #[.string l, .agg #[.bool c.w, .string c.t], .bool th] (grow (redrawn we d) os) fun e' w'' => e' = .returned (.bool n) ∧ ∃ p : Regrown, w'' = grow (redrawn we p.d) p.os := fun d os => Calls.regrown_of (sA _)
        refine wp_region_quiet_below (by kernel_rfl) (by kernel_rfl) ?_
        repeat (go_big_quiet_step (first | (with_reducible exact cG _ _) | (with_reducible exact cH _ _) | (with_reducible exact cL _ _) | (with_reducible exact cM _ _) | (with_reducible exact cN _ _) | (with_reducible exact cA _ _)))
        refine wpQuiet_nil ?_
        intro _ hw'
        obtain ⟨⟨dq, osq⟩, hw''⟩ := hw'
        subst hw''
        have hbf := below_regrown we dq osq
        generalize grow (redrawn we dq) osq = wf at hbf ⊢
        have BF : Hid (Below w.heap.size w wf) := past7 BE.out hbf
        have TA4 : Hid (TgB wf wa.heap.size a) := TA3.out.kept hbf
        have TB4 : Hid (TgB wf (wa.heap.size + 1) b) := TB3.out.kept hbf
        have TC4 : Hid (TgB wf wb.heap.size c) := TC3.out.kept hbf
        clear ka0 ka1 kb0 kb1 kc0 kc1 cG cH cL cM cN cA hbf BE TA3 TB3 TC3 sG sL sN sA
        go_wp2
        have ka0 := cell_regrown TA4.out.c0
        have ka1 := cell_regrown TA4.out.c1
        have kb0 := cell_regrown TB4.out.c0
        have kb1 := cell_regrown TB4.out.c1
        have kc0 := cell_regrown TC4.out.c0
        have kc1 := cell_regrown TC4.out.c1
        have cG : ∀ d os, Calls Tryd.prog 18 #[.agg #[.bool a.w, .string a.t], .agg #[.bool b.w, .string b.t]] (grow (redrawn wf d) os) fun e' w'' => e' = .returned (.bool p) ∧ ∃ p : Regrown, w'' = grow (redrawn wf p.d) p.os := fun d os => Calls.regrown_of (iG _ (past7 BF.out (below_regrown wf d os)))
        have cL : ∀ d os, Calls Tryd.prog 20 #[.agg #[.bool a.w, .string a.t], .agg #[.bool b.w, .string b.t]] (grow (redrawn wf d) os) fun e' w'' => e' = .returned (.bool q) ∧ ∃ p : Regrown, w'' = grow (redrawn wf p.d) p.os := fun d os => Calls.regrown_of (iL _ (past7 BF.out (below_regrown wf d os)))
        have cM : ∀ d os, Calls Tryd.prog 20 #[.agg #[.bool b.w, .string b.t], .agg #[.bool a.w, .string a.t]] (grow (redrawn wf d) os) fun e' w'' => e' = .returned (.bool q) ∧ ∃ p : Regrown, w'' = grow (redrawn wf p.d) p.os := fun d os => Calls.regrown_of (iM _ (past7 BF.out (below_regrown wf d os)))
        have cZ : ∀ d os, Calls Tryd.prog 17 #[.string ⟨#[42]⟩, .agg #[.bool c.w, .string c.t], .bool th] (grow (redrawn wf d) os) fun e' w'' => e' = .returned (.bool th) ∧ ∃ p : Regrown, w'' = grow (redrawn wf p.d) p.os := fun d os => Calls.regrown_of (iZ _ (past7 BF.out (below_regrown wf d os)))
        clear iG iL iM iZ
        have hpq' : (p = false ∧ q = false) ∨ (p = false ∧ q = true) ∨ (p = true ∧ q = true) := by cases p <;> cases q <;> simp_all
        have hmn' : (m = false ∧ n = false) ∨ (m = false ∧ n = true) ∨ (m = true ∧ n = false) := by cases m <;> cases n <;> simp_all
        clear hpq hmn
        rcases hpq' with ⟨rfl, rfl⟩ | ⟨rfl, rfl⟩ | ⟨rfl, rfl⟩ <;> rcases hmn' with ⟨rfl, rfl⟩ | ⟨rfl, rfl⟩ | ⟨rfl, rfl⟩ <;> (
          refine wp_region_quiet_below (by kernel_rfl) (by kernel_rfl) ?_
          repeat (go_big_quiet_step (first | (with_reducible exact cG _ _) | (with_reducible exact cL _ _) | (with_reducible exact cM _ _) | (with_reducible exact cZ _ _)))
          refine wpQuiet_nil ?_
          intro _ hw'
          obtain ⟨⟨dq, osq⟩, hw''⟩ := hw'
          subst hw''
          have hbg := below_regrown wf dq osq
          generalize grow (redrawn wf dq) osq = wg at hbg ⊢
          have BG : Hid (Below w.heap.size w wg) := past7 BF.out hbg
          clear ka0 ka1 kb0 kb1 kc0 kc1 cG cL cM cZ hbg
          go_wp2
          refine bodyPost_ret (v := .bool true) (by simp [results, Tryd.results3, go_sem]) rfl ⟨rfl, BG.out⟩)
      | some u =>
        have hus := rdT_size hry
        have hsu : shT u = y := by obtain ⟨g1, g2⟩ := rdT_some hry; rw [shT_yes g1]; exact g2
        have lS := fun W (hb : Below w.heap.size w W) => hiS u W (XX.out W hb) (by omega)
        rw [hsu] at lS
        have dy : (y.toList == y.toList) = true := by simp
        simp only [hry, rdV_some] at jR kR
        unfold tgV at lS
        clear hry hiS hsu
        go_wp2_with fail
        refine (jR _ V1.out).mono ?_
        rintro e v2 ⟨rfl, hv2⟩
        have V2 : Hid (Below w.heap.size w (v2.alloc (.cells #[.bool u.w, .string u.t] 25))) := by
          have := past7 V1.out hv2
          exact this.alloc this.size _
        have U2 : Hid (TgB (v2.alloc (.cells #[.bool u.w, .string u.t] 25)) v2.heap.size u) := TgB.new v2 u 25
        clear hv2 V1
        go_wp2_with fail
        refine (kR _).mono ?_
        rintro e v3 ⟨rfl, hv3⟩
        have V3' : Hid (Below w.heap.size w v3) := past7 V2.out hv3
        have V3 : Hid (Below w.heap.size w (v3.alloc (.cells #[.bool u.w, .string u.t] 25))) := V3'.out.alloc V3'.out.size _
        have U3 : Hid (TgB (v3.alloc (.cells #[.bool u.w, .string u.t] 25)) v2.heap.size u) := (U2.out.kept hv3).alloc _
        have u0 := U3.out.c0
        have u1 := U3.out.c1
        have lt3 : v2.heap.size < v3.heap.size := by have := hv3.size; simp at this; omega
        clear hv3 V2 V3'
        go_wp2_with fail
        refine (lS _ V3.out).mono ?_
        rintro e v4 ⟨rfl, hv4⟩
        have V4 : Hid (Below w.heap.size w v4) := past7 V3.out hv4
        clear hv4 V3 u0 u1 U2 U3 lS
        go_wp2_with fail
        refine (drawTst sa sl sc _ (code_up7 h8.out V4.out) hl).mono ?_
        rintro e wa ⟨⟨a, b, rfl, hsa, hsb⟩, hba⟩
        have BA : Hid (Below w.heap.size w wa) := past7 V4.out hba
        have BA2 : Hid (Below w.heap.size w ((wa.alloc (.cells #[.bool a.w, .string a.t] 25)).alloc (.cells #[.bool b.w, .string b.t] 25))) := (BA.out.alloc BA.out.size _).alloc (Nat.le_trans BA.out.size (by simp)) _
        have TA : Hid (TgB ((wa.alloc (.cells #[.bool a.w, .string a.t] 25)).alloc (.cells #[.bool b.w, .string b.t] 25)) wa.heap.size a) := (TgB.new wa a 25).alloc _
        have TB : Hid (TgB ((wa.alloc (.cells #[.bool a.w, .string a.t] 25)).alloc (.cells #[.bool b.w, .string b.t] 25)) (wa.heap.size + 1) b) := by
          have := TgB.new (wa.alloc (.cells #[.bool a.w, .string a.t] 25)) b 25
          simp only [World.size_alloc] at this
          exact this
        have iG := fun W (hb : Below w.heap.size w W) => hiG a b W (XX.out W hb) (by omega) (by omega)
        have iL := fun W (hb : Below w.heap.size w W) => hiL a b W (XX.out W hb) (by omega) (by omega)
        have iM := fun W (hb : Below w.heap.size w W) => hiL b a W (XX.out W hb) (by omega) (by omega)
        have sG := fun W => specStr a b W (by unfold maxLen; omega) (by unfold maxLen; omega)
        have sL := fun W => specLik a b W (by unfold maxLen; omega) (by unfold maxLen; omega)
        rw [likB_comm b a] at iM
        have hpq := @strB_lik a b
        generalize strB a b = p at iG sG hpq
        generalize likB a b = q at iL iM sL hpq
        unfold tgV at iG iL iM sG sL ⊢
        clear hba BA V4
        go_wp2_with fail
        refine (drawTnm sa sl sc _ (code_up7 h8.out BA2.out) hl).mono ?_
        rintro e wb ⟨⟨l, c, th, rfl, hsl, hsc⟩, hbb⟩
        have BB : Hid (Below w.heap.size w wb) := past7 BA2.out hbb
        have BC : Hid (Below w.heap.size w (wb.alloc (.cells #[.bool c.w, .string c.t] 25))) := BB.out.alloc BB.out.size _
        have TA1 : Hid (TgB (wb.alloc (.cells #[.bool c.w, .string c.t] 25)) wa.heap.size a) := (TA.out.kept hbb).alloc _
        have TB1 : Hid (TgB (wb.alloc (.cells #[.bool c.w, .string c.t] 25)) (wa.heap.size + 1) b) := (TB.out.kept hbb).alloc _
        have TC1 : Hid (TgB (wb.alloc (.cells #[.bool c.w, .string c.t] 25)) wb.heap.size c) := TgB.new wb c 25
        have lt1 : wa.heap.size + 1 < wb.heap.size := by have := hbb.size; simp at this; omega
        have iN := fun W (hb : Below w.heap.size w W) => hiN l c th W (XX.out W hb) (by omega) (by omega)
        have iA := fun W (hb : Below w.heap.size w W) => hiA l c th W (XX.out W hb) (by omega) (by omega)
        have iZ := fun W (hb : Below w.heap.size w W) => hiA starS c th W (XX.out W hb) (by decide) (by omega)
        rw [any_star] at iZ
        have sN := fun W => specNon l c th W (by unfold maxLen; omega) (by unfold maxLen; omega)
        have sA := fun W => specAny l c th W (by unfold maxLen; omega) (by unfold maxLen; omega)
        have hmn := match_not l c th
        generalize nonM l c th = m at iN sN hmn
        generalize anyM l c th = n at iA sA hmn
        unfold tgV at iN iA iZ sN sA ⊢
        unfold starS at iZ
        clear hbb BA2 TA TB BB hiG hiL hiN hiA
        go_wp2_with fail
        refine (iN _ BC.out).mono ?_
        rintro e wd ⟨rfl, hbd⟩
        have BD : Hid (Below w.heap.size w wd) := past7 BC.out hbd
        have TA2 : Hid (TgB wd wa.heap.size a) := TA1.out.kept hbd
        have TB2 : Hid (TgB wd (wa.heap.size + 1) b) := TB1.out.kept hbd
        have TC2 : Hid (TgB wd wb.heap.size c) := TC1.out.kept hbd
        have c0 := TC2.out.c0
        have c1 := TC2.out.c1
        clear hbd BC TA1 TB1 TC1 iN
        go_wp2_with fail
        refine (iA _ BD.out).mono ?_
        rintro e we ⟨rfl, hbe⟩
        have BE : Hid (Below w.heap.size w we) := past7 BD.out hbe
        have TA3 : Hid (TgB we wa.heap.size a) := TA2.out.kept hbe
        have TB3 : Hid (TgB we (wa.heap.size + 1) b) := TB2.out.kept hbe
        have TC3 : Hid (TgB we wb.heap.size c) := TC2.out.kept hbe
        clear hbe BD TA2 TB2 TC2 iA c0 c1
        go_wp2
        have ka0 := cell_regrown TA3.out.c0
        have ka1 := cell_regrown TA3.out.c1
        have kb0 := cell_regrown TB3.out.c0
        have kb1 := cell_regrown TB3.out.c1
        have kc0 := cell_regrown TC3.out.c0
        have kc1 := cell_regrown TC3.out.c1
        have cG : ∀ d os, Calls Tryd.prog 18 #[.agg #[.bool a.w, .string a.t], .agg #[.bool b.w, .string b.t]] (grow (redrawn we d) os) fun e' w'' => e' = .returned (.bool p) ∧ ∃ p : Regrown, w'' = grow (redrawn we p.d) p.os := fun d os => Calls.regrown_of (iG _ (past7 BE.out (below_regrown we d os)))
        have cH : ∀ d os, Calls Tryd.prog 19 #[.agg #[.bool a.w, .string a.t], .agg #[.bool b.w, .string b.t]] (grow (redrawn we d) os) fun e' w'' => e' = .returned (.bool p) ∧ ∃ p : Regrown, w'' = grow (redrawn we p.d) p.os := fun d os => Calls.regrown_of (sG _)
        have cL : ∀ d os, Calls Tryd.prog 20 #[.agg #[.bool a.w, .string a.t], .agg #[.bool b.w, .string b.t]] (grow (redrawn we d) os) fun e' w'' => e' = .returned (.bool q) ∧ ∃ p : Regrown, w'' = grow (redrawn we p.d) p.os := fun d os => Calls.regrown_of (iL _ (past7 BE.out (below_regrown we d os)))
        have cM : ∀ d os, Calls Tryd.prog 21 #[.agg #[.bool a.w, .string a.t], .agg #[.bool b.w, .string b.t]] (grow (redrawn we d) os) fun e' w'' => e' = .returned (.bool q) ∧ ∃ p : Regrown, w'' = grow (redrawn we p.d) p.os := fun d os => Calls.regrown_of (sL _)
        have cN : ∀ d os, Calls Tryd.prog 22 #[.string l, .agg #[.bool c.w, .string c.t], .bool th] (grow (redrawn we d) os) fun e' w'' => e' = .returned (.bool m) ∧ ∃ p : Regrown, w'' = grow (redrawn we p.d) p.os := fun d os => Calls.regrown_of (sN _)
        have cA : ∀ d os, Calls Tryd.prog 23 #[.string l, .agg #[.bool c.w, .string c.t], .bool th] (grow (redrawn we d) os) fun e' w'' => e' = .returned (.bool n) ∧ ∃ p : Regrown, w'' = grow (redrawn we p.d) p.os := fun d os => Calls.regrown_of (sA _)
        refine wp_region_quiet_below (by kernel_rfl) (by kernel_rfl) ?_
        repeat (go_big_quiet_step (first | (with_reducible exact cG _ _) | (with_reducible exact cH _ _) | (with_reducible exact cL _ _) | (with_reducible exact cM _ _) | (with_reducible exact cN _ _) | (with_reducible exact cA _ _)))
        refine wpQuiet_nil ?_
        intro _ hw'
        obtain ⟨⟨dq, osq⟩, hw''⟩ := hw'
        subst hw''
        have hbf := below_regrown we dq osq
        generalize grow (redrawn we dq) osq = wf at hbf ⊢
        have BF : Hid (Below w.heap.size w wf) := past7 BE.out hbf
        have TA4 : Hid (TgB wf wa.heap.size a) := TA3.out.kept hbf
        have TB4 : Hid (TgB wf (wa.heap.size + 1) b) := TB3.out.kept hbf
        have TC4 : Hid (TgB wf wb.heap.size c) := TC3.out.kept hbf
        clear ka0 ka1 kb0 kb1 kc0 kc1 cG cH cL cM cN cA hbf BE TA3 TB3 TC3 sG sL sN sA
        go_wp2
        have ka0 := cell_regrown TA4.out.c0
        have ka1 := cell_regrown TA4.out.c1
        have kb0 := cell_regrown TB4.out.c0
        have kb1 := cell_regrown TB4.out.c1
        have kc0 := cell_regrown TC4.out.c0
        have kc1 := cell_regrown TC4.out.c1
        have cG : ∀ d os, Calls Tryd.prog 18 #[.agg #[.bool a.w, .string a.t], .agg #[.bool b.w, .string b.t]] (grow (redrawn wf d) os) fun e' w'' => e' = .returned (.bool p) ∧ ∃ p : Regrown, w'' = grow (redrawn wf p.d) p.os := fun d os => Calls.regrown_of (iG _ (past7 BF.out (below_regrown wf d os)))
        have cL : ∀ d os, Calls Tryd.prog 20 #[.agg #[.bool a.w, .string a.t], .agg #[.bool b.w, .string b.t]] (grow (redrawn wf d) os) fun e' w'' => e' = .returned (.bool q) ∧ ∃ p : Regrown, w'' = grow (redrawn wf p.d) p.os := fun d os => Calls.regrown_of (iL _ (past7 BF.out (below_regrown wf d os)))
        have cM : ∀ d os, Calls Tryd.prog 20 #[.agg #[.bool b.w, .string b.t], .agg #[.bool a.w, .string a.t]] (grow (redrawn wf d) os) fun e' w'' => e' = .returned (.bool q) ∧ ∃ p : Regrown, w'' = grow (redrawn wf p.d) p.os := fun d os => Calls.regrown_of (iM _ (past7 BF.out (below_regrown wf d os)))
        have cZ : ∀ d os, Calls Tryd.prog 17 #[.string ⟨#[42]⟩, .agg #[.bool c.w, .string c.t], .bool th] (grow (redrawn wf d) os) fun e' w'' => e' = .returned (.bool th) ∧ ∃ p : Regrown, w'' = grow (redrawn wf p.d) p.os := fun d os => Calls.regrown_of (iZ _ (past7 BF.out (below_regrown wf d os)))
        clear iG iL iM iZ
        have hpq' : (p = false ∧ q = false) ∨ (p = false ∧ q = true) ∨ (p = true ∧ q = true) := by cases p <;> cases q <;> simp_all
        have hmn' : (m = false ∧ n = false) ∨ (m = false ∧ n = true) ∨ (m = true ∧ n = false) := by cases m <;> cases n <;> simp_all
        clear hpq hmn
        rcases hpq' with ⟨rfl, rfl⟩ | ⟨rfl, rfl⟩ | ⟨rfl, rfl⟩ <;> rcases hmn' with ⟨rfl, rfl⟩ | ⟨rfl, rfl⟩ | ⟨rfl, rfl⟩ <;> (
          refine wp_region_quiet_below (by kernel_rfl) (by kernel_rfl) ?_
          repeat (go_big_quiet_step (first | (with_reducible exact cG _ _) | (with_reducible exact cL _ _) | (with_reducible exact cM _ _) | (with_reducible exact cZ _ _)))
          refine wpQuiet_nil ?_
          intro _ hw'
          obtain ⟨⟨dq, osq⟩, hw''⟩ := hw'
          subst hw''
          have hbg := below_regrown wf dq osq
          generalize grow (redrawn wf dq) osq = wg at hbg ⊢
          have BG : Hid (Below w.heap.size w wg) := past7 BF.out hbg
          clear ka0 ka1 kb0 kb1 kc0 kc1 cG cL cM cZ hbg
          go_wp2
          refine bodyPost_ret (v := .bool true) (by simp [results, Tryd.results3, go_sem]) rfl ⟨rfl, BG.out⟩)
    | true =>
      obtain ⟨f1, f2, f3⟩ := full7 (hsome.2 hok)
      have iR' := fun W (hb : Below w.heap.size w W) => iR W hb
      simp only [hrd hok, rdV_some] at iR'
      clear hsome hrd iR hok
      go_wp2_with fail
      refine (iR' _ B4.out).mono ?_
      rintro e w5 ⟨rfl, hb5⟩
      have B5 : Hid (Below w.heap.size w (w5.alloc (.cells #[.bool x.w, .string x.t] 25))) := by
        have := past7 B4.out hb5
        exact this.alloc this.size _
      have T5 : Hid (TgB (w5.alloc (.cells #[.bool x.w, .string x.t] 25)) w1.heap.size x) := (T4.out.kept hb5).alloc _
      have c0 := T5.out.c0
      have c1 := T5.out.c1
      have lt5 : w1.heap.size < w5.heap.size := by have := T4.out.hi; have := hb5.size; omega
      clear hb5 T4 B4 iR'
      go_wp2_with fail
      clear c0 c1 T5
      refine (drawTrd sa sl sc _ (code_up7 h8.out B5.out) hl).mono ?_
      rintro e v1 ⟨⟨y, rfl, hsy⟩, hv1⟩
      have V1 : Hid (Below w.heap.size w v1) := past7 B5.out hv1
      have jR := fun W (hb : Below w.heap.size w W) => hiR y W (XX.out W hb) (by omega)
      have kR := fun W => specRd y W (by unfold maxLen; omega)
      clear hv1 B5 hiR
      cases hry : rdT y with
      | none =>
        simp only [hry, rdV_none] at jR kR
        clear hry hiS
        go_wp2_with fail
        refine (jR _ V1.out).mono ?_
        rintro e v2 ⟨rfl, hv2⟩
        have V2 : Hid (Below w.heap.size w (v2.alloc (.cells #[.bool false, .string ⟨#[]⟩] 25))) := by
          have := past7 V1.out hv2
          exact this.alloc this.size _
        have U2 : Hid (TgB (v2.alloc (.cells #[.bool false, .string ⟨#[]⟩] 25)) v2.heap.size noT) := TgB.new v2 noT 25
        clear hv2 V1
        go_wp2_with fail
        refine (kR _).mono ?_
        rintro e v3 ⟨rfl, hv3⟩
        have V3' : Hid (Below w.heap.size w v3) := past7 V2.out hv3
        have V3 : Hid (Below w.heap.size w (v3.alloc (.cells #[.bool false, .string ⟨#[]⟩] 25))) := V3'.out.alloc V3'.out.size _
        have U3 : Hid (TgB (v3.alloc (.cells #[.bool false, .string ⟨#[]⟩] 25)) v2.heap.size noT) := (U2.out.kept hv3).alloc _
        have u0 := U3.out.c0
        have u1 := U3.out.c1
        have lt3 : v2.heap.size < v3.heap.size := by have := hv3.size; simp at this; omega
        unfold noT at u0 u1
        simp only at u0 u1
        clear hv3 V2 V3'
        go_wp2_with fail
        clear u0 u1 U2 U3
        refine (drawTst sa sl sc _ (code_up7 h8.out V3.out) hl).mono ?_
        rintro e wa ⟨⟨a, b, rfl, hsa, hsb⟩, hba⟩
        have BA : Hid (Below w.heap.size w wa) := past7 V3.out hba
        have BA2 : Hid (Below w.heap.size w ((wa.alloc (.cells #[.bool a.w, .string a.t] 25)).alloc (.cells #[.bool b.w, .string b.t] 25))) := (BA.out.alloc BA.out.size _).alloc (Nat.le_trans BA.out.size (by simp)) _
        have TA : Hid (TgB ((wa.alloc (.cells #[.bool a.w, .string a.t] 25)).alloc (.cells #[.bool b.w, .string b.t] 25)) wa.heap.size a) := (TgB.new wa a 25).alloc _
        have TB : Hid (TgB ((wa.alloc (.cells #[.bool a.w, .string a.t] 25)).alloc (.cells #[.bool b.w, .string b.t] 25)) (wa.heap.size + 1) b) := by
          have := TgB.new (wa.alloc (.cells #[.bool a.w, .string a.t] 25)) b 25
          simp only [World.size_alloc] at this
          exact this
        have iG := fun W (hb : Below w.heap.size w W) => hiG a b W (XX.out W hb) (by omega) (by omega)
        have iL := fun W (hb : Below w.heap.size w W) => hiL a b W (XX.out W hb) (by omega) (by omega)
        have iM := fun W (hb : Below w.heap.size w W) => hiL b a W (XX.out W hb) (by omega) (by omega)
        have sG := fun W => specStr a b W (by unfold maxLen; omega) (by unfold maxLen; omega)
        have sL := fun W => specLik a b W (by unfold maxLen; omega) (by unfold maxLen; omega)
        rw [likB_comm b a] at iM
        have hpq := @strB_lik a b
        generalize strB a b = p at iG sG hpq
        generalize likB a b = q at iL iM sL hpq
        unfold tgV at iG iL iM sG sL ⊢
        clear hba BA V3
        go_wp2_with fail
        refine (drawTnm sa sl sc _ (code_up7 h8.out BA2.out) hl).mono ?_
        rintro e wb ⟨⟨l, c, th, rfl, hsl, hsc⟩, hbb⟩
        have BB : Hid (Below w.heap.size w wb) := past7 BA2.out hbb
        have BC : Hid (Below w.heap.size w (wb.alloc (.cells #[.bool c.w, .string c.t] 25))) := BB.out.alloc BB.out.size _
        have TA1 : Hid (TgB (wb.alloc (.cells #[.bool c.w, .string c.t] 25)) wa.heap.size a) := (TA.out.kept hbb).alloc _
        have TB1 : Hid (TgB (wb.alloc (.cells #[.bool c.w, .string c.t] 25)) (wa.heap.size + 1) b) := (TB.out.kept hbb).alloc _
        have TC1 : Hid (TgB (wb.alloc (.cells #[.bool c.w, .string c.t] 25)) wb.heap.size c) := TgB.new wb c 25
        have lt1 : wa.heap.size + 1 < wb.heap.size := by have := hbb.size; simp at this; omega
        have iN := fun W (hb : Below w.heap.size w W) => hiN l c th W (XX.out W hb) (by omega) (by omega)
        have iA := fun W (hb : Below w.heap.size w W) => hiA l c th W (XX.out W hb) (by omega) (by omega)
        have iZ := fun W (hb : Below w.heap.size w W) => hiA starS c th W (XX.out W hb) (by decide) (by omega)
        rw [any_star] at iZ
        have sN := fun W => specNon l c th W (by unfold maxLen; omega) (by unfold maxLen; omega)
        have sA := fun W => specAny l c th W (by unfold maxLen; omega) (by unfold maxLen; omega)
        have hmn := match_not l c th
        generalize nonM l c th = m at iN sN hmn
        generalize anyM l c th = n at iA sA hmn
        unfold tgV at iN iA iZ sN sA ⊢
        unfold starS at iZ
        clear hbb BA2 TA TB BB hiG hiL hiN hiA
        go_wp2_with fail
        refine (iN _ BC.out).mono ?_
        rintro e wd ⟨rfl, hbd⟩
        have BD : Hid (Below w.heap.size w wd) := past7 BC.out hbd
        have TA2 : Hid (TgB wd wa.heap.size a) := TA1.out.kept hbd
        have TB2 : Hid (TgB wd (wa.heap.size + 1) b) := TB1.out.kept hbd
        have TC2 : Hid (TgB wd wb.heap.size c) := TC1.out.kept hbd
        have c0 := TC2.out.c0
        have c1 := TC2.out.c1
        clear hbd BC TA1 TB1 TC1 iN
        go_wp2_with fail
        refine (iA _ BD.out).mono ?_
        rintro e we ⟨rfl, hbe⟩
        have BE : Hid (Below w.heap.size w we) := past7 BD.out hbe
        have TA3 : Hid (TgB we wa.heap.size a) := TA2.out.kept hbe
        have TB3 : Hid (TgB we (wa.heap.size + 1) b) := TB2.out.kept hbe
        have TC3 : Hid (TgB we wb.heap.size c) := TC2.out.kept hbe
        clear hbe BD TA2 TB2 TC2 iA c0 c1
        go_wp2
        have ka0 := cell_regrown TA3.out.c0
        have ka1 := cell_regrown TA3.out.c1
        have kb0 := cell_regrown TB3.out.c0
        have kb1 := cell_regrown TB3.out.c1
        have kc0 := cell_regrown TC3.out.c0
        have kc1 := cell_regrown TC3.out.c1
        have cG : ∀ d os, Calls Tryd.prog 18 #[.agg #[.bool a.w, .string a.t], .agg #[.bool b.w, .string b.t]] (grow (redrawn we d) os) fun e' w'' => e' = .returned (.bool p) ∧ ∃ p : Regrown, w'' = grow (redrawn we p.d) p.os := fun d os => Calls.regrown_of (iG _ (past7 BE.out (below_regrown we d os)))
        have cH : ∀ d os, Calls Tryd.prog 19 #[.agg #[.bool a.w, .string a.t], .agg #[.bool b.w, .string b.t]] (grow (redrawn we d) os) fun e' w'' => e' = .returned (.bool p) ∧ ∃ p : Regrown, w'' = grow (redrawn we p.d) p.os := fun d os => Calls.regrown_of (sG _)
        have cL : ∀ d os, Calls Tryd.prog 20 #[.agg #[.bool a.w, .string a.t], .agg #[.bool b.w, .string b.t]] (grow (redrawn we d) os) fun e' w'' => e' = .returned (.bool q) ∧ ∃ p : Regrown, w'' = grow (redrawn we p.d) p.os := fun d os => Calls.regrown_of (iL _ (past7 BE.out (below_regrown we d os)))
        have cM : ∀ d os, Calls Tryd.prog 21 #[.agg #[.bool a.w, .string a.t], .agg #[.bool b.w, .string b.t]] (grow (redrawn we d) os) fun e' w'' => e' = .returned (.bool q) ∧ ∃ p : Regrown, w'' = grow (redrawn we p.d) p.os := fun d os => Calls.regrown_of (sL _)
        have cN : ∀ d os, Calls Tryd.prog 22 #[.string l, .agg #[.bool c.w, .string c.t], .bool th] (grow (redrawn we d) os) fun e' w'' => e' = .returned (.bool m) ∧ ∃ p : Regrown, w'' = grow (redrawn we p.d) p.os := fun d os => Calls.regrown_of (sN _)
        have cA : ∀ d os, Calls Tryd.prog 23 #[.string l, .agg #[.bool c.w, .string c.t], .bool th] (grow (redrawn we d) os) fun e' w'' => e' = .returned (.bool n) ∧ ∃ p : Regrown, w'' = grow (redrawn we p.d) p.os := fun d os => Calls.regrown_of (sA _)
        refine wp_region_quiet_below (by kernel_rfl) (by kernel_rfl) ?_
        repeat (go_big_quiet_step (first | (with_reducible exact cG _ _) | (with_reducible exact cH _ _) | (with_reducible exact cL _ _) | (with_reducible exact cM _ _) | (with_reducible exact cN _ _) | (with_reducible exact cA _ _)))
        refine wpQuiet_nil ?_
        intro _ hw'
        obtain ⟨⟨dq, osq⟩, hw''⟩ := hw'
        subst hw''
        have hbf := below_regrown we dq osq
        generalize grow (redrawn we dq) osq = wf at hbf ⊢
        have BF : Hid (Below w.heap.size w wf) := past7 BE.out hbf
        have TA4 : Hid (TgB wf wa.heap.size a) := TA3.out.kept hbf
        have TB4 : Hid (TgB wf (wa.heap.size + 1) b) := TB3.out.kept hbf
        have TC4 : Hid (TgB wf wb.heap.size c) := TC3.out.kept hbf
        clear ka0 ka1 kb0 kb1 kc0 kc1 cG cH cL cM cN cA hbf BE TA3 TB3 TC3 sG sL sN sA
        go_wp2
        have ka0 := cell_regrown TA4.out.c0
        have ka1 := cell_regrown TA4.out.c1
        have kb0 := cell_regrown TB4.out.c0
        have kb1 := cell_regrown TB4.out.c1
        have kc0 := cell_regrown TC4.out.c0
        have kc1 := cell_regrown TC4.out.c1
        have cG : ∀ d os, Calls Tryd.prog 18 #[.agg #[.bool a.w, .string a.t], .agg #[.bool b.w, .string b.t]] (grow (redrawn wf d) os) fun e' w'' => e' = .returned (.bool p) ∧ ∃ p : Regrown, w'' = grow (redrawn wf p.d) p.os := fun d os => Calls.regrown_of (iG _ (past7 BF.out (below_regrown wf d os)))
        have cL : ∀ d os, Calls Tryd.prog 20 #[.agg #[.bool a.w, .string a.t], .agg #[.bool b.w, .string b.t]] (grow (redrawn wf d) os) fun e' w'' => e' = .returned (.bool q) ∧ ∃ p : Regrown, w'' = grow (redrawn wf p.d) p.os := fun d os => Calls.regrown_of (iL _ (past7 BF.out (below_regrown wf d os)))
        have cM : ∀ d os, Calls Tryd.prog 20 #[.agg #[.bool b.w, .string b.t], .agg #[.bool a.w, .string a.t]] (grow (redrawn wf d) os) fun e' w'' => e' = .returned (.bool q) ∧ ∃ p : Regrown, w'' = grow (redrawn wf p.d) p.os := fun d os => Calls.regrown_of (iM _ (past7 BF.out (below_regrown wf d os)))
        have cZ : ∀ d os, Calls Tryd.prog 17 #[.string ⟨#[42]⟩, .agg #[.bool c.w, .string c.t], .bool th] (grow (redrawn wf d) os) fun e' w'' => e' = .returned (.bool th) ∧ ∃ p : Regrown, w'' = grow (redrawn wf p.d) p.os := fun d os => Calls.regrown_of (iZ _ (past7 BF.out (below_regrown wf d os)))
        clear iG iL iM iZ
        have hpq' : (p = false ∧ q = false) ∨ (p = false ∧ q = true) ∨ (p = true ∧ q = true) := by cases p <;> cases q <;> simp_all
        have hmn' : (m = false ∧ n = false) ∨ (m = false ∧ n = true) ∨ (m = true ∧ n = false) := by cases m <;> cases n <;> simp_all
        clear hpq hmn
        rcases hpq' with ⟨rfl, rfl⟩ | ⟨rfl, rfl⟩ | ⟨rfl, rfl⟩ <;> rcases hmn' with ⟨rfl, rfl⟩ | ⟨rfl, rfl⟩ | ⟨rfl, rfl⟩ <;> (
          refine wp_region_quiet_below (by kernel_rfl) (by kernel_rfl) ?_
          repeat (go_big_quiet_step (first | (with_reducible exact cG _ _) | (with_reducible exact cL _ _) | (with_reducible exact cM _ _) | (with_reducible exact cZ _ _)))
          refine wpQuiet_nil ?_
          intro _ hw'
          obtain ⟨⟨dq, osq⟩, hw''⟩ := hw'
          subst hw''
          have hbg := below_regrown wf dq osq
          generalize grow (redrawn wf dq) osq = wg at hbg ⊢
          have BG : Hid (Below w.heap.size w wg) := past7 BF.out hbg
          clear ka0 ka1 kb0 kb1 kc0 kc1 cG cL cM cZ hbg
          go_wp2
          refine bodyPost_ret (v := .bool true) (by simp [results, Tryd.results3, go_sem]) rfl ⟨rfl, BG.out⟩)
      | some u =>
        have hus := rdT_size hry
        have hsu : shT u = y := by obtain ⟨g1, g2⟩ := rdT_some hry; rw [shT_yes g1]; exact g2
        have lS := fun W (hb : Below w.heap.size w W) => hiS u W (XX.out W hb) (by omega)
        rw [hsu] at lS
        have dy : (y.toList == y.toList) = true := by simp
        simp only [hry, rdV_some] at jR kR
        unfold tgV at lS
        clear hry hiS hsu
        go_wp2_with fail
        refine (jR _ V1.out).mono ?_
        rintro e v2 ⟨rfl, hv2⟩
        have V2 : Hid (Below w.heap.size w (v2.alloc (.cells #[.bool u.w, .string u.t] 25))) := by
          have := past7 V1.out hv2
          exact this.alloc this.size _
        have U2 : Hid (TgB (v2.alloc (.cells #[.bool u.w, .string u.t] 25)) v2.heap.size u) := TgB.new v2 u 25
        clear hv2 V1
        go_wp2_with fail
        refine (kR _).mono ?_
        rintro e v3 ⟨rfl, hv3⟩
        have V3' : Hid (Below w.heap.size w v3) := past7 V2.out hv3
        have V3 : Hid (Below w.heap.size w (v3.alloc (.cells #[.bool u.w, .string u.t] 25))) := V3'.out.alloc V3'.out.size _
        have U3 : Hid (TgB (v3.alloc (.cells #[.bool u.w, .string u.t] 25)) v2.heap.size u) := (U2.out.kept hv3).alloc _
        have u0 := U3.out.c0
        have u1 := U3.out.c1
        have lt3 : v2.heap.size < v3.heap.size := by have := hv3.size; simp at this; omega
        clear hv3 V2 V3'
        go_wp2_with fail
        refine (lS _ V3.out).mono ?_
        rintro e v4 ⟨rfl, hv4⟩
        have V4 : Hid (Below w.heap.size w v4) := past7 V3.out hv4
        clear hv4 V3 u0 u1 U2 U3 lS
        go_wp2_with fail
        refine (drawTst sa sl sc _ (code_up7 h8.out V4.out) hl).mono ?_
        rintro e wa ⟨⟨a, b, rfl, hsa, hsb⟩, hba⟩
        have BA : Hid (Below w.heap.size w wa) := past7 V4.out hba
        have BA2 : Hid (Below w.heap.size w ((wa.alloc (.cells #[.bool a.w, .string a.t] 25)).alloc (.cells #[.bool b.w, .string b.t] 25))) := (BA.out.alloc BA.out.size _).alloc (Nat.le_trans BA.out.size (by simp)) _
        have TA : Hid (TgB ((wa.alloc (.cells #[.bool a.w, .string a.t] 25)).alloc (.cells #[.bool b.w, .string b.t] 25)) wa.heap.size a) := (TgB.new wa a 25).alloc _
        have TB : Hid (TgB ((wa.alloc (.cells #[.bool a.w, .string a.t] 25)).alloc (.cells #[.bool b.w, .string b.t] 25)) (wa.heap.size + 1) b) := by
          have := TgB.new (wa.alloc (.cells #[.bool a.w, .string a.t] 25)) b 25
          simp only [World.size_alloc] at this
          exact this
        have iG := fun W (hb : Below w.heap.size w W) => hiG a b W (XX.out W hb) (by omega) (by omega)
        have iL := fun W (hb : Below w.heap.size w W) => hiL a b W (XX.out W hb) (by omega) (by omega)
        have iM := fun W (hb : Below w.heap.size w W) => hiL b a W (XX.out W hb) (by omega) (by omega)
        have sG := fun W => specStr a b W (by unfold maxLen; omega) (by unfold maxLen; omega)
        have sL := fun W => specLik a b W (by unfold maxLen; omega) (by unfold maxLen; omega)
        rw [likB_comm b a] at iM
        have hpq := @strB_lik a b
        generalize strB a b = p at iG sG hpq
        generalize likB a b = q at iL iM sL hpq
        unfold tgV at iG iL iM sG sL ⊢
        clear hba BA V4
        go_wp2_with fail
        refine (drawTnm sa sl sc _ (code_up7 h8.out BA2.out) hl).mono ?_
        rintro e wb ⟨⟨l, c, th, rfl, hsl, hsc⟩, hbb⟩
        have BB : Hid (Below w.heap.size w wb) := past7 BA2.out hbb
        have BC : Hid (Below w.heap.size w (wb.alloc (.cells #[.bool c.w, .string c.t] 25))) := BB.out.alloc BB.out.size _
        have TA1 : Hid (TgB (wb.alloc (.cells #[.bool c.w, .string c.t] 25)) wa.heap.size a) := (TA.out.kept hbb).alloc _
        have TB1 : Hid (TgB (wb.alloc (.cells #[.bool c.w, .string c.t] 25)) (wa.heap.size + 1) b) := (TB.out.kept hbb).alloc _
        have TC1 : Hid (TgB (wb.alloc (.cells #[.bool c.w, .string c.t] 25)) wb.heap.size c) := TgB.new wb c 25
        have lt1 : wa.heap.size + 1 < wb.heap.size := by have := hbb.size; simp at this; omega
        have iN := fun W (hb : Below w.heap.size w W) => hiN l c th W (XX.out W hb) (by omega) (by omega)
        have iA := fun W (hb : Below w.heap.size w W) => hiA l c th W (XX.out W hb) (by omega) (by omega)
        have iZ := fun W (hb : Below w.heap.size w W) => hiA starS c th W (XX.out W hb) (by decide) (by omega)
        rw [any_star] at iZ
        have sN := fun W => specNon l c th W (by unfold maxLen; omega) (by unfold maxLen; omega)
        have sA := fun W => specAny l c th W (by unfold maxLen; omega) (by unfold maxLen; omega)
        have hmn := match_not l c th
        generalize nonM l c th = m at iN sN hmn
        generalize anyM l c th = n at iA sA hmn
        unfold tgV at iN iA iZ sN sA ⊢
        unfold starS at iZ
        clear hbb BA2 TA TB BB hiG hiL hiN hiA
        go_wp2_with fail
        refine (iN _ BC.out).mono ?_
        rintro e wd ⟨rfl, hbd⟩
        have BD : Hid (Below w.heap.size w wd) := past7 BC.out hbd
        have TA2 : Hid (TgB wd wa.heap.size a) := TA1.out.kept hbd
        have TB2 : Hid (TgB wd (wa.heap.size + 1) b) := TB1.out.kept hbd
        have TC2 : Hid (TgB wd wb.heap.size c) := TC1.out.kept hbd
        have c0 := TC2.out.c0
        have c1 := TC2.out.c1
        clear hbd BC TA1 TB1 TC1 iN
        go_wp2_with fail
        refine (iA _ BD.out).mono ?_
        rintro e we ⟨rfl, hbe⟩
        have BE : Hid (Below w.heap.size w we) := past7 BD.out hbe
        have TA3 : Hid (TgB we wa.heap.size a) := TA2.out.kept hbe
        have TB3 : Hid (TgB we (wa.heap.size + 1) b) := TB2.out.kept hbe
        have TC3 : Hid (TgB we wb.heap.size c) := TC2.out.kept hbe
        clear hbe BD TA2 TB2 TC2 iA c0 c1
        go_wp2
        have ka0 := cell_regrown TA3.out.c0
        have ka1 := cell_regrown TA3.out.c1
        have kb0 := cell_regrown TB3.out.c0
        have kb1 := cell_regrown TB3.out.c1
        have kc0 := cell_regrown TC3.out.c0
        have kc1 := cell_regrown TC3.out.c1
        have cG : ∀ d os, Calls Tryd.prog 18 #[.agg #[.bool a.w, .string a.t], .agg #[.bool b.w, .string b.t]] (grow (redrawn we d) os) fun e' w'' => e' = .returned (.bool p) ∧ ∃ p : Regrown, w'' = grow (redrawn we p.d) p.os := fun d os => Calls.regrown_of (iG _ (past7 BE.out (below_regrown we d os)))
        have cH : ∀ d os, Calls Tryd.prog 19 #[.agg #[.bool a.w, .string a.t], .agg #[.bool b.w, .string b.t]] (grow (redrawn we d) os) fun e' w'' => e' = .returned (.bool p) ∧ ∃ p : Regrown, w'' = grow (redrawn we p.d) p.os := fun d os => Calls.regrown_of (sG _)
        have cL : ∀ d os, Calls Tryd.prog 20 #[.agg #[.bool a.w, .string a.t], .agg #[.bool b.w, .string b.t]] (grow (redrawn we d) os) fun e' w'' => e' = .returned (.bool q) ∧ ∃ p : Regrown, w'' = grow (redrawn we p.d) p.os := fun d os => Calls.regrown_of (iL _ (past7 BE.out (below_regrown we d os)))
        have cM : ∀ d os, Calls Tryd.prog 21 #[.agg #[.bool a.w, .string a.t], .agg #[.bool b.w, .string b.t]] (grow (redrawn we d) os) fun e' w'' => e' = .returned (.bool q) ∧ ∃ p : Regrown, w'' = grow (redrawn we p.d) p.os := fun d os => Calls.regrown_of (sL _)
        have cN : ∀ d os, Calls Tryd.prog 22 #[.string l, .agg #[.bool c.w, .string c.t], .bool th] (grow (redrawn we d) os) fun e' w'' => e' = .returned (.bool m) ∧ ∃ p : Regrown, w'' = grow (redrawn we p.d) p.os := fun d os => Calls.regrown_of (sN _)
        have cA : ∀ d os, Calls Tryd.prog 23 #[.string l, .agg #[.bool c.w, .string c.t], .bool th] (grow (redrawn we d) os) fun e' w'' => e' = .returned (.bool n) ∧ ∃ p : Regrown, w'' = grow (redrawn we p.d) p.os := fun d os => Calls.regrown_of (sA _)
        refine wp_region_quiet_below (by kernel_rfl) (by kernel_rfl) ?_
        repeat (go_big_quiet_step (first | (with_reducible exact cG _ _) | (with_reducible exact cH _ _) | (with_reducible exact cL _ _) | (with_reducible exact cM _ _) | (with_reducible exact cN _ _) | (with_reducible exact cA _ _)))
        refine wpQuiet_nil ?_
        intro _ hw'
        obtain ⟨⟨dq, osq⟩, hw''⟩ := hw'
        subst hw''
        have hbf := below_regrown we dq osq
        generalize grow (redrawn we dq) osq = wf at hbf ⊢
        have BF : Hid (Below w.heap.size w wf) := past7 BE.out hbf
        have TA4 : Hid (TgB wf wa.heap.size a) := TA3.out.kept hbf
        have TB4 : Hid (TgB wf (wa.heap.size + 1) b) := TB3.out.kept hbf
        have TC4 : Hid (TgB wf wb.heap.size c) := TC3.out.kept hbf
        clear ka0 ka1 kb0 kb1 kc0 kc1 cG cH cL cM cN cA hbf BE TA3 TB3 TC3 sG sL sN sA
        go_wp2
        have ka0 := cell_regrown TA4.out.c0
        have ka1 := cell_regrown TA4.out.c1
        have kb0 := cell_regrown TB4.out.c0
        have kb1 := cell_regrown TB4.out.c1
        have kc0 := cell_regrown TC4.out.c0
        have kc1 := cell_regrown TC4.out.c1
        have cG : ∀ d os, Calls Tryd.prog 18 #[.agg #[.bool a.w, .string a.t], .agg #[.bool b.w, .string b.t]] (grow (redrawn wf d) os) fun e' w'' => e' = .returned (.bool p) ∧ ∃ p : Regrown, w'' = grow (redrawn wf p.d) p.os := fun d os => Calls.regrown_of (iG _ (past7 BF.out (below_regrown wf d os)))
        have cL : ∀ d os, Calls Tryd.prog 20 #[.agg #[.bool a.w, .string a.t], .agg #[.bool b.w, .string b.t]] (grow (redrawn wf d) os) fun e' w'' => e' = .returned (.bool q) ∧ ∃ p : Regrown, w'' = grow (redrawn wf p.d) p.os := fun d os => Calls.regrown_of (iL _ (past7 BF.out (below_regrown wf d os)))
        have cM : ∀ d os, Calls Tryd.prog 20 #[.agg #[.bool b.w, .string b.t], .agg #[.bool a.w, .string a.t]] (grow (redrawn wf d) os) fun e' w'' => e' = .returned (.bool q) ∧ ∃ p : Regrown, w'' = grow (redrawn wf p.d) p.os := fun d os => Calls.regrown_of (iM _ (past7 BF.out (below_regrown wf d os)))
        have cZ : ∀ d os, Calls Tryd.prog 17 #[.string ⟨#[42]⟩, .agg #[.bool c.w, .string c.t], .bool th] (grow (redrawn wf d) os) fun e' w'' => e' = .returned (.bool th) ∧ ∃ p : Regrown, w'' = grow (redrawn wf p.d) p.os := fun d os => Calls.regrown_of (iZ _ (past7 BF.out (below_regrown wf d os)))
        clear iG iL iM iZ
        have hpq' : (p = false ∧ q = false) ∨ (p = false ∧ q = true) ∨ (p = true ∧ q = true) := by cases p <;> cases q <;> simp_all
        have hmn' : (m = false ∧ n = false) ∨ (m = false ∧ n = true) ∨ (m = true ∧ n = false) := by cases m <;> cases n <;> simp_all
        clear hpq hmn
        rcases hpq' with ⟨rfl, rfl⟩ | ⟨rfl, rfl⟩ | ⟨rfl, rfl⟩ <;> rcases hmn' with ⟨rfl, rfl⟩ | ⟨rfl, rfl⟩ | ⟨rfl, rfl⟩ <;> (
          refine wp_region_quiet_below (by kernel_rfl) (by kernel_rfl) ?_
          repeat (go_big_quiet_step (first | (with_reducible exact cG _ _) | (with_reducible exact cL _ _) | (with_reducible exact cM _ _) | (with_reducible exact cZ _ _)))
          refine wpQuiet_nil ?_
          intro _ hw'
          obtain ⟨⟨dq, osq⟩, hw''⟩ := hw'
          subst hw''
          have hbg := below_regrown wf dq osq
          generalize grow (redrawn wf dq) osq = wg at hbg ⊢
          have BG : Hid (Below w.heap.size w wg) := past7 BF.out hbg
          clear ka0 ka1 kb0 kb1 kc0 kc1 cG cL cM cZ hbg
          go_wp2
          refine bodyPost_ret (v := .bool true) (by simp [results, Tryd.results3, go_sem]) rfl ⟨rfl, BG.out⟩)
end Go.Proofs.YteeclocldjmgaaaDoor
