/-
  The program's ReadTag by its contract.
-/
import Derived.Test.YteeclocldjmgaaaDoorTagJ
import Derived.Test.YteeclocldjmgaaaDoorTagL
import Derived.Test.YteeclocldjmgaaaDoorShelfI
namespace Go.Proofs.YteeclocldjmgaaaDoor
open Go.RowKit
set_option linter.unusedVariables false

theorem cloneT (s : ByteArray) (w : World) (h : s.size ≤ 1048576) :
    Calls Tryd.prog 31 #[.string s] w fun e w' => e = .returned (.string s) ∧ Below w.heap.size w w' := by
  go_enter Tryd.func31, Tryd.ntmps31
  go_wp2_with (go_at_call 43; refine (Tryd.stringslite_Clone s _ (by omega)).mono ?_; rintro e w1 ⟨rfl, hb1⟩)
  go_ret
  exact ⟨rfl, hb1⟩
theorem cutW (s : ByteArray) (w : World) : Calls Tryd.prog 29 #[.string s, .string ⟨#[87, 47]⟩] w fun e w' => e = .returned (.tuple #[.string (cpW s), .bool (hpW s)]) ∧ w = w' :=
  (Tryd.strings_CutPrefix s ⟨#[87, 47]⟩ w).mono fun e w' h => ⟨h.1, h.2.symm⟩
theorem cutQ (s : ByteArray) (w : World) : Calls Tryd.prog 29 #[.string s, .string ⟨#[34]⟩] w fun e w' => e = .returned (.tuple #[.string (cpQ s), .bool (hpQ s)]) ∧ w = w' :=
  (Tryd.strings_CutPrefix s ⟨#[34]⟩ w).mono fun e w' h => ⟨h.1, h.2.symm⟩
theorem cutE (s : ByteArray) (w : World) (h : s.size ≤ 1048576) : Calls Tryd.prog 30 #[.string s, .string ⟨#[34]⟩] w fun e w' => e = .returned (.tuple #[.string (csQ s), .bool (hsQ s)]) ∧ w = w' :=
  (Tryd.strings_CutSuffix s ⟨#[34]⟩ w (by omega)).mono fun e w' h => ⟨h.1, h.2.symm⟩
set_option maxHeartbeats 1000000 in
theorem implRd (s : ByteArray) (w : World) (hs : s.size ≤ 1048576) :
    Calls Tryd.prog 11 #[.string s] w fun e w' => e = .returned (rdV (rdT s)) ∧ Below w.heap.size w w' := by
  have h1 := fun W => cutW s W
  have h2 := fun W => cutQ (cpW s) W
  have h3 := fun W => cutE (cpQ (cpW s)) W (by have := cpQ_size (cpW s); have := cpW_size s; omega)
  have hz := ctT_size s
  have h4 := fun W => cloneT (ctT s) W (by omega)
  have h5 := fun W => implTag ⟨hpW s, ctT s⟩ W (by unfold maxLen; show (ctT s).size ≤ _; omega)
  have HY : Hid (ctO s = true → ctC s = true → tagB (ctT s) = true → rdT s = some ⟨hpW s, ctT s⟩) := cut_some
  have HN : Hid (¬ (ctO s = true ∧ ctC s = true ∧ tagB (ctT s) = true) → rdT s = none) := cut_none
  unfold tgV at h5
  simp only at h5
  change ∀ W, Calls _ _ _ _ fun e w' => e = .returned (.tuple #[.string (cpQ (cpW s)), .bool (ctO s)]) ∧ W = w' at h2
  change ∀ W, Calls _ _ _ _ fun e w' => e = .returned (.tuple #[.string (ctT s), .bool (ctC s)]) ∧ W = w' at h3
  generalize tagB (ctT s) = ok at h5 HY HN
  generalize rdT s = R at HY HN ⊢
  generalize ctT s = t at h3 h4 h5 HY hz
  generalize ctO s = op at h2 HY HN
  generalize ctC s = cl at h3 HY HN
  generalize hpW s = wk at h1 h5 HY
  generalize cpQ (cpW s) = s2 at h2 h3
  generalize cpW s = s1 at h1 h2
  go_enter Tryd.func11, Tryd.ntmps11
  go_wp2_with fail
  refine (h1 _).mono ?_
  rintro e w1 ⟨rfl, rfl⟩
  go_wp2_with fail
  refine (h2 _).mono ?_
  rintro e w1 ⟨rfl, rfl⟩
  go_wp2_with fail
  refine (h3 _).mono ?_
  rintro e w1 ⟨rfl, rfl⟩
  go_wp2_with fail
  refine (h4 _).mono ?_
  rintro e w1 ⟨rfl, hb1⟩
  have T0 : Hid (TgB (w1.alloc (.cells #[.bool wk, .string t] 25)) w.heap.size noT) := ((TgB.new w noT 25).kept hb1).alloc _
  have T9 : Hid (TgB w1 w.heap.size noT) := (TgB.new w noT 25).kept hb1
  have B9 : Hid (Below w.heap.size w w1) := past7 ((Below.refl _ w).alloc (Nat.le_refl _) _) hb1
  have T1 : Hid (TgB (w1.alloc (.cells #[.bool wk, .string t] 25)) w1.heap.size ⟨wk, t⟩) := TgB.new w1 ⟨wk, t⟩ 25
  have B1 : Hid (Below w.heap.size w (w1.alloc (.cells #[.bool wk, .string t] 25))) := by
    have := past7 ((Below.refl _ w).alloc (Nat.le_refl _) _) hb1
    exact this.alloc this.size _
  have hlt : w.heap.size < w1.heap.size := by have := hb1.size; simp at this; omega
  clear hb1 h1 h2 h3 h4
  have PN : Hid (∀ W, TgB W w.heap.size noT → Below w.heap.size w W → TgB ((W.setCell ⟨w.heap.size, 0, none⟩ (.bool false)).setCell ⟨w.heap.size, 1, none⟩ (.string ⟨#[]⟩)) w.heap.size noT ∧ Below w.heap.size w ((W.setCell ⟨w.heap.size, 0, none⟩ (.bool false)).setCell ⟨w.heap.size, 1, none⟩ (.string ⟨#[]⟩))) := fun W h hb => ⟨h.put noT, (hb.setCell (p := ⟨w.heap.size, 0, none⟩) (Nat.le_refl _) _).setCell (p := ⟨w.heap.size, 1, none⟩) (Nat.le_refl _) _⟩
  have PY : Hid (∀ W, TgB W w.heap.size noT → Below w.heap.size w W → TgB ((W.setCell ⟨w.heap.size, 0, none⟩ (.bool wk)).setCell ⟨w.heap.size, 1, none⟩ (.string t)) w.heap.size ⟨wk, t⟩ ∧ Below w.heap.size w ((W.setCell ⟨w.heap.size, 0, none⟩ (.bool wk)).setCell ⟨w.heap.size, 1, none⟩ (.string t))) := fun W h hb => ⟨h.put ⟨wk, t⟩, (hb.setCell (p := ⟨w.heap.size, 0, none⟩) (Nat.le_refl _) _).setCell (p := ⟨w.heap.size, 1, none⟩) (Nat.le_refl _) _⟩
  cases op with
  | false =>
    have HR : Hid (R = none) := HN.out (fun h => by cases h.1)
    clear HY HN h5
    have b0 := T9.out.c0
    have b1 := T9.out.c1
    have fz := T9.out.fz
    go_wp2
    obtain ⟨P1, BB⟩ := PN.out _ T9.out B9.out
    have BC := BB.alloc BB.size (.cells #[.bool wk, .string t] 25)
    have p0 := (P1.alloc (.cells #[.bool wk, .string t] 25)).c0
    have p1 := (P1.alloc (.cells #[.bool wk, .string t] 25)).c1
    unfold noT at p0 p1
    simp only at p0 p1
    refine bodyPost_ret (v := .tuple #[.agg #[.bool false, .string ⟨#[]⟩], .bool false]) (by simp [results, Tryd.results11, go_sem, p0, p1]) rfl ⟨ret_rd (by rw [HR.out]; rfl), BC⟩
  | true =>
    cases cl with
    | false =>
      have HR : Hid (R = none) := HN.out (fun h => by cases h.2.1)
      clear HY HN h5
      have b0 := T9.out.c0
      have b1 := T9.out.c1
      have fz := T9.out.fz
      go_wp2
      obtain ⟨P1, BB⟩ := PN.out _ T9.out B9.out
      have BC := BB.alloc BB.size (.cells #[.bool wk, .string t] 25)
      have p0 := (P1.alloc (.cells #[.bool wk, .string t] 25)).c0
      have p1 := (P1.alloc (.cells #[.bool wk, .string t] 25)).c1
      unfold noT at p0 p1
      simp only at p0 p1
      refine bodyPost_ret (v := .tuple #[.agg #[.bool false, .string ⟨#[]⟩], .bool false]) (by simp [results, Tryd.results11, go_sem, p0, p1]) rfl ⟨ret_rd (by rw [HR.out]; rfl), BC⟩
    | true =>
      go_wp2_with fail
      refine (h5 _).mono ?_
      rintro e w2 ⟨rfl, hb2⟩
      have T2 : Hid (TgB w2 w.heap.size noT) := T0.out.kept hb2
      have T3 : Hid (TgB w2 w1.heap.size ⟨wk, t⟩) := T1.out.kept hb2
      have B2 : Hid (Below w.heap.size w w2) := past7 B1.out hb2
      clear hb2 h5 T0 T1 B1
      have b0 := T2.out.c0
      have b1 := T2.out.c1
      have fz := T2.out.fz
      have c0 := T3.out.c0
      have c1 := T3.out.c1
      cases ok with
      | false =>
        have HR : Hid (R = none) := HN.out (fun h => by cases h.2.2)
        clear HY HN
        go_wp2
        obtain ⟨P1, BB⟩ := PN.out _ T2.out B2.out
        have p0 := P1.c0
        have p1 := P1.c1
        unfold noT at p0 p1
        simp only at p0 p1
        refine bodyPost_ret (v := .tuple #[.agg #[.bool false, .string ⟨#[]⟩], .bool false]) (by simp [results, Tryd.results11, go_sem, p0, p1]) rfl ⟨ret_rd (by rw [HR.out]; rfl), BB⟩
      | true =>
        have HR : Hid (R = some ⟨wk, t⟩) := by have := HY.out; simp only [forall_const] at this; exact this
        clear HY HN
        go_wp2
        obtain ⟨P1, BB⟩ := PY.out _ T2.out B2.out
        have p0 := P1.c0
        have p1 := P1.c1
        simp only at p0 p1
        refine bodyPost_ret (v := .tuple #[.agg #[.bool wk, .string t], .bool true]) (by simp [results, Tryd.results11, go_sem, p0, p1]) rfl ⟨ret_rd (by rw [HR.out]; rfl), BB⟩
end Go.Proofs.YteeclocldjmgaaaDoor
