/-
  The specification's ReadTag, Strong and Alike by their contracts.
-/
import Derived.Test.YteeclocldjmgaaaDoorTagA
import Derived.Laws.Strings
namespace Go.Proofs.YteeclocldjmgaaaDoor
open Go.RowKit
set_option linter.unusedVariables false

theorem txt_eq (a b : ByteArray) : (a.toList == b.toList) = decide (a = b) := by
  by_cases h : a = b
  · subst h; simp
  · rw [decide_eq_false h]
    have : ¬ a.toList = b.toList := fun e => h (by
      have e2 : a.data.toList = b.data.toList := by simpa [ByteArray.toList_eq] using e
      exact data_ext e2)
    simp [this]
theorem tsame {a b : ByteArray} (h : a = b) : (a.toList == b.toList) = true := by rw [txt_eq]; simp [h]
theorem tdiff {a b : ByteArray} (h : ¬ a = b) : (a.toList == b.toList) = false := by rw [txt_eq]; simp [h]
theorem rdV_none : rdV none = .tuple #[.agg #[.bool false, .string ⟨#[]⟩], .bool false] := rfl
theorem rdV_some (x : Tg) : rdV (some x) = .tuple #[.agg #[.bool x.w, .string x.t], .bool true] := rfl
theorem ret_rd {o : Option Tg} {v : Value} (h : v = rdV o) : Ending.returned v = .returned (rdV o) := by rw [h]

theorem wq_list : (⟨#[87, 47]⟩ : ByteArray).toList = [87, 47] := by rw [ByteArray.toList_eq]
theorem TgB.put {w : World} {b : Nat} {y : Tg} (h : TgB w b y) (x : Tg) : TgB ((w.setCell ⟨b, 0, none⟩ (.bool x.w)).setCell ⟨b, 1, none⟩ (.string x.t)) b x where
  c0 := by rw [World.cell?_setCell_other _ _ _ _ (by simp)]; exact World.cell?_setCell_same _ _ _ h.c0
  c1 := World.cell?_setCell_same _ _ _ (by rw [World.cell?_setCell_other _ _ _ _ (by simp)]; exact h.c1)
  fz := fun k => by rw [World.frozen?_setCell, World.frozen?_setCell]; exact h.fz k
  hi := by rw [World.size_setCell, World.size_setCell]; exact h.hi
theorem rdT_plain {s : ByteArray} (hk : wkB s = false) : rdT s = if 2 ≤ s.size ∧ shT ⟨false, s.extract 1 (s.size - 1)⟩ = s then some ⟨false, s.extract 1 (s.size - 1)⟩ else none := by
  have hc : rdC s = ⟨false, s.extract 1 (s.size - 1)⟩ := by unfold rdC; rw [if_neg (by rw [hk]; decide)]
  have hz : rdZ s = s.size := by unfold rdZ; rw [if_neg (by rw [hk]; decide)]
  unfold rdT
  rw [hc, hz]
set_option maxHeartbeats 1000000 in
theorem specRd (s : ByteArray) (w : World) (hs : s.size ≤ maxLen) :
    Calls Tryd.prog 13 #[.string s] w fun e w' => e = .returned (rdV (rdT s)) ∧ Below w.heap.size w w' := by
  unfold maxLen at hs
  by_cases h2 : 2 < s.size
  · have d2 : decide (2 < (s.size : Int)) = true := by simp; omega
    by_cases hw : s.extract 0 2 = ⟨#[87, 47]⟩
    · have dw := tsame hw
      rw [wq_list] at dw
      have hk : wkB s = true := by unfold wkB; rw [decide_eq_true h2, decide_eq_true hw]; rfl
      have hc : rdC s = ⟨true, (s.extract 2 s.size).extract 1 (s.size - 3)⟩ := by unfold rdC; rw [if_pos hk]
      have hz : rdZ s = s.size - 2 := by unfold rdZ; rw [if_pos hk]
      have hr : rdT s = if 2 ≤ s.size - 2 ∧ shT ⟨true, (s.extract 2 s.size).extract 1 (s.size - 3)⟩ = s then some ⟨true, (s.extract 2 s.size).extract 1 (s.size - 3)⟩ else none := by unfold rdT; rw [hc, hz]
      have HR : Hid (rdT s = _) := hr
      generalize rdT s = R at HR ⊢
      clear hw hk hc hz hr
      by_cases h4 : s.size < 4
      · have HN : Hid (R = none) := by rw [HR.out]; exact if_neg (by omega)
        clear HR
        go_enter Tryd.func13, Tryd.ntmps13
        go_wp2
        refine bodyPost_ret (v := .tuple #[.agg #[.bool false, .string ⟨#[]⟩], .bool false]) (by simp [results, Tryd.results13, go_sem]) rfl ⟨ret_rd (by rw [HN.out]; rfl), ?_⟩
        repeat (first | exact Below.refl _ _ | refine Below.alloc ?_ (by simp <;> omega) _ | refine Below.setCell ?_ (by simp <;> omega) _)
      · 
        have hsh := fun W => specSh ⟨true, (s.extract 2 s.size).extract 1 (s.size - 3)⟩ W (by unfold maxLen; simp; omega)
        unfold tgV at hsh
        simp only at hsh
        by_cases he : shT ⟨true, (s.extract 2 s.size).extract 1 (s.size - 3)⟩ = s
        · have HN : Hid (R = some ⟨true, (s.extract 2 s.size).extract 1 (s.size - 3)⟩) := by rw [HR.out]; exact if_pos ⟨by omega, he⟩
          have dn := tsame he
          generalize shT ⟨true, (s.extract 2 s.size).extract 1 (s.size - 3)⟩ = U at hsh dn
          clear he HR
          go_enter Tryd.func13, Tryd.ntmps13
          go_wp2_with fail
          refine (hsh _).mono ?_
          rintro e w1 ⟨rfl, hb1⟩
          have T1 : Hid (TgB w1 (w.heap.size + 1) ⟨true, (s.extract 2 s.size).extract 1 (s.size - 3)⟩) := by
            have := TgB.new (w.alloc (.cells #[.bool false, .string ⟨#[]⟩] 25)) ⟨true, (s.extract 2 s.size).extract 1 (s.size - 3)⟩ 25
            simp only [World.size_alloc] at this
            exact this.kept hb1
          have T0 : Hid (TgB w1 w.heap.size noT) := ((TgB.new w noT 25).alloc _).kept hb1
          have B1 : Hid (Below w.heap.size w w1) := by
            refine past7 ?_ hb1
            repeat (first | exact Below.refl _ _ | refine Below.alloc ?_ (by simp <;> omega) _ | refine Below.setCell ?_ (by simp <;> omega) _)
          have P1 : Hid (TgB _ w.heap.size ⟨true, (s.extract 2 s.size).extract 1 (s.size - 3)⟩) := T0.out.put ⟨true, (s.extract 2 s.size).extract 1 (s.size - 3)⟩
          have B2 : Hid (Below w.heap.size w _) := (B1.out.setCell (p := ⟨w.heap.size, 0, none⟩) (Nat.le_refl _) (.bool (⟨true, (s.extract 2 s.size).extract 1 (s.size - 3)⟩ : Tg).w)).setCell (p := ⟨w.heap.size, 1, none⟩) (Nat.le_refl _) (.string (⟨true, (s.extract 2 s.size).extract 1 (s.size - 3)⟩ : Tg).t)
          have c0 := T1.out.c0
          have c1 := T1.out.c1
          have b0 := T0.out.c0
          have b1 := T0.out.c1
          have fz := T0.out.fz
          clear hb1
          go_wp2
          have p0 := P1.out.c0
          have p1 := P1.out.c1
          have BB := B2.out
          simp only at p0 p1 BB
          refine bodyPost_ret (v := .tuple #[.agg #[.bool true, .string ((s.extract 2 s.size).extract 1 (s.size - 3))], .bool true]) (by simp [results, Tryd.results13, go_sem, p0, p1]) rfl ⟨ret_rd (by rw [HN.out]; rfl), BB⟩
        · have HN : Hid (R = none) := by rw [HR.out]; exact if_neg (fun h => he h.2)
          have dn := tdiff he
          generalize shT ⟨true, (s.extract 2 s.size).extract 1 (s.size - 3)⟩ = U at hsh dn
          clear he HR
          go_enter Tryd.func13, Tryd.ntmps13
          go_wp2_with fail
          refine (hsh _).mono ?_
          rintro e w1 ⟨rfl, hb1⟩
          have T1 : Hid (TgB w1 (w.heap.size + 1) ⟨true, (s.extract 2 s.size).extract 1 (s.size - 3)⟩) := by
            have := TgB.new (w.alloc (.cells #[.bool false, .string ⟨#[]⟩] 25)) ⟨true, (s.extract 2 s.size).extract 1 (s.size - 3)⟩ 25
            simp only [World.size_alloc] at this
            exact this.kept hb1
          have T0 : Hid (TgB w1 w.heap.size noT) := ((TgB.new w noT 25).alloc _).kept hb1
          have B1 : Hid (Below w.heap.size w w1) := by
            refine past7 ?_ hb1
            repeat (first | exact Below.refl _ _ | refine Below.alloc ?_ (by simp <;> omega) _ | refine Below.setCell ?_ (by simp <;> omega) _)
          have P1 : Hid (TgB _ w.heap.size noT) := T0.out.put noT
          have B2 : Hid (Below w.heap.size w _) := (B1.out.setCell (p := ⟨w.heap.size, 0, none⟩) (Nat.le_refl _) (.bool (noT : Tg).w)).setCell (p := ⟨w.heap.size, 1, none⟩) (Nat.le_refl _) (.string (noT : Tg).t)
          have c0 := T1.out.c0
          have c1 := T1.out.c1
          have b0 := T0.out.c0
          have b1 := T0.out.c1
          have fz := T0.out.fz
          clear hb1
          go_wp2
          have p0 := P1.out.c0
          have p1 := P1.out.c1
          have BB := B2.out
          unfold noT at p0 p1 BB
          simp only at p0 p1 BB
          refine bodyPost_ret (v := .tuple #[.agg #[.bool false, .string ⟨#[]⟩], .bool false]) (by simp [results, Tryd.results13, go_sem, p0, p1]) rfl ⟨ret_rd (by rw [HN.out]; rfl), BB⟩
    · have dw := tdiff hw
      rw [wq_list] at dw
      have hk : wkB s = false := by unfold wkB; rw [decide_eq_false hw, Bool.and_false]
      have hr : rdT s = if 2 ≤ s.size ∧ shT ⟨false, s.extract 1 (s.size - 1)⟩ = s then some ⟨false, s.extract 1 (s.size - 1)⟩ else none := rdT_plain hk
      have HR : Hid (rdT s = _) := hr
      generalize rdT s = R at HR ⊢
      clear hw hk hr
      have hsh := fun W => specSh ⟨false, s.extract 1 (s.size - 1)⟩ W (by unfold maxLen; simp; omega)
      unfold tgV at hsh
      simp only at hsh
      by_cases he : shT ⟨false, s.extract 1 (s.size - 1)⟩ = s
      · have HN : Hid (R = some ⟨false, s.extract 1 (s.size - 1)⟩) := by rw [HR.out]; exact if_pos ⟨by omega, he⟩
        have dn := tsame he
        generalize shT ⟨false, s.extract 1 (s.size - 1)⟩ = U at hsh dn
        clear he HR
        go_enter Tryd.func13, Tryd.ntmps13
        go_wp2_with fail
        refine (hsh _).mono ?_
        rintro e w1 ⟨rfl, hb1⟩
        have T1 : Hid (TgB w1 (w.heap.size + 1) ⟨false, s.extract 1 (s.size - 1)⟩) := by
          have := TgB.new (w.alloc (.cells #[.bool false, .string ⟨#[]⟩] 25)) ⟨false, s.extract 1 (s.size - 1)⟩ 25
          simp only [World.size_alloc] at this
          exact this.kept hb1
        have T0 : Hid (TgB w1 w.heap.size noT) := ((TgB.new w noT 25).alloc _).kept hb1
        have B1 : Hid (Below w.heap.size w w1) := by
          refine past7 ?_ hb1
          repeat (first | exact Below.refl _ _ | refine Below.alloc ?_ (by simp <;> omega) _ | refine Below.setCell ?_ (by simp <;> omega) _)
        have P1 : Hid (TgB _ w.heap.size ⟨false, s.extract 1 (s.size - 1)⟩) := T0.out.put ⟨false, s.extract 1 (s.size - 1)⟩
        have B2 : Hid (Below w.heap.size w _) := (B1.out.setCell (p := ⟨w.heap.size, 0, none⟩) (Nat.le_refl _) (.bool (⟨false, s.extract 1 (s.size - 1)⟩ : Tg).w)).setCell (p := ⟨w.heap.size, 1, none⟩) (Nat.le_refl _) (.string (⟨false, s.extract 1 (s.size - 1)⟩ : Tg).t)
        have c0 := T1.out.c0
        have c1 := T1.out.c1
        have b0 := T0.out.c0
        have b1 := T0.out.c1
        have fz := T0.out.fz
        clear hb1
        go_wp2
        have p0 := P1.out.c0
        have p1 := P1.out.c1
        have BB := B2.out
        simp only at p0 p1 BB
        refine bodyPost_ret (v := .tuple #[.agg #[.bool false, .string (s.extract 1 (s.size - 1))], .bool true]) (by simp [results, Tryd.results13, go_sem, p0, p1]) rfl ⟨ret_rd (by rw [HN.out]; rfl), BB⟩
      · have HN : Hid (R = none) := by rw [HR.out]; exact if_neg (fun h => he h.2)
        have dn := tdiff he
        generalize shT ⟨false, s.extract 1 (s.size - 1)⟩ = U at hsh dn
        clear he HR
        go_enter Tryd.func13, Tryd.ntmps13
        go_wp2_with fail
        refine (hsh _).mono ?_
        rintro e w1 ⟨rfl, hb1⟩
        have T1 : Hid (TgB w1 (w.heap.size + 1) ⟨false, s.extract 1 (s.size - 1)⟩) := by
          have := TgB.new (w.alloc (.cells #[.bool false, .string ⟨#[]⟩] 25)) ⟨false, s.extract 1 (s.size - 1)⟩ 25
          simp only [World.size_alloc] at this
          exact this.kept hb1
        have T0 : Hid (TgB w1 w.heap.size noT) := ((TgB.new w noT 25).alloc _).kept hb1
        have B1 : Hid (Below w.heap.size w w1) := by
          refine past7 ?_ hb1
          repeat (first | exact Below.refl _ _ | refine Below.alloc ?_ (by simp <;> omega) _ | refine Below.setCell ?_ (by simp <;> omega) _)
        have P1 : Hid (TgB _ w.heap.size noT) := T0.out.put noT
        have B2 : Hid (Below w.heap.size w _) := (B1.out.setCell (p := ⟨w.heap.size, 0, none⟩) (Nat.le_refl _) (.bool (noT : Tg).w)).setCell (p := ⟨w.heap.size, 1, none⟩) (Nat.le_refl _) (.string (noT : Tg).t)
        have c0 := T1.out.c0
        have c1 := T1.out.c1
        have b0 := T0.out.c0
        have b1 := T0.out.c1
        have fz := T0.out.fz
        clear hb1
        go_wp2
        have p0 := P1.out.c0
        have p1 := P1.out.c1
        have BB := B2.out
        unfold noT at p0 p1 BB
        simp only at p0 p1 BB
        refine bodyPost_ret (v := .tuple #[.agg #[.bool false, .string ⟨#[]⟩], .bool false]) (by simp [results, Tryd.results13, go_sem, p0, p1]) rfl ⟨ret_rd (by rw [HN.out]; rfl), BB⟩
  · have d2 : decide (2 < (s.size : Int)) = false := by simp; omega
    have hk : wkB s = false := by unfold wkB; rw [decide_eq_false h2]; rfl
    have hr : rdT s = if 2 ≤ s.size ∧ shT ⟨false, s.extract 1 (s.size - 1)⟩ = s then some ⟨false, s.extract 1 (s.size - 1)⟩ else none := rdT_plain hk
    have HR : Hid (rdT s = _) := hr
    generalize rdT s = R at HR ⊢
    clear hk hr
    by_cases h4 : s.size < 2
    · have HN : Hid (R = none) := by rw [HR.out]; exact if_neg (by omega)
      clear HR
      go_enter Tryd.func13, Tryd.ntmps13
      go_wp2
      refine bodyPost_ret (v := .tuple #[.agg #[.bool false, .string ⟨#[]⟩], .bool false]) (by simp [results, Tryd.results13, go_sem]) rfl ⟨ret_rd (by rw [HN.out]; rfl), ?_⟩
      repeat (first | exact Below.refl _ _ | refine Below.alloc ?_ (by simp <;> omega) _ | refine Below.setCell ?_ (by simp <;> omega) _)
    · 
      have hsh := fun W => specSh ⟨false, s.extract 1 (s.size - 1)⟩ W (by unfold maxLen; simp; omega)
      unfold tgV at hsh
      simp only at hsh
      by_cases he : shT ⟨false, s.extract 1 (s.size - 1)⟩ = s
      · have HN : Hid (R = some ⟨false, s.extract 1 (s.size - 1)⟩) := by rw [HR.out]; exact if_pos ⟨by omega, he⟩
        have dn := tsame he
        generalize shT ⟨false, s.extract 1 (s.size - 1)⟩ = U at hsh dn
        clear he HR
        go_enter Tryd.func13, Tryd.ntmps13
        go_wp2_with fail
        refine (hsh _).mono ?_
        rintro e w1 ⟨rfl, hb1⟩
        have T1 : Hid (TgB w1 (w.heap.size + 1) ⟨false, s.extract 1 (s.size - 1)⟩) := by
          have := TgB.new (w.alloc (.cells #[.bool false, .string ⟨#[]⟩] 25)) ⟨false, s.extract 1 (s.size - 1)⟩ 25
          simp only [World.size_alloc] at this
          exact this.kept hb1
        have T0 : Hid (TgB w1 w.heap.size noT) := ((TgB.new w noT 25).alloc _).kept hb1
        have B1 : Hid (Below w.heap.size w w1) := by
          refine past7 ?_ hb1
          repeat (first | exact Below.refl _ _ | refine Below.alloc ?_ (by simp <;> omega) _ | refine Below.setCell ?_ (by simp <;> omega) _)
        have P1 : Hid (TgB _ w.heap.size ⟨false, s.extract 1 (s.size - 1)⟩) := T0.out.put ⟨false, s.extract 1 (s.size - 1)⟩
        have B2 : Hid (Below w.heap.size w _) := (B1.out.setCell (p := ⟨w.heap.size, 0, none⟩) (Nat.le_refl _) (.bool (⟨false, s.extract 1 (s.size - 1)⟩ : Tg).w)).setCell (p := ⟨w.heap.size, 1, none⟩) (Nat.le_refl _) (.string (⟨false, s.extract 1 (s.size - 1)⟩ : Tg).t)
        have c0 := T1.out.c0
        have c1 := T1.out.c1
        have b0 := T0.out.c0
        have b1 := T0.out.c1
        have fz := T0.out.fz
        clear hb1
        go_wp2
        have p0 := P1.out.c0
        have p1 := P1.out.c1
        have BB := B2.out
        simp only at p0 p1 BB
        refine bodyPost_ret (v := .tuple #[.agg #[.bool false, .string (s.extract 1 (s.size - 1))], .bool true]) (by simp [results, Tryd.results13, go_sem, p0, p1]) rfl ⟨ret_rd (by rw [HN.out]; rfl), BB⟩
      · have HN : Hid (R = none) := by rw [HR.out]; exact if_neg (fun h => he h.2)
        have dn := tdiff he
        generalize shT ⟨false, s.extract 1 (s.size - 1)⟩ = U at hsh dn
        clear he HR
        go_enter Tryd.func13, Tryd.ntmps13
        go_wp2_with fail
        refine (hsh _).mono ?_
        rintro e w1 ⟨rfl, hb1⟩
        have T1 : Hid (TgB w1 (w.heap.size + 1) ⟨false, s.extract 1 (s.size - 1)⟩) := by
          have := TgB.new (w.alloc (.cells #[.bool false, .string ⟨#[]⟩] 25)) ⟨false, s.extract 1 (s.size - 1)⟩ 25
          simp only [World.size_alloc] at this
          exact this.kept hb1
        have T0 : Hid (TgB w1 w.heap.size noT) := ((TgB.new w noT 25).alloc _).kept hb1
        have B1 : Hid (Below w.heap.size w w1) := by
          refine past7 ?_ hb1
          repeat (first | exact Below.refl _ _ | refine Below.alloc ?_ (by simp <;> omega) _ | refine Below.setCell ?_ (by simp <;> omega) _)
        have P1 : Hid (TgB _ w.heap.size noT) := T0.out.put noT
        have B2 : Hid (Below w.heap.size w _) := (B1.out.setCell (p := ⟨w.heap.size, 0, none⟩) (Nat.le_refl _) (.bool (noT : Tg).w)).setCell (p := ⟨w.heap.size, 1, none⟩) (Nat.le_refl _) (.string (noT : Tg).t)
        have c0 := T1.out.c0
        have c1 := T1.out.c1
        have b0 := T0.out.c0
        have b1 := T0.out.c1
        have fz := T0.out.fz
        clear hb1
        go_wp2
        have p0 := P1.out.c0
        have p1 := P1.out.c1
        have BB := B2.out
        unfold noT at p0 p1 BB
        simp only at p0 p1 BB
        refine bodyPost_ret (v := .tuple #[.agg #[.bool false, .string ⟨#[]⟩], .bool false]) (by simp [results, Tryd.results13, go_sem, p0, p1]) rfl ⟨ret_rd (by rw [HN.out]; rfl), BB⟩

set_option maxHeartbeats 1000000 in
theorem specStr (x y : Tg) (w : World) (hx : x.t.size ≤ maxLen) (hy : y.t.size ≤ maxLen) :
    Calls Tryd.prog 19 #[tgV x, tgV y] w fun e w' => e = .returned (.bool (strB x y)) ∧ Below w.heap.size w w' := by
  have hk := fun W => specTag x W hx
  have hl := fun W => specTag y W hy
  have hd := txt_eq x.t y.t
  have HS : Hid (strB x y = (tagB x.t && (tagB y.t && (!x.w && (!y.w && decide (x.t = y.t)))))) := rfl
  generalize strB x y = S at HS ⊢
  have T0 : Hid (TgB _ w.heap.size x) := (TgB.new w x 25).alloc (.cells #[.bool y.w, .string y.t] 25)
  have T1 : Hid (TgB ((w.alloc (.cells #[.bool x.w, .string x.t] 25)).alloc (.cells #[.bool y.w, .string y.t] 25)) (w.heap.size + 1) y) := by
    have := TgB.new (w.alloc (.cells #[.bool x.w, .string x.t] 25)) y 25
    simp only [World.size_alloc] at this
    exact this
  have B0 : Hid (Below w.heap.size w ((w.alloc (.cells #[.bool x.w, .string x.t] 25)).alloc (.cells #[.bool y.w, .string y.t] 25))) := ((Below.refl _ w).alloc (Nat.le_refl _) _).alloc (by simp) _
  unfold tgV at hk hl ⊢
  obtain ⟨xw, xt⟩ := x
  obtain ⟨yw, yt⟩ := y
  simp only at *
  generalize tagB xt = ok at hk HS
  generalize tagB yt = ol at hl HS
  generalize decide (xt = yt) = q at hd HS
  go_enter Tryd.func19, Tryd.ntmps19
  go_wp2_with fail
  refine (hk _).mono ?_
  rintro e w1 ⟨rfl, hb1⟩
  have T2 : Hid (TgB w1 w.heap.size ⟨xw, xt⟩) := T0.out.kept hb1
  have T3 : Hid (TgB w1 (w.heap.size + 1) ⟨yw, yt⟩) := T1.out.kept hb1
  have B1 : Hid (Below w.heap.size w w1) := past7 B0.out hb1
  clear T0 T1 B0 hb1 hk
  cases ok with
  | false =>
    have H : Hid (false = S) := HS.out.symm
    go_wp2
    go_ret
    exact ⟨ret_bool H.out, B1.out⟩
  | true =>
    have c0 := T3.out.c0
    have c1 := T3.out.c1
    go_wp2_with fail
    refine (hl _).mono ?_
    rintro e w2 ⟨rfl, hb2⟩
    have T4 : Hid (TgB w2 w.heap.size ⟨xw, xt⟩) := T2.out.kept hb2
    have T5 : Hid (TgB w2 (w.heap.size + 1) ⟨yw, yt⟩) := T3.out.kept hb2
    have B2 : Hid (Below w.heap.size w w2) := past7 B1.out hb2
    clear T2 T3 B1 hb2 hl c0 c1
    have c0 := T4.out.c0
    have c1 := T4.out.c1
    have b0 := T5.out.c0
    have b1 := T5.out.c1
    cases ol <;> cases xw <;> cases yw <;> cases q <;> (
      have H : Hid (_ = S) := HS.out.symm
      clear HS
      go_wp2
      go_ret
      exact ⟨ret_bool H.out, B2.out⟩)
set_option maxHeartbeats 1000000 in
theorem specLik (x y : Tg) (w : World) (hx : x.t.size ≤ maxLen) (hy : y.t.size ≤ maxLen) :
    Calls Tryd.prog 21 #[tgV x, tgV y] w fun e w' => e = .returned (.bool (likB x y)) ∧ Below w.heap.size w w' := by
  have hk := fun W => specTag x W hx
  have hl := fun W => specTag y W hy
  have hd := txt_eq x.t y.t
  have HS : Hid (likB x y = (tagB x.t && (tagB y.t && decide (x.t = y.t)))) := rfl
  generalize likB x y = S at HS ⊢
  have T0 : Hid (TgB _ w.heap.size x) := (TgB.new w x 25).alloc (.cells #[.bool y.w, .string y.t] 25)
  have T1 : Hid (TgB ((w.alloc (.cells #[.bool x.w, .string x.t] 25)).alloc (.cells #[.bool y.w, .string y.t] 25)) (w.heap.size + 1) y) := by
    have := TgB.new (w.alloc (.cells #[.bool x.w, .string x.t] 25)) y 25
    simp only [World.size_alloc] at this
    exact this
  have B0 : Hid (Below w.heap.size w ((w.alloc (.cells #[.bool x.w, .string x.t] 25)).alloc (.cells #[.bool y.w, .string y.t] 25))) := ((Below.refl _ w).alloc (Nat.le_refl _) _).alloc (by simp) _
  unfold tgV at hk hl ⊢
  obtain ⟨xw, xt⟩ := x
  obtain ⟨yw, yt⟩ := y
  simp only at *
  generalize tagB xt = ok at hk HS
  generalize tagB yt = ol at hl HS
  generalize decide (xt = yt) = q at hd HS
  go_enter Tryd.func21, Tryd.ntmps21
  go_wp2_with fail
  refine (hk _).mono ?_
  rintro e w1 ⟨rfl, hb1⟩
  have T2 : Hid (TgB w1 w.heap.size ⟨xw, xt⟩) := T0.out.kept hb1
  have T3 : Hid (TgB w1 (w.heap.size + 1) ⟨yw, yt⟩) := T1.out.kept hb1
  have B1 : Hid (Below w.heap.size w w1) := past7 B0.out hb1
  clear T0 T1 B0 hb1 hk
  cases ok with
  | false =>
    have H : Hid (false = S) := HS.out.symm
    go_wp2
    go_ret
    exact ⟨ret_bool H.out, B1.out⟩
  | true =>
    have c0 := T3.out.c0
    have c1 := T3.out.c1
    go_wp2_with fail
    refine (hl _).mono ?_
    rintro e w2 ⟨rfl, hb2⟩
    have T4 : Hid (TgB w2 w.heap.size ⟨xw, xt⟩) := T2.out.kept hb2
    have T5 : Hid (TgB w2 (w.heap.size + 1) ⟨yw, yt⟩) := T3.out.kept hb2
    have B2 : Hid (Below w.heap.size w w2) := past7 B1.out hb2
    clear T2 T3 B1 hb2 hl c0 c1
    have c0 := T4.out.c0
    have c1 := T4.out.c1
    have b0 := T5.out.c0
    have b1 := T5.out.c1
    cases ol <;> cases q <;> (
      have H : Hid (_ = S) := HS.out.symm
      clear HS
      go_wp2
      go_ret
      exact ⟨ret_bool H.out, B2.out⟩)
end Go.Proofs.YteeclocldjmgaaaDoor
