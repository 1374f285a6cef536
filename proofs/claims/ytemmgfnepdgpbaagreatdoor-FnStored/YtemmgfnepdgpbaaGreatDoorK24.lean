/-
  The specification's fields by their count, by their contract.
-/
import Derived.Test.YtemmgfnepdgpbaaGreatDoorK22
import Derived.Test.YtemmgfnepdgpbaaGreatDoorK23
import Derived.Deep.RegionWith
namespace Go.Proofs.YtemmgfnepdgpbaaGreatDoor
open Go.RowKit Go.Sort St
set_option linter.unusedVariables false
set_option linter.unusedSimpArgs false

/-- How far fields are read: m are left, from a on; l0 were read. -/
def FdAt (t : List UInt8) (c k a m : Nat) (l0 : List Fl) : Prop := l0.length + m = c ∧ fdL c (t.drop k) = (fdL m (t.drop a)).map fun p => (l0 ++ p.1, p.2)
theorem FdAt.start (t : List UInt8) (c k : Nat) : FdAt t c k k c [] := by
  refine ⟨by simp, ?_⟩
  cases fdL c (t.drop k) <;> simp
theorem FdAt.done {t : List UInt8} {c k a : Nat} {l0 : List Fl} (h : FdAt t c k a 0 l0) : fdL c (t.drop k) = some (l0, t.drop a) := by
  rw [h.2]
  simp [fdL]
theorem FdAt.noLine {t : List UInt8} {c k a m : Nat} {l0 : List Fl} (h : FdAt t c k a (m + 1) l0) (e : lnS (t.drop a) = none) : fdL c (t.drop k) = none := by
  rw [h.2, fdL, e]
  rfl
theorem FdAt.noCol {t : List UInt8} {c k a m : Nat} {l0 : List Fl} {x r : List UInt8} (h : FdAt t c k a (m + 1) l0) (e : lnS (t.drop a) = some (x, r)) (hx : ¬ colK x + 2 ≤ x.length) : fdL c (t.drop k) = none := by
  rw [h.2, fdL, e]
  simp only
  rw [if_neg hx]
  rfl
theorem FdAt.next {t : List UInt8} {c k a m b : Nat} {l0 : List Fl} {x r : List UInt8} (h : FdAt t c k a (m + 1) l0) (e : lnS (t.drop a) = some (x, r)) (hx : colK x + 2 ≤ x.length) (hb : t.drop b = r) : FdAt t c k b m (l0 ++ [fldAt x]) := by
  refine ⟨by simp; have := h.1; omega, ?_⟩
  rw [h.2, fdL, e]
  simp only
  rw [if_pos hx, hb]
  cases fdL m r <;> simp
theorem lnS_rest {t x r : List UInt8} {a : Nat} (e : lnS (t.drop a) = some (x, r)) (ha : a ≤ t.length) : t.drop (a + x.length + 2) = r ∧ a + x.length + 2 + r.length = t.length := by
  have h := lnC_length (lnS_some e).1
  have hl := congrArg List.length h
  rw [List.length_drop] at hl
  simp at hl
  refine ⟨?_, by omega⟩
  rw [show a + x.length + 2 = a + (x.length + 2) from by omega, ← List.drop_drop, h, ← List.drop_drop]
  simp
theorem colK_next {x : List UInt8} {j : Nat} (hj : j < x.length) (hc : x[j] ≠ 58) : colK (x.drop j) = colK (x.drop (j + 1)) + 1 := by
  rw [List.drop_eq_getElem_cons hj, colK, if_neg hc]
theorem colK_here {x : List UInt8} {j : Nat} (hj : j < x.length) (hc : x[j] = 58) : colK (x.drop j) = 0 := by
  rw [List.drop_eq_getElem_cons hj, colK, if_pos hc]
theorem fldAt_cut (X : ByteArray) (x : List UInt8) (hX : X = txtL x) : (X.extract 0 (colK x), X.extract (colK x + 2) X.size) = fldAt x := by
  subst hX
  unfold fldAt
  have hs : (txtL x).size = x.length := txt_sizG x
  congr 1
  · apply bytes_extG
    rw [txt_lstG]
    simp [ByteArray.data_extract, List.extract_eq_take_drop, txtL]
  · apply bytes_extG
    rw [txt_lstG, hs]
    simp only [ByteArray.data_extract, Array.toList_extract, List.extract_eq_take_drop]
    rw [show (txtL x).data.toList = x from txt_lstG x]
    rw [List.take_of_length_le (by rw [List.length_drop]; omega)]
/-- What l16Fields answers. -/
structure FdQ (w w' : World) (s : ByteArray) (k c : Nat) (u : Value) (a : Nat) (b : Bool) : Prop where
  form : ∃ ua un uc, u = .slice ua un uc
  at_ : a ≤ s.size
  yes : ∀ l q, fdL c (s.data.toList.drop k) = some (l, q) → b = true ∧ OwnsF w' w.heap.size u l ∧ s.data.toList.drop a = q ∧ l.length = c
  no : fdL c (s.data.toList.drop k) = none → b = false
  low : Below w.heap.size w w'
structure FdR where
  u : Value
  a : Nat
  b : Bool
theorem lineF_no (s : ByteArray) : lineE s none = .tuple #[.string ⟨#[]⟩, .int .i64 0, .bool false] := rfl
theorem lineF_yes (s : ByteArray) (x r : List UInt8) : lineE s (some (x, r)) = .tuple #[.string (txtL x), .int .i64 ((s.size : Int) - (r.length : Int)), .bool true] := rfl
set_option maxRecDepth 100000 in
set_option maxHeartbeats 8000000 in
theorem specF16 (s : ByteArray) (k c : Nat) (w : World) (hk : k ≤ s.size) (hs : s.size ≤ 1048576) (hc : c ≤ 30) :
    Calls Tryz.prog 46 #[.string s, .int .i64 k, .int .i64 c] w fun e w' => ∃ z : FdR, e = .returned (.tuple #[z.u, .int .i64 (z.a : Nat), .bool z.b]) ∧ FdQ w w' s k c z.u z.a z.b := by
  have hsl : s.data.toList.length = s.size := by simp
  have HSL : Hid (s.data.toList.length = s.size) := hsl
  have jl := fun a W (h : a ≤ s.size) => specLin4 s a W h (by omega)
  obtain ⟨R, hR⟩ : ∃ R, fdL c (s.data.toList.drop k) = R := ⟨_, rfl⟩
  have HR : Hid (fdL c (s.data.toList.drop k) = R) := hR
  clear hR hsl
  go_enter Tryz.func46, Tryz.ntmps46
  go_wp2
  go_loopw [1, 2, 9] (fun p i o wr => ∃ (a m : Nat) (l0 : List Fl), a ≤ s.size ∧ m ≤ c ∧ p = .int .i64 a ∧ i = .int .i64 m ∧ Hid (FdAt s.data.toList c k a m l0) ∧ Hid (OwnsF wr w.heap.size o l0) ∧ Hid (Below w.heap.size w wr)) (fun _ i _ _ => (intOf i).toNat)
  case atStart => exact ⟨k, c, [], hk, Nat.le_refl _, rfl, rfl, (show Hid _ from FdAt.start _ _ _), (show OwnsF _ _ _ _ from OwnsF.born w), (show Hid _ from (Below.refl _ w).alloc (Nat.le_refl _) _)⟩
  case round =>
    obtain ⟨a, m, l0, ha, hm, rfl, rfl, hat, ho, hb⟩ := hrel
    obtain ⟨oa, oc, hov, hol, hom⟩ := ho.out.form
    subst hov
    have hl0 : l0.length + m = c := hat.out.1
    have hl30 : l0.length ≤ 30 := by omega
    unfold maxLen at hom
    clear hl0
    by_cases hm0 : m = 0
    · subst hm0
      have HD : Hid (R = some (l0, s.data.toList.drop a)) := by show _ = _; rw [← HR.out]; exact hat.out.done
      have hlc : Hid (l0.length = c) := (show _ = _ by have := hat.out.1; omega)
      go_wp2
      go_ret3
      exact ⟨⟨.slice oa l0.length oc, a, true⟩, rfl, ⟨⟨_, _, _, rfl⟩, ha, fun l q h => by rw [HR.out, HD.out] at h; injection h with h; injection h with h1 h2; subst h1; subst h2; exact ⟨rfl, ho.out, rfl, hlc.out⟩, fun h => (by rw [HR.out, HD.out] at h; cases h), hb.out⟩⟩
    · obtain ⟨m, rfl⟩ : ∃ n, m = n + 1 := ⟨m - 1, by omega⟩
      have hmi : (0 : Int) < ((m + 1 : Nat) : Int) := by omega
      have jla := fun W => jl a W ha
      cases e1 : lnS (s.data.toList.drop a) with
      | none =>
        have HD : Hid (R = none) := by show _ = _; rw [← HR.out]; exact hat.out.noLine e1
        rw [e1, lineF_no] at jla
        clear e1 jl
        go_wp2_with fail
        refine (jla _).mono ?_
        rintro e w1 ⟨rfl, rfl⟩
        clear jla
        go_wp2_with fail
        go_loop [13] (fun i => i = .int .i64 0) (fun i => 0)
        case atStart => rfl
        case round =>
          obtain rfl := hrel
          go_wp2
          go_ret3
          exact ⟨⟨.slice oa l0.length oc, a, false⟩, rfl, ⟨⟨_, _, _, rfl⟩, ha, fun l q h => (by rw [HR.out, HD.out] at h; cases h), fun _ => rfl, hb.out⟩⟩
      | some p =>
        obtain ⟨x, r⟩ := p
        obtain ⟨hr1, hr2⟩ := lnS_rest e1 (by rw [HSL.out]; exact ha)
        rw [HSL.out] at hr2
        rw [e1, lineF_yes] at jla
        have hnx : (s.size : Int) - (r.length : Int) = ((a + x.length + 2 : Nat) : Int) := by omega
        rw [hnx] at jla
        have hbn : a + x.length + 2 ≤ s.size := by omega
        have HNC := fun h => hat.out.noCol e1 h
        have HNX := fun h => hat.out.next e1 h hr1
        have HR1 : Hid (s.data.toList.drop (a + x.length + 2) = r) := hr1
        have HCK : Hid (colK x ≤ x.length) := colK_le x
        obtain ⟨X, hX⟩ : ∃ X, txtL x = X := ⟨_, rfl⟩
        have hXs : X.size = x.length := by rw [← hX]; exact txt_sizG x
        have HXL : Hid (X.data.toList = x) := (show _ = _ by rw [← hX]; exact txt_lstG x)
        have HFC : Hid ((X.extract 0 (colK x), X.extract (colK x + 2) X.size) = fldAt x) := fldAt_cut X x hX.symm
        rw [hX] at jla
        rw [← hXs] at jla hbn HR1 HCK
        have hxl : Hid (x.length = X.size) := hXs.symm
        have hXb : X.size ≤ 1048576 := by omega
        generalize hbb : a + X.size + 2 = nb at jla hbn HR1
        have HBB : Hid (a + X.size + 2 = nb) := hbb
        clear hbb
        clear hr1 hr2 hnx e1 jl hX hXs
        go_wp2_with fail
        refine (jla _).mono ?_
        rintro e w1 ⟨rfl, rfl⟩
        clear jla
        go_wp2_with fail
        go_loop [13] (fun i => ∃ j : Nat, j ≤ X.size ∧ i = .int .i64 j ∧ Hid (colK x = j + colK (x.drop j))) (fun i => X.size - (intOf i).toNat)
        case atStart => exact ⟨0, Nat.zero_le _, rfl, (show _ = _ by simp)⟩
        case round =>
          obtain ⟨j, hj, rfl, hcol⟩ := hrel
          by_cases hgo : ∃ h : j < X.size, X[j] ≠ 58
          · obtain ⟨hlt, hne⟩ := hgo
            have HN2 : Hid (colK x = (j + 1) + colK (x.drop (j + 1))) := (show _ = _ by
              have hxj : j < x.length := by rw [hxl.out]; exact hlt
              have e : x[j] = X[j] := by have := HXL.out; subst this; simp; rfl
              rw [hcol.out, colK_next hxj (by rw [e]; exact hne)]
              omega)
            have hji : (j : Int) < (X.size : Int) := by omega
            have hq : ((X[j].toNat : Int) == 58) = false := by
              rw [beq_eq_false_iff_ne]
              exact fun e => hne (UInt8.toNat_inj.1 (by rw [show (58 : UInt8).toNat = 58 from rfl]; omega))
            clear hne
            go_wp2
            go_round
            case rel => exact ⟨j + 1, by omega, by go_num, HN2⟩
            case measure => simp [intOf]; omega
          · have HJ : Hid (colK x = j) := (show _ = _ by
              by_cases hlt : j < X.size
              · have hxj : j < x.length := by rw [hxl.out]; exact hlt
                have h58 : X[j] = 58 := Classical.byContradiction fun hn => hgo ⟨hlt, hn⟩
                have e : x[j] = X[j] := by have := HXL.out; subst this; simp; rfl
                rw [hcol.out, colK_here hxj (by rw [e]; exact h58)]
                omega
              · have : x.drop j = [] := List.drop_eq_nil_of_le (by rw [hxl.out]; omega)
                rw [hcol.out, this]
                rfl)
            rw [HJ.out] at HFC HNC HNX
            rw [hxl.out] at HNC HNX
            clear hcol HCK
            by_cases hok : j + 2 ≤ X.size
            · have HN2 : Hid (FdAt s.data.toList c k nb m (l0 ++ [fldAt x])) := (show FdAt _ _ _ _ _ _ from by have := HNX hok; rw [HBB.out] at this; exact this)
              have hoki : ¬ (X.size : Int) < (j : Int) + 2 := by omega
              have hlt : j < X.size := by omega
              have h58 : X[j] = 58 := Classical.byContradiction fun hn => hgo ⟨hlt, hn⟩
              have hji : (j : Int) < (X.size : Int) := by omega
              have hq : ((X[j].toNat : Int) == 58) = true := by rw [h58]; rfl
              have c1 : (0 : Int) ≤ (j : Int) := by omega
              have c2 : (j : Int) ≤ (X.size : Int) := by omega
              have c3 : (j : Int) + 2 ≤ (X.size : Int) := by omega
              have c4 : IntKind.i64.wrap ((j : Int) + 2) = (j : Int) + 2 := by rw [IntKind.wrap_i64]; omega
              have c5 : (0 : Int) ≤ (j : Int) + 2 := by omega
              have c6 : ((j : Int) + 2).toNat = j + 2 := by omega
              have HQ0 : Hid (∀ y : World, (y.alloc (.cells #[.string (X.extract 0 j), .string (X.extract (j + 2) X.size)] 83)).cell? ⟨y.heap.size, 0, none⟩ = some (.string (X.extract 0 j))) := (show ∀ _, _ from fun y => box0 y (X.extract 0 j, X.extract (j + 2) X.size) 83)
              have HQ1 : Hid (∀ y : World, (y.alloc (.cells #[.string (X.extract 0 j), .string (X.extract (j + 2) X.size)] 83)).cell? ⟨y.heap.size, 1, none⟩ = some (.string (X.extract (j + 2) X.size))) := (show ∀ _, _ from fun y => box1 y (X.extract 0 j, X.extract (j + 2) X.size) 83)
              clear h58 hgo HNC HNX hok
              go_wp2_with fail
              go_region_law (refine step_pushF4 rfl (.tmp 49) (.tmp 58) rfl w.heap.size _ l0 (X.extract 0 j, X.extract (j + 2) X.size) (by first | rfl | (simp [Act.eval]; done)) (by first | exact OwnsF.drew (OwnsF.alloc ho.out _) | exact OwnsF.alloc (OwnsF.drew ho.out) _) wr.heap.size (by first | rfl | (simp [Act.eval]; done)) (by exact HQ0.out _) (by exact HQ1.out _) (by omega) (by have := hb.out.size; simp; omega) ?_; intro v5 w5 ho5 hg5; have HB5 : Hid (Below w.heap.size w w5) := (show Below _ _ _ from ((hb.out.drew).alloc hb.out.size _).grown (by exact ⟨hg5.os, hg5.tape, hg5.output, hg5.size, hg5.block⟩) (by have := hb.out.size; simp; omega) (OwnsF.from ho.out)); have HO5 : Hid (OwnsF w5 w.heap.size v5 (l0 ++ [fldAt x])) := (show OwnsF _ _ _ _ from by rw [← HFC.out]; exact ho5); obtain ⟨a5, k5, hv5, hl5, hm5⟩ := ho5.form; subst hv5; clear ho5 hg5)
              all_goals
                go_wp2
                go_roundw
                case rel => exact ⟨nb, m, l0 ++ [fldAt x], hbn, by omega, rfl, by go_num, HN2, (show OwnsF _ _ _ _ from by have := HO5.out; simpa using this), HB5⟩
                case measure => simp [intOf]
            · have HD : Hid (R = none) := by show _ = _; rw [← HR.out]; exact HNC hok
              have hoki : (X.size : Int) < (j : Int) + 2 := by omega
              clear HNC HNX hok
              by_cases hlt : j < X.size
              · have h58 : X[j] = 58 := Classical.byContradiction fun hn => hgo ⟨hlt, hn⟩
                have hji : (j : Int) < (X.size : Int) := by omega
                have hq : ((X[j].toNat : Int) == 58) = true := by rw [h58]; rfl
                clear h58 hgo
                go_wp2
                go_ret3
                exact ⟨⟨.slice oa l0.length oc, a, false⟩, rfl, ⟨⟨_, _, _, rfl⟩, ha, fun l q h => (by rw [HR.out, HD.out] at h; cases h), fun _ => rfl, hb.out⟩⟩
              · have hji : ¬ (j : Int) < (X.size : Int) := by omega
                clear hgo
                go_wp2
                go_ret3
                exact ⟨⟨.slice oa l0.length oc, a, false⟩, rfl, ⟨⟨_, _, _, rfl⟩, ha, fun l q h => (by rw [HR.out, HD.out] at h; cases h), fun _ => rfl, hb.out⟩⟩
end Go.Proofs.YtemmgfnepdgpbaaGreatDoor
