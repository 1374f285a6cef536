/-
  The specification's ShowRequest and ShowResponse by their contracts.
-/
import Derived.Test.YtmgmphkncgochaaDoorMsgC
namespace Go.Proofs.YtmgmphkncgochaaDoor
open Go.RowKit Go.Sort
set_option linter.unusedVariables false

theorem showL_small {l : List Fl} (h : fldsOk l = true) : (⟨(showL l).toArray⟩ : ByteArray).size ≤ 20000 := by
  obtain ⟨h1, h2⟩ := fldsOk_parts h
  have := showL_length l h2 l.length (Nat.le_refl _)
  rw [List.take_length] at this
  show (showL l).toArray.size ≤ 20000
  simp
  omega
theorem msgA_yes {first : ByteArray} {l : List Fl} {b : ByteArray} {tell : Bool} (h : (addL l b tell).length ≤ 30) : first ++ (⟨#[13, 10]⟩ : ByteArray) ++ ⟨(showL (addL l b tell)).toArray⟩ ++ (⟨#[13, 10]⟩ : ByteArray) ++ b = msgA first l b tell := by
  unfold msgA
  rw [if_pos h]
  refine ba_ext ?_
  rw [add_list, add_list, add_list, add_list]
  simp [msgL]
theorem msgA_no {first : ByteArray} {l : List Fl} {b : ByteArray} {tell : Bool} (h : ¬ (addL l b tell).length ≤ 30) : (⟨#[]⟩ : ByteArray) = msgA first l b tell := by unfold msgA; rw [if_neg h]
theorem addL_f (l : List Fl) (b : ByteArray) : addL l b false = l := rfl
theorem addL_t (l : List Fl) (b : ByteArray) : addL l b true = l ++ [(clS, decS b.size)] := rfl
theorem OwnsF.nil_app {w : World} {B : Nat} {v : Value} {l : List Fl} (h : OwnsF w B v ([] ++ l)) : OwnsF w B v l := h
set_option maxHeartbeats 2000000 in
theorem specMsg (first : ByteArray) (v : Value) (l : List Fl) (b : ByteArray) (bare always : Bool) (w : World) (h : Fits w v l) (hown : ownB l = true) (hf : first.size ≤ 100000) (hb : b.size ≤ 4000) :
    Calls Tryd.prog 48 #[.string first, v, .string b, .bool bare, .bool always] w fun e w' => e = .returned (.string (msgA first l b (!bare && (decide (b.size ≠ 0) || always)))) ∧ Below w.heap.size w w' := by
  have hsol := h.2.2.2
  have hll := h.2.2.1
  have hfl : Fls (w.alloc (.cells #[] 62)) v l := h.1.kept ((Below.refl _ w).alloc (Nat.le_refl _) _)
  have hl0 : l.length ≤ 30 := (fldsOk_parts (ownB_parts hown).1).1
  obtain ⟨a, cap, rfl, hcap⟩ := h.1
  clear hcap h
  have HL : Hid (Fls (w.alloc (.cells #[] 62)) (.slice a l.length cap) l) := hfl
  have HS : Hid (Solid (.slice a l.length cap)) := hsol
  have HW : Hid (ownB l = true) := hown
  clear hfl hsol hown
  have HB0 : Hid (Below w.heap.size w (w.alloc (.cells #[] 62))) := (Below.refl _ w).alloc (Nat.le_refl _) _
  cases bare with
  | true =>
    have ht : (!true && (decide (b.size ≠ 0) || always)) = false := rfl
    rw [ht]
    clear ht
    have hlen : l.length ≤ 30 := hl0
    have hok : Hid (fldsOk (l) = true) := (ownB_parts HW.out).1
    have hsh : Hid (∀ (W : World) (B : Nat) (u : Value), OwnsF W B u (l) → Calls Tryd.prog 59 #[u] W fun e w' => e = .returned (.string ⟨(showL (l)).toArray⟩) ∧ Below W.heap.size W w') := fun W B u ho => specShowL u (l) W ho.fls hok.out
    have HT : Hid (first ++ (⟨#[13, 10]⟩ : ByteArray) ++ ⟨(showL (l)).toArray⟩ ++ (⟨#[13, 10]⟩ : ByteArray) ++ b = msgA first l b false) := msgA_yes (tell := false) hlen
    have hz := showL_small hok.out
    generalize msgA first l b false = M at HT ⊢
    generalize (⟨(showL (l)).toArray⟩ : ByteArray) = p at hsh HT hz
    have q1 : (first ++ (⟨#[13, 10]⟩ : ByteArray)).size = first.size + 2 := by rw [ByteArray.size_append]; rfl
    have q2 : (first ++ (⟨#[13, 10]⟩ : ByteArray) ++ p).size = first.size + 2 + p.size := by rw [ByteArray.size_append, q1]
    have q3 : (first ++ (⟨#[13, 10]⟩ : ByteArray) ++ p ++ (⟨#[13, 10]⟩ : ByteArray)).size = first.size + 2 + p.size + 2 := by rw [ByteArray.size_append, q2]; rfl
    have x1 : ¬ 9223372036854775807 < first.size + 2 := by omega
    have x2 : ¬ 9223372036854775807 < first.size + 2 + p.size := by omega
    have x3 : ¬ 9223372036854775807 < first.size + 2 + p.size + 2 := by omega
    have x4 : ¬ 9223372036854775807 < first.size + 2 + p.size + 2 + b.size := by omega
    clear hz hok
    go_enter Tryd.func48, Tryd.ntmps48
    go_wp2_with (first
      | (go_at_call 59; refine (hsh.out _ _ _ O1.out).mono ?_; rintro e w9 ⟨rfl, hb9⟩)
      | (at_builtin; refine wpList_joinF _ rfl (.tmp 12) (.tmp 13) rfl w.heap.size _ _ [] l rfl (OwnsF.born w) rfl HL.out HS.out (by simp; omega) (by simp) ?_; intro v1 w1 ho1 hg1; have O1 : Hid (OwnsF w1 w.heap.size v1 l) := ho1.nil_app; have B1 : Hid (Below w.heap.size w w1) := HB0.out.grown hg1 (by simp) (OwnsF.from (OwnsF.born w)); clear ho1 hg1; obtain ⟨A1, cap1, rfl, hcl1, hcm1⟩ := O1.out.form; unfold maxLen at hcm1))
    go_ret
    exact ⟨ret_strT HT.out, past6 B1.out hb9⟩
  | false =>
    by_cases hbz : b.size = 0
    · have hbe : b.toList.isEmpty = true := by rw [void_emp]; exact decide_eq_true hbz
      have hbl : b.toList = [] := by simpa using hbe
      cases always with
      | false =>
        have ht : (!false && (decide (b.size ≠ 0) || false)) = false := by rw [hbz]; rfl
        rw [ht]
        clear ht
        have hlen : l.length ≤ 30 := hl0
        have hok : Hid (fldsOk (l) = true) := (ownB_parts HW.out).1
        have hsh : Hid (∀ (W : World) (B : Nat) (u : Value), OwnsF W B u (l) → Calls Tryd.prog 59 #[u] W fun e w' => e = .returned (.string ⟨(showL (l)).toArray⟩) ∧ Below W.heap.size W w') := fun W B u ho => specShowL u (l) W ho.fls hok.out
        have HT : Hid (first ++ (⟨#[13, 10]⟩ : ByteArray) ++ ⟨(showL (l)).toArray⟩ ++ (⟨#[13, 10]⟩ : ByteArray) ++ b = msgA first l b false) := msgA_yes (tell := false) hlen
        have hz := showL_small hok.out
        generalize msgA first l b false = M at HT ⊢
        generalize (⟨(showL (l)).toArray⟩ : ByteArray) = p at hsh HT hz
        have q1 : (first ++ (⟨#[13, 10]⟩ : ByteArray)).size = first.size + 2 := by rw [ByteArray.size_append]; rfl
        have q2 : (first ++ (⟨#[13, 10]⟩ : ByteArray) ++ p).size = first.size + 2 + p.size := by rw [ByteArray.size_append, q1]
        have q3 : (first ++ (⟨#[13, 10]⟩ : ByteArray) ++ p ++ (⟨#[13, 10]⟩ : ByteArray)).size = first.size + 2 + p.size + 2 := by rw [ByteArray.size_append, q2]; rfl
        have x1 : ¬ 9223372036854775807 < first.size + 2 := by omega
        have x2 : ¬ 9223372036854775807 < first.size + 2 + p.size := by omega
        have x3 : ¬ 9223372036854775807 < first.size + 2 + p.size + 2 := by omega
        have x4 : ¬ 9223372036854775807 < first.size + 2 + p.size + 2 + b.size := by omega
        clear hz hok
        go_enter Tryd.func48, Tryd.ntmps48
        go_wp2_with (first
          | (go_at_call 59; refine (hsh.out _ _ _ O1.out).mono ?_; rintro e w9 ⟨rfl, hb9⟩)
          | (at_builtin; refine wpList_joinF _ rfl (.tmp 12) (.tmp 13) rfl w.heap.size _ _ [] l rfl (OwnsF.born w) rfl HL.out HS.out (by simp; omega) (by simp) ?_; intro v1 w1 ho1 hg1; have O1 : Hid (OwnsF w1 w.heap.size v1 l) := ho1.nil_app; have B1 : Hid (Below w.heap.size w w1) := HB0.out.grown hg1 (by simp) (OwnsF.from (OwnsF.born w)); clear ho1 hg1; obtain ⟨A1, cap1, rfl, hcl1, hcm1⟩ := O1.out.form; unfold maxLen at hcm1))
        go_ret
        exact ⟨ret_strT HT.out, past6 B1.out hb9⟩
      | true =>
        have ht : (!false && (decide (b.size ≠ 0) || true)) = true := by rw [hbz]; rfl
        rw [ht]
        clear ht hbz
        have hin := fun w => specInt b.size w (by omega)
        have HD : Hid (fldOk (clS, decS b.size) = true) := dec_fld (by omega)
        have hM1 := fun x => msgA_yes (first := first) (l := l) (b := b) (tell := true) x
        have hM2 := fun x => msgA_no (first := first) (l := l) (b := b) (tell := true) x
        rw [addL_t] at hM1 hM2
        generalize msgA first l b true = M at hM1 hM2 ⊢
        generalize decS b.size = ds at hM1 hM2 hin HD
        have hll1 : (l ++ [(clS, ds)]).length = l.length + 1 := by simp
        by_cases hlen : (l ++ [(clS, ds)]).length ≤ 30
        · have hok : Hid (fldsOk (l ++ [(clS, ds)]) = true) := fldsOk_snoc (ownB_parts HW.out).1 HD.out hlen
          have hsh : Hid (∀ (W : World) (B : Nat) (u : Value), OwnsF W B u (l ++ [(clS, ds)]) → Calls Tryd.prog 59 #[u] W fun e w' => e = .returned (.string ⟨(showL (l ++ [(clS, ds)])).toArray⟩) ∧ Below W.heap.size W w') := fun W B u ho => specShowL u (l ++ [(clS, ds)]) W ho.fls hok.out
          have HT : Hid (first ++ (⟨#[13, 10]⟩ : ByteArray) ++ ⟨(showL (l ++ [(clS, ds)])).toArray⟩ ++ (⟨#[13, 10]⟩ : ByteArray) ++ b = M) := hM1 hlen
          have hz := showL_small hok.out
          generalize (⟨(showL (l ++ [(clS, ds)])).toArray⟩ : ByteArray) = p at hsh HT hz
          have q1 : (first ++ (⟨#[13, 10]⟩ : ByteArray)).size = first.size + 2 := by rw [ByteArray.size_append]; rfl
          have q2 : (first ++ (⟨#[13, 10]⟩ : ByteArray) ++ p).size = first.size + 2 + p.size := by rw [ByteArray.size_append, q1]
          have q3 : (first ++ (⟨#[13, 10]⟩ : ByteArray) ++ p ++ (⟨#[13, 10]⟩ : ByteArray)).size = first.size + 2 + p.size + 2 := by rw [ByteArray.size_append, q2]; rfl
          have x1 : ¬ 9223372036854775807 < first.size + 2 := by omega
          have x2 : ¬ 9223372036854775807 < first.size + 2 + p.size := by omega
          have x3 : ¬ 9223372036854775807 < first.size + 2 + p.size + 2 := by omega
          have x4 : ¬ 9223372036854775807 < first.size + 2 + p.size + 2 + b.size := by omega
          clear hz hok
          rw [hll1] at hlen
          have HLL : Hid ((l ++ [(clS, ds)]).length = l.length + 1) := hll1
          clear hll1
          clear hM1 hM2
          go_enter Tryd.func48, Tryd.ntmps48
          go_wp2_with (first
            | (go_at_call 50; refine (hin _).mono ?_; rintro e w2 ⟨rfl, hb2⟩; have O2 : Hid (OwnsF w2 w.heap.size (.slice A1 l.length cap1) l) := O1.out.kept hb2; have B2 : Hid (Below w.heap.size w w2) := past6 B1.out hb2; clear hb2)
            | (go_at_call 59; refine (hsh.out _ _ _ O4.out).mono ?_; rintro e w9 ⟨rfl, hb9⟩)
            | (at_builtin; refine wpList_pushF _ rfl (.tmp 24) (.tmp 29) rfl w.heap.size _ l (clS, ds) rfl O2.out rfl (by omega) B2.out.size ?_; intro v3 w3 ho3 hg3; have O3 : Hid (OwnsF w3 w.heap.size v3 (l ++ [(clS, ds)])) := ho3; have B3 : Hid (Below w.heap.size w w3) := B2.out.grown hg3 B2.out.size (OwnsF.from O2.out); clear ho3 hg3; obtain ⟨A3, cap3, rfl, hcl3, hcm3⟩ := O3.out.form; unfold maxLen at hcm3; rw [HLL.out] at hcl3 ⊢; have O4 : Hid (OwnsF w3 w.heap.size (.slice A3 (l.length + 1) cap3) (l ++ [(clS, ds)])) := (by have q := O3.out; rw [HLL.out] at q; exact q))
            | (at_builtin; refine wpList_joinF _ rfl (.tmp 12) (.tmp 13) rfl w.heap.size _ _ [] l rfl (OwnsF.born w) rfl HL.out HS.out (by simp; omega) (by simp) ?_; intro v1 w1 ho1 hg1; have O1 : Hid (OwnsF w1 w.heap.size v1 l) := ho1.nil_app; have B1 : Hid (Below w.heap.size w w1) := HB0.out.grown hg1 (by simp) (OwnsF.from (OwnsF.born w)); clear ho1 hg1; obtain ⟨A1, cap1, rfl, hcl1, hcm1⟩ := O1.out.form; unfold maxLen at hcm1))
          go_ret
          exact ⟨ret_strT HT.out, past6 B3.out hb9⟩
        · have HT : Hid ((⟨#[]⟩ : ByteArray) = M) := hM2 hlen
          rw [hll1] at hlen
          have HLL : Hid ((l ++ [(clS, ds)]).length = l.length + 1) := hll1
          clear hll1
          clear hM1 hM2
          go_enter Tryd.func48, Tryd.ntmps48
          go_wp2_with (first
            | (go_at_call 50; refine (hin _).mono ?_; rintro e w2 ⟨rfl, hb2⟩; have O2 : Hid (OwnsF w2 w.heap.size (.slice A1 l.length cap1) l) := O1.out.kept hb2; have B2 : Hid (Below w.heap.size w w2) := past6 B1.out hb2; clear hb2)
            | (at_builtin; refine wpList_pushF _ rfl (.tmp 24) (.tmp 29) rfl w.heap.size _ l (clS, ds) rfl O2.out rfl (by omega) B2.out.size ?_; intro v3 w3 ho3 hg3; have O3 : Hid (OwnsF w3 w.heap.size v3 (l ++ [(clS, ds)])) := ho3; have B3 : Hid (Below w.heap.size w w3) := B2.out.grown hg3 B2.out.size (OwnsF.from O2.out); clear ho3 hg3; obtain ⟨A3, cap3, rfl, hcl3, hcm3⟩ := O3.out.form; unfold maxLen at hcm3; rw [HLL.out] at hcl3 ⊢)
            | (at_builtin; refine wpList_joinF _ rfl (.tmp 12) (.tmp 13) rfl w.heap.size _ _ [] l rfl (OwnsF.born w) rfl HL.out HS.out (by simp; omega) (by simp) ?_; intro v1 w1 ho1 hg1; have O1 : Hid (OwnsF w1 w.heap.size v1 l) := ho1.nil_app; have B1 : Hid (Below w.heap.size w w1) := HB0.out.grown hg1 (by simp) (OwnsF.from (OwnsF.born w)); clear ho1 hg1; obtain ⟨A1, cap1, rfl, hcl1, hcm1⟩ := O1.out.form; unfold maxLen at hcm1))
          go_ret
          exact ⟨ret_strT HT.out, B3.out⟩
    · have hbe : b.toList.isEmpty = false := by rw [void_emp]; exact decide_eq_false hbz
      have hbl : ¬ b.toList = [] := by simpa using hbe
      have ht : (!false && (decide (b.size ≠ 0) || always)) = true := by rw [decide_eq_true hbz]; rfl
      rw [ht]
      clear ht
      have hin := fun w => specInt b.size w (by omega)
      have HD : Hid (fldOk (clS, decS b.size) = true) := dec_fld (by omega)
      have hM1 := fun x => msgA_yes (first := first) (l := l) (b := b) (tell := true) x
      have hM2 := fun x => msgA_no (first := first) (l := l) (b := b) (tell := true) x
      rw [addL_t] at hM1 hM2
      generalize msgA first l b true = M at hM1 hM2 ⊢
      generalize decS b.size = ds at hM1 hM2 hin HD
      have hll1 : (l ++ [(clS, ds)]).length = l.length + 1 := by simp
      by_cases hlen : (l ++ [(clS, ds)]).length ≤ 30
      · have hok : Hid (fldsOk (l ++ [(clS, ds)]) = true) := fldsOk_snoc (ownB_parts HW.out).1 HD.out hlen
        have hsh : Hid (∀ (W : World) (B : Nat) (u : Value), OwnsF W B u (l ++ [(clS, ds)]) → Calls Tryd.prog 59 #[u] W fun e w' => e = .returned (.string ⟨(showL (l ++ [(clS, ds)])).toArray⟩) ∧ Below W.heap.size W w') := fun W B u ho => specShowL u (l ++ [(clS, ds)]) W ho.fls hok.out
        have HT : Hid (first ++ (⟨#[13, 10]⟩ : ByteArray) ++ ⟨(showL (l ++ [(clS, ds)])).toArray⟩ ++ (⟨#[13, 10]⟩ : ByteArray) ++ b = M) := hM1 hlen
        have hz := showL_small hok.out
        generalize (⟨(showL (l ++ [(clS, ds)])).toArray⟩ : ByteArray) = p at hsh HT hz
        have q1 : (first ++ (⟨#[13, 10]⟩ : ByteArray)).size = first.size + 2 := by rw [ByteArray.size_append]; rfl
        have q2 : (first ++ (⟨#[13, 10]⟩ : ByteArray) ++ p).size = first.size + 2 + p.size := by rw [ByteArray.size_append, q1]
        have q3 : (first ++ (⟨#[13, 10]⟩ : ByteArray) ++ p ++ (⟨#[13, 10]⟩ : ByteArray)).size = first.size + 2 + p.size + 2 := by rw [ByteArray.size_append, q2]; rfl
        have x1 : ¬ 9223372036854775807 < first.size + 2 := by omega
        have x2 : ¬ 9223372036854775807 < first.size + 2 + p.size := by omega
        have x3 : ¬ 9223372036854775807 < first.size + 2 + p.size + 2 := by omega
        have x4 : ¬ 9223372036854775807 < first.size + 2 + p.size + 2 + b.size := by omega
        clear hz hok
        rw [hll1] at hlen
        have HLL : Hid ((l ++ [(clS, ds)]).length = l.length + 1) := hll1
        clear hll1
        clear hM1 hM2
        go_enter Tryd.func48, Tryd.ntmps48
        go_wp2_with (first
          | (go_at_call 50; refine (hin _).mono ?_; rintro e w2 ⟨rfl, hb2⟩; have O2 : Hid (OwnsF w2 w.heap.size (.slice A1 l.length cap1) l) := O1.out.kept hb2; have B2 : Hid (Below w.heap.size w w2) := past6 B1.out hb2; clear hb2)
          | (go_at_call 59; refine (hsh.out _ _ _ O4.out).mono ?_; rintro e w9 ⟨rfl, hb9⟩)
          | (at_builtin; refine wpList_pushF _ rfl (.tmp 24) (.tmp 29) rfl w.heap.size _ l (clS, ds) rfl O2.out rfl (by omega) B2.out.size ?_; intro v3 w3 ho3 hg3; have O3 : Hid (OwnsF w3 w.heap.size v3 (l ++ [(clS, ds)])) := ho3; have B3 : Hid (Below w.heap.size w w3) := B2.out.grown hg3 B2.out.size (OwnsF.from O2.out); clear ho3 hg3; obtain ⟨A3, cap3, rfl, hcl3, hcm3⟩ := O3.out.form; unfold maxLen at hcm3; rw [HLL.out] at hcl3 ⊢; have O4 : Hid (OwnsF w3 w.heap.size (.slice A3 (l.length + 1) cap3) (l ++ [(clS, ds)])) := (by have q := O3.out; rw [HLL.out] at q; exact q))
          | (at_builtin; refine wpList_joinF _ rfl (.tmp 12) (.tmp 13) rfl w.heap.size _ _ [] l rfl (OwnsF.born w) rfl HL.out HS.out (by simp; omega) (by simp) ?_; intro v1 w1 ho1 hg1; have O1 : Hid (OwnsF w1 w.heap.size v1 l) := ho1.nil_app; have B1 : Hid (Below w.heap.size w w1) := HB0.out.grown hg1 (by simp) (OwnsF.from (OwnsF.born w)); clear ho1 hg1; obtain ⟨A1, cap1, rfl, hcl1, hcm1⟩ := O1.out.form; unfold maxLen at hcm1))
        go_ret
        exact ⟨ret_strT HT.out, past6 B3.out hb9⟩
      · have HT : Hid ((⟨#[]⟩ : ByteArray) = M) := hM2 hlen
        rw [hll1] at hlen
        have HLL : Hid ((l ++ [(clS, ds)]).length = l.length + 1) := hll1
        clear hll1
        clear hM1 hM2
        go_enter Tryd.func48, Tryd.ntmps48
        go_wp2_with (first
          | (go_at_call 50; refine (hin _).mono ?_; rintro e w2 ⟨rfl, hb2⟩; have O2 : Hid (OwnsF w2 w.heap.size (.slice A1 l.length cap1) l) := O1.out.kept hb2; have B2 : Hid (Below w.heap.size w w2) := past6 B1.out hb2; clear hb2)
          | (at_builtin; refine wpList_pushF _ rfl (.tmp 24) (.tmp 29) rfl w.heap.size _ l (clS, ds) rfl O2.out rfl (by omega) B2.out.size ?_; intro v3 w3 ho3 hg3; have O3 : Hid (OwnsF w3 w.heap.size v3 (l ++ [(clS, ds)])) := ho3; have B3 : Hid (Below w.heap.size w w3) := B2.out.grown hg3 B2.out.size (OwnsF.from O2.out); clear ho3 hg3; obtain ⟨A3, cap3, rfl, hcl3, hcm3⟩ := O3.out.form; unfold maxLen at hcm3; rw [HLL.out] at hcl3 ⊢)
          | (at_builtin; refine wpList_joinF _ rfl (.tmp 12) (.tmp 13) rfl w.heap.size _ _ [] l rfl (OwnsF.born w) rfl HL.out HS.out (by simp; omega) (by simp) ?_; intro v1 w1 ho1 hg1; have O1 : Hid (OwnsF w1 w.heap.size v1 l) := ho1.nil_app; have B1 : Hid (Below w.heap.size w w1) := HB0.out.grown hg1 (by simp) (OwnsF.from (OwnsF.born w)); clear ho1 hg1; obtain ⟨A1, cap1, rfl, hcl1, hcm1⟩ := O1.out.form; unfold maxLen at hcm1))
        go_ret
        exact ⟨ret_strT HT.out, B3.out⟩
end Go.Proofs.YtmgmphkncgochaaDoor
