/-
  Plain facts: fields are read from what they are shown as, of no part of it; a field that is set is got; what has hops is gone for good.
-/
import Derived.Test.YtkoikofaebfbjaaFldR
namespace Go.Proofs.Ytkoikofaebfbjaa
open Go.RowKit

theorem mk_data (s : ByteArray) : (⟨s.data.toList.toArray⟩ : ByteArray) = s := by cases s; simp
theorem allB_at {p : Int → Bool} {l : List UInt8} (h : allB p l = true) {c : UInt8} (hc : c ∈ l) : p (c.toNat : Int) = true := List.all_eq_true.1 h c hc
theorem tok_bytes {s : ByteArray} (h : tokB s = true) {c : UInt8} (hc : c ∈ s.data.toList) : c ≠ 13 ∧ c ≠ 10 ∧ c ≠ 58 := by
  unfold tokB at h
  rw [Bool.and_eq_true] at h
  have := allB_at h.2 hc
  refine ⟨?_, ?_, ?_⟩ <;> (rintro rfl; revert this; decide)
theorem vis_bytes {s : ByteArray} (h : visB s = true) {c : UInt8} (hc : c ∈ s.data.toList) : c ≠ 13 ∧ c ≠ 10 := by
  unfold visB at h
  rw [Bool.and_eq_true] at h
  have := allB_at h.2 hc
  refine ⟨?_, ?_⟩ <;> (rintro rfl; revert this; decide)
def lineF (f : Fl) : List UInt8 := f.1.data.toList ++ [58] ++ (32 :: f.2.data.toList)
theorem showF_line (f : Fl) : showF f = lineF f ++ [13, 10] := by simp [showF, lineF]
theorem lineF_clean {f : Fl} (h : fldOk f = true) : clean (lineF f) := by
  obtain ⟨h1, h2, _⟩ := fldOk_parts h
  intro c hc
  rcases List.mem_append.1 hc with hc | hc
  · rcases List.mem_append.1 hc with hc | hc
    · exact ⟨(tok_bytes h1 hc).1, (tok_bytes h1 hc).2.1⟩
    · rw [List.mem_singleton.1 hc]; decide
  · rcases List.mem_cons.1 hc with rfl | hc
    · decide
    · exact vis_bytes h2 hc
theorem lineF_ne (f : Fl) : lineF f ≠ [] := by simp [lineF]
theorem lineF_read {f : Fl} (h : fldOk f = true) : rdF (lineF f) = some f := by
  obtain ⟨h1, _, h3⟩ := fldOk_parts h
  have e : colL (lineF f) = some (f.1.data.toList, 32 :: f.2.data.toList) := colL_at _ fun c hc => (tok_bytes h1 hc).2.2
  have et : fldT f.1.data.toList (32 :: f.2.data.toList) = f := by
    unfold fldT
    rw [mk_data]
    have : trimB ⟨(32 :: f.2.data.toList).toArray⟩ = f.2 := by
      refine Eq.trans ?_ h3
      unfold trimB
      rw [ltr_yes _ (by decide)]
    rw [this]
  rw [rdF_yes e (by rw [et]; exact h), et]
theorem rd_show : ∀ (l : List Fl) (n : Nat) (out : List Fl) (t : List UInt8), (∀ f ∈ l, fldOk f = true) → out.length + l.length ≤ 30 → n + out.length = 31 → rdN n out (showL l ++ [13, 10] ++ t) = some (out ++ l, t)
  | [], n, out, t, _, h2, h3 => by
    obtain ⟨m, rfl⟩ : ∃ m, n = m + 1 := ⟨n - 1, by simp at h2; omega⟩
    rw [rdN_void (r := t) (by simp [showL, lnC])]
    simp
  | f :: l, n, out, t, h1, h2, h3 => by
    simp only [List.length_cons] at h2
    obtain ⟨m, rfl⟩ : ∃ m, n = m + 1 := ⟨n - 1, by omega⟩
    have hf := h1 f (by simp)
    have e : showL (f :: l) ++ [13, 10] ++ t = lineF f ++ [13, 10] ++ (showL l ++ [13, 10] ++ t) := by
      simp [showL, showF_line]
    rw [e, rdN_more (lnC_clean _ (lineF_clean hf)) (lineF_ne f) (lineF_read hf) (by omega), rd_show l m (out ++ [f]) t (fun g hg => h1 g (by simp [hg])) (by simp; omega) (by simp; omega)]
    simp
theorem rd_part : ∀ (l : List Fl) (n : Nat) (out : List Fl) (e : List UInt8), e = [] ∨ e = [13] → (∀ f ∈ l, fldOk f = true) → out.length + l.length ≤ 30 → n + out.length = 31 → rdN n out (showL l ++ e) = none
  | [], n, out, e, he, _, h2, h3 => by
    obtain ⟨m, rfl⟩ : ∃ m, n = m + 1 := ⟨n - 1, by simp at h2; omega⟩
    refine rdN_none ?_
    rcases he with rfl | rfl <;> simp [showL, lnC]
  | f :: l, n, out, e, he, h1, h2, h3 => by
    simp only [List.length_cons] at h2
    obtain ⟨m, rfl⟩ : ∃ m, n = m + 1 := ⟨n - 1, by omega⟩
    have hf := h1 f (by simp)
    have ee : showL (f :: l) ++ e = lineF f ++ [13, 10] ++ (showL l ++ e) := by
      simp [showL, showF_line]
    rw [ee, rdN_more (lnC_clean _ (lineF_clean hf)) (lineF_ne f) (lineF_read hf) (by omega)]
    exact rd_part l m (out ++ [f]) e he (fun g hg => h1 g (by simp [hg])) (by simp; omega) (by simp; omega)
theorem rdA_show {l : List Fl} (h : fldsOk l = true) (t : List UInt8) : rdA (showL l ++ [13, 10] ++ t) = some (l, t) := by
  obtain ⟨h1, h2⟩ := fldsOk_parts h
  have := rd_show l 31 [] t h2 (by simpa using h1) rfl
  rwa [List.nil_append] at this
theorem rdA_part {l : List Fl} (h : fldsOk l = true) {e : List UInt8} (he : e = [] ∨ e = [13]) : rdA (showL l ++ e) = none := by
  obtain ⟨h1, h2⟩ := fldsOk_parts h
  exact rd_part l 31 [] e he h2 (by simpa using h1) rfl
/-- What is read is right. -/
theorem rdF_ok {x : List UInt8} {f : Fl} (h : rdF x = some f) : fldOk f = true := by
  unfold rdF at h
  split at h
  · cases h
  · split at h
    · injection h with h; subst h; assumption
    · cases h
theorem rdN_ok : ∀ (n : Nat) (out : List Fl) (l : List UInt8) {o : List Fl} {r : List UInt8}, (∀ f ∈ out, fldOk f = true) → out.length ≤ 30 → rdN n out l = some (o, r) → (∀ f ∈ o, fldOk f = true) ∧ o.length ≤ 30
  | 0, _, _, _, _, _, _, h => by simp [rdN] at h
  | n + 1, out, l, o, r, h1, h2, h => by
    unfold rdN at h
    split at h
    · cases h
    · split at h
      · injection h with h; injection h with e1 e2; subst e1 e2; exact ⟨h1, h2⟩
      · split at h
        · cases h
        · rename_i f hf
          split at h
          · cases h
          · refine rdN_ok n _ _ ?_ ?_ h
            · intro g hg
              rcases List.mem_append.1 hg with hg | hg
              · exact h1 g hg
              · rw [List.mem_singleton.1 hg]; exact rdF_ok hf
            · simp; omega
theorem rdA_ok {l : List UInt8} {o : List Fl} {r : List UInt8} (h : rdA l = some (o, r)) : fldsOk o = true := by
  obtain ⟨h1, h2⟩ := rdN_ok 31 [] l (by simp) (by simp) h
  exact fldsOk_mk h2 h1
theorem rdN_rest : ∀ (n : Nat) (out : List Fl) (l : List UInt8) {o : List Fl} {r : List UInt8}, rdN n out l = some (o, r) → r.length + 2 ≤ l.length
  | 0, _, _, _, _, h => by simp [rdN] at h
  | n + 1, out, l, o, r, h => by
    unfold rdN at h
    split at h
    · cases h
    · rename_i x q hq
      have hl := congrArg List.length (lnC_length hq)
      simp at hl
      split at h
      · injection h with h; injection h with e1 e2; subst e1 e2; omega
      · split at h
        · cases h
        · split at h
          · cases h
          · have := rdN_rest n _ _ h
            omega

/-! ### A field that is set is got -/
theorem lowB_again (c : UInt8) : lowB (lowB c) = lowB c := by
  by_cases h : 65 ≤ c.toNat ∧ c.toNat ≤ 90
  · have e := lowB_yes h
    refine lowB_no ?_
    omega
  · rw [lowB_no h, lowB_no h]
theorem lowS_again (s : ByteArray) : lowS (lowS s) = lowS s := by
  unfold lowS
  simp only [List.map_map]
  congr 2
  refine List.map_congr_left fun c _ => lowB_again c
theorem wo_mem {l : List Fl} {n : ByteArray} {f : Fl} (h : f ∈ wo l n) : ¬ lowS f.1 = lowS n := by
  have := (List.mem_filter.1 h).2
  unfold keepB at this
  simpa using this
theorem withA_ok (l : List Fl) (n v : ByteArray) : fldsOk (withA l n v) = true := by
  unfold withA
  split
  · rename_i h
    obtain ⟨h1, h2, h3⟩ := h
    refine fldsOk_mk (by simp; omega) fun f hf => ?_
    rcases List.mem_append.1 hf with hf | hf
    · exact (fldsOk_parts (fldsOk_filter h1 _)).2 f hf
    · rw [List.mem_singleton.1 hf]; exact h2
  · rfl
theorem withA_ne {l : List Fl} {n v : ByteArray} (h : withA l n v ≠ []) : fldOk (n, v) = true ∧ withA l n v = wo l n ++ [(n, v)] ∧ (wo l n).length < 30 := by
  unfold withA at h ⊢
  split at h
  · rename_i hh
    rw [if_pos hh]
    exact ⟨hh.2.1, rfl, hh.2.2⟩
  · exact absurd rfl h
theorem wo_with {l : List Fl} {n v : ByteArray} : wo (wo l n ++ [(n, v)]) n = wo l n := by
  unfold wo
  rw [List.filter_append, List.filter_filter]
  have e : [(n, v)].filter (keepB n) = [] := by simp [keepB]
  rw [e, List.append_nil]
  congr 1
  funext f
  simp
theorem get_with {l : List Fl} {n v : ByteArray} (h : withA l n v ≠ []) : getA (withA l n v) (lowS n) = (v, true) := by
  obtain ⟨h1, h2, _⟩ := withA_ne h
  have hok := withA_ok l n v
  rw [← getA_yes _ hok, h2]
  unfold getF
  rw [List.foldl_append, getF_none (l := wo l n) (fun f hf => by rw [lowS_again]; exact wo_mem hf)]
  show gStep (lowS n) (⟨#[]⟩, false) (n, v) = _
  rw [gStep_first (by rw [lowS_again])]
  show (_ ++ v, true) = _
  congr 1
theorem with_with {l : List Fl} {n v : ByteArray} (h : withA l n v ≠ []) : withA (withA l n v) n v = withA l n v := by
  obtain ⟨h1, h2, h3⟩ := withA_ne h
  have hok := withA_ok l n v
  rw [← withA_yes hok h1 (by rw [h2, wo_with]; exact h3)]
  rw [h2, wo_with]
theorem without_with {l : List Fl} {n v : ByteArray} (h : withA l n v ≠ []) : (woA (withA l n v) n).length + 1 = (withA l n v).length := by
  obtain ⟨h1, h2, h3⟩ := withA_ne h
  have hok := withA_ok l n v
  rw [← woA_yes hok (fldOk_parts h1).1, h2, wo_with]
  simp

/-! ### What has hops -/
theorem hopA_ok (l : List Fl) : fldsOk (hopA l) = true := by
  unfold hopA
  split
  · rename_i h; exact fldsOk_filter h _
  · rfl
theorem hopA_mem {l : List Fl} {f : Fl} (h : f ∈ hopA l) {n : ByteArray} (hn : n ∈ hopN) : ¬ lowS f.1 = lowS n := by
  unfold hopA at h
  split at h
  · have := (List.mem_filter.1 h).2
    have := List.all_eq_true.1 this n (List.mem_append_left _ hn)
    unfold keepB at this
    simpa using this
  · cases h
theorem hop_get (l : List Fl) {n : ByteArray} (hn : ∃ m ∈ hopN, lowS m = lowS n) : getA (hopA l) n = (⟨#[]⟩, false) := by
  obtain ⟨m, hm, e⟩ := hn
  rw [← getA_yes n (hopA_ok l)]
  exact getF_none (fun f hf => by rw [← e]; exact hopA_mem hf hm) _
theorem itemsA_void : itemsA ⟨#[]⟩ = [] := by
  have e : visB ⟨#[]⟩ = true := by decide
  rw [← itemsA_yes e]
  unfold itemsT
  show itemsOf (partsF [] false []) = []
  rw [partsF_nil, itemsOf_one]
  refine one_no ?_
  show ¬ 0 < (trimB ⟨#[]⟩).size
  decide
theorem hop_hop (l : List Fl) : hopA (hopA l) = hopA l := by
  have hok := hopA_ok l
  have e := hop_get l (n := conn) ⟨conn, by simp [hopN], rfl⟩
  rw [← getA_yes _ hok] at e
  rw [← hopA_yes hok]
  have en : hopNs (hopA l) = hopN := by
    unfold hopNs
    rw [e, itemsA_void, List.append_nil]
  rw [en, List.filter_eq_self]
  intro f hf
  refine List.all_eq_true.2 fun n hn => ?_
  exact keepB_yes (hopA_mem hf hn)
end Go.Proofs.Ytkoikofaebfbjaa
