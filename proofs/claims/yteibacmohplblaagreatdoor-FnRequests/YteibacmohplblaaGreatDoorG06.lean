/-
  Plain facts: fields are read from what they are shown as, of no part of it; a field that is set is got; what has hops is gone for good.
  Plain facts on digits: the value of a digit, the number that a list of digits is, and how great it is.
  Plain facts on hexadecimal digits: the digits of a number, and that a number is read from its digits.
-/
import Derived.Test.YteibacmohplblaaGreatDoorG05
import Derived.Test.YteibacmohplblaaGreatDoorG01
namespace Go.Proofs.YteibacmohplblaaGreatDoor
open Go.RowKit

theorem mk_data (s : ByteArray) : (⟨s.data.toList.toArray⟩ : ByteArray) = s := by cases s; simp
theorem allB_at {p : Int → Bool} {l : List UInt8} (h : allB p l = true) {c : UInt8} (hc : c ∈ l) : p (c.toNat : Int) = true := List.all_eq_true.1 h c hc
theorem tok_bytes {s : ByteArray} (h : tokB s = true) {c : UInt8} (hc : c ∈ s.data.toList) : c ≠ 13 ∧ c ≠ 10 ∧ c ≠ 58 := by
  unfold tokB at h
  rw [Bool.and_eq_true] at h
  have := allB_at h.2 hc
  refine ⟨?_, ?_, ?_⟩ <;> (rintro rfl; revert this; decide)
theorem vis_bytes {s : ByteArray} (h : visB s = true) {c : UInt8} (hc : c ∈ s.data.toList) : c ≠ 13 ∧ c ≠ 10 := by
  unfold visB at h
  rw [Bool.and_eq_true] at h
  have := allB_at h.2 hc
  refine ⟨?_, ?_⟩ <;> (rintro rfl; revert this; decide)
def lineF (f : Fl) : List UInt8 := f.1.data.toList ++ [58] ++ (32 :: f.2.data.toList)
theorem showF_line (f : Fl) : showF f = lineF f ++ [13, 10] := by simp [showF, lineF]
theorem lineF_clean {f : Fl} (h : fldOk f = true) : clean (lineF f) := by
  obtain ⟨h1, h2, _⟩ := fldOk_parts h
  intro c hc
  rcases List.mem_append.1 hc with hc | hc
  · rcases List.mem_append.1 hc with hc | hc
    · exact ⟨(tok_bytes h1 hc).1, (tok_bytes h1 hc).2.1⟩
    · rw [List.mem_singleton.1 hc]; decide
  · rcases List.mem_cons.1 hc with rfl | hc
    · decide
    · exact vis_bytes h2 hc
theorem lineF_ne (f : Fl) : lineF f ≠ [] := by simp [lineF]
theorem lineF_read {f : Fl} (h : fldOk f = true) : rdF (lineF f) = some f := by
  obtain ⟨h1, _, h3⟩ := fldOk_parts h
  have e : colL (lineF f) = some (f.1.data.toList, 32 :: f.2.data.toList) := colL_at _ fun c hc => (tok_bytes h1 hc).2.2
  have et : fldT f.1.data.toList (32 :: f.2.data.toList) = f := by
    unfold fldT
    rw [mk_data]
    have : trimB ⟨(32 :: f.2.data.toList).toArray⟩ = f.2 := by
      refine Eq.trans ?_ h3
      unfold trimB
      rw [ltr_yes _ (by decide)]
    rw [this]
  rw [rdF_yes e (by rw [et]; exact h), et]
theorem rd_show : ∀ (l : List Fl) (n : Nat) (out : List Fl) (t : List UInt8), (∀ f ∈ l, fldOk f = true) → out.length + l.length ≤ 30 → n + out.length = 31 → rdN n out (showL l ++ [13, 10] ++ t) = some (out ++ l, t)
  | [], n, out, t, _, h2, h3 => by
    obtain ⟨m, rfl⟩ : ∃ m, n = m + 1 := ⟨n - 1, by simp at h2; omega⟩
    rw [rdN_void (r := t) (by simp [showL, lnC])]
    simp
  | f :: l, n, out, t, h1, h2, h3 => by
    simp only [List.length_cons] at h2
    obtain ⟨m, rfl⟩ : ∃ m, n = m + 1 := ⟨n - 1, by omega⟩
    have hf := h1 f (by simp)
    have e : showL (f :: l) ++ [13, 10] ++ t = lineF f ++ [13, 10] ++ (showL l ++ [13, 10] ++ t) := by
      simp [showL, showF_line]
    rw [e, rdN_more (lnC_clean _ (lineF_clean hf)) (lineF_ne f) (lineF_read hf) (by omega), rd_show l m (out ++ [f]) t (fun g hg => h1 g (by simp [hg])) (by simp; omega) (by simp; omega)]
    simp
theorem rd_part : ∀ (l : List Fl) (n : Nat) (out : List Fl) (e : List UInt8), e = [] ∨ e = [13] → (∀ f ∈ l, fldOk f = true) → out.length + l.length ≤ 30 → n + out.length = 31 → rdN n out (showL l ++ e) = none
  | [], n, out, e, he, _, h2, h3 => by
    obtain ⟨m, rfl⟩ : ∃ m, n = m + 1 := ⟨n - 1, by simp at h2; omega⟩
    refine rdN_none ?_
    rcases he with rfl | rfl <;> simp [showL, lnC]
  | f :: l, n, out, e, he, h1, h2, h3 => by
    simp only [List.length_cons] at h2
    obtain ⟨m, rfl⟩ : ∃ m, n = m + 1 := ⟨n - 1, by omega⟩
    have hf := h1 f (by simp)
    have ee : showL (f :: l) ++ e = lineF f ++ [13, 10] ++ (showL l ++ e) := by
      simp [showL, showF_line]
    rw [ee, rdN_more (lnC_clean _ (lineF_clean hf)) (lineF_ne f) (lineF_read hf) (by omega)]
    exact rd_part l m (out ++ [f]) e he (fun g hg => h1 g (by simp [hg])) (by simp; omega) (by simp; omega)
theorem rdA_show {l : List Fl} (h : fldsOk l = true) (t : List UInt8) : rdA (showL l ++ [13, 10] ++ t) = some (l, t) := by
  obtain ⟨h1, h2⟩ := fldsOk_parts h
  have := rd_show l 31 [] t h2 (by simpa using h1) rfl
  rwa [List.nil_append] at this
theorem rdA_part {l : List Fl} (h : fldsOk l = true) {e : List UInt8} (he : e = [] ∨ e = [13]) : rdA (showL l ++ e) = none := by
  obtain ⟨h1, h2⟩ := fldsOk_parts h
  exact rd_part l 31 [] e he h2 (by simpa using h1) rfl
/-- What is read is right. -/
theorem rdF_ok {x : List UInt8} {f : Fl} (h : rdF x = some f) : fldOk f = true := by
  unfold rdF at h
  split at h
  · cases h
  · split at h
    · injection h with h; subst h; assumption
    · cases h
theorem rdN_ok : ∀ (n : Nat) (out : List Fl) (l : List UInt8) {o : List Fl} {r : List UInt8}, (∀ f ∈ out, fldOk f = true) → out.length ≤ 30 → rdN n out l = some (o, r) → (∀ f ∈ o, fldOk f = true) ∧ o.length ≤ 30
  | 0, _, _, _, _, _, _, h => by simp [rdN] at h
  | n + 1, out, l, o, r, h1, h2, h => by
    unfold rdN at h
    split at h
    · cases h
    · split at h
      · injection h with h; injection h with e1 e2; subst e1 e2; exact ⟨h1, h2⟩
      · split at h
        · cases h
        · rename_i f hf
          split at h
          · cases h
          · refine rdN_ok n _ _ ?_ ?_ h
            · intro g hg
              rcases List.mem_append.1 hg with hg | hg
              · exact h1 g hg
              · rw [List.mem_singleton.1 hg]; exact rdF_ok hf
            · simp; omega
theorem rdA_ok {l : List UInt8} {o : List Fl} {r : List UInt8} (h : rdA l = some (o, r)) : fldsOk o = true := by
  obtain ⟨h1, h2⟩ := rdN_ok 31 [] l (by simp) (by simp) h
  exact fldsOk_mk h2 h1
theorem rdN_rest : ∀ (n : Nat) (out : List Fl) (l : List UInt8) {o : List Fl} {r : List UInt8}, rdN n out l = some (o, r) → r.length + 2 ≤ l.length
  | 0, _, _, _, _, h => by simp [rdN] at h
  | n + 1, out, l, o, r, h => by
    unfold rdN at h
    split at h
    · cases h
    · rename_i x q hq
      have hl := congrArg List.length (lnC_length hq)
      simp at hl
      split at h
      · injection h with h; injection h with e1 e2; subst e1 e2; omega
      · split at h
        · cases h
        · split at h
          · cases h
          · have := rdN_rest n _ _ h
            omega

/-! ### A field that is set is got -/
theorem lowB_again (c : UInt8) : lowB (lowB c) = lowB c := by
  by_cases h : 65 ≤ c.toNat ∧ c.toNat ≤ 90
  · have e := lowB_yes h
    refine lowB_no ?_
    omega
  · rw [lowB_no h, lowB_no h]
theorem lowS_again (s : ByteArray) : lowS (lowS s) = lowS s := by
  unfold lowS
  simp only [List.map_map]
  congr 2
  refine List.map_congr_left fun c _ => lowB_again c
theorem wo_mem {l : List Fl} {n : ByteArray} {f : Fl} (h : f ∈ wo l n) : ¬ lowS f.1 = lowS n := by
  have := (List.mem_filter.1 h).2
  unfold keepB at this
  simpa using this
theorem withA_ok (l : List Fl) (n v : ByteArray) : fldsOk (withA l n v) = true := by
  unfold withA
  split
  · rename_i h
    obtain ⟨h1, h2, h3⟩ := h
    refine fldsOk_mk (by simp; omega) fun f hf => ?_
    rcases List.mem_append.1 hf with hf | hf
    · exact (fldsOk_parts (fldsOk_filter h1 _)).2 f hf
    · rw [List.mem_singleton.1 hf]; exact h2
  · rfl
theorem withA_ne {l : List Fl} {n v : ByteArray} (h : withA l n v ≠ []) : fldOk (n, v) = true ∧ withA l n v = wo l n ++ [(n, v)] ∧ (wo l n).length < 30 := by
  unfold withA at h ⊢
  split at h
  · rename_i hh
    rw [if_pos hh]
    exact ⟨hh.2.1, rfl, hh.2.2⟩
  · exact absurd rfl h
theorem wo_with {l : List Fl} {n v : ByteArray} : wo (wo l n ++ [(n, v)]) n = wo l n := by
  unfold wo
  rw [List.filter_append, List.filter_filter]
  have e : [(n, v)].filter (keepB n) = [] := by simp [keepB]
  rw [e, List.append_nil]
  congr 1
  funext f
  simp
theorem get_with {l : List Fl} {n v : ByteArray} (h : withA l n v ≠ []) : getA (withA l n v) (lowS n) = (v, true) := by
  obtain ⟨h1, h2, _⟩ := withA_ne h
  have hok := withA_ok l n v
  rw [← getA_yes _ hok, h2]
  unfold getF
  rw [List.foldl_append, getF_none (l := wo l n) (fun f hf => by rw [lowS_again]; exact wo_mem hf)]
  show gStep (lowS n) (⟨#[]⟩, false) (n, v) = _
  rw [gStep_first (by rw [lowS_again])]
  show (_ ++ v, true) = _
  congr 1
theorem with_with {l : List Fl} {n v : ByteArray} (h : withA l n v ≠ []) : withA (withA l n v) n v = withA l n v := by
  obtain ⟨h1, h2, h3⟩ := withA_ne h
  have hok := withA_ok l n v
  rw [← withA_yes hok h1 (by rw [h2, wo_with]; exact h3)]
  rw [h2, wo_with]
theorem without_with {l : List Fl} {n v : ByteArray} (h : withA l n v ≠ []) : (woA (withA l n v) n).length + 1 = (withA l n v).length := by
  obtain ⟨h1, h2, h3⟩ := withA_ne h
  have hok := withA_ok l n v
  rw [← woA_yes hok (fldOk_parts h1).1, h2, wo_with]
  simp

/-! ### What has hops -/
theorem hopA_ok (l : List Fl) : fldsOk (hopA l) = true := by
  unfold hopA
  split
  · rename_i h; exact fldsOk_filter h _
  · rfl
theorem hopA_mem {l : List Fl} {f : Fl} (h : f ∈ hopA l) {n : ByteArray} (hn : n ∈ hopN) : ¬ lowS f.1 = lowS n := by
  unfold hopA at h
  split at h
  · have := (List.mem_filter.1 h).2
    have := List.all_eq_true.1 this n (List.mem_append_left _ hn)
    unfold keepB at this
    simpa using this
  · cases h
theorem hop_get (l : List Fl) {n : ByteArray} (hn : ∃ m ∈ hopN, lowS m = lowS n) : getA (hopA l) n = (⟨#[]⟩, false) := by
  obtain ⟨m, hm, e⟩ := hn
  rw [← getA_yes n (hopA_ok l)]
  exact getF_none (fun f hf => by rw [← e]; exact hopA_mem hf hm) _
theorem itemsA_void : itemsA ⟨#[]⟩ = [] := by
  have e : visB ⟨#[]⟩ = true := by decide
  rw [← itemsA_yes e]
  unfold itemsT
  show itemsOf (partsF [] false []) = []
  rw [partsF_nil, itemsOf_one]
  refine one_no ?_
  show ¬ 0 < (trimB ⟨#[]⟩).size
  decide
theorem hop_hop (l : List Fl) : hopA (hopA l) = hopA l := by
  have hok := hopA_ok l
  have e := hop_get l (n := conn) ⟨conn, by simp [hopN], rfl⟩
  rw [← getA_yes _ hok] at e
  rw [← hopA_yes hok]
  have en : hopNs (hopA l) = hopN := by
    unfold hopNs
    rw [e, itemsA_void, List.append_nil]
  rw [en, List.filter_eq_self]
  intro f hf
  refine List.all_eq_true.2 fun n hn => ?_
  exact keepB_yes (hopA_mem hf hn)
end Go.Proofs.YteibacmohplblaaGreatDoor
namespace Go.Proofs.YteibacmohplblaaGreatDoor
open Go.RowKit

/-- The value of a digit (decimal or hexadecimal), -1 where it is none. -/
def digV (r : Int) : Int := if 48 ≤ r ∧ r ≤ 57 then r - 48 else if 97 ≤ r ∧ r ≤ 102 then r - 97 + 10 else if 65 ≤ r ∧ r ≤ 70 then r - 65 + 10 else -1
theorem digV_d {r : Int} (h : 48 ≤ r ∧ r ≤ 57) : digV r = r - 48 := by unfold digV; rw [if_pos h]
theorem digV_a {r : Int} (h : 97 ≤ r ∧ r ≤ 102) : digV r = r - 97 + 10 := by unfold digV; rw [if_neg (by omega), if_pos h]
theorem digV_A {r : Int} (h : 65 ≤ r ∧ r ≤ 70) : digV r = r - 65 + 10 := by unfold digV; rw [if_neg (by omega), if_neg (by omega), if_pos h]
theorem digV_no {r : Int} (h : ¬ (48 ≤ r ∧ r ≤ 57)) (h' : ¬ (97 ≤ r ∧ r ≤ 102)) (h'' : ¬ (65 ≤ r ∧ r ≤ 70)) : digV r = -1 := by unfold digV; rw [if_neg h, if_neg h', if_neg h'']
theorem digV_bd (r : Int) : -1 ≤ digV r ∧ digV r ≤ 15 := by
  unfold digV; split
  · omega
  · split
    · omega
    · split <;> omega
theorem digV_high {r : Int} (h : 128 ≤ r) : digV r = -1 := digV_no (by omega) (by omega) (by omega)
theorem digV_ten {r : Int} : (0 ≤ digV r ∧ digV r < 10) ↔ (48 ≤ r ∧ r ≤ 57) := by
  unfold digV; split
  · omega
  · split
    · omega
    · split <;> omega

/-- A digit at base b. -/
def digN (b : Int) (r : Int) : Bool := decide (0 ≤ digV r ∧ digV r < b)
theorem digN_yes {b r : Int} (h : 0 ≤ digV r) (h' : digV r < b) : digN b r = true := decide_eq_true ⟨h, h'⟩
theorem digN_no {b r : Int} (h : ¬ (0 ≤ digV r ∧ digV r < b)) : digN b r = false := decide_eq_false h

/-- The number that the digits are. -/
def numL (b : Int) (l : List UInt8) : Int := l.foldl (fun n c => n * b + digV (c.toNat : Int)) 0
theorem numL_snoc (b : Int) (l : List UInt8) (c : UInt8) : numL b (l ++ [c]) = numL b l * b + digV (c.toNat : Int) := by
  unfold numL; rw [List.foldl_append]; rfl
theorem numL_step {b : Int} {s : ByteArray} {k : Nat} {n : Int} (hk : k < s.size) (h : n = numL b (s.data.toList.take k)) : n * b + digV (s[k].toNat : Int) = numL b (s.data.toList.take (k + 1)) := by
  rw [take_snoc s k hk, numL_snoc, h]

theorem allB_before {p : Int → Bool} {s : ByteArray} {k : Nat} (hk : k < s.size) (h : allB p (s.data.toList.take (k + 1)) = true) : allB p (s.data.toList.take k) = true ∧ p (s[k].toNat : Int) = true := by
  rw [take_snoc s k hk] at h
  unfold allB at *
  rw [List.all_append, Bool.and_eq_true] at h
  exact ⟨h.1, by have := h.2; simpa using this⟩
theorem numL_bd (b : Int) (hb : 1 ≤ b) (s : ByteArray) : ∀ k, k ≤ s.size → allB (digN b) (s.data.toList.take k) = true → 0 ≤ numL b (s.data.toList.take k) ∧ numL b (s.data.toList.take k) < b ^ k := by
  intro k
  induction k with
  | zero => intro _ _; exact ⟨Int.le_refl 0, by show (0 : Int) < b ^ 0; rw [Int.pow_zero]; decide⟩
  | succ k ih =>
    intro hk ha
    obtain ⟨h1, h2⟩ := allB_before (by omega) ha
    obtain ⟨g0, g1⟩ := ih (by omega) h1
    have hd := of_decide_eq_true h2
    rw [← numL_step (by omega) rfl, Int.pow_succ]
    have m1 := Int.mul_nonneg g0 (show 0 ≤ b by omega)
    have m2 := Int.mul_le_mul_of_nonneg_right (show numL b (s.data.toList.take k) + 1 ≤ b ^ k by omega) (show 0 ≤ b by omega)
    rw [Int.add_mul, Int.one_mul] at m2
    omega
theorem pow_le10 : ∀ k : Nat, k ≤ 15 → (10 : Int) ^ k ≤ 1000000000000000 := by
  intro k hk
  have h : ∀ j : Fin 16, (10 : Int) ^ j.val ≤ 1000000000000000 := by decide
  exact h ⟨k, by omega⟩
theorem pow_le16 : ∀ k : Nat, k ≤ 13 → (16 : Int) ^ k ≤ 4503599627370496 := by
  intro k hk
  have h : ∀ j : Fin 14, (16 : Int) ^ j.val ≤ 4503599627370496 := by decide
  exact h ⟨k, by omega⟩
theorem num_bound10 {s : ByteArray} {k : Nat} (hk : k ≤ 15) (hs : k ≤ s.size) (h : allB (digN 10) (s.data.toList.take k) = true) : 0 ≤ numL 10 (s.data.toList.take k) ∧ numL 10 (s.data.toList.take k) ≤ 1000000000000000 := by
  have h1 := numL_bd 10 (by decide) s k hs h
  have h2 := pow_le10 k hk
  omega
theorem num_bound16 {s : ByteArray} {k : Nat} (hk : k ≤ 13) (hs : k ≤ s.size) (h : allB (digN 16) (s.data.toList.take k) = true) : 0 ≤ numL 16 (s.data.toList.take k) ∧ numL 16 (s.data.toList.take k) ≤ 4503599627370496 := by
  have h1 := numL_bd 16 (by decide) s k hs h
  have h2 := pow_le16 k hk
  omega

/-- What is read: whether it is a number of at most m digits at base b, and which. -/
def numOk (b : Int) (m : Nat) (s : ByteArray) : Bool := decide (1 ≤ s.size ∧ s.size ≤ m) && allB (digN b) s.data.toList
def numV (b : Int) (m : Nat) (s : ByteArray) : Int := if numOk b m s = true then numL b s.data.toList else 0
theorem num_no {b : Int} {m : Nat} {s : ByteArray} (h : numOk b m s = false) : numV b m s = 0 := by unfold numV; rw [h]; rfl
theorem num_yes {b : Int} {m : Nat} {s : ByteArray} (h : numOk b m s = true) : numV b m s = numL b s.data.toList := by unfold numV; rw [h]; rfl
theorem numOk_out {b : Int} {m : Nat} {s : ByteArray} (h : s.size < 1 ∨ m < s.size) : numOk b m s = false := by
  have e : decide (1 ≤ s.size ∧ s.size ≤ m) = false := decide_eq_false (by omega)
  unfold numOk; rw [e]; rfl
theorem numOk_in {b : Int} {m : Nat} {s : ByteArray} {x : Bool} (h1 : 1 ≤ s.size) (h2 : s.size ≤ m) (h : x = allB (digN b) s.data.toList) : numOk b m s = x := by
  have e : decide (1 ≤ s.size ∧ s.size ≤ m) = true := decide_eq_true ⟨h1, h2⟩
  unfold numOk; rw [e, h]; rfl
/-- The answer of a reading. -/
def numE (b : Int) (m : Nat) (s : ByteArray) : Value := .tuple #[.int .i64 (numV b m s), .bool (numOk b m s)]
theorem numE_no {b : Int} {m : Nat} {s : ByteArray} (h : numOk b m s = false) : Ending.returned (.tuple #[.int .i64 0, .bool false]) = .returned (numE b m s) := by
  unfold numE; rw [num_no h, h]
theorem numE_yes {b : Int} {m : Nat} {s : ByteArray} {n : Int} (h : numOk b m s = true) (hn : n = numL b s.data.toList) : Ending.returned (.tuple #[.int .i64 n, .bool true]) = .returned (numE b m s) := by
  unfold numE; rw [num_yes h, h, hn]
end Go.Proofs.YteibacmohplblaaGreatDoor
namespace Go.Proofs.YteibacmohplblaaGreatDoor
open Go.RowKit

/-- The digit of a number below 16. -/
def hexB (d : Nat) : UInt8 := if d < 10 then UInt8.ofNat (48 + d) else UInt8.ofNat (87 + d)
/-- The hexadecimal digits of n, at most f + 1 of them. -/
def hexF : Nat → Nat → List UInt8
  | 0, n => [hexB n]
  | f + 1, n => if n < 16 then [hexB n] else hexF f (n / 16) ++ [hexB (n % 16)]
theorem hexF_small (f n : Nat) (h : n < 16) : hexF f n = [hexB n] := by
  cases f with
  | zero => rfl
  | succ f => simp [hexF, h]
theorem hexF_step (f n : Nat) (h : ¬ n < 16) : hexF (f + 1) n = hexF f (n / 16) ++ [hexB (n % 16)] := by simp [hexF, h]
/-- What Hex answers within its range. -/
def hexS (n : Nat) : ByteArray := ⟨(hexF 13 n).toArray⟩
def hexA (n : Int) : ByteArray := if 0 ≤ n ∧ n ≤ 4503599627370496 then hexS n.toNat else ⟨#[]⟩
theorem hexA_no {n : Int} (h : ¬ (0 ≤ n ∧ n ≤ 4503599627370496)) : (⟨#[]⟩ : ByteArray) = hexA n := by unfold hexA; rw [if_neg h]
theorem hexA_yes {n : Nat} (h : n ≤ 4503599627370496) : hexS n = hexA (n : Int) := by unfold hexA; rw [if_pos (by omega), Int.toNat_natCast]

theorem ret_hex {a b : ByteArray} (h : a = b) : Ending.returned (.string a) = .returned (.string b) := by rw [h]
theorem ret_two {v : Value} {a b : ByteArray} (h : a = b) : Ending.returned (.tuple #[v, .string a]) = .returned (.tuple #[v, .string b]) := by rw [h]
theorem hex_more {n m f : Nat} {t : List UInt8} (hf : f + t.length = 13) (hm : m < 16 ^ (f + 1)) (h16 : 16 ≤ m) (h : hexF 13 n = hexF f m ++ t) : ∃ f', f' + (hexB (m % 16) :: t).length = 13 ∧ m / 16 < 16 ^ (f' + 1) ∧ hexF 13 n = hexF f' (m / 16) ++ (hexB (m % 16) :: t) := by
  cases f with
  | zero => simp at hm; omega
  | succ f =>
    refine ⟨f, by simp; omega, ?_, ?_⟩
    · rw [Nat.pow_succ] at hm
      exact Nat.div_lt_of_lt_mul (by rw [Nat.mul_comm]; exact hm)
    · rw [h, hexF_step f m (by omega)]
      simp
theorem hex_done {n m f : Nat} {t : List UInt8} (h16 : ¬ 16 ≤ m) (h : hexF 13 n = hexF f m ++ t) : (⟨(hexB m :: t).toArray⟩ : ByteArray) = hexS n := by
  unfold hexS; rw [h, hexF_small f m (by omega)]; rfl

theorem hexB_nat {d : Nat} (h : d < 16) : digV ((hexB d).toNat : Int) = (d : Int) := by
  have k : ∀ j : Fin 16, digV ((hexB j.val).toNat : Int) = (j.val : Int) := by decide +kernel
  exact k ⟨d, h⟩
theorem hexF_length (f : Nat) : ∀ n, 1 ≤ (hexF f n).length := by
  intro n
  cases f with
  | zero => simp [hexF]
  | succ f =>
    by_cases h : n < 16
    · rw [hexF_small _ _ h]; simp
    · rw [hexF_step f n h, List.length_append]; simp
theorem hexF_num (f : Nat) : ∀ n, n < 16 ^ (f + 1) → numL 16 (hexF f n) = (n : Int) ∧ allB (digN 16) (hexF f n) = true := by
  have oneB : ∀ d : Nat, d < 16 → digN 16 ((hexB d).toNat : Int) = true := fun d hd => digN_yes (by rw [hexB_nat hd]; omega) (by rw [hexB_nat hd]; omega)
  have base : ∀ (f n : Nat), n < 16 → numL 16 (hexF f n) = (n : Int) ∧ allB (digN 16) (hexF f n) = true := fun f n h => by
    rw [hexF_small f n h]
    refine ⟨?_, ?_⟩
    · show 0 * 16 + digV ((hexB n).toNat : Int) = (n : Int)
      rw [hexB_nat h]; omega
    · unfold allB; simp [oneB n h]
  induction f with
  | zero => intro n hn; exact base 0 n (by omega)
  | succ f ih =>
    intro n hn
    by_cases h : n < 16
    · exact base _ n h
    · have h1 : n / 16 < 16 ^ (f + 1) := by
        rw [Nat.pow_succ] at hn
        exact Nat.div_lt_of_lt_mul (by rw [Nat.mul_comm]; exact hn)
      obtain ⟨g1, g2⟩ := ih (n / 16) h1
      rw [hexF_step f n h, numL_snoc, g1, hexB_nat (by omega)]
      refine ⟨by omega, ?_⟩
      unfold allB at g2 ⊢
      rw [List.all_append, g2]
      simp [oneB (n % 16) (by omega)]
/-- What Hex writes is read back, where it has at most 13 digits. -/
theorem hex_back {n : Nat} (hn : n ≤ 4503599627370496) (hz : (hexS n).size ≤ 13) : numOk 16 13 (hexS n) = true ∧ numV 16 13 (hexS n) = (n : Int) := by
  obtain ⟨g1, g2⟩ := hexF_num 13 n (by omega)
  have hl := hexF_length 13 n
  have e : (hexS n).data.toList = hexF 13 n := rfl
  have hz1 : (hexS n).size = (hexF 13 n).length := by show (hexF 13 n).toArray.size = _; simp
  have h1 : numOk 16 13 (hexS n) = true := numOk_in (by omega) hz (by rw [e, g2])
  exact ⟨h1, by rw [num_yes h1, e, g1]⟩
/-- A number that was read has digits, within the range. -/
theorem hex_full {n : Int} (h0 : 0 ≤ n) (h1 : n ≤ 4503599627370496) : 0 < (hexA n).size := by
  obtain ⟨m, rfl⟩ := Int.eq_ofNat_of_zero_le h0
  rw [← hexA_yes (by omega)]
  have hl := hexF_length 13 m
  have : (hexS m).size = (hexF 13 m).length := by show (hexF 13 m).toArray.size = _; simp
  omega
theorem numV_nonneg {s : ByteArray} (h : numOk 16 13 s = true) : 0 ≤ numV 16 13 s := by
  rw [num_yes h]
  unfold numOk at h
  rw [Bool.and_eq_true] at h
  have h1 := of_decide_eq_true h.1
  have e : s.data.toList.take s.size = s.data.toList := List.take_of_length_le (by simp)
  have := numL_bd 16 (by decide) s s.size (Nat.le_refl _) (by rw [e]; exact h.2)
  rw [e] at this
  exact this.1
theorem hexF_most (f : Nat) : ∀ n, (hexF f n).length ≤ f + 1 := by
  induction f with
  | zero => intro n; simp [hexF]
  | succ f ih =>
    intro n
    by_cases h : n < 16
    · rw [hexF_small _ _ h]; simp
    · rw [hexF_step f n h, List.length_append]
      have := ih (n / 16)
      simp only [List.length_singleton]
      omega
theorem hexA_size (m : Nat) (h : m ≤ 4503599627370496) : (hexA (m : Int)).size ≤ 14 := by
  rw [← hexA_yes h]
  have h1 := hexF_most 13 m
  have : (hexS m).size = (hexF 13 m).length := by show (hexF 13 m).toArray.size = _; simp
  omega
theorem hexA_back {m : Nat} (h : m ≤ 4503599627370496) (hz : (hexA (m : Int)).size ≤ 13) : numOk 16 13 (hexA (m : Int)) = true ∧ numV 16 13 (hexA (m : Int)) = (m : Int) := by
  rw [← hexA_yes h] at hz ⊢
  exact hex_back h hz

end Go.Proofs.YteibacmohplblaaGreatDoor
