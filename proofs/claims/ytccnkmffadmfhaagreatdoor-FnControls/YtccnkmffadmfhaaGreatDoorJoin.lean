/-
  Plain facts on items that are joined by commas: read again they are the same items.
-/
import Derived.Test.YtccnkmffadmfhaaGreatDoorItl
namespace Go.Proofs.YtccnkmffadmfhaaGreatDoor
open Go.RowKit

/-- The states of the reading: 0 none is open, 1 one is open, 2 behind a byte 92 within what is open. -/
def dlt (q : Nat) (c : UInt8) : Nat := if q = 0 then (if c.toNat = 34 then 1 else 0) else if q = 1 then (if c.toNat = 34 then 0 else if c.toNat = 92 then 2 else 1) else 1
def run (q : Nat) : List UInt8 → Nat
  | [] => q
  | c :: r => run (dlt q c) r
def solid (q : Nat) : List UInt8 → Prop
  | [] => True
  | c :: r => ¬ (q = 0 ∧ c.toNat = 44) ∧ solid (dlt q c) r
def partsA (cur : List UInt8) (q : Nat) : List UInt8 → List (List UInt8)
  | [] => [cur]
  | c :: r => if q = 0 ∧ c.toNat = 44 then cur :: partsA [] 0 r else partsA (cur ++ [c]) (dlt q c) r
def st (op : Bool) : Nat := if op = true then 1 else 0

theorem parts_same : ∀ (n : Nat) (l cur : List UInt8) (op : Bool), l.length ≤ n → partsF cur op l = partsA cur (st op) l := by
  intro n
  induction n with
  | zero =>
    intro l cur op h
    have e : l = [] := List.eq_nil_of_length_eq_zero (by omega)
    subst e
    rw [partsF_nil]; rfl
  | succ n ih =>
    intro l cur op h
    cases l with
    | nil => rw [partsF_nil]; rfl
    | cons c r =>
      simp only [List.length_cons] at h
      by_cases h1 : op = false ∧ c.toNat = 44
      · obtain ⟨rfl, h1⟩ := h1
        rw [partsF_comma _ _ h1, ih r [] false (by omega)]
        show _ = if st false = 0 ∧ c.toNat = 44 then cur :: partsA [] 0 r else _
        rw [if_pos ⟨rfl, h1⟩]
        rfl
      · have hq : ¬ (st op = 0 ∧ c.toNat = 44) := by
          intro hx
          refine h1 ⟨?_, hx.2⟩
          cases op with
          | false => rfl
          | true => exact absurd hx.1 (by decide)
        have step : partsA cur (st op) (c :: r) = partsA (cur ++ [c]) (dlt (st op) c) r := by
          show (if st op = 0 ∧ c.toNat = 44 then cur :: partsA [] 0 r else partsA (cur ++ [c]) (dlt (st op) c) r) = _
          rw [if_neg hq]
        rw [step]
        by_cases h2 : c.toNat = 34
        · rw [partsF_quote _ _ _ h2, ih r _ _ (by omega)]
          have e : dlt (st op) c = st (!op) := by cases op <;> simp [dlt, st, h2]
          rw [e]
        · by_cases h3 : op = true ∧ c.toNat = 92
          · obtain ⟨rfl, h3⟩ := h3
            rw [partsF_take _ _ h3]
            have e : dlt (st true) c = 2 := by simp [dlt, st, h3]
            rw [e]
            cases r with
            | nil => rfl
            | cons d r =>
              simp only [List.length_cons] at h
              show partsF (cur ++ [c] ++ [d]) true r = _
              rw [ih r _ true (by omega)]
              show _ = if 2 = 0 ∧ d.toNat = 44 then _ else partsA (cur ++ [c] ++ [d]) (dlt 2 d) r
              rw [if_neg (by omega)]
              rfl
          · rw [partsF_plain _ _ _ h1 h2 h3, ih r _ _ (by omega)]
            have e : dlt (st op) c = st op := by
              cases op with
              | false => simp [dlt, st, h2]
              | true =>
                have h4 : c.toNat ≠ 92 := fun x => h3 ⟨rfl, x⟩
                simp [dlt, st, h2, h4]
            rw [e]

theorem run_append (x y : List UInt8) : ∀ q, run q (x ++ y) = run (run q x) y := by
  induction x with
  | nil => intro q; rfl
  | cons c x ih => intro q; exact ih (dlt q c)
theorem solid_append (x y : List UInt8) : ∀ q, solid q (x ++ y) ↔ solid q x ∧ solid (run q x) y := by
  induction x with
  | nil => intro q; exact ⟨fun h => ⟨trivial, h⟩, fun h => h.2⟩
  | cons c x ih =>
    intro q
    show (¬ (q = 0 ∧ c.toNat = 44) ∧ solid (dlt q c) (x ++ y)) ↔ (¬ (q = 0 ∧ c.toNat = 44) ∧ solid (dlt q c) x) ∧ solid (run (dlt q c) x) y
    rw [ih (dlt q c)]
    exact ⟨fun h => ⟨⟨h.1, h.2.1⟩, h.2.2⟩, fun h => ⟨h.1.1, h.1.2, h.2⟩⟩
theorem partsA_solid (x r : List UInt8) : ∀ q cur, solid q x → partsA cur q (x ++ r) = partsA (cur ++ x) (run q x) r := by
  induction x with
  | nil => intro q cur _; rw [List.append_nil]; rfl
  | cons c x ih =>
    intro q cur h
    show (if q = 0 ∧ c.toNat = 44 then cur :: partsA [] 0 (x ++ r) else partsA (cur ++ [c]) (dlt q c) (x ++ r)) = _
    rw [if_neg h.1, ih (dlt q c) _ h.2]
    show partsA (cur ++ [c] ++ x) (run (dlt q c) x) r = partsA (cur ++ (c :: x)) (run (dlt q c) x) r
    simp

/-- Every part is solid, and every one but the last ends where none is open. -/
def chain : List (List UInt8) → Prop
  | [] => True
  | [p] => solid 0 p
  | p :: ps => solid 0 p ∧ run 0 p = 0 ∧ chain ps
theorem chain_cons {p : List UInt8} {ps : List (List UInt8)} (h1 : solid 0 p) (h2 : run 0 p = 0) (h3 : chain ps) : chain (p :: ps) := by
  cases ps with
  | nil => exact h1
  | cons p2 ps => exact ⟨h1, h2, h3⟩
theorem chain_parts : ∀ (l cur : List UInt8) (q : Nat), solid 0 cur → run 0 cur = q → chain (partsA cur q l) := by
  intro l
  induction l with
  | nil => intro cur q h _; exact h
  | cons c r ih =>
    intro cur q h hq
    show chain (if q = 0 ∧ c.toNat = 44 then cur :: partsA [] 0 r else partsA (cur ++ [c]) (dlt q c) r)
    by_cases hc : q = 0 ∧ c.toNat = 44
    · rw [if_pos hc]
      exact chain_cons h (hq.trans hc.1) (ih [] 0 trivial rfl)
    · rw [if_neg hc]
      refine ih (cur ++ [c]) (dlt q c) ((solid_append cur [c] 0).2 ⟨h, ?_⟩) ?_
      · rw [hq]; exact ⟨hc, trivial⟩
      · rw [run_append, hq]; rfl

theorem blank_not {c : UInt8} (h : blank c = true) : c.toNat ≠ 34 ∧ c.toNat ≠ 92 ∧ c.toNat ≠ 44 := by
  unfold blank at h
  simp at h
  rcases h with rfl | rfl <;> decide
theorem ltr_fact : ∀ p : List UInt8, solid 0 p → solid 0 (ltr p) ∧ run 0 (ltr p) = run 0 p := by
  intro p
  induction p with
  | nil => intro h; exact ⟨h, rfl⟩
  | cons c p ih =>
    intro h
    cases hb : blank c with
    | false => rw [ltr_no _ hb]; exact ⟨h, rfl⟩
    | true =>
      have hn := blank_not hb
      have e : dlt 0 c = 0 := by simp [dlt, hn.1]
      have h2 : solid 0 p := by have := h.2; rw [e] at this; exact this
      rw [ltr_yes _ hb]
      have := ih h2
      refine ⟨this.1, this.2.trans ?_⟩
      show run 0 p = run (dlt 0 c) p
      rw [e]
theorem rtr_fact : ∀ (n : Nat) (p : List UInt8), p.length ≤ n → solid 0 p → solid 0 (rtr p) ∧ (run 0 p = 0 → run 0 (rtr p) = 0) := by
  intro n
  induction n with
  | zero =>
    intro p hp h
    have e : p = [] := List.eq_nil_of_length_eq_zero (by omega)
    subst e
    exact ⟨h, fun h => h⟩
  | succ n ih =>
    intro p hp h
    rcases List.eq_nil_or_concat p with rfl | ⟨x, c, rfl⟩
    · exact ⟨h, fun h => h⟩
    · rw [List.concat_eq_append] at hp h ⊢
      cases hb : blank c with
      | false => rw [rtr_no _ hb]; exact ⟨h, fun h => h⟩
      | true =>
        have hn := blank_not hb
        rw [rtr_yes _ hb]
        have hs := ((solid_append x [c] 0).1 h).1
        have hi := ih x (by simp at hp; omega) hs
        refine ⟨hi.1, fun hr => hi.2 ?_⟩
        rw [run_append] at hr
        have hr2 : dlt (run 0 x) c = 0 := hr
        by_cases q0 : run 0 x = 0
        · exact q0
        · exfalso
          unfold dlt at hr2
          rw [if_neg q0] at hr2
          split at hr2
          · rw [if_neg hn.1, if_neg hn.2.1] at hr2; omega
          · omega

def trimL (p : List UInt8) : List UInt8 := rtr (ltr p)
theorem trim_fact (p : List UInt8) (h : solid 0 p) : solid 0 (trimL p) ∧ (run 0 p = 0 → run 0 (trimL p) = 0) := by
  have h1 := ltr_fact p h
  have h2 := rtr_fact (ltr p).length (ltr p) (Nat.le_refl _) h1.1
  exact ⟨h2.1, fun hr => h2.2 (h1.2.trans hr)⟩
theorem ltr_ltr (l : List UInt8) : ltr (ltr l) = ltr l := by
  induction l with
  | nil => rfl
  | cons c l ih =>
    cases hb : blank c with
    | true => rw [ltr_yes _ hb, ih]
    | false => rw [ltr_no _ hb, ltr_no _ hb]
theorem rtr_rtr (l : List UInt8) : rtr (rtr l) = rtr l := by
  have h : ltr (ltr l.reverse) = ltr l.reverse := ltr_ltr _
  unfold rtr
  unfold ltr at h
  rw [List.reverse_reverse, h]
theorem trim_trim (p : List UInt8) : trimL (trimL p) = trimL p := by
  unfold trimL
  have e : ltr (rtr (ltr p)) = rtr (ltr p) := by rw [trim_swap, ltr_ltr]
  rw [e, rtr_rtr]
theorem trimB_data (x : ByteArray) : (trimB x).data.toList = trimL x.data.toList := rfl
theorem trimB_trimB (x : ByteArray) : trimB (trimB x) = trimB x := by
  apply ext_bytes
  rw [trimB_data, trimB_data, trim_trim]

/-- The bytes of texts. -/
def bytesOf (l : List ByteArray) : List (List UInt8) := l.map fun x => x.data.toList
theorem chain_items : ∀ ps : List (List UInt8), chain ps → chain (bytesOf (itemsOf ps)) := by
  intro ps
  induction ps with
  | nil => intro _; exact trivial
  | cons p ps ih =>
    intro h
    rw [itemsOf_cons]
    have hs : solid 0 p := by
      cases ps with
      | nil => exact h
      | cons p2 ps => exact h.1
    have ht := trim_fact p hs
    by_cases h0 : 0 < (trimB ⟨p.toArray⟩).size
    · rw [one_yes h0]
      cases ps with
      | nil => exact ht.1
      | cons p2 ps => exact chain_cons ht.1 (ht.2 h.2.1) (ih h.2.2)
    · rw [one_no h0]
      cases ps with
      | nil => exact trivial
      | cons p2 ps => exact ih h.2.2

/-- Joined by commas. -/
def joinL : List (List UInt8) → List UInt8
  | [] => []
  | x :: r => x ++ r.flatMap fun y => 44 :: y
theorem joinL_snoc (l : List (List UInt8)) (y : List UInt8) (h : l ≠ []) : joinL (l ++ [y]) = joinL l ++ (44 :: y) := by
  cases l with
  | nil => exact absurd rfl h
  | cons x r => simp [joinL]
theorem parts_join : ∀ (r : List (List UInt8)) (x : List UInt8), chain (x :: r) → partsA [] 0 (joinL (x :: r)) = x :: r := by
  intro r
  induction r with
  | nil =>
    intro x h
    have h1 : solid 0 x := h
    show partsA [] 0 (x ++ []) = [x]
    rw [partsA_solid x [] 0 [] h1]
    rfl
  | cons y r ih =>
    intro x h
    obtain ⟨h1, h2, h3⟩ := h
    have e : joinL (x :: y :: r) = x ++ (44 :: joinL (y :: r)) := by simp [joinL]
    rw [e, partsA_solid x _ 0 [] h1, h2]
    show (if 0 = 0 ∧ (44 : UInt8).toNat = 44 then x :: partsA [] 0 (joinL (y :: r)) else _) = _
    rw [if_pos ⟨rfl, rfl⟩, ih y h3]

/-- What is told of each item. -/
theorem item_fact (ps : List (List UInt8)) : ∀ x ∈ itemsOf ps, 0 < x.size ∧ trimB x = x := by
  intro x hx
  unfold itemsOf at hx
  rw [List.mem_flatMap] at hx
  obtain ⟨p, _, hp⟩ := hx
  by_cases h0 : 0 < (trimB ⟨p.toArray⟩).size
  · rw [one_yes h0] at hp
    have e : x = trimB ⟨p.toArray⟩ := by simpa using hp
    rw [e]
    exact ⟨h0, trimB_trimB _⟩
  · rw [one_no h0] at hp
    cases hp
theorem items_same : ∀ l : List ByteArray, (∀ x ∈ l, 0 < x.size ∧ trimB x = x) → itemsOf (bytesOf l) = l := by
  intro l
  induction l with
  | nil => intro _; rfl
  | cons x l ih =>
    intro h
    have hx := h x (List.mem_cons_self ..)
    show itemsOf (x.data.toList :: bytesOf l) = x :: l
    rw [itemsOf_cons, ih (fun y hy => h y (List.mem_cons_of_mem _ hy))]
    have e : (⟨x.data.toList.toArray⟩ : ByteArray) = x := rfl
    rw [e, one_yes (by rw [hx.2]; exact hx.1), hx.2]
    rfl
/-- Items that are joined are the items. -/
theorem items_join (s : ByteArray) (j : ByteArray) (hj : j.data.toList = joinL (bytesOf (itemsT s))) : itemsT j = itemsT s := by
  have hc : chain (bytesOf (itemsT s)) := by
    unfold itemsT
    rw [parts_same s.data.toList.length _ [] false (Nat.le_refl _)]
    exact chain_items _ (chain_parts _ [] 0 trivial rfl)
  have hf : ∀ x ∈ itemsT s, 0 < x.size ∧ trimB x = x := item_fact _
  generalize itemsT s = l at hj hc hf
  unfold itemsT
  rw [parts_same j.data.toList.length _ [] false (Nat.le_refl _), hj]
  cases l with
  | nil => rfl
  | cons x l =>
    show itemsOf (partsA [] 0 (joinL (x.data.toList :: bytesOf l))) = x :: l
    rw [parts_join (bytesOf l) x.data.toList hc]
    exact items_same (x :: l) hf

/-! ### All bytes of the items are bytes of the text -/
theorem parts_mem : ∀ (l cur : List UInt8) (q : Nat), ∀ p ∈ partsA cur q l, ∀ c ∈ p, c ∈ cur ∨ c ∈ l := by
  intro l
  induction l with
  | nil =>
    intro cur q p hp c hc
    have e : p = cur := by simpa [partsA] using hp
    subst e
    exact Or.inl hc
  | cons d r ih =>
    intro cur q p hp c hc
    have hp2 : p ∈ (if q = 0 ∧ d.toNat = 44 then cur :: partsA [] 0 r else partsA (cur ++ [d]) (dlt q d) r) := hp
    by_cases h : q = 0 ∧ d.toNat = 44
    · rw [if_pos h] at hp2
      rcases List.mem_cons.1 hp2 with rfl | hp3
      · exact Or.inl hc
      · rcases ih [] 0 p hp3 c hc with h1 | h1
        · cases h1
        · exact Or.inr (List.mem_cons_of_mem _ h1)
    · rw [if_neg h] at hp2
      rcases ih (cur ++ [d]) (dlt q d) p hp2 c hc with h1 | h1
      · rcases List.mem_append.1 h1 with h2 | h2
        · exact Or.inl h2
        · have e : c = d := by simpa using h2
          exact Or.inr (by rw [e]; exact List.mem_cons_self ..)
      · exact Or.inr (List.mem_cons_of_mem _ h1)
theorem ltr_mem (l : List UInt8) : ∀ c ∈ ltr l, c ∈ l := fun _ hc => (List.dropWhile_sublist _).mem hc
theorem rtr_mem (l : List UInt8) : ∀ c ∈ rtr l, c ∈ l := fun c hc => by
  unfold rtr at hc
  rw [List.mem_reverse] at hc
  exact List.mem_reverse.1 ((List.dropWhile_sublist _).mem hc)
theorem items_mem (s : ByteArray) : ∀ x ∈ itemsT s, ∀ c ∈ x.data.toList, c ∈ s.data.toList := by
  intro x hx c hc
  unfold itemsT itemsOf at hx
  rw [List.mem_flatMap] at hx
  obtain ⟨p, hp, hx⟩ := hx
  rw [parts_same s.data.toList.length _ [] false (Nat.le_refl _)] at hp
  by_cases h0 : 0 < (trimB ⟨p.toArray⟩).size
  · rw [one_yes h0] at hx
    have e : x = trimB ⟨p.toArray⟩ := by simpa using hx
    rw [e] at hc
    have h1 : c ∈ p := ltr_mem p c (rtr_mem (ltr p) c hc)
    rcases parts_mem _ [] 0 p hp c h1 with h2 | h2
    · cases h2
    · exact h2
  · rw [one_no h0] at hx
    cases hx
theorem join_mem (l : List (List UInt8)) : ∀ c ∈ joinL l, c.toNat = 44 ∨ ∃ x ∈ l, c ∈ x := by
  intro c hc
  cases l with
  | nil => cases hc
  | cons x r =>
    rcases List.mem_append.1 hc with h | h
    · exact Or.inr ⟨x, List.mem_cons_self .., h⟩
    · rw [List.mem_flatMap] at h
      obtain ⟨y, hy, h⟩ := h
      rcases List.mem_cons.1 h with rfl | h2
      · exact Or.inl rfl
      · exact Or.inr ⟨y, List.mem_cons_of_mem _ hy, h2⟩
theorem join_vis (s j : ByteArray) (hv : visB s = true) (hj : j.data.toList = joinL (bytesOf (itemsT s))) (hz : j.size ≤ 400) : visB j = true := by
  unfold visB at hv ⊢
  rw [Bool.and_eq_true] at hv
  rw [decide_eq_true hz, Bool.true_and]
  have ha := hv.2
  unfold allB at ha ⊢
  rw [List.all_eq_true] at ha ⊢
  intro c hc
  rw [hj] at hc
  rcases join_mem _ c hc with h | ⟨y, hy, h⟩
  · exact visN_yes (by omega)
  · unfold bytesOf at hy
    rw [List.mem_map] at hy
    obtain ⟨x, hx, rfl⟩ := hy
    exact ha c (items_mem s x hx c h)
/-- For every text: its items, joined, have the same items. -/
theorem itemsA_join (s j : ByteArray) (hj : j.data.toList = joinL (bytesOf (itemsA s))) (hz : j.size ≤ 400) : itemsA j = itemsA s := by
  cases hv : visB s with
  | true =>
    rw [← itemsA_yes hv] at hj ⊢
    rw [← itemsA_yes (join_vis s j hv hj hz)]
    exact items_join s j hj
  | false =>
    rw [← itemsA_no hv] at hj ⊢
    have e : j = ⟨#[]⟩ := ext_bytes hj
    rw [e]
    decide +kernel
theorem itemsA_fact (s : ByteArray) : ∀ x ∈ itemsA s, 0 < x.size ∧ trimB x = x := by
  cases hv : visB s with
  | true => rw [← itemsA_yes hv]; exact item_fact _
  | false => rw [← itemsA_no hv]; intro x hx; cases hx
end Go.Proofs.YtccnkmffadmfhaaGreatDoor
