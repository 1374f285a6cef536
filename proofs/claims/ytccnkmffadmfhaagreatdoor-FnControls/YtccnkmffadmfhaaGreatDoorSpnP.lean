/-
  Spans as plain data: which are right, put in order, made one; the bytes that they have.
-/
namespace Go.Proofs.YtccnkmffadmfhaaGreatDoor
set_option linter.unusedVariables false

/-- A span: both ends in it. -/
abbrev Sp := Int × Int
def spB (x : Sp) : Bool := decide (0 ≤ x.1 ∧ x.1 ≤ x.2)
theorem spB_iff {x : Sp} : spB x = true ↔ (0 ≤ x.1 ∧ x.1 ≤ x.2) := by unfold spB; exact decide_eq_true_iff
theorem spB_no {x : Sp} : spB x = false ↔ ¬ (0 ≤ x.1 ∧ x.1 ≤ x.2) := by unfold spB; exact decide_eq_false_iff_not
/-- How many of the first ones begin not behind a. -/
def upto (a : Int) : List Sp → Nat
  | [] => 0
  | x :: l => if x.1 ≤ a then upto a l + 1 else 0
theorem upto_le (a : Int) (l : List Sp) : upto a l ≤ l.length := by
  induction l with
  | nil => simp [upto]
  | cons x l ih => simp only [upto, List.length_cons]; split <;> omega
theorem upto_at (a : Int) (l : List Sp) : ∀ j (h : j < l.length), j < upto a l → l[j].1 ≤ a := by
  induction l with
  | nil => intro j h; simp at h
  | cons x l ih =>
    intro j h hj
    simp only [upto] at hj
    split at hj
    · cases j with
      | zero => assumption
      | succ j => exact ih j (by simpa using h) (by omega)
    · omega
theorem upto_end (a : Int) (l : List Sp) (h : upto a l < l.length) : a < (l[upto a l]).1 := by
  induction l with
  | nil => simp at h
  | cons x l ih =>
    by_cases hx : x.1 ≤ a
    · have e : upto a (x :: l) = upto a l + 1 := by simp [upto, hx]
      have h' : upto a l < l.length := by rw [e] at h; simpa using h
      simp only [e, List.getElem_cons_succ]
      exact ih h'
    · have e : upto a (x :: l) = 0 := by simp [upto, hx]
      simp only [e, List.getElem_cons_zero]
      omega
/-- The number that a loop finds that goes on while what it meets begins not behind a. -/
theorem upto_is {a : Int} {l : List Sp} {k : Nat} (h1 : k ≤ l.length) (h2 : ∀ j (h : j < l.length), j < k → l[j].1 ≤ a) (h3 : ∀ h : k < l.length, a < (l[k]).1) : upto a l = k := by
  have hu := upto_le a l
  rcases Nat.lt_trichotomy (upto a l) k with h | h | h
  · have := upto_end a l (by omega)
    have := h2 (upto a l) (by omega) h
    omega
  · exact h
  · have hk : k < l.length := by omega
    have := upto_at a l k hk h
    have := h3 hk
    omega
/-- One span put in where it belongs. -/
def insS (all : List Sp) (x : Sp) : List Sp := all.take (upto x.1 all) ++ [x] ++ all.drop (upto x.1 all)
def srtS (l : List Sp) : List Sp := l.foldl insS []
def Ris (l : List Sp) : Prop := l.Pairwise fun x y => x.1 ≤ y.1
theorem insS_perm (all : List Sp) (x : Sp) : (insS all x).Perm (x :: all) := by
  unfold insS
  rw [List.append_assoc]
  refine List.perm_middle.trans (List.Perm.cons x ?_)
  show (List.take (upto x.1 all) all ++ List.drop (upto x.1 all) all).Perm all
  rw [List.take_append_drop]
theorem insS_length (all : List Sp) (x : Sp) : (insS all x).length = all.length + 1 := (insS_perm all x).length_eq
theorem foldl_perm (l : List Sp) : ∀ acc, (l.foldl insS acc).Perm (acc ++ l) := by
  induction l with
  | nil => intro acc; simp
  | cons x l ih =>
    intro acc
    refine (ih (insS acc x)).trans ?_
    refine ((insS_perm acc x).append_right l).trans ?_
    exact List.perm_middle.symm
theorem srtS_perm (l : List Sp) : (srtS l).Perm l := by unfold srtS; simpa using foldl_perm l []
theorem upto_split {a : Int} {l : List Sp} (h : Ris l) : (∀ y ∈ l.take (upto a l), y.1 ≤ a) ∧ ∀ y ∈ l.drop (upto a l), a ≤ y.1 := by
  constructor
  · intro y hy
    obtain ⟨j, hj, rfl⟩ := List.getElem_of_mem hy
    rw [List.length_take] at hj
    rw [List.getElem_take]
    exact upto_at a l j (by omega) (by omega)
  · intro y hy
    obtain ⟨j, hj, rfl⟩ := List.getElem_of_mem hy
    rw [List.length_drop] at hj
    rw [List.getElem_drop]
    have h1 := upto_end a l (by omega)
    have h2 : (l[upto a l]'(by omega)).1 ≤ (l[upto a l + j]'(by omega)).1 := by
      rcases Nat.eq_zero_or_pos j with rfl | hp
      · simp
      · exact List.pairwise_iff_getElem.1 h (upto a l) (upto a l + j) (by omega) (by omega) (by omega)
    omega
theorem insS_ris {all : List Sp} (h : Ris all) (x : Sp) : Ris (insS all x) := by
  obtain ⟨h1, h2⟩ := upto_split (a := x.1) h
  unfold insS Ris
  rw [List.append_assoc, List.pairwise_append]
  refine ⟨h.sublist (List.take_sublist _ _), ?_, ?_⟩
  · rw [List.singleton_append, List.pairwise_cons]
    exact ⟨h2, h.sublist (List.drop_sublist _ _)⟩
  · intro y hy z hz
    rw [List.singleton_append] at hz
    rcases List.mem_cons.1 hz with rfl | hz
    · exact h1 y hy
    · have := h1 y hy; have := h2 z hz; omega
theorem srtS_ris (l : List Sp) : Ris (srtS l) := by
  unfold srtS
  have : ∀ acc, Ris acc → Ris (l.foldl insS acc) := by
    induction l with
    | nil => intro acc h; exact h
    | cons x l ih => intro acc h; exact ih _ (insS_ris h x)
  exact this [] List.Pairwise.nil
theorem srtS_snoc (l : List Sp) (x : Sp) : srtS (l ++ [x]) = insS (srtS l) x := by unfold srtS; rw [List.foldl_append]; rfl
/-- One more span made one with the last, or put behind it. -/
def minI (a b : Int) : Int := if a < b then a else b
def maxI (a b : Int) : Int := if b < a then a else b
theorem maxI_le (a b : Int) : a ≤ maxI a b ∧ b ≤ maxI a b ∧ (maxI a b = a ∨ maxI a b = b) := by unfold maxI; split <;> omega
def mrgS (out : List Sp) (x : Sp) : List Sp :=
  match out.getLast? with
  | some y => if x.1 - 1 ≤ y.2 then out.dropLast ++ [(y.1, maxI y.2 x.2)] else out ++ [x]
  | none => out ++ [x]
def mrgL (l : List Sp) : List Sp := l.foldl mrgS []
theorem mrgL_snoc (l : List Sp) (x : Sp) : mrgL (l ++ [x]) = mrgS (mrgL l) x := by unfold mrgL; rw [List.foldl_append]; rfl
theorem mrgS_nil (x : Sp) : mrgS [] x = [x] := rfl
theorem mrgS_snoc (o : List Sp) (y x : Sp) : mrgS (o ++ [y]) x = if x.1 - 1 ≤ y.2 then o ++ [(y.1, maxI y.2 x.2)] else o ++ [y] ++ [x] := by
  unfold mrgS; rw [List.getLast?_concat]; simp only [List.dropLast_concat]
theorem mrgS_length (out : List Sp) (x : Sp) : (mrgS out x).length ≤ out.length + 1 := by
  rcases List.eq_nil_or_concat out with rfl | ⟨o, y, rfl⟩
  · simp [mrgS_nil]
  · rw [List.concat_eq_append, mrgS_snoc]; split <;> simp
theorem mrgL_length (l : List Sp) : (mrgL l).length ≤ l.length := by
  unfold mrgL
  have : ∀ acc, (l.foldl mrgS acc).length ≤ acc.length + l.length := by
    induction l with
    | nil => intro acc; simp
    | cons x l ih => intro acc; have := ih (mrgS acc x); have := mrgS_length acc x; simp only [List.foldl_cons, List.length_cons]; omega
  simpa using this []
/-- Is the byte k in one of them? -/
def Cov (l : List Sp) (k : Int) : Prop := ∃ x ∈ l, x.1 ≤ k ∧ k ≤ x.2
/-- They rise, and none touches the next one. -/
def Nrm (l : List Sp) : Prop := (∀ x ∈ l, 0 ≤ x.1 ∧ x.1 ≤ x.2) ∧ l.Pairwise fun x y => x.2 + 1 < y.1
theorem Nrm.ris {l : List Sp} (h : Nrm l) : Ris l := by
  obtain ⟨h1, h2⟩ := h
  unfold Ris
  rw [List.pairwise_iff_getElem] at h2 ⊢
  intro i j hi hj hij
  have := h1 l[i] (List.getElem_mem hi)
  have := h2 i j hi hj hij
  omega
theorem Nrm.tail {x : Sp} {l : List Sp} (h : Nrm (x :: l)) : Nrm l := ⟨fun y hy => h.1 y (List.mem_cons_of_mem _ hy), (List.pairwise_cons.1 h.2).2⟩
theorem cov_nil (k : Int) : ¬ Cov [] k := fun ⟨x, hx, _⟩ => by cases hx
theorem cov_cons {x : Sp} {l : List Sp} {k : Int} : Cov (x :: l) k ↔ (x.1 ≤ k ∧ k ≤ x.2) ∨ Cov l k := by
  unfold Cov
  constructor
  · rintro ⟨y, hy, h⟩
    rcases List.mem_cons.1 hy with rfl | hy
    · exact .inl h
    · exact .inr ⟨y, hy, h⟩
  · rintro (h | ⟨y, hy, h⟩)
    · exact ⟨x, List.mem_cons_self, h⟩
    · exact ⟨y, List.mem_cons_of_mem _ hy, h⟩
theorem cov_app {a b : List Sp} {k : Int} : Cov (a ++ b) k ↔ Cov a k ∨ Cov b k := by
  unfold Cov
  constructor
  · rintro ⟨y, hy, h⟩
    rcases List.mem_append.1 hy with hy | hy
    · exact .inl ⟨y, hy, h⟩
    · exact .inr ⟨y, hy, h⟩
  · rintro (⟨y, hy, h⟩ | ⟨y, hy, h⟩)
    · exact ⟨y, List.mem_append_left _ hy, h⟩
    · exact ⟨y, List.mem_append_right _ hy, h⟩
theorem cov_one {x : Sp} {k : Int} : Cov [x] k ↔ x.1 ≤ k ∧ k ≤ x.2 := by
  rw [cov_cons]; exact ⟨fun h => h.elim id (fun h => absurd h (cov_nil k)), .inl⟩
theorem cov_perm {a b : List Sp} (h : a.Perm b) {k : Int} : Cov a k ↔ Cov b k := by
  unfold Cov; exact ⟨fun ⟨x, hx, hk⟩ => ⟨x, h.mem_iff.1 hx, hk⟩, fun ⟨x, hx, hk⟩ => ⟨x, h.mem_iff.2 hx, hk⟩⟩
theorem nrm_snoc {o : List Sp} {y : Sp} : Nrm (o ++ [y]) ↔ Nrm o ∧ (0 ≤ y.1 ∧ y.1 ≤ y.2) ∧ ∀ x ∈ o, x.2 + 1 < y.1 := by
  unfold Nrm
  rw [List.pairwise_append]
  constructor
  · rintro ⟨h1, h2, _, h3⟩
    exact ⟨⟨fun x hx => h1 x (List.mem_append_left _ hx), h2⟩, h1 y (List.mem_append_right _ (List.mem_singleton.2 rfl)), fun x hx => h3 x hx y (List.mem_singleton.2 rfl)⟩
  · rintro ⟨⟨h1, h2⟩, h3, h4⟩
    refine ⟨fun x hx => ?_, h2, List.pairwise_singleton _ _, fun x hx z hz => by rw [List.mem_singleton.1 hz]; exact h4 x hx⟩
    rcases List.mem_append.1 hx with hx | hx
    · exact h1 x hx
    · rw [List.mem_singleton.1 hx]; exact h3
/-- What is made one of spans in order rises, touches nowhere, and has their bytes. -/
theorem mrgL_facts : ∀ (l : List Sp), Ris l → (∀ x ∈ l, 0 ≤ x.1 ∧ x.1 ≤ x.2) → Nrm (mrgL l) ∧ (∀ k, Cov (mrgL l) k ↔ Cov l k) ∧ (∀ y ∈ mrgL l, ∃ x ∈ l, y.1 = x.1) := by
  suffices all : ∀ (n : Nat) (l : List Sp), l.length = n → Ris l → (∀ x ∈ l, 0 ≤ x.1 ∧ x.1 ≤ x.2) → Nrm (mrgL l) ∧ (∀ k, Cov (mrgL l) k ↔ Cov l k) ∧ (∀ y ∈ mrgL l, ∃ x ∈ l, y.1 = x.1) from fun l => all l.length l rfl
  intro n
  induction n with
  | zero => intro l hl _ _; obtain rfl := List.eq_nil_of_length_eq_zero hl; exact ⟨⟨fun x hx => (by cases hx), List.Pairwise.nil⟩, fun k => Iff.rfl, fun y hy => (by cases hy)⟩
  | succ n ih =>
    intro l hl hr hs
    rcases List.eq_nil_or_concat l with rfl | ⟨l, x, rfl⟩
    · simp at hl
    rw [List.concat_eq_append] at hl hr hs ⊢
    have hn : l.length = n := by simpa using hl
    have hr' : Ris l := hr.sublist (List.sublist_append_left _ _)
    have hlast : ∀ y ∈ l, y.1 ≤ x.1 := fun y hy => (List.pairwise_append.1 hr).2.2 y hy x (List.mem_singleton.2 rfl)
    obtain ⟨h1, h2, h3⟩ := ih l hn hr' (fun y hy => hs y (List.mem_append_left _ hy))
    have hx := hs x (List.mem_append_right _ (List.mem_singleton.2 rfl))
    rw [mrgL_snoc]
    have hb : ∀ y ∈ mrgL l, y.1 ≤ x.1 := fun y hy => by obtain ⟨z, hz, e⟩ := h3 y hy; rw [e]; exact hlast z hz
    generalize mrgL l = out at h1 h2 h3 hb
    rcases List.eq_nil_or_concat out with rfl | ⟨o, y, rfl⟩
    · rw [mrgS_nil]
      refine ⟨⟨fun z hz => by rw [List.mem_singleton.1 hz]; exact hx, List.pairwise_singleton _ _⟩, fun k => ?_, fun z hz => ⟨x, List.mem_append_right _ (List.mem_singleton.2 rfl), by rw [List.mem_singleton.1 hz]⟩⟩
      rw [cov_app, ← h2 k]
      exact ⟨.inr, fun h => h.elim (fun h => absurd h (cov_nil k)) id⟩
    · rw [List.concat_eq_append] at h1 h2 h3 hb ⊢
      obtain ⟨n1, n2, n3⟩ := nrm_snoc.1 h1
      have hyx := hb y (List.mem_append_right _ (List.mem_singleton.2 rfl))
      rw [mrgS_snoc]
      have hm := maxI_le y.2 x.2
      split
      · rename_i hc
        refine ⟨nrm_snoc.2 ⟨n1, ⟨n2.1, by show y.1 ≤ maxI y.2 x.2; omega⟩, n3⟩, fun k => ?_, fun z hz => ?_⟩
        · rw [cov_app, cov_one, cov_app, cov_one, ← h2 k, cov_app, cov_one]
          constructor
          · rintro (h | ⟨h, h'⟩)
            · exact .inl (.inl h)
            · replace h : y.1 ≤ k := h
              replace h' : k ≤ maxI y.2 x.2 := h'
              by_cases hk : k ≤ y.2
              · exact .inl (.inr ⟨h, hk⟩)
              · refine .inr ⟨by omega, ?_⟩
                rcases hm.2.2 with e | e <;> omega
          · rintro ((h | ⟨h, h'⟩) | ⟨h, h'⟩)
            · exact .inl h
            · exact .inr ⟨h, by show k ≤ maxI y.2 x.2; omega⟩
            · exact .inr ⟨by show y.1 ≤ k; omega, by show k ≤ maxI y.2 x.2; omega⟩
        · rcases List.mem_append.1 hz with hz | hz
          · obtain ⟨u, hu, e⟩ := h3 z (List.mem_append_left _ hz)
            exact ⟨u, List.mem_append_left _ hu, e⟩
          · rw [List.mem_singleton.1 hz]
            obtain ⟨u, hu, e⟩ := h3 y (List.mem_append_right _ (List.mem_singleton.2 rfl))
            exact ⟨u, List.mem_append_left _ hu, e⟩
      · rename_i hc
        refine ⟨nrm_snoc.2 ⟨h1, hx, fun z hz => ?_⟩, fun k => ?_, fun z hz => ?_⟩
        · rcases List.mem_append.1 hz with hz | hz
          · have := n3 z hz; omega
          · rw [List.mem_singleton.1 hz]; omega
        · rw [cov_app (b := [x]), cov_app (b := [x]), ← h2 k]
        · rcases List.mem_append.1 hz with hz | hz
          · obtain ⟨u, hu, e⟩ := h3 z hz
            exact ⟨u, List.mem_append_left _ hu, e⟩
          · exact ⟨x, List.mem_append_right _ (List.mem_singleton.2 rfl), by rw [List.mem_singleton.1 hz]⟩
/-- What rises and touches nowhere is told by its bytes. -/
theorem nrm_head {x : Sp} {l : List Sp} (h : Nrm (x :: l)) {k : Int} : Cov l k → x.2 + 1 < k := by
  rintro ⟨y, hy, h1, h2⟩
  have := (List.pairwise_cons.1 h.2).1 y hy
  omega
theorem nrm_same : ∀ (a b : List Sp), Nrm a → Nrm b → (∀ k, Cov a k ↔ Cov b k) → a = b
  | [], [], _, _, _ => rfl
  | [], y :: b, _, hb, h => by
    have := hb.1 y List.mem_cons_self
    exact absurd ((h y.1).2 (cov_cons.2 (.inl ⟨by omega, by omega⟩))) (cov_nil _)
  | x :: a, [], ha, _, h => by
    have := ha.1 x List.mem_cons_self
    exact absurd ((h x.1).1 (cov_cons.2 (.inl ⟨by omega, by omega⟩))) (cov_nil _)
  | x :: a, y :: b, ha, hb, h => by
    have hx := ha.1 x List.mem_cons_self
    have hy := hb.1 y List.mem_cons_self
    have k1 : y.1 ≤ x.1 := by
      rcases cov_cons.1 ((h x.1).1 (cov_cons.2 (.inl ⟨by omega, by omega⟩))) with h1 | h1
      · exact h1.1
      · have := nrm_head hb h1; omega
    have k2 : x.1 ≤ y.1 := by
      rcases cov_cons.1 ((h y.1).2 (cov_cons.2 (.inl ⟨by omega, by omega⟩))) with h1 | h1
      · exact h1.1
      · have := nrm_head ha h1; omega
    have k3 : x.2 ≤ y.2 := by
      rcases Int.lt_or_le y.2 x.2 with hlt | hle
      · exfalso
        rcases cov_cons.1 ((h (y.2 + 1)).1 (cov_cons.2 (.inl ⟨by omega, by omega⟩))) with h1 | h1
        · omega
        · have := nrm_head hb h1; omega
      · exact hle
    have k4 : y.2 ≤ x.2 := by
      rcases Int.lt_or_le x.2 y.2 with hlt | hle
      · exfalso
        rcases cov_cons.1 ((h (x.2 + 1)).2 (cov_cons.2 (.inl ⟨by omega, by omega⟩))) with h1 | h1
        · omega
        · have := nrm_head ha h1; omega
      · exact hle
    have e : x = y := Prod.ext (by omega) (by omega)
    subst e
    rw [nrm_same a b ha.tail hb.tail (fun k => ⟨fun hk => ?_, fun hk => ?_⟩)]
    · rcases cov_cons.1 ((h k).1 (cov_cons.2 (.inr hk))) with h1 | h1
      · have := nrm_head ha hk; omega
      · exact h1
    · rcases cov_cons.1 ((h k).2 (cov_cons.2 (.inr hk))) with h1 | h1
      · have := nrm_head hb hk; omega
      · exact h1
/-- What Merged answers. -/
def allS (l : List Sp) : Bool := l.all spB
def mgd (l : List Sp) : List Sp := if l.length ≤ 10 ∧ allS l = true then mrgL (srtS l) else []
theorem mgd_out {l : List Sp} (h : ¬ (l.length ≤ 10 ∧ allS l = true)) : mgd l = [] := by unfold mgd; rw [if_neg h]
theorem mgd_in {l : List Sp} (h1 : l.length ≤ 10) (h2 : allS l = true) : mgd l = mrgL (srtS l) := by unfold mgd; rw [if_pos ⟨h1, h2⟩]
theorem allS_iff {l : List Sp} : allS l = true ↔ ∀ x ∈ l, 0 ≤ x.1 ∧ x.1 ≤ x.2 := by
  unfold allS; rw [List.all_eq_true]; exact ⟨fun h x hx => spB_iff.1 (h x hx), fun h x hx => spB_iff.2 (h x hx)⟩
theorem allS_perm {a b : List Sp} (h : a.Perm b) : allS a = allS b := by unfold allS; exact h.all_eq
/-- Put in order whichever way, made one it is the same. -/
theorem mrgL_any {a b : List Sp} (h : a.Perm b) (ha : Ris a) (hb : Ris b) (hs : ∀ x ∈ a, 0 ≤ x.1 ∧ x.1 ≤ x.2) : mrgL a = mrgL b := by
  obtain ⟨a1, a2, _⟩ := mrgL_facts a ha hs
  obtain ⟨b1, b2, _⟩ := mrgL_facts b hb (fun x hx => hs x (h.mem_iff.2 hx))
  exact nrm_same _ _ a1 b1 (fun k => (a2 k).trans ((cov_perm h).trans (b2 k).symm))
theorem mgd_sorted {l a : List Sp} (h1 : l.length ≤ 10) (h2 : allS l = true) (hp : a.Perm l) (hr : Ris a) : mgd l = mrgL a := by
  rw [mgd_in h1 h2]
  exact mrgL_any ((srtS_perm l).trans hp.symm) (srtS_ris l) hr (fun x hx => allS_iff.1 h2 x ((srtS_perm l).mem_iff.1 hx))
theorem mgd_nrm (l : List Sp) : Nrm (mgd l) := by
  unfold mgd
  split
  · rename_i h
    exact (mrgL_facts _ (srtS_ris l) (fun x hx => allS_iff.1 h.2 x ((srtS_perm l).mem_iff.1 hx))).1
  · exact ⟨fun x hx => (by cases hx), List.Pairwise.nil⟩
theorem mgd_cov {l : List Sp} (h1 : l.length ≤ 10) (h2 : allS l = true) (k : Int) : Cov (mgd l) k ↔ Cov l k := by
  rw [mgd_in h1 h2]
  exact ((mrgL_facts _ (srtS_ris l) (fun x hx => allS_iff.1 h2 x ((srtS_perm l).mem_iff.1 hx))).2.1 k).trans (cov_perm (srtS_perm l))
theorem mgd_length (l : List Sp) : (mgd l).length ≤ 10 ∧ (mgd l).length ≤ l.length := by
  unfold mgd
  split
  · rename_i h
    have := mrgL_length (srtS l)
    rw [(srtS_perm l).length_eq] at this
    omega
  · simp
theorem mgd_again (l : List Sp) : mgd (mgd l) = mgd l := by
  have h := mgd_nrm l
  have h2 : allS (mgd l) = true := allS_iff.2 h.1
  exact nrm_same _ _ (mgd_nrm _) h (fun k => mgd_cov (mgd_length l).1 h2 k)
theorem mgd_nil {l : List Sp} (h : mgd l = []) : l = [] ∨ 10 < l.length ∨ allS l = false := by
  by_cases h1 : l.length ≤ 10
  · cases h2 : allS l with
    | false => exact .inr (.inr rfl)
    | true =>
      left
      cases l with
      | nil => rfl
      | cons x l =>
        have hx := allS_iff.1 h2 x List.mem_cons_self
        have := (mgd_cov h1 h2 x.1).2 (cov_cons.2 (.inl ⟨by omega, by omega⟩))
        rw [h] at this
        exact absurd this (cov_nil _)
  · exact .inr (.inl (by omega))
theorem mgd_wide {l : List Sp} {M : Int} (h : ∀ x ∈ l, x.2 ≤ M) : ∀ y ∈ mgd l, y.2 ≤ M := by
  intro y hy
  have hn := mgd_nrm l
  have hy' := hn.1 y hy
  by_cases hc : l.length ≤ 10 ∧ allS l = true
  · obtain ⟨x, hx, h1, h2⟩ := (mgd_cov hc.1 hc.2 y.2).1 ⟨y, hy, hy'.2, Int.le_refl _⟩
    have := h x hx
    omega
  · rw [mgd_out hc] at hy; cases hy
/-- How many bytes; Total. -/
def sumS (l : List Sp) : Int := (l.map fun x => x.2 - x.1 + 1).sum
theorem sumS_nil : sumS [] = 0 := rfl
theorem sumS_next {l : List Sp} {k : Nat} (hk : k < l.length) : sumS (l.take (k + 1)) = sumS (l.take k) + (l[k].2 - l[k].1 + 1) := by
  unfold sumS
  rw [List.take_succ_eq_append_getElem hk, List.map_append, List.sum_append]
  simp
def wideS (l : List Sp) : Bool := l.any fun x => decide (1099511627776 ≤ x.2 - x.1)
def totS (l : List Sp) : Int := if mgd l = [] ∨ wideS (mgd l) = true then -1 else sumS (mgd l)
theorem totS_none {l : List Sp} (h : mgd l = []) : totS l = -1 := by unfold totS; rw [if_pos (.inl h)]
theorem totS_wide {l : List Sp} (h : wideS (mgd l) = true) : totS l = -1 := by unfold totS; rw [if_pos (.inr h)]
theorem totS_sum {l : List Sp} (h1 : ¬ mgd l = []) (h2 : wideS (mgd l) = false) : totS l = sumS (mgd l) := by unfold totS; rw [if_neg (by rintro (h | h); exact h1 h; rw [h2] at h; cases h)]
theorem wideS_hit {l : List Sp} {k : Nat} (hk : k < l.length) (h : 1099511627776 ≤ l[k].2 - l[k].1) : wideS l = true := by
  unfold wideS; rw [List.any_eq_true]; exact ⟨l[k], List.getElem_mem hk, decide_eq_true h⟩
theorem wideS_step {l : List Sp} {k : Nat} (hk : k < l.length) (h : wideS (l.take k) = false) (h2 : ¬ 1099511627776 ≤ l[k].2 - l[k].1) : wideS (l.take (k + 1)) = false := by
  unfold wideS at *
  rw [List.take_succ_eq_append_getElem hk, List.any_append, h]
  simp only [List.any_cons, List.any_nil, Bool.or_false, Bool.false_or]
  exact decide_eq_false h2
theorem sumS_bound {l : List Sp} (h1 : ∀ x ∈ l, 0 ≤ x.1 ∧ x.1 ≤ x.2) (h2 : wideS l = false) : 0 ≤ sumS l ∧ sumS l ≤ l.length * 1099511627776 := by
  induction l with
  | nil => simp [sumS]
  | cons x l ih =>
    have hx := h1 x List.mem_cons_self
    have h3 : decide (1099511627776 ≤ x.2 - x.1) = false ∧ wideS l = false := by
      unfold wideS at h2 ⊢; rw [List.any_cons, Bool.or_eq_false_iff] at h2; exact h2
    have h4 := of_decide_eq_false h3.1
    obtain ⟨i1, i2⟩ := ih (fun y hy => h1 y (List.mem_cons_of_mem _ hy)) h3.2
    have e : sumS (x :: l) = x.2 - x.1 + 1 + sumS l := by unfold sumS; simp
    rw [e, List.length_cons]
    refine ⟨by omega, ?_⟩
    rw [Int.natCast_add, Int.add_mul]
    simp only [Int.cast_ofNat_Int] at *
    omega
end Go.Proofs.YtccnkmffadmfhaaGreatDoor
