/-
  Plain facts of room: what the best way of dropping misses (Belady), what is recent of less room and of more (Mattson).
-/
import Derived.Lib.SmallJoins
namespace Go.Proofs.Ytkoikofaebfbjaa.Rom
set_option linter.unusedVariables false
set_option linter.unusedSimpArgs false
theorem idx_ne {x a : Int} (ts : List Int) (h : x ≠ a) : (x :: ts).idxOf a = ts.idxOf a + 1 := by
  rw [List.idxOf_cons]
  have : (x == a) = false := by simpa using h
  rw [this]
  rfl
/-! ### The least over a row -/
def minOn (g : Int → Nat) : List Int → Nat
  | [] => 0
  | [y] => g y
  | y :: z :: l => min (g y) (minOn g (z :: l))
theorem minOn_le {g : Int → Nat} : ∀ {S : List Int} {y : Int}, y ∈ S → minOn g S ≤ g y
  | [], _, h => by cases h
  | [z], y, h => by rw [List.mem_singleton.1 h]; exact Nat.le_refl _
  | z :: u :: l, y, h => by
    show min (g z) (minOn g (u :: l)) ≤ g y
    rcases List.mem_cons.1 h with rfl | h
    · exact Nat.min_le_left _ _
    · exact Nat.le_trans (Nat.min_le_right _ _) (minOn_le h)
theorem minOn_ex {g : Int → Nat} : ∀ {S : List Int}, S ≠ [] → ∃ y ∈ S, minOn g S = g y
  | [], h => absurd rfl h
  | [z], _ => ⟨z, by simp, rfl⟩
  | z :: u :: l, _ => by
    obtain ⟨y, hy, e⟩ := minOn_ex (g := g) (S := u :: l) (by simp)
    show ∃ y ∈ z :: u :: l, min (g z) (minOn g (u :: l)) = g y
    by_cases hle : g z ≤ minOn g (u :: l)
    · exact ⟨z, by simp, Nat.min_eq_left hle⟩
    · exact ⟨y, List.mem_cons_of_mem _ hy, by rw [Nat.min_eq_right (by omega), e]⟩
theorem minOn_same {g g' : Int → Nat} {S S' : List Int} (hm : ∀ y, y ∈ S ↔ y ∈ S') (hg : ∀ y ∈ S, g y = g' y) (hn : S ≠ []) : minOn g S = minOn g' S' := by
  have hn' : S' ≠ [] := by
    obtain ⟨y, hy⟩ := List.exists_mem_of_ne_nil S hn
    intro e
    have := (hm y).1 hy
    rw [e] at this
    cases this
  obtain ⟨y, hy, e⟩ := minOn_ex (g := g) hn
  obtain ⟨z, hz, e'⟩ := minOn_ex (g := g') hn'
  refine Nat.le_antisymm ?_ ?_
  · rw [e', ← hg z ((hm z).2 hz)]; exact minOn_le ((hm z).2 hz)
  · rw [e, hg y hy]; exact minOn_le ((hm y).1 hy)

/-! ### The least misses of any way of dropping -/
def opt (k : Nat) : List Int → List Int → Nat
  | [], _ => 0
  | x :: ts, S => if x ∈ S then opt k ts S else if S.length < k then 1 + opt k ts (x :: S) else minOn (fun y => 1 + opt k ts (x :: S.erase y)) S
theorem opt_hit {k : Nat} {x : Int} {ts S : List Int} (h : x ∈ S) : opt k (x :: ts) S = opt k ts S := by rw [opt, if_pos h]
theorem opt_room {k : Nat} {x : Int} {ts S : List Int} (h : x ∉ S) (hl : S.length < k) : opt k (x :: ts) S = 1 + opt k ts (x :: S) := by rw [opt, if_neg h, if_pos hl]
theorem opt_full {k : Nat} {x : Int} {ts S : List Int} (h : x ∉ S) (hl : ¬ S.length < k) : opt k (x :: ts) S = minOn (fun y => 1 + opt k ts (x :: S.erase y)) S := by rw [opt, if_neg h, if_neg hl]
theorem opt_le {k : Nat} {x y : Int} {ts S : List Int} (h : x ∉ S) (hl : ¬ S.length < k) (hy : y ∈ S) : opt k (x :: ts) S ≤ 1 + opt k ts (x :: S.erase y) := by
  rw [opt_full h hl]; exact minOn_le (g := fun y => 1 + opt k ts (x :: S.erase y)) hy
theorem opt_ex {k : Nat} {x : Int} {ts S : List Int} (h : x ∉ S) (hl : ¬ S.length < k) (hn : S ≠ []) : ∃ y ∈ S, opt k (x :: ts) S = 1 + opt k ts (x :: S.erase y) := by
  rw [opt_full h hl]; exact minOn_ex hn
theorem opt_perm {k : Nat} (hk : 0 < k) : ∀ (ts S S' : List Int), S.Perm S' → opt k ts S = opt k ts S' := by
  intro ts
  induction ts with
  | nil => intro S S' _; rfl
  | cons x ts ih =>
    intro S S' hp
    by_cases hx : x ∈ S
    · rw [opt_hit hx, opt_hit (hp.mem_iff.1 hx), ih S S' hp]
    · have hx' : x ∉ S' := fun h => hx (hp.mem_iff.2 h)
      by_cases hl : S.length < k
      · rw [opt_room hx hl, opt_room hx' (by rw [← hp.length_eq]; exact hl), ih _ _ (hp.cons x)]
      · rw [opt_full hx hl, opt_full hx' (by rw [← hp.length_eq]; exact hl)]
        refine minOn_same (fun y => hp.mem_iff) (fun y _ => ?_) ?_
        · rw [ih _ _ ((hp.erase y).cons x)]
        · intro e; rw [e] at hl; exact hl hk
/-- One number more or another costs one miss at most. -/
theorem opt_near {k : Nat} (hk : 0 < k) : ∀ (ts R : List Int) (a b : Int), R.length + 1 = k → opt k ts (a :: R) ≤ 1 + opt k ts (b :: R) := by
  intro ts
  induction ts with
  | nil => intro R a b _; exact Nat.zero_le _
  | cons x ts ih =>
    intro R a b hR
    have fa : ¬ (a :: R).length < k := by simp; omega
    have fb : ¬ (b :: R).length < k := by simp; omega
    by_cases hxR : x ∈ R
    · rw [opt_hit (List.mem_cons_of_mem _ hxR), opt_hit (List.mem_cons_of_mem _ hxR)]
      exact ih R a b hR
    · by_cases hxb : x = b
      · subst hxb
        rw [opt_hit (S := x :: R) (by simp)]
        by_cases hxa : x = a
        · subst hxa; rw [opt_hit (by simp)]; omega
        · have hx : x ∉ a :: R := by simp [hxa, hxR]
          have h := opt_le (ts := ts) hx fa (y := a) (by simp)
          rw [List.erase_cons_head] at h
          exact h
      · have hx2 : x ∉ b :: R := by simp [hxb, hxR]
        obtain ⟨y, hy, e⟩ := opt_ex (ts := ts) hx2 fb (by simp)
        rw [e]
        by_cases hxa : x = a
        · subst hxa
          rw [opt_hit (by simp)]
          rcases List.mem_cons.1 hy with rfl | hy
          · rw [List.erase_cons_head]; omega
          · by_cases hyb : y = b
            · subst hyb; rw [List.erase_cons_head]; omega
            · rw [List.erase_cons_tail (by simpa using fun h => hyb h.symm)]
              have hp : (x :: R).Perm (y :: (x :: R.erase y)) := ((List.perm_cons_erase hy).cons x).trans (List.Perm.swap y x _)
              have hp2 : (x :: b :: R.erase y).Perm (b :: (x :: R.erase y)) := List.Perm.swap b x _
              rw [opt_perm hk ts _ _ hp, opt_perm hk ts _ _ hp2]
              have hl := List.length_erase_of_mem hy
              have hpos : 0 < R.length := List.length_pos_of_mem hy
              have := ih (x :: R.erase y) y b (by simp; omega)
              omega
        · have hx1 : x ∉ a :: R := by simp [hxa, hxR]
          rcases List.mem_cons.1 hy with rfl | hy
          · have h := opt_le (ts := ts) hx1 fa (y := a) (by simp)
            rw [List.erase_cons_head] at h ⊢
            omega
          · by_cases hyb : y = b
            · subst hyb
              have h := opt_le (ts := ts) hx1 fa (y := a) (by simp)
              rw [List.erase_cons_head] at h ⊢
              omega
            · rw [List.erase_cons_tail (by simpa using fun h => hyb h.symm)]
              have h := opt_le (ts := ts) hx1 fa (y := y) (List.mem_cons_of_mem _ hy)
              have hl := List.length_erase_of_mem hy
              have hpos : 0 < R.length := List.length_pos_of_mem hy
              have hp2 : (x :: b :: R.erase y).Perm (b :: (x :: R.erase y)) := List.Perm.swap b x _
              rw [opt_perm hk ts _ _ hp2]
              by_cases hya : y = a
              · subst hya
                rw [List.erase_cons_head] at h
                have hp : (x :: R).Perm (y :: (x :: R.erase y)) := ((List.perm_cons_erase hy).cons x).trans (List.Perm.swap y x _)
                rw [opt_perm hk ts _ _ hp] at h
                have := ih (x :: R.erase y) y b (by simp; omega)
                omega
              · rw [List.erase_cons_tail (by simpa using fun h => hya h.symm)] at h
                have hp : (x :: a :: R.erase y).Perm (a :: (x :: R.erase y)) := List.Perm.swap a x _
                rw [opt_perm hk ts _ _ hp] at h
                have := ih (x :: R.erase y) a b (by simp; omega)
                omega
/-- What comes sooner is worth more. -/
theorem opt_sooner {k : Nat} (hk : 0 < k) : ∀ (ts R : List Int) (a b : Int), R.length + 1 = k → a ∉ R → b ∉ R → ts.idxOf a ≤ ts.idxOf b → opt k ts (a :: R) ≤ opt k ts (b :: R) := by
  intro ts
  induction ts with
  | nil => intro R a b _ _ _ _; exact Nat.le_refl _
  | cons x ts ih =>
    intro R a b hR haR hbR hab
    have fa : ¬ (a :: R).length < k := by simp; omega
    have fb : ¬ (b :: R).length < k := by simp; omega
    by_cases hEq : a = b
    · subst hEq; exact Nat.le_refl _
    by_cases hxR : x ∈ R
    · have hxa : x ≠ a := fun e => haR (e ▸ hxR)
      have hxb : x ≠ b := fun e => hbR (e ▸ hxR)
      rw [opt_hit (List.mem_cons_of_mem _ hxR), opt_hit (List.mem_cons_of_mem _ hxR)]
      rw [idx_ne _ hxa, idx_ne _ hxb] at hab
      exact ih R a b hR haR hbR (by omega)
    · by_cases hxa : x = a
      · subst hxa
        have hx2 : x ∉ b :: R := by simp [hEq, hxR]
        rw [opt_hit (S := x :: R) (by simp)]
        obtain ⟨y, hy, e⟩ := opt_ex (ts := ts) hx2 fb (by simp)
        rw [e]
        rcases List.mem_cons.1 hy with rfl | hy
        · rw [List.erase_cons_head]; omega
        · have hyb : y ≠ b := fun h => hbR (h ▸ hy)
          rw [List.erase_cons_tail (by simpa using fun h => hyb h.symm)]
          have hp : (x :: R).Perm (y :: (x :: R.erase y)) := ((List.perm_cons_erase hy).cons x).trans (List.Perm.swap y x _)
          have hp2 : (x :: b :: R.erase y).Perm (b :: (x :: R.erase y)) := List.Perm.swap b x _
          rw [opt_perm hk ts _ _ hp, opt_perm hk ts _ _ hp2]
          have hl := List.length_erase_of_mem hy
          have hpos : 0 < R.length := List.length_pos_of_mem hy
          exact opt_near hk ts (x :: R.erase y) y b (by simp; omega)
      · by_cases hxb : x = b
        · subst hxb
          rw [List.idxOf_cons_self, idx_ne _ hxa] at hab
          omega
        · rw [idx_ne _ hxa, idx_ne _ hxb] at hab
          have hx1 : x ∉ a :: R := by simp [hxa, hxR]
          have hx2 : x ∉ b :: R := by simp [hxb, hxR]
          obtain ⟨y, hy, e⟩ := opt_ex (ts := ts) hx2 fb (by simp)
          rw [e]
          rcases List.mem_cons.1 hy with rfl | hy
          · have h := opt_le (ts := ts) hx1 fa (y := a) (by simp)
            rw [List.erase_cons_head] at h ⊢
            exact h
          · have hyb : y ≠ b := fun h => hbR (h ▸ hy)
            have hya : y ≠ a := fun h => haR (h ▸ hy)
            have h := opt_le (ts := ts) hx1 fa (y := y) (List.mem_cons_of_mem _ hy)
            rw [List.erase_cons_tail (by simpa using fun h => hya h.symm)] at h
            rw [List.erase_cons_tail (by simpa using fun h => hyb h.symm)]
            have hp : (x :: a :: R.erase y).Perm (a :: (x :: R.erase y)) := List.Perm.swap a x _
            have hp2 : (x :: b :: R.erase y).Perm (b :: (x :: R.erase y)) := List.Perm.swap b x _
            rw [opt_perm hk ts _ _ hp] at h
            rw [opt_perm hk ts _ _ hp2]
            have hl := List.length_erase_of_mem hy
            have hpos : 0 < R.length := List.length_pos_of_mem hy
            have := ih (x :: R.erase y) a b (by simp; omega) (by
              intro hm
              rcases List.mem_cons.1 hm with e | e
              · exact hxa e.symm
              · exact haR (List.mem_of_mem_erase e)) (by
              intro hm
              rcases List.mem_cons.1 hm with e | e
              · exact hxb e.symm
              · exact hbR (List.mem_of_mem_erase e)) (by omega)
            omega
/-- Dropping one that comes again the latest is best. -/
theorem opt_latest {k : Nat} (hk : 0 < k) {x f : Int} {ts S : List Int} (hx : x ∉ S) (hS : S.length = k) (hn : S.Nodup) (hf : f ∈ S) (hl : ∀ y ∈ S, ts.idxOf y ≤ ts.idxOf f) : opt k (x :: ts) S = 1 + opt k ts (x :: S.erase f) := by
  have hfull : ¬ S.length < k := by omega
  refine Nat.le_antisymm (opt_le hx hfull hf) ?_
  obtain ⟨y, hy, e⟩ := opt_ex (ts := ts) hx hfull (List.ne_nil_of_mem hf)
  rw [e]
  by_cases hyf : y = f
  · subst hyf; exact Nat.le_refl _
  · have hyS : y ∈ S.erase f := (List.mem_erase_of_ne hyf).2 hy
    have p1 : (x :: S.erase f).Perm (y :: (x :: (S.erase f).erase y)) := ((List.perm_cons_erase hyS).cons x).trans (List.Perm.swap y x _)
    have hfS : f ∈ S.erase y := (List.mem_erase_of_ne (fun h => hyf h.symm)).2 hf
    have p2 : (x :: S.erase y).Perm (f :: (x :: (S.erase y).erase f)) := ((List.perm_cons_erase hfS).cons x).trans (List.Perm.swap f x _)
    rw [List.erase_comm] at p2
    rw [opt_perm hk ts _ _ p1, opt_perm hk ts _ _ p2]
    have l1 := List.length_erase_of_mem hf
    have l2 := List.length_erase_of_mem hyS
    have hpos : 0 < (S.erase f).length := List.length_pos_of_mem hyS
    have nd1 : (S.erase f).Nodup := hn.erase f
    have hne : y ∉ (S.erase f).erase y := by rw [nd1.mem_erase_iff]; exact fun h => h.1 rfl
    have hnf : f ∉ (S.erase f).erase y := fun h => by
      have := List.mem_of_mem_erase h
      rw [hn.mem_erase_iff] at this
      exact this.1 rfl
    have hxy : y ≠ x := fun e => hx (e ▸ hy)
    have hxf : f ≠ x := fun e => hx (e ▸ hf)
    have := opt_sooner hk ts (x :: (S.erase f).erase y) y f (by simp; omega) (by simp [hxy, hne]) (by simp [hxf, hnf]) (hl y hy)
    omega
theorem opt_bound {k : Nat} (hk : 0 < k) : ∀ (ts S : List Int), opt k ts S ≤ ts.length := by
  intro ts
  induction ts with
  | nil => intro S; exact Nat.le_refl _
  | cons x ts ih =>
    intro S
    by_cases hx : x ∈ S
    · rw [opt_hit hx, List.length_cons]; have := ih S; omega
    · by_cases hl : S.length < k
      · rw [opt_room hx hl, List.length_cons]; have := ih (x :: S); omega
      · obtain ⟨y, _, e⟩ := opt_ex (ts := ts) hx hl (fun e => by rw [e] at hl; exact hl hk)
        rw [e, List.length_cons]; have := ih (x :: S.erase y); omega

/-! ### The one that is used the longest ago goes -/
def srI (S : List Int) (x : Int) : List Int := x :: S.filter (fun y => decide (y ≠ x))
def srS (r : Nat) (S : List Int) (x : Int) : List Int := (srI S x).take r
def lru (r : Nat) : List Int → List Int → Nat
  | [], _ => 0
  | x :: ts, S => (if x ∈ S then 0 else 1) + lru r ts (srS r S x)
theorem filter_out {S : List Int} {x : Int} (h : x ∉ S) : S.filter (fun y => decide (y ≠ x)) = S := by
  rw [List.filter_eq_self]
  intro y hy
  have hne : y ≠ x := fun e => h (e ▸ hy)
  simpa using hne
theorem srI_perm {S : List Int} {x : Int} (hn : S.Nodup) (hx : x ∈ S) : (srI S x).Perm S := by
  have : S.filter (fun y => decide (y ≠ x)) = S.erase x := by
    rw [hn.erase_eq_filter]
    congr 1
    funext y
    by_cases h : y = x <;> simp [h]
  unfold srI
  rw [this]
  exact (List.perm_cons_erase hx).symm
theorem srI_nodup {S : List Int} {x : Int} (hn : S.Nodup) : (srI S x).Nodup := by
  unfold srI
  rw [List.nodup_cons]
  refine ⟨?_, hn.filter _⟩
  simp
theorem srS_nodup {r : Nat} {S : List Int} {x : Int} (hn : S.Nodup) : (srS r S x).Nodup := (srI_nodup hn).sublist (List.take_sublist _ _)
theorem srS_length (r : Nat) (S : List Int) (x : Int) : (srS r S x).length ≤ r := by unfold srS; rw [List.length_take]; exact Nat.min_le_left _ _
/-- No way of dropping misses less than the least. -/
theorem opt_lru {r : Nat} (hr : 0 < r) : ∀ (ts S : List Int), S.Nodup → S.length ≤ r → opt r ts S ≤ lru r ts S := by
  intro ts
  induction ts with
  | nil => intro S _ _; exact Nat.le_refl _
  | cons x ts ih =>
    intro S hn hl
    have h := ih (srS r S x) (srS_nodup hn) (srS_length r S x)
    show _ ≤ (if x ∈ S then 0 else 1) + lru r ts (srS r S x)
    by_cases hx : x ∈ S
    · rw [if_pos hx, opt_hit hx]
      have hp := srI_perm hn hx
      have e : srS r S x = srI S x := by unfold srS; exact List.take_of_length_le (by rw [hp.length_eq]; exact hl)
      rw [e, opt_perm hr ts _ _ hp] at h
      rw [e]
      omega
    · rw [if_neg hx]
      have ef : srI S x = x :: S := by unfold srI; rw [filter_out hx]
      by_cases hlt : S.length < r
      · rw [opt_room hx hlt]
        have e : srS r S x = x :: S := by unfold srS; rw [ef]; exact List.take_of_length_le (by simp; omega)
        rw [e] at h ⊢
        omega
      · have hne : S ≠ [] := fun e => by rw [e] at hlt; exact hlt hr
        have hz := List.dropLast_concat_getLast hne
        have hmem := List.getLast_mem hne
        have e : srS r S x = x :: S.dropLast := by
          unfold srS
          rw [ef]
          cases r with
          | zero => omega
          | succ r =>
            rw [List.take_succ_cons, List.dropLast_eq_take]
            congr 2
            omega
        have hp : S.dropLast.Perm (S.erase (S.getLast hne)) := by
          have p1 : S.Perm (S.getLast hne :: S.erase (S.getLast hne)) := List.perm_cons_erase hmem
          have p2 : S.Perm (S.getLast hne :: S.dropLast) := by
            have := List.perm_append_comm (l₁ := S.dropLast) (l₂ := [S.getLast hne])
            rw [hz] at this
            exact this
          exact (List.perm_cons _).1 (p2.symm.trans p1)
        have h2 := opt_le (ts := ts) hx hlt hmem
        rw [← opt_perm hr ts _ _ (hp.cons x)] at h2
        rw [e] at h ⊢
        omega

/-! ### Mattson -/
/-- All that came, each once, the last one first. -/
def stk (p : List Int) : List Int := p.foldl srI []
theorem stk_snoc (p : List Int) (x : Int) : stk (p ++ [x]) = srI (stk p) x := by unfold stk; rw [List.foldl_append]; rfl
theorem foldl_nodup : ∀ (p S : List Int), S.Nodup → (p.foldl srI S).Nodup
  | [], S, h => h
  | x :: p, S, h => foldl_nodup p (srI S x) (srI_nodup h)
theorem stk_nodup (p : List Int) : (stk p).Nodup := foldl_nodup p [] List.nodup_nil
theorem take_filter (x : Int) : ∀ (S : List Int) (r : Nat), S.Nodup → ((S.take (r + 1)).filter (fun y => decide (y ≠ x))).take r = (S.filter (fun y => decide (y ≠ x))).take r := by
  intro S
  induction S with
  | nil => intro r _; simp
  | cons y S ih =>
    intro r hn
    rw [List.nodup_cons] at hn
    rw [List.take_succ_cons]
    by_cases hy : y = x
    · subst hy
      rw [List.filter_cons_of_neg (by simp), List.filter_cons_of_neg (by simp), filter_out hn.1, filter_out (fun h => hn.1 (List.mem_of_mem_take h)), List.take_take, Nat.min_self]
    · rw [List.filter_cons_of_pos (by simpa using hy), List.filter_cons_of_pos (by simpa using hy)]
      cases r with
      | zero => simp
      | succ r => rw [List.take_succ_cons, List.take_succ_cons, ih r hn.2]
/-- What is recent of some room is the beginning of all that came. -/
theorem srS_take (r : Nat) (S : List Int) (x : Int) (hn : S.Nodup) : srS r (S.take r) x = (srI S x).take r := by
  unfold srS srI
  cases r with
  | zero => simp
  | succ r => rw [List.take_succ_cons, List.take_succ_cons, take_filter x S r hn]
def shf (r : Nat) (p : List Int) : List Int := p.foldl (srS r) []
theorem shf_snoc (r : Nat) (p : List Int) (x : Int) : shf r (p ++ [x]) = srS r (shf r p) x := by unfold shf; rw [List.foldl_append]; rfl
theorem shf_is (r : Nat) (p : List Int) : shf r p = (stk p).take r := by
  have key : ∀ n (p : List Int), p.length = n → shf r p = (stk p).take r := by
    intro n
    induction n with
    | zero => intro p h; rw [List.length_eq_zero_iff.1 h]; simp [shf, stk]
    | succ n ih =>
      intro p h
      have hne : p ≠ [] := fun e => by rw [e] at h; simp at h
      rw [← List.dropLast_concat_getLast hne, shf_snoc, stk_snoc, ih _ (by rw [List.length_dropLast]; omega), srS_take r _ _ (stk_nodup _)]
  exact key _ p rfl
/-- How many of the first n missed. -/
def mis (r : Nat) (t : List Int) : Nat → Nat
  | 0 => 0
  | n + 1 => mis r t n + (if t.getD n 0 ∈ shf r (t.take n) then 0 else 1)
theorem mis_more (r : Nat) (t : List Int) : ∀ n, mis (r + 1) t n ≤ mis r t n
  | 0 => Nat.le_refl _
  | n + 1 => by
    have h := mis_more r t n
    show mis (r + 1) t n + _ ≤ mis r t n + _
    by_cases hx : t.getD n 0 ∈ shf r (t.take n)
    · have hx2 : t.getD n 0 ∈ shf (r + 1) (t.take n) := by
        rw [shf_is] at hx ⊢
        exact (List.take_sublist_take_left (by omega)).subset hx
      rw [if_pos hx, if_pos hx2]; omega
    · rw [if_neg hx]
      split <;> omega
theorem shf_more (r : Nat) (t : List Int) : shf r t <+: shf (r + 1) t := by
  rw [shf_is, shf_is]
  exact List.take_prefix_take_left (by omega)
theorem lru_mis (r : Nat) : ∀ (ts p : List Int), mis r (p ++ ts) (p.length + ts.length) = mis r (p ++ ts) p.length + lru r ts (shf r p) := by
  intro ts
  induction ts with
  | nil => intro p; rfl
  | cons x ts ih =>
    intro p
    have h := ih (p ++ [x])
    rw [List.append_assoc, List.singleton_append, List.length_append, List.length_singleton] at h
    rw [List.length_cons, show p.length + (ts.length + 1) = p.length + 1 + ts.length from by omega, h, shf_snoc]
    show mis r (p ++ x :: ts) p.length + (if (p ++ x :: ts).getD p.length 0 ∈ shf r ((p ++ x :: ts).take p.length) then 0 else 1) + lru r ts (srS r (shf r p) x) = mis r (p ++ x :: ts) p.length + ((if x ∈ shf r p then 0 else 1) + lru r ts (srS r (shf r p) x))
    have e1 : (p ++ x :: ts).getD p.length 0 = x := by simp
    have e2 : (p ++ x :: ts).take p.length = p := by simp
    rw [e1, e2]
    omega
theorem lru_is (r : Nat) (t : List Int) : mis r t t.length = lru r t [] := by
  have := lru_mis r t []
  simpa [mis, shf] using this

/-- All that is there, each once, as it is met. -/
def ddL : List Int → List Int
  | [] => []
  | y :: ys => y :: (ddL ys).filter (fun z => decide (z ≠ y))
theorem stk_dd : ∀ (p : List Int), stk p = ddL p.reverse := by
  have key : ∀ n (p : List Int), p.length = n → stk p = ddL p.reverse := by
    intro n
    induction n with
    | zero => intro p h; rw [List.length_eq_zero_iff.1 h]; rfl
    | succ n ih =>
      intro p h
      have hne : p ≠ [] := fun e => by rw [e] at h; simp at h
      rw [← List.dropLast_concat_getLast hne, stk_snoc, ih _ (by rw [List.length_dropLast]; omega), List.reverse_append]
      rfl
  exact fun p => key _ p rfl
/-- How many unlike numbers are met till x. -/
def disF (x : Int) : List Int → List Int → Nat
  | _, [] => 0
  | seen, y :: ys => if y = x then (if y ∈ seen then seen else seen ++ [y]).length else disF x (if y ∈ seen then seen else seen ++ [y]) ys
theorem mem_ddL {x : Int} : ∀ {ys : List Int}, x ∈ ddL ys ↔ x ∈ ys
  | [] => Iff.rfl
  | y :: ys => by
    show x ∈ y :: (ddL ys).filter _ ↔ _
    rw [List.mem_cons, List.mem_filter, mem_ddL (ys := ys), List.mem_cons]
    by_cases h : x = y <;> simp [h]
theorem disF_is (x : Int) : ∀ (ys seen : List Int), x ∉ seen → disF x seen ys = if x ∈ ys then (seen ++ (ddL ys).filter (fun z => decide (z ∉ seen))).idxOf x + 1 else 0 := by
  intro ys
  induction ys with
  | nil => intro seen _; simp [disF]
  | cons y ys ih =>
    intro seen hx
    by_cases hyx : y = x
    · subst hyx
      show (if y = y then _ else _) = _
      rw [if_pos rfl, if_neg hx, if_pos (by simp)]
      have e : ddL (y :: ys) = y :: (ddL ys).filter (fun z => decide (z ≠ y)) := rfl
      rw [e, List.filter_cons_of_pos (by simpa using hx), List.idxOf_append, if_neg hx, List.idxOf_cons_self, List.length_append]
      simp
    · show (if y = x then _ else disF x (if y ∈ seen then seen else seen ++ [y]) ys) = _
      rw [if_neg hyx]
      have hmem : (x ∈ y :: ys) ↔ x ∈ ys := by
        rw [List.mem_cons]
        exact ⟨fun h => h.elim (fun e => absurd e.symm hyx) id, .inr⟩
      have e : ddL (y :: ys) = y :: (ddL ys).filter (fun z => decide (z ≠ y)) := rfl
      by_cases hs : y ∈ seen
      · rw [if_pos hs, ih seen hx, e, List.filter_cons_of_neg (by simpa using hs), List.filter_filter]
        have e2 : (fun z => decide (z ∉ seen) && decide (z ≠ y)) = fun z => decide (z ∉ seen) := by
          funext z
          by_cases hz : z = y
          · subst hz; simp [hs]
          · simp [hz]
        rw [e2]
        by_cases hxy : x ∈ ys
        · rw [if_pos hxy, if_pos (hmem.2 hxy)]
        · rw [if_neg hxy, if_neg (fun h => hxy (hmem.1 h))]
      · have hx' : x ∉ seen ++ [y] := by
          rw [List.mem_append, List.mem_singleton]
          exact fun h => h.elim hx (fun e => hyx e.symm)
        rw [if_neg hs, ih (seen ++ [y]) hx', e, List.filter_cons_of_pos (by simpa using hs), List.filter_filter]
        have e2 : (fun z => decide (z ∉ seen) && decide (z ≠ y)) = fun z => decide (z ∉ seen ++ [y]) := by
          funext z
          by_cases h1 : z ∈ seen <;> by_cases h2 : z = y <;> simp [h1, h2]
        rw [e2, List.append_assoc, List.singleton_append]
        by_cases hxy : x ∈ ys
        · rw [if_pos hxy, if_pos (hmem.2 hxy)]
        · rw [if_neg hxy, if_neg (fun h => hxy (hmem.1 h))]
theorem mem_take_idx {x : Int} : ∀ (S : List Int) (r : Nat), x ∈ S.take r ↔ x ∈ S ∧ S.idxOf x < r
  | [], r => by simp
  | y :: S, 0 => by simp
  | y :: S, r + 1 => by
    rw [List.take_succ_cons, List.mem_cons, List.mem_cons, mem_take_idx S r]
    by_cases h : y = x
    · subst h; simp
    · have h' : x ≠ y := fun e => h e.symm
      rw [idx_ne S h]
      simp [h']
/-- The distance of a number: 0, or how deep it lies. -/
def dis (t : List Int) (i : Nat) : Nat := disF (t.getD i 0) [] (t.take i).reverse
theorem dis_is (t : List Int) (i : Nat) : dis t i = if t.getD i 0 ∈ stk (t.take i) then (stk (t.take i)).idxOf (t.getD i 0) + 1 else 0 := by
  unfold dis
  rw [disF_is _ _ [] (by simp), stk_dd]
  have e : (ddL (t.take i).reverse).filter (fun z => decide (z ∉ ([] : List Int))) = ddL (t.take i).reverse := by
    rw [List.filter_eq_self]; intro a _; simp
  rw [e, List.nil_append]
  by_cases h : t.getD i 0 ∈ (t.take i).reverse
  · rw [if_pos h, if_pos (mem_ddL.2 h)]
  · rw [if_neg h, if_neg (fun x => h (mem_ddL.1 x))]
/-- It misses just where its distance is nought or more than the room. -/
theorem miss_dis (r : Nat) (t : List Int) (i : Nat) : t.getD i 0 ∈ shf r (t.take i) ↔ ¬ (dis t i = 0 ∨ r < dis t i) := by
  rw [shf_is, mem_take_idx, dis_is]
  by_cases h : t.getD i 0 ∈ stk (t.take i)
  · rw [if_pos h]
    constructor
    · rintro ⟨_, h2⟩ (h3 | h3) <;> omega
    · intro h2
      exact ⟨h, by omega⟩
  · rw [if_neg h]
    constructor
    · rintro ⟨h1, _⟩; exact absurd h1 h
    · intro h2; exact absurd (.inl rfl) h2
def cntD (r : Nat) (t : List Int) : Nat → Nat
  | 0 => 0
  | n + 1 => cntD r t n + (if dis t n = 0 ∨ r < dis t n then 1 else 0)
theorem cntD_is (r : Nat) (t : List Int) : ∀ n, cntD r t n = mis r t n
  | 0 => rfl
  | n + 1 => by
    show cntD r t n + _ = mis r t n + _
    rw [cntD_is r t n]
    by_cases h : dis t n = 0 ∨ r < dis t n
    · rw [if_pos h, if_neg (fun x => (miss_dis r t n).1 x h)]
    · rw [if_neg h, if_pos ((miss_dis r t n).2 h)]
end Go.Proofs.Ytkoikofaebfbjaa.Rom
