/-
  Heaps as plain data: the server that is ahead of all others is in front.
-/
import Derived.Test.YtdbeoloonoodkaaDoorG08
namespace Go.Proofs.YtdbeoloonoodkaaDoor.Ih
set_option linter.unusedVariables false
set_option linter.unusedSimpArgs false

def par (j : Nat) : Nat := (j - 1) / 2
def Hp (A : Nat → Int) (n : Nat) : Prop := ∀ k, 0 < k → k < n → A k ≤ A (par k)
theorem Hp.root {A : Nat → Int} {n : Nat} (h : Hp A n) : ∀ k, k < n → A k ≤ A 0 := by
  intro k
  induction k using Nat.strongRecOn with
  | _ k ih =>
    intro hk
    by_cases h0 : 0 < k
    · have h1 := h k h0 hk
      have h2 := ih (par k) (by unfold par; omega) (by unfold par; omega)
      omega
    · have : k = 0 := by omega
      rw [this]; exact Int.le_refl _
structure Dn (A : Nat → Int) (n i i0 : Nat) : Prop where
  a : ∀ j, 0 < j → j < n → par j ≠ i → j ≠ i → A j ≤ A (par j)
  b : 0 < i → ∀ c, c < n → 0 < c → par c = i → A c ≤ A (par i)
  c : i ≠ i0 → A i ≤ A (par i)
structure Up (A : Nat → Int) (n j : Nat) : Prop where
  a : ∀ k, 0 < k → k < n → k ≠ j → A k ≤ A (par k)
  b : 0 < j → ∀ c, c < n → 0 < c → par c = j → A c ≤ A (par j)
theorem par_lt {c : Nat} (h : 0 < c) : par c < c := by unfold par; omega
theorem Dn.step {A A' : Nat → Int} {n i i0 c : Nat} (h : Dn A n i i0) (hc : par c = i) (h0 : 0 < c) (hn : c < n) (hlt : A i < A c) (hb : ∀ d, d < n → 0 < d → par d = i → A d ≤ A c)
    (e1 : A' i = A c) (e2 : A' c = A i) (e3 : ∀ k, k ≠ i → k ≠ c → A' k = A k) : Dn A' n c i0 := by
  have hic : i < c := hc ▸ par_lt h0
  refine ⟨fun j j0 jn jp jc => ?_, fun _ d dn d0 dp => ?_, fun _ => ?_⟩
  · by_cases hji : j = i
    · subst hji
      have hpj := par_lt j0
      rw [e1, e3 (par j) (by omega) (by omega)]
      exact h.b j0 c hn h0 hc
    · rw [e3 j hji jc]
      by_cases hpi : par j = i
      · rw [hpi, e1]
        exact hb j jn j0 hpi
      · rw [e3 (par j) hpi jp]
        exact h.a j j0 jn hpi hji
  · have hpd := par_lt d0
    rw [hc, e1, e3 d (by omega) (by omega)]
    have := h.a d d0 dn (by omega) (by omega)
    rw [dp] at this
    exact this
  · rw [hc, e1, e2]
    omega
theorem Dn.exit {A : Nat → Int} {n i i0 : Nat} (h : Dn A n i i0) (hl : ∀ c, c < n → 0 < c → par c = i → A c ≤ A i) : Up A n i ∧ (i ≠ i0 → Hp A n) := by
  have h1 : ∀ k, 0 < k → k < n → k ≠ i → A k ≤ A (par k) := by
    intro k k0 kn ki
    by_cases hp : par k = i
    · rw [hp]; exact hl k kn k0 hp
    · exact h.a k k0 kn hp ki
  refine ⟨⟨h1, fun i0' c cn c0 cp => h.b i0' c cn c0 cp⟩, fun hne k k0 kn => ?_⟩
  by_cases ki : k = i
  · rw [ki]; exact h.c hne
  · exact h1 k k0 kn ki
theorem Up.step {A A' : Nat → Int} {n j i : Nat} (h : Up A n j) (hi : par j = i) (h0 : 0 < j) (hn : j < n) (hlt : A i < A j)
    (e1 : A' i = A j) (e2 : A' j = A i) (e3 : ∀ k, k ≠ i → k ≠ j → A' k = A k) : Up A' n i := by
  have hij : i < j := hi ▸ par_lt h0
  refine ⟨fun k k0 kn ki => ?_, fun i0 c cn c0 cp => ?_⟩
  · by_cases hkj : k = j
    · subst hkj
      rw [hi, e1, e2]; omega
    · rw [e3 k ki hkj]
      by_cases hpi : par k = i
      · rw [hpi, e1]
        have := h.a k k0 kn hkj
        rw [hpi] at this
        omega
      · by_cases hpj : par k = j
        · rw [hpj, e2, ← hi]
          exact h.b h0 k kn k0 hpj
        · rw [e3 (par k) hpi hpj]
          exact h.a k k0 kn hkj
  · have hpi := par_lt i0
    rw [e3 (par i) (by omega) (by omega)]
    have h2 := h.a i i0 (by omega) (by omega)
    by_cases hcj : c = j
    · rw [hcj, e2]; exact h2
    · have hpc := par_lt c0
      rw [e3 c (by omega) hcj]
      have := h.a c c0 cn hcj
      rw [cp] at this
      omega
theorem Up.exit {A : Nat → Int} {n j : Nat} (h : Up A n j) (hl : 0 < j → A j ≤ A (par j)) : Hp A n := by
  intro k k0 kn
  by_cases hk : k = j
  · subst hk; exact hl k0
  · exact h.a k k0 kn hk
theorem kids {c i : Nat} (h0 : 0 < c) (h : par c = i) : c = 2 * i + 1 ∨ c = 2 * i + 2 := by unfold par at h; omega
theorem par_kid1 (i : Nat) : par (2 * i + 1) = i := by unfold par; omega
theorem par_kid2 (i : Nat) : par (2 * i + 1 + 1) = i := by unfold par; omega

/-! ### Lists of servers with their weights -/
abbrev Co := Int × Int
def fC (p : Co) : Int := 100 * p.2 - p.1
/-- Which servers there are, what they weigh, where the map of it lies; a block beside all that, and what lies in it. -/
structure Hw where
  W : Int → Int
  S : List Int
  M : Nat
  X : Nat
  O : Obj
  inn : ∀ x ∈ S, 0 ≤ x ∧ x ≤ 99
variable {H : Hw}
def Nm (H : Hw) (l : List Co) : Prop := ∀ p ∈ l, p.1 ∈ H.S ∧ p.2 = H.W p.1
theorem Nm.inn {l : List Co} (h : Nm H l) {p : Co} (hp : p ∈ l) : 0 ≤ p.1 ∧ p.1 ≤ 99 := H.inn _ (h p hp).1
def lessC (p q : Co) : Bool := if p.2 = q.2 then decide (p.1 < q.1) else decide (q.2 < p.2)
theorem less_iff {p q : Co} (hp : 0 ≤ p.1 ∧ p.1 ≤ 99) (hq : 0 ≤ q.1 ∧ q.1 ≤ 99) : lessC p q = true ↔ fC q < fC p := by
  unfold lessC fC
  split <;> rw [decide_eq_true_eq] <;> omega
theorem later {p q : Co} (hp : 0 ≤ p.1 ∧ p.1 ≤ 99) (hq : 0 ≤ q.1 ∧ q.1 ≤ 99) (h : fC q ≤ fC p) : q.2 ≤ p.2 := by
  unfold fC at h
  omega
def aL (l : List Co) (j : Nat) : Int := fC (l.getD j (0, 0))
theorem aL_at {l : List Co} {j : Nat} (h : j < l.length) : aL l j = fC l[j] := by unfold aL; simp [List.getD, h]
def swpC (l : List Co) (i j : Nat) : List Co := (l.set i (l.getD j (0, 0))).set j (l.getD i (0, 0))
theorem swpC_length (l : List Co) (i j : Nat) : (swpC l i j).length = l.length := by unfold swpC; rw [List.length_set, List.length_set]
theorem swpC_perm {l : List Co} {i j : Nat} (hi : i < l.length) (hj : j < l.length) : (swpC l i j).Perm l := by
  unfold swpC
  have e1 : l.getD j (0, 0) = l[j] := by simp [List.getD, hj]
  have e2 : l.getD i (0, 0) = l[i] := by simp [List.getD, hi]
  rw [e1, e2]
  exact List.set_set_perm hi hj
theorem swpC_left {l : List Co} {i j : Nat} (hi : i < l.length) (hj : j < l.length) : aL (swpC l i j) i = aL l j := by
  unfold aL swpC
  by_cases e : i = j
  · subst e
    simp [List.getD, hi, List.getElem_set]
  · have e2 : ¬ j = i := fun h => e h.symm
    simp [List.getD, hi, hj, List.getElem_set, e, e2]
theorem swpC_right {l : List Co} {i j : Nat} (hi : i < l.length) (hj : j < l.length) : aL (swpC l i j) j = aL l i := by
  unfold aL swpC
  simp [List.getD, hi, hj, List.getElem_set]
theorem swpC_else {l : List Co} {i j k : Nat} (hi : k ≠ i) (hj : k ≠ j) : aL (swpC l i j) k = aL l k := by
  unfold aL swpC
  have e1 : ¬ i = k := fun h => hi h.symm
  have e2 : ¬ j = k := fun h => hj h.symm
  simp [List.getD, List.getElem?_set, e1, e2]
theorem swpC_get {l : List Co} {i j k : Nat} (hi : k ≠ i) (hj : k ≠ j) : (swpC l i j)[k]? = l[k]? := by
  unfold swpC
  have e1 : ¬ i = k := fun h => hi h.symm
  have e2 : ¬ j = k := fun h => hj h.symm
  simp [List.getElem?_set, e1, e2]
theorem Nm.perm {l m : List Co} (h : Nm H l) (p : m.Perm l) : Nm H m := fun x hx => h x (p.mem_iff.1 hx)
/-- Down: what has been, and what is left from n on. -/
structure DnL (l0 l : List Co) (n i i0 : Nat) : Prop where
  d : Dn (aL l) n i i0
  p : l.Perm l0
  o : ∀ k, n ≤ k → l[k]? = l0[k]?
  s : i = i0 → l = l0
theorem DnL.step {l0 l : List Co} {n i i0 c : Nat} (h : DnL l0 l n i i0) (hnl : n ≤ l.length) (hc : par c = i) (h0 : 0 < c) (hn : c < n) (hge : i0 ≤ i) (hlt : aL l i < aL l c) (hb : ∀ d, d < n → 0 < d → par d = i → aL l d ≤ aL l c) : DnL l0 (swpC l i c) n c i0 := by
  have hic : i < c := hc ▸ par_lt h0
  refine ⟨h.d.step hc h0 hn hlt hb (swpC_left (by omega) (by omega)) (swpC_right (by omega) (by omega)) (fun k h1 h2 => swpC_else h1 h2), (swpC_perm (by omega) (by omega)).trans h.p, fun k hk => ?_, fun e => by omega⟩
  rw [swpC_get (by omega) (by omega)]
  exact h.o k hk
end Go.Proofs.YtdbeoloonoodkaaDoor.Ih
