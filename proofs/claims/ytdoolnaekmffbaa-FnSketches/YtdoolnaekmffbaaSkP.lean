/-
  Plain facts of sketches: numbers in a rising list, marks, what is marked, both.
-/
import Derived.Test.YtdoolnaekmffbaaOwP
namespace Go.Proofs.Ytdoolnaekmffbaa.Sk
open Ow
set_option linter.unusedVariables false

/-- A number into a list that rises. -/
def put (n : Int) : List Int → List Int
  | [] => [n]
  | x :: t => if x < n then x :: put n t else if x = n then x :: t else n :: x :: t
theorem put_mem (n : Int) : ∀ (l : List Int) (y : Int), y ∈ put n l ↔ y = n ∨ y ∈ l
  | [], y => by simp [put]
  | x :: t, y => by
    unfold put
    split
    · rw [List.mem_cons, put_mem n t y, List.mem_cons]
      constructor
      · rintro (h | h | h)
        · exact .inr (.inl h)
        · exact .inl h
        · exact .inr (.inr h)
      · rintro (h | h | h)
        · exact .inr (.inl h)
        · exact .inl h
        · exact .inr (.inr h)
    · split
      · rename_i _ e
        subst e
        constructor
        · exact fun h => .inr h
        · rintro (h | h)
          · rw [h]; exact List.mem_cons_self
          · exact h
      · rw [List.mem_cons]
theorem put_ris (n : Int) : ∀ (l : List Int), l.Pairwise (· < ·) → (put n l).Pairwise (· < ·)
  | [], _ => by simp [put]
  | x :: t, h => by
    rw [List.pairwise_cons] at h
    unfold put
    split
    · rename_i hx
      rw [List.pairwise_cons]
      refine ⟨fun y hy => ?_, put_ris n t h.2⟩
      rcases (put_mem n t y).1 hy with rfl | hy
      · exact hx
      · exact h.1 y hy
    · split
      · exact List.pairwise_cons.2 h
      · rename_i h1 h2
        rw [List.pairwise_cons]
        refine ⟨fun y hy => ?_, List.pairwise_cons.2 h⟩
        rcases List.mem_cons.1 hy with rfl | hy
        · omega
        · have := h.1 y hy; omega
/-- Two lists that rise and have the same numbers are one. -/
theorem ris_one {l m : List Int} (hl : l.Pairwise (· < ·)) (hm : m.Pairwise (· < ·)) (h : ∀ y, y ∈ l ↔ y ∈ m) : l = m := by
  have nl : l.Nodup := hl.imp fun h => by omega
  have nm : m.Nodup := hm.imp fun h => by omega
  refine List.Perm.eq_of_pairwise (le := (· < ·)) (fun a b _ _ h1 h2 => by omega) hl hm ?_
  exact (List.perm_ext_iff_of_nodup nl nm).2 h
theorem put_there {n : Int} {l : List Int} (hl : l.Pairwise (· < ·)) (h : n ∈ l) : put n l = l :=
  ris_one (put_ris n l hl) hl fun y => by rw [put_mem]; exact ⟨fun k => k.elim (fun e => e ▸ h) id, .inr⟩
theorem put_length (n : Int) : ∀ l : List Int, l.length ≤ (put n l).length ∧ (put n l).length ≤ l.length + 1
  | [] => by simp [put]
  | x :: t => by
    have := put_length n t
    unfold put
    split
    · simp only [List.length_cons]; omega
    · split <;> simp only [List.length_cons] <;> omega
theorem put_new {n : Int} {l : List Int} (h : ¬ n ∈ l) : (put n l).length = l.length + 1 := by
  induction l with
  | nil => rfl
  | cons x t ih =>
    have h1 : ¬ n = x := fun e => h (by rw [e]; exact List.mem_cons_self)
    have h2 := ih (fun k => h (List.mem_cons_of_mem _ k))
    unfold put
    split
    · simp only [List.length_cons]; omega
    · rw [if_neg (fun e => h1 e.symm)]
      simp only [List.length_cons]
/-- Where it is put. -/
theorem put_at (n : Int) : ∀ (l : List Int) (k : Nat), k ≤ l.length → (∀ j (hj : j < l.length), j < k → l[j] < n) → (∀ hk : k < l.length, n < l[k]) → put n l = l.take k ++ n :: l.drop k
  | [], k, hk, _, _ => by simp only [List.length_nil] at hk; obtain rfl : k = 0 := by omega
                          rfl
  | x :: t, 0, _, _, h => by
    have := h (by simp)
    simp only [List.getElem_cons_zero] at this
    unfold put
    rw [if_neg (by omega), if_neg (by omega)]
    rfl
  | x :: t, k + 1, hk, h1, h2 => by
    have h0 := h1 0 (by simp) (by omega)
    simp only [List.getElem_cons_zero] at h0
    unfold put
    rw [if_pos h0, put_at n t k (by simpa using hk) (fun j hj hjk => by have := h1 (j + 1) (by simpa using hj) (by omega); simpa using this) (fun hk2 => by have := h2 (by simpa using hk2); simpa using this)]
    rfl
def putAll (m : List Int) (l : List Int) : List Int := m.foldl (fun o x => put x o) l
theorem putAll_mem : ∀ (m l : List Int) (y : Int), y ∈ putAll m l ↔ y ∈ m ∨ y ∈ l
  | [], l, y => by simp [putAll]
  | x :: m, l, y => by
    show y ∈ putAll m (put x l) ↔ _
    rw [putAll_mem m (put x l) y, put_mem, List.mem_cons]
    constructor
    · rintro (h | h | h)
      · exact .inl (.inr h)
      · exact .inl (.inl h)
      · exact .inr h
    · rintro ((h | h) | h)
      · exact .inr (.inl h)
      · exact .inl h
      · exact .inr (.inr h)
theorem putAll_ris : ∀ (m l : List Int), l.Pairwise (· < ·) → (putAll m l).Pairwise (· < ·)
  | [], l, h => h
  | x :: m, l, h => putAll_ris m (put x l) (put_ris x l h)
theorem putAll_snoc (m l : List Int) (x : Int) : putAll (m ++ [x]) l = put x (putAll m l) := by unfold putAll; rw [List.foldl_append]; rfl
theorem putAll_take (m l : List Int) (i : Nat) (h : i < m.length) : putAll (m.take (i + 1)) l = put m[i] (putAll (m.take i) l) := by
  rw [List.take_succ_eq_append_getElem h, putAll_snoc]
theorem putAll_length : ∀ (m l : List Int), l.length ≤ (putAll m l).length ∧ (putAll m l).length ≤ l.length + m.length
  | [], l => by simp [putAll]
  | x :: m, l => by
    have h1 := putAll_length m (put x l)
    have h2 := put_length x l
    show l.length ≤ (putAll m (put x l)).length ∧ (putAll m (put x l)).length ≤ _
    simp only [List.length_cons]
    omega
theorem putAll_there {m l : List Int} (hl : l.Pairwise (· < ·)) (h : ∀ x ∈ m, x ∈ l) : putAll m l = l :=
  ris_one (putAll_ris m l hl) hl fun y => by rw [putAll_mem]; exact ⟨fun k => k.elim (h y) id, .inr⟩
/-- As many as before: all were there. -/
theorem putAll_same : ∀ {m l : List Int}, l.Pairwise (· < ·) → (putAll m l).length = l.length → ∀ x ∈ m, x ∈ l
  | [], l, _, _, x, hx => by cases hx
  | y :: m, l, hl, h, x, hx => by
    have h1 := putAll_length m (put y l)
    have h2 := put_length y l
    have h' : (putAll m (put y l)).length = l.length := h
    have hy : y ∈ l := Classical.byContradiction fun hn => by have := put_new hn; omega
    have e := put_there hl hy
    rw [e] at h'
    rcases List.mem_cons.1 hx with rfl | hx
    · exact hy
    · exact putAll_same hl h' x hx
def szOk (n : Int) : Bool := decide (8 ≤ n ∧ n ≤ 512)
def risB (l : List Int) (b : Int) : Bool := l.all (fun x => decide (0 ≤ x ∧ x ≤ b - 1)) && decide (l.Pairwise (· < ·))
def skOk (n : Int) (l : List Int) : Bool := szOk n && risB l n
structure SkOk (n : Int) (l : List Int) : Prop where
  sz : 8 ≤ n ∧ n ≤ 512
  inn : ∀ x ∈ l, 0 ≤ x ∧ x < n
  ris : l.Pairwise (· < ·)
theorem risB_iff {l : List Int} {b : Int} : risB l b = true ↔ (∀ x ∈ l, 0 ≤ x ∧ x ≤ b - 1) ∧ l.Pairwise (· < ·) := by
  unfold risB
  rw [Bool.and_eq_true, List.all_eq_true, decide_eq_true_eq]
  exact ⟨fun h => ⟨fun x hx => of_decide_eq_true (h.1 x hx), h.2⟩, fun h => ⟨fun x hx => decide_eq_true (h.1 x hx), h.2⟩⟩
theorem skOk_iff {n : Int} {l : List Int} : skOk n l = true ↔ SkOk n l := by
  unfold skOk szOk
  rw [Bool.and_eq_true, decide_eq_true_eq, risB_iff]
  exact ⟨fun h => ⟨h.1, fun x hx => by have := h.2.1 x hx; omega, h.2.2⟩, fun h => ⟨h.sz, fun x hx => by have := h.inn x hx; omega, h.ris⟩⟩
/-- Gone through one by one. -/
def stepR (l : List Int) (b : Int) (i : Nat) (h : i < l.length) : Prop := (0 ≤ l[i] ∧ l[i] ≤ b - 1) ∧ ∀ h0 : 0 < i, l[i - 1] < l[i]
theorem risB_of {l : List Int} {b : Int} (h : ∀ (i : Nat) (hi : i < l.length), stepR l b i hi) : risB l b = true :=
  risB_iff.2 ⟨fun x hx => by obtain ⟨i, hi, rfl⟩ := List.mem_iff_getElem.1 hx; exact (h i hi).1, risen fun i hi h0 => (h i hi).2 h0⟩
theorem risB_not {l : List Int} {b : Int} (i : Nat) (hi : i < l.length) (h : ¬ stepR l b i hi) : risB l b = false := by
  cases e : risB l b with
  | false => rfl
  | true =>
    have k := risB_iff.1 e
    exact absurd ⟨k.1 _ (List.getElem_mem hi), fun h0 => List.pairwise_iff_getElem.1 k.2 _ _ (by omega) hi (by omega)⟩ h
/-- How many there can be. -/
theorem ris_few : ∀ {l : List Int} {a b : Int}, l.Pairwise (· < ·) → (∀ x ∈ l, a ≤ x ∧ x < b) → a ≤ b → (l.length : Int) ≤ b - a
  | [], a, b, _, _, hab => by simp; omega
  | x :: t, a, b, h, hb, hab => by
    rw [List.pairwise_cons] at h
    have h0 := hb x List.mem_cons_self
    have := ris_few (a := x + 1) (b := b) h.2 (fun y hy => by have := h.1 y hy; have := hb y (List.mem_cons_of_mem _ hy); omega) (by omega)
    simp only [List.length_cons]
    omega
theorem SkOk.few {n : Int} {l : List Int} (h : SkOk n l) : l.length ≤ 512 := by
  have := ris_few (a := 0) (b := n) h.ris (fun x hx => h.inn x hx) (by have := h.sz; omega)
  have := h.sz
  omega
def dots : Nat → List UInt8
  | 0 => []
  | n + 1 => dots n ++ [46]
def mkN (n : Int) (key : ByteArray) (i : Nat) : Int := (hshL (key.data.toList ++ dots i) : Int) % n
def mksL (n : Int) (key : ByteArray) (i : Nat) : List Int := putAll ((List.range i).map (mkN n key)) []
theorem mksL_next (n : Int) (key : ByteArray) (i : Nat) : mksL n key (i + 1) = put (mkN n key i) (mksL n key i) := by
  unfold mksL; rw [List.range_succ, List.map_append]; exact putAll_snoc _ _ _
def mksV (n : Int) (key : ByteArray) : List Int := if szOk n = true then mksL n key 3 else []
theorem mkN_in {n : Int} (h : 8 ≤ n ∧ n ≤ 512) (key : ByteArray) (i : Nat) : 0 ≤ mkN n key i ∧ mkN n key i < n := ⟨Int.emod_nonneg _ (by omega), Int.emod_lt_of_pos _ (by omega)⟩
theorem mksL_ris (n : Int) (key : ByteArray) (i : Nat) : (mksL n key i).Pairwise (· < ·) := putAll_ris _ _ List.Pairwise.nil
theorem mksL_mem (n : Int) (key : ByteArray) (i : Nat) (y : Int) : y ∈ mksL n key i ↔ ∃ j, j < i ∧ y = mkN n key j := by
  unfold mksL
  rw [putAll_mem]
  constructor
  · rintro (h | h)
    · obtain ⟨j, hj, e⟩ := List.mem_map.1 h
      exact ⟨j, List.mem_range.1 hj, e.symm⟩
    · cases h
  · rintro ⟨j, hj, e⟩
    exact .inl (List.mem_map.2 ⟨j, List.mem_range.2 hj, e.symm⟩)
theorem mksL_length (n : Int) (key : ByteArray) (i : Nat) : (mksL n key i).length ≤ i := by
  have := (putAll_length ((List.range i).map (mkN n key)) []).2
  unfold mksL
  simpa using this
theorem mksV_length (n : Int) (key : ByteArray) : (mksV n key).length ≤ 3 := by
  unfold mksV
  split
  · exact mksL_length n key 3
  · exact Nat.zero_le _
/-- What is marked: its size and its bits. -/
def mrkQ (n : Int) (l : List Int) : Int := if skOk n l = true then n else 0
def mrkL (n : Int) (l : List Int) (key : ByteArray) : List Int := if skOk n l = true then putAll (mksV n key) l else []
def prhB (n : Int) (l : List Int) (key : ByteArray) : Bool := if skOk n l = true then decide ((mrkL n l key).length = l.length) else false
def bthB (n : Int) (l : List Int) (n2 : Int) (l2 : List Int) : Bool := skOk n l && (skOk n2 l2 && decide (n = n2))
def bthQ (n : Int) (l : List Int) (n2 : Int) (l2 : List Int) : Int := if bthB n l n2 l2 = true then n else 0
def bthL (n : Int) (l : List Int) (n2 : Int) (l2 : List Int) : List Int := if bthB n l n2 l2 = true then putAll l2 l else []
theorem putAll_ok {n : Int} {l m : List Int} (h : SkOk n l) (hm : ∀ x ∈ m, 0 ≤ x ∧ x < n) : SkOk n (putAll m l) :=
  ⟨h.sz, fun x hx => ((putAll_mem m l x).1 hx).elim (hm x) (h.inn x), putAll_ris m l h.ris⟩
theorem mksV_in {n : Int} (h : 8 ≤ n ∧ n ≤ 512) (key : ByteArray) : ∀ x ∈ mksV n key, 0 ≤ x ∧ x < n := by
  intro x hx
  unfold mksV at hx
  rw [if_pos (by unfold szOk; exact decide_eq_true h)] at hx
  obtain ⟨j, _, rfl⟩ := (mksL_mem n key 3 x).1 hx
  exact mkN_in h key j
theorem mrk_ok {n : Int} {l : List Int} (key : ByteArray) (h : skOk n l = true) : SkOk n (mrkL n l key) := by
  have hs := skOk_iff.1 h
  unfold mrkL
  rw [if_pos h]
  exact putAll_ok hs (mksV_in hs.sz key)
theorem bth_ok {n : Int} {l : List Int} {n2 : Int} {l2 : List Int} (h : bthB n l n2 l2 = true) : SkOk n (bthL n l n2 l2) := by
  have h' := h
  unfold bthB at h'
  rw [Bool.and_eq_true, Bool.and_eq_true, decide_eq_true_eq] at h'
  have h1 := skOk_iff.1 h'.1
  have h2 := skOk_iff.1 h'.2.1
  unfold bthL
  rw [if_pos h]
  exact putAll_ok h1 (fun x hx => by rw [h'.2.2]; exact h2.inn x hx)
/-- Perhaps: all marks are set. -/
theorem prh_iff {n : Int} {l : List Int} {key : ByteArray} (h : skOk n l = true) : prhB n l key = true ↔ ∀ x ∈ mksV n key, x ∈ l := by
  have hs := skOk_iff.1 h
  unfold prhB mrkL
  rw [if_pos h, if_pos h, decide_eq_true_eq]
  exact ⟨fun e => putAll_same hs.ris e, fun e => by rw [putAll_there hs.ris e]⟩
theorem prh_ok {n : Int} {l : List Int} {key : ByteArray} (h : prhB n l key = true) : skOk n l = true := by
  refine Classical.byContradiction fun hn => ?_
  unfold prhB at h
  rw [if_neg hn] at h
  cases h
/-- What was perhaps there is so in more. -/
theorem prh_more {n : Int} {l m : List Int} {key : ByteArray} (h : prhB n l key = true) (hm : SkOk n m) (hs : ∀ x ∈ l, x ∈ m) : prhB n m key = true :=
  (prh_iff (skOk_iff.2 hm)).2 fun x hx => hs x ((prh_iff (prh_ok h)).1 h x hx)
theorem mrk_more {n : Int} {l : List Int} (key : ByteArray) (h : skOk n l = true) : ∀ x ∈ l, x ∈ mrkL n l key := by
  intro x hx
  unfold mrkL
  rw [if_pos h, putAll_mem]
  exact .inr hx
theorem mrk_perhaps {n : Int} {l : List Int} (key : ByteArray) (h : skOk n l = true) : prhB n (mrkL n l key) key = true := by
  refine (prh_iff (skOk_iff.2 (mrk_ok key h))).2 fun x hx => ?_
  unfold mrkL
  rw [if_pos h, putAll_mem]
  exact .inl hx
theorem mrk_length {n : Int} {l : List Int} (key : ByteArray) (h : skOk n l = true) : l.length ≤ (mrkL n l key).length := by
  unfold mrkL
  rw [if_pos h]
  exact (putAll_length _ _).1
theorem bth_parts {n : Int} {l : List Int} {n2 : Int} {l2 : List Int} (h : bthB n l n2 l2 = true) : skOk n l = true ∧ skOk n2 l2 = true ∧ n = n2 := by
  unfold bthB at h
  rw [Bool.and_eq_true, Bool.and_eq_true, decide_eq_true_eq] at h
  exact h
theorem bth_perhaps {n : Int} {l : List Int} {n2 : Int} {l2 : List Int} {key : ByteArray} (h : bthB n l n2 l2 = true) (hp : prhB n l key = true ∨ prhB n2 l2 key = true) : prhB n (bthL n l n2 l2) key = true := by
  have hok := bth_ok h
  have hL : ∀ x, x ∈ bthL n l n2 l2 ↔ x ∈ l2 ∨ x ∈ l := fun x => by unfold bthL; rw [if_pos h, putAll_mem]
  rcases hp with hp | hp
  · exact prh_more hp hok fun x hx => (hL x).2 (.inr hx)
  · obtain ⟨_, _, rfl⟩ := bth_parts h
    exact prh_more hp hok fun x hx => (hL x).2 (.inl hx)
end Go.Proofs.Ytdoolnaekmffbaa.Sk
