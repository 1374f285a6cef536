/-
  Plain facts of owners: hashes, weights, ranks, who owns a key, what moves when one goes.
-/
import Derived.Lib.SmallJoins
import Derived.Lib.ItoaNum
namespace Go.Proofs.Ytdoolnaekmffbaa.Ow
set_option linter.unusedVariables false

def hshN (h : Nat) (b : UInt8) : Nat := (h * 16777619 + b.toNat + 1) % 2147483647
def hshL (l : List UInt8) : Nat := l.foldl hshN 9
theorem hshN_lt (h : Nat) (b : UInt8) : hshN h b < 2147483647 := Nat.mod_lt _ (by decide)
theorem hsh_lt : ∀ (l : List UInt8) (h : Nat), h < 2147483647 → l.foldl hshN h < 2147483647
  | [], h, hh => hh
  | b :: l, h, _ => hsh_lt l _ (hshN_lt h b)
theorem hshL_lt (l : List UInt8) : hshL l < 2147483647 := by unfold hshL; exact hsh_lt l 9 (by omega)
theorem hshL_snoc (l : List UInt8) (b : UInt8) : hshL (l ++ [b]) = hshN (hshL l) b := by unfold hshL; rw [List.foldl_append, List.foldl_cons, List.foldl_nil]
theorem hshL_take (l : List UInt8) (i : Nat) (h : i < l.length) : hshL (l.take (i + 1)) = hshN (hshL (l.take i)) l[i] := by
  rw [List.take_succ_eq_append_getElem h, hshL_snoc]
/-- The weight of a server that is one. -/
def wgN (s : Nat) (key : ByteArray) : Nat := hshL (Lib.decDigits s ++ 58 :: key.data.toList)
def inS (s : Int) : Bool := decide (0 ≤ s) && decide (s ≤ 99)
theorem inS_iff {s : Int} : inS s = true ↔ 0 ≤ s ∧ s ≤ 99 := by unfold inS; rw [Bool.and_eq_true, decide_eq_true_eq, decide_eq_true_eq]
def wgV (key : ByteArray) (s : Int) : Int := if inS s = true then (wgN s.toNat key : Nat) else -1
def srvOk (l : List Int) : Bool := decide (1 ≤ l.length) && (decide (l.length ≤ 9) && (l.all inS && decide (l.Pairwise (· < ·))))
structure SrvOk (l : List Int) : Prop where
  pos : 1 ≤ l.length
  len : l.length ≤ 9
  inn : ∀ x ∈ l, 0 ≤ x ∧ x ≤ 99
  ris : l.Pairwise (· < ·)
theorem srvOk_iff {l : List Int} : srvOk l = true ↔ SrvOk l := by
  unfold srvOk
  rw [Bool.and_eq_true, Bool.and_eq_true, Bool.and_eq_true, decide_eq_true_eq, decide_eq_true_eq, decide_eq_true_eq, List.all_eq_true]
  exact ⟨fun ⟨a, b, c, d⟩ => ⟨a, b, fun x hx => inS_iff.1 (c x hx), d⟩, fun h => ⟨h.pos, h.len, fun x hx => inS_iff.2 (h.inn x hx), h.ris⟩⟩
/-- Servers as they are gone through: each in range and greater than the one before. -/
def stepOk (l : List Int) (i : Nat) (h : i < l.length) : Prop := inS l[i] = true ∧ ∀ h0 : 0 < i, l[i - 1] < l[i]
theorem risen {l : List Int} (h : ∀ (i : Nat) (hi : i < l.length), 0 < i → l[i - 1] < l[i]) : l.Pairwise (· < ·) := by
  rw [List.pairwise_iff_getElem]
  intro i j hi hj hij
  induction j with
  | zero => omega
  | succ j ih =>
    have h1 := h (j + 1) hj (by omega)
    simp only [Nat.add_sub_cancel] at h1
    by_cases e : i = j
    · subst e; exact h1
    · exact Int.lt_trans (ih (by omega) (by omega)) h1
theorem srvOk_of {l : List Int} (h1 : 1 ≤ l.length) (h2 : l.length ≤ 9) (h : ∀ (i : Nat) (hi : i < l.length), stepOk l i hi) : srvOk l = true :=
  srvOk_iff.2 ⟨h1, h2, fun x hx => by obtain ⟨i, hi, rfl⟩ := List.mem_iff_getElem.1 hx; exact inS_iff.1 (h i hi).1, risen fun i hi h0 => (h i hi).2 h0⟩
theorem srvOk_not {l : List Int} (i : Nat) (hi : i < l.length) (h : ¬ stepOk l i hi) : srvOk l = false := by
  cases e : srvOk l with
  | false => rfl
  | true =>
    have k := srvOk_iff.1 e
    exact absurd ⟨inS_iff.2 (k.inn _ (List.getElem_mem hi)), fun h0 => List.pairwise_iff_getElem.1 k.ris _ _ (by omega) hi (by omega)⟩ h
/-- Put behind all that weigh as much or more. -/
def ins (W : Int → Int) (x : Int) : List Int → List Int
  | [] => [x]
  | y :: t => if W x ≤ W y then y :: ins W x t else x :: y :: t
def rnk (W : Int → Int) (l : List Int) : List Int := l.foldl (fun o x => ins W x o) []
theorem rnk_snoc (W : Int → Int) (l : List Int) (x : Int) : rnk W (l ++ [x]) = ins W x (rnk W l) := by unfold rnk; rw [List.foldl_append]; rfl
theorem rnk_take (W : Int → Int) (l : List Int) (i : Nat) (h : i < l.length) : rnk W (l.take (i + 1)) = ins W l[i] (rnk W (l.take i)) := by
  rw [List.take_succ_eq_append_getElem h, rnk_snoc]
theorem ins_perm (W : Int → Int) (x : Int) : ∀ l : List Int, (ins W x l).Perm (x :: l)
  | [] => List.Perm.refl _
  | y :: t => by
    unfold ins
    split
    · exact ((ins_perm W x t).cons y).trans (List.Perm.swap x y t)
    · exact List.Perm.refl _
theorem rnk_perm_go (W : Int → Int) : ∀ (l o : List Int), (l.foldl (fun o x => ins W x o) o).Perm (o ++ l)
  | [], o => by simp
  | x :: l, o => by
    refine (rnk_perm_go W l _).trans ?_
    refine ((ins_perm W x o).append_right l).trans ?_
    show (x :: (o ++ l)).Perm (o ++ x :: l)
    exact List.perm_middle.symm
theorem rnk_perm (W : Int → Int) (l : List Int) : (rnk W l).Perm l := by have := rnk_perm_go W l []; unfold rnk; simpa using this
theorem rnk_length (W : Int → Int) (l : List Int) : (rnk W l).length = l.length := (rnk_perm W l).length_eq
theorem ins_at (W : Int → Int) (x : Int) : ∀ (l : List Int) (k : Nat), k ≤ l.length → (∀ j (hj : j < l.length), j < k → W x ≤ W l[j]) → (∀ hk : k < l.length, W l[k] < W x) → ins W x l = l.take k ++ x :: l.drop k
  | [], k, hk, _, _ => by simp only [List.length_nil] at hk; obtain rfl : k = 0 := by omega
                          rfl
  | y :: t, 0, _, _, h => by
    have := h (by simp)
    simp only [List.getElem_cons_zero] at this
    unfold ins
    rw [if_neg (by omega)]
    rfl
  | y :: t, k + 1, hk, h1, h2 => by
    have h0 := h1 0 (by simp) (by omega)
    simp only [List.getElem_cons_zero] at h0
    unfold ins
    rw [if_pos h0, ins_at W x t k (by simpa using hk) (fun j hj hjk => by have := h1 (j + 1) (by simpa using hj) (by omega); simpa using this) (fun hk2 => by have := h2 (by simpa using hk2); simpa using this)]
    rfl
/-- Ahead: of more weight, or of the same and the lesser number. -/
def bef (W : Int → Int) (x y : Int) : Prop := W y < W x ∨ (W x = W y ∧ x < y)
theorem ins_sorted (W : Int → Int) (x : Int) : ∀ l : List Int, l.Pairwise (bef W) → (∀ y ∈ l, y < x) → (ins W x l).Pairwise (bef W)
  | [], _, _ => by simp [ins]
  | y :: t, h, hx => by
    rw [List.pairwise_cons] at h
    unfold ins
    split
    · rename_i hle
      rw [List.pairwise_cons]
      refine ⟨fun z hz => ?_, ins_sorted W x t h.2 fun z hz => hx z (List.mem_cons_of_mem _ hz)⟩
      rcases List.mem_cons.1 ((ins_perm W x t).mem_iff.1 hz) with rfl | hz
      · have := hx y List.mem_cons_self
        unfold bef
        omega
      · exact h.1 z hz
    · rename_i hle
      rw [List.pairwise_cons]
      refine ⟨fun z hz => ?_, List.pairwise_cons.2 h⟩
      rcases List.mem_cons.1 hz with rfl | hz
      · exact .inl (by omega)
      · have := h.1 z hz
        unfold bef at this ⊢
        omega
theorem rnk_sorted_go (W : Int → Int) : ∀ (l o : List Int), o.Pairwise (bef W) → (o ++ l).Pairwise (fun x y => x ≠ y) → (∀ y ∈ o, ∀ x ∈ l, y < x) → l.Pairwise (· < ·) → (l.foldl (fun o x => ins W x o) o).Pairwise (bef W)
  | [], o, h, _, _, _ => h
  | x :: l, o, h, hn, hl, hr => by
    rw [List.pairwise_cons] at hr
    refine rnk_sorted_go W l _ (ins_sorted W x o h fun y hy => hl y hy x List.mem_cons_self) ?_ ?_ hr.2
    · exact (List.Perm.pairwise_iff (R := fun x y : Int => x ≠ y) (fun h => Ne.symm h) ((List.perm_middle.trans ((ins_perm W x o).append_right l).symm))).1 hn
    · intro y hy z hz
      rcases List.mem_cons.1 ((ins_perm W x o).mem_iff.1 hy) with rfl | hy
      · exact hr.1 z hz
      · exact hl y hy z (List.mem_cons_of_mem _ hz)
theorem pw_ne : ∀ {l : List Int}, l.Pairwise (· < ·) → l.Pairwise (fun x y => x ≠ y)
  | [], _ => List.Pairwise.nil
  | x :: t, h => by
    rw [List.pairwise_cons] at h ⊢
    exact ⟨fun y hy => by have := h.1 y hy; omega, pw_ne h.2⟩
theorem rnk_sorted (W : Int → Int) {l : List Int} (h : l.Pairwise (· < ·)) : (rnk W l).Pairwise (bef W) :=
  rnk_sorted_go W l [] List.Pairwise.nil (by rw [List.nil_append]; exact pw_ne h) (fun y hy => by cases hy) h
/-- There is one order: what has the same servers and is in order is the rank. -/
theorem rnk_one (W : Int → Int) {l r : List Int} (h : l.Pairwise (· < ·)) (hp : r.Perm l) (hs : r.Pairwise (bef W)) : r = rnk W l :=
  List.Perm.eq_of_pairwise (le := bef W) (fun a b _ _ h1 h2 => by unfold bef at h1 h2; omega) hs (rnk_sorted W h) (hp.trans (rnk_perm W l).symm)
theorem rnk_filter (W : Int → Int) {l : List Int} (h : l.Pairwise (· < ·)) (p : Int → Bool) : (rnk W l).filter p = rnk W (l.filter p) :=
  rnk_one W (h.filter p) ((rnk_perm W l).filter p) ((rnk_sorted W h).filter p)
theorem rnk_falls (W : Int → Int) {l : List Int} (h : l.Pairwise (· < ·)) (i j : Nat) (hj : j < (rnk W l).length) (hij : i < j) : W ((rnk W l)[j]) ≤ W ((rnk W l)[i]'(by omega)) := by
  have := List.pairwise_iff_getElem.1 (rnk_sorted W h) i j (by omega) hj hij
  unfold bef at this
  omega
def rnkV (l : List Int) (key : ByteArray) : List Int := if srvOk l = true then rnk (wgV key) l else []
def ownV (l : List Int) (key : ByteArray) : Int := (rnkV l key).headD (-1)
def gon (l : List Int) (g : Int) : List Int := l.filter (fun x => !decide (x = g))
def movOk (l : List Int) (g : Int) (n : Nat) : Bool := srvOk l && (!decide ((gon l g).length = l.length) && (decide (1 ≤ (gon l g).length) && decide (n ≤ 100)))
def movL (l : List Int) (g : Int) (keys : List ByteArray) (n : Nat) : List Int := ((List.range n).filter (fun i => !decide (ownV l (keys.getD i ⟨#[]⟩) = ownV (gon l g) (keys.getD i ⟨#[]⟩)))).map (fun i : Nat => (i : Int))
def movV (l : List Int) (g : Int) (keys : List ByteArray) : List Int := if movOk l g keys.length = true then movL l g keys keys.length else []
theorem movL_zero (l : List Int) (g : Int) (keys : List ByteArray) : movL l g keys 0 = [] := rfl
theorem movL_yes (l : List Int) (g : Int) (keys : List ByteArray) (n : Nat) (h : ¬ ownV l (keys.getD n ⟨#[]⟩) = ownV (gon l g) (keys.getD n ⟨#[]⟩)) : movL l g keys (n + 1) = movL l g keys n ++ [(n : Int)] := by
  unfold movL
  rw [List.range_succ, List.filter_append, List.map_append]
  congr 1
  rw [List.filter_cons_of_pos (by rw [Bool.not_eq_true', decide_eq_false_iff_not]; exact h)]
  rfl
theorem movL_no (l : List Int) (g : Int) (keys : List ByteArray) (n : Nat) (h : ownV l (keys.getD n ⟨#[]⟩) = ownV (gon l g) (keys.getD n ⟨#[]⟩)) : movL l g keys (n + 1) = movL l g keys n := by
  unfold movL
  rw [List.range_succ, List.filter_append, List.map_append, List.filter_cons_of_neg (by rw [Bool.not_eq_true', decide_eq_false_iff_not]; exact fun k => k h)]
  exact List.append_nil _
theorem movL_length (l : List Int) (g : Int) (keys : List ByteArray) (n : Nat) : (movL l g keys n).length ≤ n := by
  unfold movL
  rw [List.length_map]
  have := List.length_filter_le (fun i => !decide (ownV l (keys.getD i ⟨#[]⟩) = ownV (gon l g) (keys.getD i ⟨#[]⟩))) (List.range n)
  simpa using this
theorem gon_ok {l : List Int} {g : Int} (h : SrvOk l) (h1 : 1 ≤ (gon l g).length) : SrvOk (gon l g) :=
  ⟨h1, Nat.le_trans (List.length_filter_le _ _) h.len, fun x hx => h.inn x (List.mem_filter.1 hx).1, h.ris.filter _⟩
theorem rnk_cons {W : Int → Int} {l : List Int} (h : 1 ≤ l.length) : ∃ o t, rnk W l = o :: t := by
  have := rnk_length W l
  cases e : rnk W l with
  | nil => rw [e] at this; simp at this; omega
  | cons o t => exact ⟨o, t, rfl⟩
theorem own_other {l : List Int} {g : Int} {key : ByteArray} (h : SrvOk l) (h1 : 1 ≤ (gon l g).length) (ho : ownV l key ≠ g) : ownV (gon l g) key = ownV l key := by
  have h2 := gon_ok h h1
  unfold ownV rnkV at *
  rw [if_pos (srvOk_iff.2 h)] at ho
  rw [if_pos (srvOk_iff.2 h), if_pos (srvOk_iff.2 h2)]
  obtain ⟨o, t, e⟩ := rnk_cons (W := wgV key) h.pos
  unfold gon
  rw [← rnk_filter _ h.ris, e]
  rw [e] at ho
  have : o ≠ g := ho
  rw [List.filter_cons_of_pos (by simp [this])]
  rfl
theorem own_mem {l : List Int} {key : ByteArray} (h : SrvOk l) : ownV l key ∈ l := by
  unfold ownV rnkV
  rw [if_pos (srvOk_iff.2 h)]
  obtain ⟨o, t, e⟩ := rnk_cons (W := wgV key) h.pos
  rw [e]
  exact (rnk_perm (wgV key) l).mem_iff.1 (by rw [e]; exact List.mem_cons_self)
theorem own_its {l : List Int} {g : Int} {key : ByteArray} (h : SrvOk l) (h1 : 1 ≤ (gon l g).length) : ownV (gon l g) key ≠ g := by
  have := own_mem (key := key) (gon_ok h h1)
  unfold gon at this
  have := (List.mem_filter.1 this).2
  simpa [gon] using this
/-- Just its own keys move. -/
theorem moves_iff {l : List Int} {g : Int} {key : ByteArray} (h : SrvOk l) (h1 : 1 ≤ (gon l g).length) : ownV l key = ownV (gon l g) key ↔ ¬ ownV l key = g :=
  ⟨fun e e2 => own_its h h1 (e.symm.trans e2), fun e => (own_other h h1 e).symm⟩
theorem own_second {l : List Int} {key : ByteArray} {o : Int} {t : List Int} (h : SrvOk l) (e : rnk (wgV key) l = o :: t) : rnk (wgV key) (gon l o) = t := by
  unfold gon
  rw [← rnk_filter _ h.ris, e, List.filter_cons_of_neg (by simp)]
  have hs := rnk_sorted (wgV key) h.ris
  rw [e, List.pairwise_cons] at hs
  refine List.filter_eq_self.2 fun x hx => ?_
  have := hs.1 x hx
  unfold bef at this
  rw [Bool.not_eq_true', decide_eq_false_iff_not]
  intro e
  subst e
  omega
end Go.Proofs.Ytdoolnaekmffbaa.Ow
