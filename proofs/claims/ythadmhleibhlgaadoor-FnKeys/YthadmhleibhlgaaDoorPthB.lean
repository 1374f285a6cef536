/-
  Plain facts on parts of a text between a byte, on paths without dots, and on what the library's Split and Join answer.
-/
import Derived.Test.YthadmhleibhlgaaDoorPthA
import Derived.Lib.SplitLaws
import Derived.Lib.Join
namespace Go.Proofs.YthadmhleibhlgaaDoor
open Go.RowKit

/-- The parts: what was read of the one at hand, and what is still to be read. -/
def splF (d : UInt8) (cur : List UInt8) : List UInt8 → List (List UInt8)
  | [] => [cur]
  | c :: r => if c = d then cur :: splF d [] r else splF d (cur ++ [c]) r
def splL (d : UInt8) (l : List UInt8) : List (List UInt8) := splF d [] l
theorem splF_nil (d : UInt8) (cur : List UInt8) : splF d cur [] = [cur] := rfl
theorem splF_yes (d : UInt8) (cur r : List UInt8) : splF d cur (d :: r) = cur :: splF d [] r := by rw [splF, if_pos rfl]
theorem splF_no {d c : UInt8} (cur r : List UInt8) (h : c ≠ d) : splF d cur (c :: r) = splF d (cur ++ [c]) r := by rw [splF, if_neg h]
theorem splF_ne (d : UInt8) : ∀ (l cur : List UInt8), splF d cur l ≠ []
  | [], cur => by simp [splF]
  | c :: r, cur => by
    unfold splF
    split
    · simp
    · exact splF_ne d r _
theorem splF_length (d : UInt8) : ∀ (l cur : List UInt8), (splF d cur l).length ≤ l.length + 1
  | [], cur => by simp [splF]
  | c :: r, cur => by
    unfold splF
    split
    · have := splF_length d r []
      simp only [List.length_cons]; omega
    · have := splF_length d r (cur ++ [c])
      simp only [List.length_cons]; omega
/-- A text without the byte has one part, and one with it is split there. -/
theorem splF_free {d : UInt8} : ∀ (l cur : List UInt8), d ∉ l → splF d cur l = [cur ++ l]
  | [], cur, _ => by simp [splF]
  | c :: r, cur, h => by
    have hc : c ≠ d := fun e => h (by simp [e])
    rw [splF_no _ _ hc, splF_free r _ (fun e => h (by simp [e]))]
    simp
theorem splF_at {d : UInt8} : ∀ (l cur b : List UInt8), d ∉ l → splF d cur (l ++ d :: b) = (cur ++ l) :: splF d [] b
  | [], cur, b, _ => by simp [splF_yes]
  | c :: r, cur, b, h => by
    have hc : c ≠ d := fun e => h (by simp [e])
    rw [List.cons_append, splF_no _ _ hc, splF_at r _ b (fun e => h (by simp [e]))]
    simp
/-- No part has the byte. -/
theorem splF_none {d : UInt8} : ∀ (l cur : List UInt8), d ∉ cur → ∀ p ∈ splF d cur l, d ∉ p
  | [], cur, h, p, hp => by
    rw [splF_nil] at hp
    simp at hp
    rw [hp]; exact h
  | c :: r, cur, h, p, hp => by
    by_cases hc : c = d
    · subst hc
      rw [splF_yes] at hp
      rcases List.mem_cons.1 hp with rfl | hp
      · exact h
      · exact splF_none r [] (by simp) p hp
    · rw [splF_no _ _ hc] at hp
      exact splF_none r (cur ++ [c]) (by simp [h, Ne.symm hc]) p hp
/-- Parts that are joined by the byte are the parts. -/
theorem splL_join {d : UInt8} : ∀ (ps : List (List UInt8)), ps ≠ [] → (∀ p ∈ ps, d ∉ p) → splL d (Lib.join ps [d]) = ps
  | [], h, _ => absurd rfl h
  | [p], _, h => by
    rw [Lib.join_one]
    unfold splL
    rw [splF_free p [] (h p (by simp))]
    rfl
  | p :: q :: r, _, h => by
    have e : Lib.join (p :: q :: r) [d] = p ++ d :: Lib.join (q :: r) [d] := by
      simp [Lib.join, List.intercalate, List.intersperse]
    rw [e]
    unfold splL
    rw [splF_at p [] _ (h p (by simp))]
    have := splL_join (q :: r) (by simp) (fun x hx => h x (by simp at hx; simp [hx]))
    unfold splL at this
    rw [this]
    rfl

theorem index_miss_free {d : UInt8} : ∀ (l : List UInt8), Lib.index l [d] = -1 → d ∉ l
  | [], _ => by simp
  | c :: r, h => by
    rw [Lib.index] at h
    by_cases hc : c = d
    · subst hc; simp [List.isPrefixOf] at h
    · have hp : ([d] : List UInt8).isPrefixOf (c :: r) = false := by simp [List.isPrefixOf, Ne.symm hc]
      rw [hp] at h
      simp only [Bool.false_eq_true, if_false] at h
      have hr : Lib.index r [d] = -1 := by
        by_cases e : Lib.index r [d] = -1
        · exact e
        · rw [if_neg (fun x => e (beq_iff_eq.1 x))] at h
          have := Lib.index_ge r [d]
          omega
      have := index_miss_free r hr
      simp [Ne.symm hc, this]
theorem index_hit_split {d : UInt8} : ∀ (l : List UInt8) (i : Nat), Lib.index l [d] = i → l = l.take i ++ d :: l.drop (i + 1) ∧ d ∉ l.take i
  | [], i, h => by
    simp [Lib.index] at h
  | c :: r, i, h => by
    rw [Lib.index] at h
    by_cases hc : c = d
    · subst hc
      simp [List.isPrefixOf] at h
      obtain rfl : i = 0 := by omega
      simp
    · have hp : ([d] : List UInt8).isPrefixOf (c :: r) = false := by simp [List.isPrefixOf, Ne.symm hc]
      rw [hp] at h
      simp only [Bool.false_eq_true, if_false] at h
      by_cases e : Lib.index r [d] = -1
      · rw [if_pos (beq_iff_eq.2 e)] at h; omega
      · rw [if_neg (fun x => e (beq_iff_eq.1 x))] at h
        have hge := Lib.index_ge r [d]
        obtain ⟨j, rfl⟩ : ∃ j, i = j + 1 := ⟨i - 1, by omega⟩
        obtain ⟨h1, h2⟩ := index_hit_split (d := d) r j (by omega)
        refine ⟨?_, ?_⟩
        · simp only [List.take_succ_cons, List.drop_succ_cons, List.cons_append]
          rw [← h1]
        · simp [Ne.symm hc, h2]
theorem splitK_spl (d : UInt8) : ∀ (k : Nat) (l : List UInt8), Lib.count l [d] = k → Lib.splitK [d] 0 k l = splL d l
  | 0, l, h => by
    rw [Lib.count_one] at h
    have hn : d ∉ l := List.count_eq_zero.1 h
    unfold splL
    rw [splF_free l [] hn]
    rfl
  | k + 1, l, h => by
    rw [Lib.splitK]
    by_cases e : Lib.index l [d] = -1
    · have hn := index_miss_free l e
      rw [Lib.count_one, List.count_eq_zero.2 hn] at h
      omega
    · have hge := Lib.index_ge l [d]
      obtain ⟨i, hi⟩ : ∃ i : Nat, Lib.index l [d] = i := ⟨(Lib.index l [d]).toNat, by omega⟩
      obtain ⟨h1, h2⟩ := index_hit_split l i hi
      rw [if_neg (fun x => e (beq_iff_eq.1 x)), hi]
      have hk : Lib.count (l.drop (i + 1)) [d] = k := by
        rw [Lib.count_one] at h ⊢
        rw [h1, List.count_append, List.count_eq_zero.2 h2, List.count_cons_self] at h
        omega
      have ih := splitK_spl d k _ hk
      have e2 : splL d l = (l.take i) :: splL d (l.drop (i + 1)) := by
        conv => lhs; rw [h1]
        unfold splL
        rw [splF_at _ [] _ h2]
        rfl
      rw [e2, ← ih]
      simp

/-- The bytes as a text. -/
def txt (l : List UInt8) : ByteArray := ⟨l.toArray⟩
theorem txt_data (l : List UInt8) : (txt l).data.toList = l := by simp [txt]
theorem txt_of (s : ByteArray) : txt s.data.toList = s := by unfold txt; rfl
theorem txt_size (l : List UInt8) : (txt l).size = l.length := by show l.toArray.size = _; simp
theorem splitB_is (d : UInt8) (s : ByteArray) : Lib.splitB ⟨#[d]⟩ 0 (Lib.countB s ⟨#[d]⟩) s = (splL d s.data.toList).map txt := by
  have h := Lib.splitB_data ⟨#[d]⟩ 0 (Lib.countB s ⟨#[d]⟩) s
  have h2 : Lib.splitK [d] 0 (Lib.countB s ⟨#[d]⟩) s.data.toList = splL d s.data.toList := splitK_spl d _ _ rfl
  rw [show (⟨#[d]⟩ : ByteArray).data.toList = [d] from rfl, h2] at h
  rw [← h, List.map_map]
  have : (txt ∘ fun x : ByteArray => x.data.toList) = id := by funext x; exact txt_of x
  rw [this, List.map_id]
theorem countB_is (d : UInt8) (s : ByteArray) : Lib.countB s ⟨#[d]⟩ + 1 = (splL d s.data.toList).length := by
  have h := Lib.splitB_all ⟨#[d]⟩ (Nat.le_refl 1) 0 _ s rfl
  rw [splitB_is, List.length_map] at h
  omega

/-! ### Paths without dots -/
/-- One part more. -/
def dotS (kept : List (List UInt8)) (p : List UInt8) : List (List UInt8) := if p = [46] then kept else if p = [46, 46] then kept.dropLast else kept ++ [p]
theorem dotS_one (kept : List (List UInt8)) : dotS kept [46] = kept := rfl
theorem dotS_two (kept : List (List UInt8)) : dotS kept [46, 46] = kept.dropLast := rfl
theorem dotS_else {p : List UInt8} (kept : List (List UInt8)) (h1 : p ≠ [46]) (h2 : p ≠ [46, 46]) : dotS kept p = kept ++ [p] := by unfold dotS; rw [if_neg h1, if_neg h2]
def dotK (ps : List (List UInt8)) : List (List UInt8) := ps.foldl dotS []
theorem dotK_snoc (ps : List (List UInt8)) (p : List UInt8) : dotK (ps ++ [p]) = dotS (dotK ps) p := by unfold dotK; rw [List.foldl_append]; rfl
def isDot (p : List UInt8) : Bool := decide (p = [46] ∨ p = [46, 46])
/-- What is kept of the parts: where the last one is . or .. an empty one is at the end. -/
def dotP (ps : List (List UInt8)) : List (List UInt8) := if isDot (ps.getLastD []) = true then dotK ps ++ [[]] else dotK ps
theorem dotS_length (kept : List (List UInt8)) (p : List UInt8) : (dotS kept p).length ≤ kept.length + 1 := by
  unfold dotS
  split
  · omega
  · split
    · simp; omega
    · simp
theorem dotK_length (ps : List (List UInt8)) : (dotK ps).length ≤ ps.length := by
  have : ∀ (ps kept : List (List UInt8)), (ps.foldl dotS kept).length ≤ kept.length + ps.length := by
    intro ps
    induction ps with
    | nil => intro k; simp
    | cons p ps ih =>
      intro k
      have h1 := ih (dotS k p)
      have h2 := dotS_length k p
      rw [List.foldl_cons, List.length_cons]
      omega
  have h := this ps []
  simpa [dotK] using h
/-- The bytes of parts, each behind a /. -/
def pthL (ks : List (List UInt8)) : List UInt8 := ks.flatMap fun k => 47 :: k
theorem pthL_join (ks : List (List UInt8)) (h : ks ≠ []) : 47 :: Lib.join ks [47] = pthL ks := by
  cases ks with
  | nil => exact absurd rfl h
  | cons k r =>
    rw [Lib.join_cons]
    unfold pthL Lib.joinTail
    rw [List.flatMap_cons, List.cons_append]
    congr 2
theorem getLastD_snoc (ps : List (List UInt8)) (p : List UInt8) : (ps ++ [p]).getLastD [] = p := by simp [List.getLastD_eq_getLast?]
theorem dotP_ne (ps : List (List UInt8)) (h : ps ≠ []) : dotP ps ≠ [] := by
  unfold dotP
  split
  · simp
  · rename_i hd
    obtain ⟨qs, p, rfl⟩ : ∃ qs p, ps = qs ++ [p] := ⟨ps.dropLast, ps.getLast h, (List.dropLast_concat_getLast h).symm⟩
    rw [getLastD_snoc] at hd
    have h1 : p ≠ [46] := fun e => hd (decide_eq_true (Or.inl e))
    have h2 : p ≠ [46, 46] := fun e => hd (decide_eq_true (Or.inr e))
    rw [dotK_snoc, dotS_else _ h1 h2]
    simp
/-- A path: at most 200 bytes, and begins with /. -/
def pthB (s : ByteArray) : Bool := decide (s.size ≤ 200 ∧ s.data.toList.head? = some 47)
/-- What Dotless answers. -/
def dotL (l : List UInt8) : List UInt8 := pthL (dotP (splL 47 (l.drop 1)))
def dotA (s : ByteArray) : ByteArray := if pthB s = true then txt (dotL s.data.toList) else ⟨#[]⟩
theorem dotA_yes {s : ByteArray} (h : pthB s = true) : txt (dotL s.data.toList) = dotA s := by unfold dotA; rw [if_pos h]
theorem dotA_no {s : ByteArray} (h : pthB s = false) : (⟨#[]⟩ : ByteArray) = dotA s := by unfold dotA; rw [if_neg (by simp [h])]

/-- How long parts are together, each with its /. -/
def sumL (ks : List (List UInt8)) : Nat := (ks.map fun k => k.length + 1).sum
theorem pthL_length (ks : List (List UInt8)) : (pthL ks).length = sumL ks := by
  induction ks with
  | nil => rfl
  | cons k r ih =>
    have e : pthL (k :: r) = 47 :: k ++ pthL r := by simp [pthL]
    rw [e, List.length_append, ih]
    simp [sumL]
theorem sumL_append (a b : List (List UInt8)) : sumL (a ++ b) = sumL a + sumL b := by simp [sumL]
theorem splF_sum (d : UInt8) : ∀ (l cur : List UInt8), sumL (splF d cur l) = cur.length + l.length + 1
  | [], cur => by simp [splF, sumL]
  | c :: r, cur => by
    by_cases hc : c = d
    · subst hc
      rw [splF_yes]
      have := splF_sum c r []
      simp [sumL] at this ⊢
      omega
    · rw [splF_no _ _ hc, splF_sum d r (cur ++ [c])]
      simp
      omega
theorem sumL_dropLast (ks : List (List UInt8)) : sumL ks.dropLast ≤ sumL ks := by
  cases h : ks.reverse with
  | nil => have : ks = [] := by simpa using h
           subst this; simp
  | cons p r =>
    have e : ks = r.reverse ++ [p] := by rw [← List.reverse_reverse ks, h]; simp
    rw [e, List.dropLast_concat, sumL_append]
    omega
theorem dotS_sum (kept : List (List UInt8)) (p : List UInt8) : sumL (dotS kept p) ≤ sumL kept + (p.length + 1) ∧ (isDot p = true → sumL (dotS kept p) + 1 ≤ sumL kept + (p.length + 1)) := by
  have hd := sumL_dropLast kept
  by_cases h1 : p = [46]
  · subst h1
    rw [dotS_one]
    exact ⟨by omega, fun _ => by simp⟩
  · by_cases h2 : p = [46, 46]
    · subst h2
      rw [dotS_two]
      exact ⟨by omega, fun _ => by simp; omega⟩
    · rw [dotS_else _ h1 h2, sumL_append]
      refine ⟨by simp [sumL], fun hh => ?_⟩
      rcases of_decide_eq_true hh with e | e
      · exact absurd e h1
      · exact absurd e h2
theorem dotK_sum (ps : List (List UInt8)) : sumL (dotK ps) ≤ sumL ps := by
  have : ∀ (ps kept : List (List UInt8)), sumL (ps.foldl dotS kept) ≤ sumL kept + sumL ps := by
    intro ps
    induction ps with
    | nil => intro k; simp [sumL]
    | cons p ps ih =>
      intro k
      have h1 := ih (dotS k p)
      have h2 := (dotS_sum k p).1
      have h3 : sumL (p :: ps) = (p.length + 1) + sumL ps := by simp [sumL]
      rw [List.foldl_cons]
      omega
  have h := this ps []
  simpa [dotK, sumL] using h
theorem dotP_sum (ps : List (List UInt8)) (h : ps ≠ []) : sumL (dotP ps) ≤ sumL ps := by
  obtain ⟨qs, p, rfl⟩ : ∃ qs p, ps = qs ++ [p] := ⟨ps.dropLast, ps.getLast h, (List.dropLast_concat_getLast h).symm⟩
  have hk := dotK_sum qs
  have hs := dotS_sum (dotK qs) p
  have e1 : sumL (qs ++ [p]) = sumL qs + (p.length + 1) := by rw [sumL_append]; simp [sumL]
  unfold dotP
  rw [getLastD_snoc, dotK_snoc]
  split
  · rename_i hd
    have := hs.2 hd
    rw [sumL_append]
    have e2 : sumL [([] : List UInt8)] = 1 := rfl
    omega
  · have := hs.1
    omega
theorem dotL_length (l : List UInt8) (h : l ≠ []) : (dotL l).length ≤ l.length := by
  unfold dotL
  rw [pthL_length]
  have h1 := dotP_sum (splL 47 (l.drop 1)) (splF_ne _ _ _)
  have h2 : sumL (splL 47 (l.drop 1)) = 0 + (l.drop 1).length + 1 := splF_sum 47 (l.drop 1) []
  have h3 : 0 < l.length := List.length_pos_iff.2 h
  rw [List.length_drop] at h2
  omega
theorem dotA_size (s : ByteArray) : (dotA s).size ≤ 200 := by
  unfold dotA
  split
  · rename_i h
    have hp := of_decide_eq_true h
    have e : s.data.toList.length = s.size := by simp
    have h1 := dotL_length s.data.toList (fun e => by rw [e] at hp; simp at hp)
    rw [txt_size]
    omega
  · show 0 ≤ 200
    omega
end Go.Proofs.YthadmhleibhlgaaDoor
