/-
  Plain facts on normal paths: what NormalPath answers, and that a normal path is normal, has no dots, and begins with a /.
-/
import Derived.Test.YthadmhleibhlgaaDoorPthB
namespace Go.Proofs.YthadmhleibhlgaaDoor
open Go.RowKit

/-- What NormalPath answers. -/
def nrmA (s : ByteArray) : Option ByteArray := if pthB s = true then (match uncA s with | none => none | some t => if pthB (codS t) = true then some (dotA (codS t)) else none) else none
def nrmT (s : ByteArray) : ByteArray := (nrmA s).getD ⟨#[]⟩
def nrmE (s : ByteArray) : Value := .tuple #[.string (nrmT s), .bool (nrmA s).isSome]
theorem nrmE_none {s : ByteArray} (h : nrmA s = none) : Ending.returned (.tuple #[.string ⟨#[]⟩, .bool false]) = .returned (nrmE s) := by
  unfold nrmE nrmT; rw [h]; rfl
theorem nrmE_some {s t : ByteArray} (h : nrmA s = some t) : Ending.returned (.tuple #[.string t, .bool true]) = .returned (nrmE s) := by
  unfold nrmE nrmT; rw [h]; rfl
theorem nrmA_no {s : ByteArray} (h : pthB s = false) : nrmA s = none := by unfold nrmA; rw [if_neg (by simp [h])]
theorem nrmA_unc {s : ByteArray} (h : uncA s = none) : nrmA s = none := by
  unfold nrmA
  split
  · rw [h]
  · rfl
theorem nrmA_long {s t : ByteArray} (h : uncA s = some t) (h2 : pthB (codS t) = false) : nrmA s = none := by
  unfold nrmA
  split
  · rw [h]; simp [h2]
  · rfl
theorem nrmA_yes {s t : ByteArray} (h : pthB s = true) (h1 : uncA s = some t) (h2 : pthB (codS t) = true) : nrmA s = some (dotA (codS t)) := by
  unfold nrmA
  rw [if_pos h, h1]
  simp [h2]
theorem nrmA_size {s t : ByteArray} (h : nrmA s = some t) : t.size ≤ 200 := by
  unfold nrmA at h
  split at h
  · split at h
    · cases h
    · split at h
      · cases h; exact dotA_size _
      · cases h
  · cases h
theorem nrmT_size (s : ByteArray) : (nrmT s).size ≤ 200 := by
  unfold nrmT
  cases h : nrmA s with
  | none => show 0 ≤ 200; omega
  | some t => exact nrmA_size h

/-! ### A normal path is normal -/
/-- A code. -/
def IsC (l : List UInt8) : Prop := ∃ m, codL m = l
theorem IsC.nil : IsC [] := ⟨[], rfl⟩
theorem IsC.append {a b : List UInt8} : IsC a → IsC b → IsC (a ++ b)
  | ⟨x, hx⟩, ⟨y, hy⟩ => ⟨x ++ y, by rw [codL_append, hx, hy]⟩
theorem codC_slash : codC 47 = [47] := by decide
theorem codC_free {c : UInt8} (h : c ≠ 47) : (47 : UInt8) ∉ codC c := by
  cases hp : plnN (c.toNat : Int) with
  | true =>
    rw [codC_yes hp]
    simp [Ne.symm h]
  | false =>
    rw [codC_no hp]
    have hc := byte_lt c
    have h1 := (capB_val (c.toNat / 16) (by omega)).2.2.2
    have h2 := (capB_val (c.toNat % 16) (by omega)).2.2.2
    intro hm
    simp only [List.mem_cons, List.not_mem_nil, or_false] at hm
    rcases hm with e | e | e
    · exact absurd e (by decide)
    · rw [← e] at h1; exact h1 rfl
    · rw [← e] at h2; exact h2 rfl
theorem splF_pass {d : UInt8} : ∀ (x cur r : List UInt8), d ∉ x → splF d cur (x ++ r) = splF d (cur ++ x) r
  | [], cur, r, _ => by simp
  | c :: x, cur, r, h => by
    have hc : c ≠ d := fun e => h (by simp [e])
    rw [List.cons_append, splF_no _ _ hc, splF_pass x _ r (fun e => h (by simp [e]))]
    simp
theorem splF_cod : ∀ (l cur : List UInt8), splF 47 (codL cur) (codL l) = (splF 47 cur l).map codL
  | [], cur => by simp [splF_nil, codL_nil]
  | c :: r, cur => by
    by_cases hc : c = 47
    · subst hc
      rw [splF_yes, codL_cons, codC_slash, List.cons_append, List.nil_append, splF_yes, List.map_cons]
      have := splF_cod r []
      rw [codL_nil] at this
      rw [this]
    · rw [splF_no _ _ hc, codL_cons, splF_pass _ _ _ (codC_free hc)]
      have := splF_cod r (cur ++ [c])
      rw [codL_append, codL_cons, codL_nil, List.append_nil] at this
      exact this
theorem dotS_mem {kept : List (List UInt8)} {p x : List UInt8} (h : x ∈ dotS kept p) : x ∈ kept ∨ (x = p ∧ isDot p = false) := by
  by_cases h1 : p = [46]
  · subst h1; exact Or.inl h
  · by_cases h2 : p = [46, 46]
    · subst h2; rw [dotS_two] at h; exact Or.inl (List.dropLast_sublist _ |>.subset h)
    · rw [dotS_else _ h1 h2] at h
      rcases List.mem_append.1 h with h | h
      · exact Or.inl h
      · simp at h
        refine Or.inr ⟨h, decide_eq_false ?_⟩
        rintro (e | e)
        · exact h1 e
        · exact h2 e
theorem foldl_mem : ∀ (ps kept : List (List UInt8)) (x : List UInt8), x ∈ ps.foldl dotS kept → x ∈ kept ∨ (x ∈ ps ∧ isDot x = false)
  | [], kept, x, h => Or.inl h
  | p :: ps, kept, x, h => by
    rcases foldl_mem ps (dotS kept p) x h with h | ⟨h, h2⟩
    · rcases dotS_mem h with h | ⟨rfl, h2⟩
      · exact Or.inl h
      · exact Or.inr ⟨by simp, h2⟩
    · exact Or.inr ⟨by simp [h], h2⟩
theorem dotP_mem {ps : List (List UInt8)} {x : List UInt8} (h : x ∈ dotP ps) : (x ∈ ps ∧ isDot x = false) ∨ x = [] := by
  have key : x ∈ dotK ps → (x ∈ ps ∧ isDot x = false) ∨ x = [] := fun hk => by
    rcases foldl_mem ps [] x hk with h | h
    · cases h
    · exact Or.inl h
  unfold dotP at h
  split at h
  · rcases List.mem_append.1 h with h | h
    · exact key h
    · simp at h; exact Or.inr h
  · exact key h
theorem dotP_nodot {ps : List (List UInt8)} {x : List UInt8} (h : x ∈ dotP ps) : isDot x = false := by
  rcases dotP_mem h with h | rfl
  · exact h.2
  · decide
theorem dotP_free {ps : List (List UInt8)} {x : List UInt8} (hp : ∀ p ∈ ps, (47 : UInt8) ∉ p) (h : x ∈ dotP ps) : (47 : UInt8) ∉ x := by
  rcases dotP_mem h with h | rfl
  · exact hp x h.1
  · simp
theorem foldl_plain : ∀ (ps kept : List (List UInt8)), (∀ p ∈ ps, isDot p = false) → ps.foldl dotS kept = kept ++ ps
  | [], kept, _ => by simp
  | p :: ps, kept, h => by
    have hp := of_decide_eq_false (h p (by simp))
    rw [List.foldl_cons, dotS_else _ (fun e => hp (Or.inl e)) (fun e => hp (Or.inr e)), foldl_plain ps _ (fun x hx => h x (by simp [hx]))]
    simp
theorem dotP_plain (ps : List (List UInt8)) (h : ∀ p ∈ ps, isDot p = false) : dotP ps = ps := by
  have hk : dotK ps = ps := by unfold dotK; rw [foldl_plain ps [] h]; rfl
  unfold dotP
  rw [hk]
  cases hc : ps.reverse with
  | nil =>
    have e : ps = [] := by simpa using hc
    subst e; rfl
  | cons p r =>
    have e : ps = r.reverse ++ [p] := by rw [← List.reverse_reverse ps, hc]; simp
    rw [e, getLastD_snoc, if_neg (by rw [h p (by rw [e]; simp)]; simp)]
/-- Paths without dots are so. -/
theorem dotL_again (l : List UInt8) : dotL (dotL l) = dotL l := by
  have hne := splF_ne 47 (l.drop 1) []
  have hf : ∀ p ∈ splL 47 (l.drop 1), (47 : UInt8) ∉ p := splF_none (l.drop 1) [] (by simp)
  have hk : dotP (splL 47 (l.drop 1)) ≠ [] := dotP_ne _ hne
  have hff : ∀ p ∈ dotP (splL 47 (l.drop 1)), (47 : UInt8) ∉ p := fun p hp => dotP_free hf hp
  have hdd : ∀ p ∈ dotP (splL 47 (l.drop 1)), isDot p = false := fun p hp => dotP_nodot hp
  have e : dotL l = 47 :: Lib.join (dotP (splL 47 (l.drop 1))) [47] := (pthL_join _ hk).symm
  have e2 : dotL (dotL l) = pthL (dotP (splL 47 ((dotL l).drop 1))) := rfl
  rw [e2]
  have e3 : (dotL l).drop 1 = Lib.join (dotP (splL 47 (l.drop 1))) [47] := by rw [e]; rfl
  rw [e3, splL_join _ hk hff, dotP_plain _ hdd]
  rfl
theorem dotL_head (l : List UInt8) : (dotL l).head? = some 47 := by
  have hk : dotP (splL 47 (l.drop 1)) ≠ [] := dotP_ne _ (splF_ne 47 (l.drop 1) [])
  have e : dotL l = 47 :: Lib.join (dotP (splL 47 (l.drop 1))) [47] := (pthL_join _ hk).symm
  rw [e]; rfl
theorem isC_pthL : ∀ (ks : List (List UInt8)), (∀ k ∈ ks, IsC k) → IsC (pthL ks)
  | [], _ => IsC.nil
  | k :: r, h => by
    have e : pthL (k :: r) = [47] ++ (k ++ pthL r) := by simp [pthL]
    rw [e]
    exact IsC.append ⟨[47], by rw [codL_cons, codC_slash]; rfl⟩ (IsC.append (h k (by simp)) (isC_pthL r (fun x hx => h x (by simp [hx]))))
theorem isC_dotL (m : List UInt8) (hm : (codL m).head? = some 47) : IsC (dotL (codL m)) := by
  obtain ⟨r, rfl⟩ : ∃ r, m = 47 :: r := by
    cases m with
    | nil => simp [codL_nil] at hm
    | cons c r =>
      by_cases hc : c = 47
      · exact ⟨r, by rw [hc]⟩
      · exfalso
        rw [codL_cons] at hm
        have hf := codC_free hc
        have hne : codC c ≠ [] := by unfold codC; split <;> simp
        cases hx : codC c with
        | nil => exact hne hx
        | cons a b =>
          rw [hx] at hm hf
          simp at hm
          exact hf (by simp [hm])
  have e : (codL (47 :: r)).drop 1 = codL r := by rw [codL_cons, codC_slash]; rfl
  unfold dotL
  rw [e]
  refine isC_pthL _ (fun k hk => ?_)
  rcases dotP_mem hk with ⟨hk, _⟩ | rfl
  · have := splF_cod r []
    rw [codL_nil] at this
    unfold splL at hk
    rw [this] at hk
    obtain ⟨x, _, rfl⟩ := List.mem_map.1 hk
    exact ⟨x, rfl⟩
  · exact IsC.nil
theorem pthB_of {s : ByteArray} (h1 : s.size ≤ 200) (h2 : s.data.toList.head? = some 47) : pthB s = true := decide_eq_true ⟨h1, h2⟩
theorem codS_data (s : ByteArray) : (codS s).data.toList = codL s.data.toList := by unfold codS; simp
/-- A normal path is normal, and has no dots. -/
theorem nrm_again {s n : ByteArray} (h : nrmA s = some n) : nrmA n = some n ∧ dotA n = n ∧ n.data.toList.head? = some 47 ∧ n.size ≤ 200 := by
  have hz := nrmA_size h
  unfold nrmA at h
  split at h
  · split at h
    · cases h
    · rename_i t ht
      split at h
      · rename_i hp
        injection h with h
        rw [← dotA_yes hp] at h
        have hp' := of_decide_eq_true hp
        rw [codS_data] at hp' h
        obtain ⟨m, hm⟩ := isC_dotL _ hp'.2
        have hn : n.data.toList = codL m := by rw [← h, txt_data, hm]
        have hd : n.data.toList = dotL (codL t.data.toList) := by rw [← h, txt_data]
        have hh : n.data.toList.head? = some 47 := by rw [hd]; exact dotL_head _
        have hpn : pthB n = true := pthB_of hz hh
        have hu : uncA n = some (txt m) := by
          rw [uncA_of hz, hn, uncL_codL]
          rfl
        have hc : codS (txt m) = n := by
          show (⟨(codL (txt m).data.toList).toArray⟩ : ByteArray) = n
          rw [txt_data, ← hn]
        have hdn : dotA n = n := by
          rw [← dotA_yes hpn, hd, dotL_again, ← hd]
          exact txt_of n
        refine ⟨?_, hdn, hh, hz⟩
        rw [nrmA_yes hpn hu (by rw [hc]; exact hpn), hc, hdn]
      · cases h
  · cases h
/-- A text is uncoded from its code, where that is no longer than a path. -/
theorem unc_cod {s : ByteArray} (h : (codS s).size ≤ 200) : uncA (codS s) = some s := by
  rw [uncA_of h, codS_data, uncL_codL]
  rfl
end Go.Proofs.YthadmhleibhlgaaDoor
