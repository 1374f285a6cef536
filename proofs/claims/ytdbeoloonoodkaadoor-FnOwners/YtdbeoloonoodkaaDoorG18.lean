/-
  Plain facts of what moves, for the law of owners.
-/
import Derived.Test.YtdbeoloonoodkaaDoorG08
namespace Go.Proofs.YtdbeoloonoodkaaDoor.Ow
set_option linter.unusedVariables false

theorem filt_at (p : Nat → Bool) : ∀ (n i : Nat), i < n → p i = true → ((List.range n).filter p)[((List.range i).filter p).length]? = some i
  | 0, i, h, _ => by omega
  | n + 1, i, h, hp => by
    rw [List.range_succ, List.filter_append]
    by_cases e : i = n
    · subst e
      rw [List.getElem?_append_right (Nat.le_refl _), Nat.sub_self, List.filter_cons_of_pos hp]
      rfl
    · have ih := filt_at p n i (by omega) hp
      rw [List.getElem?_append_left (List.getElem?_eq_some_iff.1 ih).1]
      exact ih
def ownG (s : List Int) (g : Int) (keys : List ByteArray) (i : Nat) : Bool := decide (ownV s (keys.getD i ⟨#[]⟩) = g)
def cntG (s : List Int) (g : Int) (keys : List ByteArray) (i : Nat) : Nat := ((List.range i).filter (ownG s g keys)).length
theorem cntG_yes {s : List Int} {g : Int} {keys : List ByteArray} {i : Nat} (h : ownV s (keys.getD i ⟨#[]⟩) = g) : cntG s g keys (i + 1) = cntG s g keys i + 1 := by
  unfold cntG
  rw [List.range_succ, List.filter_append, List.length_append, List.filter_cons_of_pos (by unfold ownG; exact decide_eq_true h)]
  rfl
theorem cntG_no {s : List Int} {g : Int} {keys : List ByteArray} {i : Nat} (h : ¬ ownV s (keys.getD i ⟨#[]⟩) = g) : cntG s g keys (i + 1) = cntG s g keys i := by
  unfold cntG
  rw [List.range_succ, List.filter_append, List.length_append, List.filter_cons_of_neg (by unfold ownG; rw [decide_eq_false h]; simp)]
  rfl
theorem mov_is {s : List Int} {g : Int} {keys : List ByteArray} (h : movOk s g keys.length = true) : movV s g keys = ((List.range keys.length).filter (ownG s g keys)).map (fun i : Nat => (i : Int)) := by
  have h' := h
  unfold movOk at h'
  rw [Bool.and_eq_true, Bool.and_eq_true, Bool.and_eq_true] at h'
  have hs := srvOk_iff.1 h'.1
  have h1 := of_decide_eq_true h'.2.2.1
  unfold movV movL
  rw [if_pos h]
  congr 1
  refine List.filter_congr fun i _ => ?_
  unfold ownG
  by_cases e : ownV s (keys.getD i ⟨#[]⟩) = g
  · rw [decide_eq_true e, decide_eq_false (fun k => (moves_iff hs h1).1 k e)]; rfl
  · rw [decide_eq_false e, decide_eq_true ((moves_iff hs h1).2 e)]; rfl
theorem mov_ok {s : List Int} {g : Int} {keys : List ByteArray} (h : 0 < (movV s g keys).length) : movOk s g keys.length = true := by
  refine Classical.byContradiction fun hn => ?_
  unfold movV at h
  rw [if_neg hn] at h
  exact absurd h (by simp)
theorem mov_in {s : List Int} {g : Int} {keys : List ByteArray} {i : Nat} (h : i < (movV s g keys).length) : ∃ j : Nat, (movV s g keys)[i] = (j : Int) ∧ ∃ hj : j < keys.length, ownV s keys[j] = g := by
  have hok := mov_ok (Nat.lt_of_le_of_lt (Nat.zero_le _) h)
  have hm : (movV s g keys)[i] ∈ movV s g keys := List.getElem_mem h
  generalize (movV s g keys)[i] = y at hm ⊢
  rw [mov_is hok] at hm
  obtain ⟨j, hj, e⟩ := List.mem_map.1 hm
  obtain ⟨hj1, hj2⟩ := List.mem_filter.1 hj
  have hj3 := List.mem_range.1 hj1
  refine ⟨j, e.symm, hj3, ?_⟩
  have := of_decide_eq_true hj2
  simpa [hj3] using this
theorem mov_at {s : List Int} {g : Int} {keys : List ByteArray} {i : Nat} (h : 0 < (movV s g keys).length) (hi : i < keys.length) (hg : ownV s (keys.getD i ⟨#[]⟩) = g) : (movV s g keys)[cntG s g keys i]? = some (i : Int) := by
  rw [mov_is (mov_ok h), List.getElem?_map]
  unfold cntG
  rw [filt_at (ownG s g keys) keys.length i hi (decide_eq_true hg)]
  rfl
theorem movV_len (l : List Int) (z : Int) (keys : List ByteArray) : (movV l z keys).length ≤ 100 := by
  unfold movV
  split
  · rename_i h
    unfold movOk at h
    rw [Bool.and_eq_true, Bool.and_eq_true, Bool.and_eq_true] at h
    have := movL_length l z keys keys.length
    have := of_decide_eq_true h.2.2.2
    omega
  · exact Nat.zero_le _
theorem rnkV_some {l : List Int} {k : ByteArray} (h : 0 < (rnkV l k).length) : srvOk l = true := by
  refine Classical.byContradiction fun hn => ?_
  unfold rnkV at h
  rw [if_neg hn] at h
  exact absurd h (by simp)
theorem rnkV_is {l : List Int} {k : ByteArray} (h : srvOk l = true) : rnkV l k = rnk (wgV k) l := if_pos h
/-- The second of the rank owns what the first does no more. -/
theorem own_rest {l : List Int} {k : ByteArray} {o : Int} {x : Int} {t : List Int} (h : srvOk l = true) (e : rnkV l k = o :: x :: t) : ownV (gon l o) k = x := by
  have hs := srvOk_iff.1 h
  rw [rnkV_is h] at e
  have e2 := own_second hs e
  have hl : (gon l o).length = t.length + 1 := by rw [← rnk_length (wgV k), e2]; rfl
  have h2 := srvOk_iff.2 (gon_ok (g := o) hs (by omega))
  unfold ownV
  rw [rnkV_is h2, e2]
  rfl
end Go.Proofs.YtdbeoloonoodkaaDoor.Ow
