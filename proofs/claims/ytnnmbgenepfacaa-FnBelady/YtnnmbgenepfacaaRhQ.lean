/-
  Best step by step, as plain data: a heap of what comes again the latest.
-/
import Derived.Test.YtnnmbgenepfacaaRhE
import Derived.Test.YtnnmbgenepfacaaRomE
namespace Go.Proofs.Ytnnmbgenepfacaa
open Go.RowKit Go.Sort Rom
set_option linter.unusedVariables false
set_option linter.unusedSimpArgs false

def nxT (t : List Int) (k : Nat) (x : Int) : Int := ((k + (t.drop k).idxOf x : Nat) : Int)
structure BestSt (r O : Nat) (t : List Int) (k m : Nat) (l : List Co) : Prop where
  nm : Nm l
  hp : isHp l
  nd : (l.map Prod.fst).Nodup
  len : l.length ≤ r
  nx : ∀ p ∈ l, p.2 = nxT t k p.1
  op : m + opt r (t.drop k) (l.map Prod.fst) = O
  few : m ≤ k
theorem nxT_next {t : List Int} {k : Nat} {x : Int} (hk : k < t.length) (h : x ≠ t[k]) : nxT t k x = nxT t (k + 1) x := by
  unfold nxT
  rw [List.drop_eq_getElem_cons hk, idx_ne _ (fun e => h e.symm)]
  omega
theorem uniq_fst {p q : Co} : ∀ {l : List Co}, (l.map Prod.fst).Nodup → p ∈ l → q ∈ l → p.1 = q.1 → p = q
  | [], _, h, _, _ => by cases h
  | y :: l, hn, hp, hq, e => by
    rw [List.map_cons, List.nodup_cons] at hn
    rcases List.mem_cons.1 hp with p1 | p1
    · rcases List.mem_cons.1 hq with q1 | q1
      · rw [p1, q1]
      · exact absurd (by rw [← p1, e]; exact List.mem_map.2 ⟨q, q1, rfl⟩) hn.1
    · rcases List.mem_cons.1 hq with q1 | q1
      · exact absurd (by rw [← q1, ← e]; exact List.mem_map.2 ⟨p, p1, rfl⟩) hn.1
      · exact uniq_fst hn.2 p1 q1 e
theorem set_fst {l : List Co} {j : Nat} {x n : Int} (hj : j < l.length) (e : l[j].1 = x) : (l.set j (x, n)).map Prod.fst = l.map Prod.fst := by
  rw [List.map_set]
  apply List.ext_getElem?
  intro i
  rw [List.getElem?_set]
  split
  · rename_i h
    subst h
    simp [hj, e]
  · rfl
theorem BestSt.hit {r O k m j : Nat} {t : List Int} {l l' : List Co} (h : BestSt r O t k m l) (hr : 0 < r) (hk : k < t.length) (ht : 0 ≤ t[k] ∧ t[k] ≤ 20) (hj : j < l.length) (e : l[j].1 = t[k]) (p : l'.Perm (l.set j (t[k], nxT t (k + 1) t[k]))) (hh : isHp l') : BestSt r O t (k + 1) m l' := by
  have e1 := set_fst (n := nxT t (k + 1) t[k]) hj e
  have p1 : (l'.map Prod.fst).Perm (l.map Prod.fst) := by
    have := p.map Prod.fst
    rw [e1] at this
    exact this
  have hin : t[k] ∈ l.map Prod.fst := List.mem_map.2 ⟨l[j], List.getElem_mem hj, e⟩
  refine ⟨fun q hq => ?_, hh, p1.nodup_iff.2 h.nd, by rw [p.length_eq, List.length_set]; exact h.len, fun q hq => ?_, ?_, by have := h.few; omega⟩
  · rcases List.mem_or_eq_of_mem_set (p.mem_iff.1 hq) with q1 | q1
    · exact h.nm q q1
    · rw [q1]; exact ht
  · have hq2 := p.mem_iff.1 hq
    by_cases hx : q.1 = t[k]
    · have hm2 : (t[k], nxT t (k + 1) t[k]) ∈ l.set j (t[k], nxT t (k + 1) t[k]) := List.mem_iff_getElem.2 ⟨j, by rw [List.length_set]; exact hj, by simp⟩
      have := uniq_fst (by rw [e1]; exact h.nd) hq2 hm2 hx
      rw [this]
    · rcases List.mem_or_eq_of_mem_set hq2 with q1 | q1
      · rw [h.nx q q1, nxT_next hk hx]
      · exact absurd (by rw [q1]) hx
  · rw [opt_perm hr _ _ _ p1]
    exact best_hit hk h.op hin
theorem BestSt.room {r O k m : Nat} {t : List Int} {l l' : List Co} (h : BestSt r O t k m l) (hr : 0 < r) (hk : k < t.length) (ht : 0 ≤ t[k] ∧ t[k] ≤ 20) (hx : t[k] ∉ l.map Prod.fst) (hl : l.length < r) (p : l'.Perm (l ++ [(t[k], nxT t (k + 1) t[k])])) (hh : isHp l') : BestSt r O t (k + 1) (m + 1) l' := by
  have p1 : (l'.map Prod.fst).Perm (l.map Prod.fst ++ [t[k]]) := by
    have := p.map Prod.fst
    rw [List.map_append] at this
    exact this
  refine ⟨fun q hq => ?_, hh, ?_, by rw [p.length_eq, List.length_append]; simp; omega, fun q hq => ?_, ?_, by have := h.few; omega⟩
  · rcases List.mem_append.1 (p.mem_iff.1 hq) with q1 | q1
    · exact h.nm q q1
    · rw [List.mem_singleton.1 q1]; exact ht
  · rw [p1.nodup_iff, List.nodup_append]
    refine ⟨h.nd, by simp, fun a ha b hb e => hx ?_⟩
    rw [List.mem_singleton.1 hb] at e
    rw [← e]; exact ha
  · rcases List.mem_append.1 (p.mem_iff.1 hq) with q1 | q1
    · rw [h.nx q q1, nxT_next hk (fun e => hx (by rw [← e]; exact List.mem_map.2 ⟨q, q1, rfl⟩))]
    · rw [List.mem_singleton.1 q1]
  · rw [opt_perm hr _ _ _ p1]
    exact best_room hr hk h.op hx (by rw [List.length_map]; exact hl)
theorem BestSt.full {r O k m : Nat} {t : List Int} {l l2 l' : List Co} (h : BestSt r O t k m l) (hr : 0 < r) (hk : k < t.length) (ht : 0 ≤ t[k] ∧ t[k] ≤ 20) (hx : t[k] ∉ l.map Prod.fst) (hl : l.length = r) (h0 : 0 < l.length) (p0 : (l[0] :: l2).Perm l) (p : l'.Perm (l2 ++ [(t[k], nxT t (k + 1) t[k])])) (hh : isHp l') : BestSt r O t (k + 1) (m + 1) l' := by
  have hsub : ∀ q ∈ l2, q ∈ l := fun q hq => p0.mem_iff.1 (List.mem_cons_of_mem _ hq)
  have hln : l2.length + 1 = l.length := by have := p0.length_eq; rw [List.length_cons] at this; exact this
  have q0 : (l[0].1 :: l2.map Prod.fst).Perm (l.map Prod.fst) := p0.map Prod.fst
  have q2 : (l2.map Prod.fst).Perm ((l.map Prod.fst).erase l[0].1) := by
    have := q0.erase l[0].1
    rw [List.erase_cons_head] at this
    exact this
  have p1 : (l'.map Prod.fst).Perm (t[k] :: (l.map Prod.fst).erase l[0].1) := by
    have := p.map Prod.fst
    rw [List.map_append] at this
    exact (this.trans (List.perm_append_comm (l₁ := l2.map Prod.fst) (l₂ := [t[k]]))).trans (q2.cons _)
  have hnd2 : (l2.map Prod.fst).Nodup := (List.nodup_cons.1 (q0.nodup_iff.2 h.nd)).2
  have hx2 : t[k] ∉ l2.map Prod.fst := fun hm => hx (q0.mem_iff.1 (List.mem_cons_of_mem _ hm))
  have hlate : ∀ y ∈ l.map Prod.fst, (t.drop (k + 1)).idxOf y ≤ (t.drop (k + 1)).idxOf l[0].1 := by
    intro y hy
    obtain ⟨q, hq, rfl⟩ := List.mem_map.1 hy
    obtain ⟨i, hi, e⟩ := List.getElem_of_mem hq
    have hroot := h.hp.root i hi
    rw [aL_at hi, aL_at h0, e] at hroot
    have hlt := later (h.nm _ (List.getElem_mem h0)) (h.nm q hq) hroot
    rw [h.nx q hq, h.nx _ (List.getElem_mem h0), nxT_next hk (fun e => hx (by rw [← e]; exact hy)), nxT_next hk (fun e => hx (by rw [← e]; exact List.mem_map.2 ⟨_, List.getElem_mem h0, rfl⟩))] at hlt
    unfold nxT at hlt
    omega
  refine ⟨fun q hq => ?_, hh, ?_, by rw [p.length_eq, List.length_append]; simp; omega, fun q hq => ?_, ?_, by have := h.few; omega⟩
  · rcases List.mem_append.1 (p.mem_iff.1 hq) with q1 | q1
    · exact h.nm q (hsub q q1)
    · rw [List.mem_singleton.1 q1]; exact ht
  · have := p.map Prod.fst
    rw [List.map_append] at this
    rw [this.nodup_iff, List.nodup_append]
    refine ⟨hnd2, by simp, fun a ha b hb e => hx2 ?_⟩
    have hb2 : b = t[k] := by simpa using hb
    rw [hb2] at e
    rw [← e]; exact ha
  · rcases List.mem_append.1 (p.mem_iff.1 hq) with q1 | q1
    · rw [h.nx q (hsub q q1), nxT_next hk (fun e => hx2 (by rw [← e]; exact List.mem_map.2 ⟨q, q1, rfl⟩))]
    · rw [List.mem_singleton.1 q1]
  · rw [opt_perm hr _ _ _ p1]
    have := h.op
    rw [List.drop_eq_getElem_cons hk, opt_latest hr hx (by rw [List.length_map]; exact hl) h.nd (List.mem_map.2 ⟨_, List.getElem_mem h0, rfl⟩) hlate] at this
    omega
theorem BestSt.start (r : Nat) (t : List Int) : BestSt r (opt r t []) t 0 0 [] :=
  ⟨fun p hp => absurd hp List.not_mem_nil, fun k k0 kn => absurd kn (by simp), List.nodup_nil, Nat.zero_le _, fun p hp => absurd hp List.not_mem_nil, by simp, Nat.le_refl _⟩
theorem BestSt.stop {r O m : Nat} {t : List Int} {l : List Co} (h : BestSt r O t t.length m l) : O = m := by
  have := h.op
  rw [List.drop_of_length_le (Nat.le_refl _)] at this
  simp [opt] at this
  exact this.symm
end Go.Proofs.Ytnnmbgenepfacaa
