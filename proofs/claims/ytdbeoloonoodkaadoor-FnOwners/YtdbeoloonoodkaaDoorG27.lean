/-
  Servers that come off a heap one behind the other are the rank.
-/
import Derived.Test.YtdbeoloonoodkaaDoorG20
namespace Go.Proofs.YtdbeoloonoodkaaDoor.Ih
open Ow
set_option linter.unusedVariables false
variable {H : Hw}

theorem wgV_rng (key : ByteArray) (s : Int) : -9223372036854775808 ≤ wgV key s ∧ wgV key s ≤ 9223372036854775807 := by
  unfold wgV
  split
  · have := hshL_lt (Lib.decDigits s.toNat ++ 58 :: key.data.toList)
    show -9223372036854775808 ≤ ((hshL (Lib.decDigits s.toNat ++ 58 :: key.data.toList) : Nat) : Int) ∧ ((hshL (Lib.decDigits s.toNat ++ 58 :: key.data.toList) : Nat) : Int) ≤ _
    omega
  · omega
/-- What has come off (out), and what is left (h). -/
structure Off (H : Hw) (l out : List Int) (h : List Co) : Prop where
  p : (out ++ h.map (·.1)).Perm l
  s : out.Pairwise (bef H.W)
  b : ∀ x ∈ out, ∀ q ∈ h, bef H.W x q.1
theorem Off.start {l : List Int} {h : List Co} (hp : (h.map (·.1)).Perm l) : Off H l [] h := ⟨by simpa using hp, List.Pairwise.nil, fun x hx => by cases hx⟩
theorem bef_of {p q : Co} (hp : 0 ≤ p.1 ∧ p.1 ≤ 99) (hq : 0 ≤ q.1 ∧ q.1 ≤ 99) (h : fC q ≤ fC p) (hne : p.1 ≠ q.1) (W : Int → Int) (e1 : p.2 = W p.1) (e2 : q.2 = W q.1) : bef W p.1 q.1 := by
  unfold bef
  unfold fC at h
  rw [← e1, ← e2]
  omega
theorem Off.step {l out : List Int} {h h' : List Co} (o : Off H l out h) (hn : Nm H h) (hl : l.Pairwise (· < ·)) (h0 : 0 < h.length) (hp : (h[0] :: h').Perm h) (hr : ∀ k, k < h.length → aL h k ≤ aL h 0) : Off H l (out ++ [h[0].1]) h' := by
  have hm : ∀ q, q ∈ h' → q ∈ h := fun q hq => hp.mem_iff.1 (List.mem_cons_of_mem _ hq)
  have h0m : h[0] ∈ h := List.getElem_mem h0
  have hpm : ((out ++ [h[0].1]) ++ h'.map (·.1)).Perm l := by
    rw [List.append_assoc]
    show (out ++ ((h[0] :: h').map (·.1))).Perm l
    exact ((hp.map _).append_left out).trans o.p
  have hnd : (h[0].1 :: h'.map (·.1)).Pairwise (fun x y => x ≠ y) := by
    have hl2 : l.Pairwise (fun x y : Int => x ≠ y) := pw_ne hl
    have h3 := (List.Perm.pairwise_iff (R := fun x y : Int => x ≠ y) (fun h => Ne.symm h) hpm).2 hl2
    rw [List.append_assoc] at h3
    exact (List.pairwise_append.1 h3).2.1
  refine ⟨hpm, ?_, ?_⟩
  · rw [List.pairwise_append]
    exact ⟨o.s, List.pairwise_singleton _ _, fun x hx y hy => by rw [List.mem_singleton.1 hy]; exact o.b x hx _ h0m⟩
  · intro x hx q hq
    rcases List.mem_append.1 hx with hx | hx
    · exact o.b x hx q (hm q hq)
    · rw [List.mem_singleton.1 hx]
      obtain ⟨k, hk, e⟩ := List.mem_iff_getElem.1 (hm q hq)
      have h4 := hr k hk
      rw [aL_at hk, aL_at h0, e] at h4
      have h5 := (List.pairwise_cons.1 hnd).1 q.1 (List.mem_map_of_mem hq)
      exact bef_of (hn.inn h0m) (hn.inn (hm q hq)) h4 h5 H.W (hn _ h0m).2 (hn _ (hm q hq)).2
theorem Off.done {l out : List Int} {h : List Co} (o : Off H l out h) (hl : l.Pairwise (· < ·)) (h0 : h.length = 0) : out = rnk H.W l := by
  have e : h = [] := List.eq_nil_of_length_eq_zero h0
  subst e
  exact rnk_one H.W hl (by have := o.p; simpa using this) o.s
end Go.Proofs.YtdbeoloonoodkaaDoor.Ih
