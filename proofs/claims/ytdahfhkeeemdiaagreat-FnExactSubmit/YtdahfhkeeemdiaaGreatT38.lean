/-
  What stays true of replicas, whatever they receive.
  How great the replicas are that both sides answer.
  Regions that draw their order: slots of any numbers; operations that are guarded away.
-/
import Derived.Test.YtdahfhkeeemdiaaGreatT10
import Derived.Test.YtdahfhkeeemdiaaGreatT37
import Derived.Test.YtdahfhkeeemdiaaGreatT33
import Derived.Test.YtdahfhkeeemdiaaGreatT28
import Derived.Test.YtdahfhkeeemdiaaGreatT19
namespace Go.Proofs.YtdahfhkeeemdiaaGreat.Rl
open Pg
set_option linter.unusedVariables false
set_option linter.unusedSimpArgs false

theorem log_snoc {L : List ByteArray} {t : ByteArray} (h : logB L = true) (ht : rdB t = true) (hn : L.length ≠ 60) : logB (L ++ [t]) = true := by
  unfold logB at *
  rw [Bool.and_eq_true, decide_eq_true_eq] at *
  refine ⟨by rw [List.length_append]; simp; omega, ?_⟩
  rw [List.all_append, h.2]
  simp [ht]
/-- One that leads, ahead of its counting. -/
structure Ld (r : Rp) : Prop where
  p : r.p = 1 ∨ r.p = 3 ∨ r.p = 5
  id : 0 ≤ r.id ∧ r.id < r.p
  v : 0 ≤ r.v ∧ r.v ≤ 10000
  l : logB r.l = true
  c : 0 ≤ r.c ∧ r.c ≤ (r.l.length : Int)
  la : r.la = r.v
  n : r.n = true
  ch : r.ch = []
  te : r.te = []
  m : mine r
  ok : (r.ok.length : Int) = r.p
  ok1 : ∀ x ∈ r.ok, 0 ≤ x ∧ x ≤ (r.l.length : Int)
theorem Ld.cntd {r : Rp} (h : Ld r) : RpOk (cntd r) ∧ r.c ≤ (cntd r).c := by
  have hb := cmF_bd (r.ok.set r.id.toNat (r.l.length : Int)) r.p r.c r.l.length h.c.2
  have hid := h.id
  have hok := h.ok
  refine ⟨⟨h.p, h.id, h.v, h.l, ⟨?_, hb.2⟩, ⟨?_, ?_⟩, ⟨fun _ => h.la, fun _ => h.n⟩, fun _ => ⟨h.ch, h.te⟩, fun _ _ => ⟨?_, ?_, ?_⟩, fun hh => absurd ⟨h.n, h.m⟩ hh, fun hh => ?_, fun hh => ?_, fun hh => ?_⟩, hb.1⟩
  · show 0 ≤ cmF _ _ _ _
    have := h.c.1
    omega
  · show 0 ≤ r.la
    rw [h.la]; exact h.v.1
  · show r.la ≤ r.v
    rw [h.la]; exact Int.le_refl _
  · show (((r.ok.set r.id.toNat (r.l.length : Int)).length : Nat) : Int) = r.p
    rw [List.length_set]; exact h.ok
  · show (r.ok.set r.id.toNat (r.l.length : Int))[r.id.toNat]? = some _
    rw [List.getElem?_set_self (by omega)]
    rfl
  · intro x hx
    rcases List.mem_or_eq_of_mem_set hx with hx | hx
    · exact h.ok1 x hx
    · rw [hx]; show 0 ≤ (r.l.length : Int) ∧ (r.l.length : Int) ≤ (r.l.length : Int); omega
  · have := h.n
    exact absurd (show r.n = false from hh) (by rw [this]; simp)
  · have := h.n
    exact absurd (show r.n = false from hh) (by rw [this]; simp)
  · have := h.n
    exact absurd (show r.n = false from hh) (by rw [this]; simp)
theorem RpOk.ld {r : Rp} (h : RpOk r) (hl : leads r) : Ld r :=
  ⟨h.p, h.id, h.v, h.l, h.c, h.n.1 hl.1, hl.1, (h.ch0 hl.1).1, (h.ch0 hl.1).2, hl.2, (h.ok1 hl.1 hl.2).1, (h.ok1 hl.1 hl.2).2.2⟩
/-- What is kept from r to x. -/
structure Kp (r x : Rp) : Prop where
  ok : RpOk x
  id : x.id = r.id
  p : x.p = r.p
  v : r.v ≤ x.v
  la : r.la ≤ x.la
  c : r.c ≤ x.c
  l : r.l.take r.c.toNat <+: x.l
theorem Kp.refl {r : Rp} (h : RpOk r) : Kp r r := ⟨h, rfl, rfl, Int.le_refl _, Int.le_refl _, Int.le_refl _, List.take_prefix _ _⟩
theorem Kp.trans {r x y : Rp} (h : Kp r x) (k : Kp x y) : Kp r y := by
  refine ⟨k.ok, k.id.trans h.id, k.p.trans h.p, Int.le_trans h.v k.v, Int.le_trans h.la k.la, Int.le_trans h.c k.c, ?_⟩
  refine List.IsPrefix.trans (List.prefix_take_iff.2 ⟨h.l, ?_⟩) k.l
  have := h.c
  rw [List.length_take]
  omega
/-! ### What is sent -/
/-! ### Whatever is received -/
/-! ### Submitted, suspected, stopped -/
theorem sub_kp {r : Rp} {t : ByteArray} (h : RpOk r) : Kp r (subF r t).1 ∧ ((subF r t).2.2 = -1 ∧ (subF r t).1 = r ∨ leads r ∧ (subF r t).2.2 = ((r.l.length + 1 : Nat) : Int) ∧ (subF r t).1.l = r.l ++ [t]) := by
  unfold subF
  split
  · exact ⟨Kp.refl h, .inl ⟨rfl, rfl⟩⟩
  · rename_i hh
    have hl : leads r := Classical.byContradiction fun e => hh (.inl e)
    have ht : rdB t = true := Classical.byContradiction fun e => hh (.inr (.inl e))
    have hn : r.l.length ≠ 60 := fun e => hh (.inr (.inr e))
    have hd := h.ld hl
    have hL : Ld { r with l := r.l ++ [t] } := ⟨hd.p, hd.id, hd.v, log_snoc hd.l ht hn, ⟨hd.c.1, by have := hd.c.2; show r.c ≤ ((List.length (_ ++ _) : Nat) : Int); simp; omega⟩, hd.la, hd.n, hd.ch, hd.te, hd.m, hd.ok, fun x hx => by have := hd.ok1 x hx; show 0 ≤ x ∧ x ≤ ((List.length (_ ++ _) : Nat) : Int); simp; omega⟩
    obtain ⟨h5, h6⟩ := hL.cntd
    exact ⟨⟨h5, rfl, rfl, Int.le_refl _, Int.le_refl _, h6, (List.take_prefix _ _).trans (List.prefix_append _ _)⟩, .inr ⟨hl, rfl, rfl⟩⟩
end Go.Proofs.YtdahfhkeeemdiaaGreat.Rl
namespace Go.Proofs.YtdahfhkeeemdiaaGreat.Rl
open Go.RowKit Go.Sort Pg
set_option linter.unusedVariables false
set_option linter.unusedSimpArgs false

theorem rd_size {s : ByteArray} (h : rdB s = true) : s.size ≤ 300 := by
  obtain ⟨h1, h2⟩ := rd_ok h
  rw [← h2]
  unfold shoP
  split
  · decide
  · rename_i hk
    unfold pgOk at h1
    rw [if_neg hk] at h1
    have h3 := (Bool.and_eq_true_iff.1 h1).2
    have h4 : (rdP s).2.size ≤ 200 := by
      unfold txOk at h3
      simp at h3
      omega
    have h5 : (wrd (rdP s).1).size ≤ 10 := by
      unfold wrd
      split
      · decide
      · split <;> decide
    rw [ByteArray.size_append]
    omega
theorem logB_sm {l : List ByteArray} (h : logB l = true) : l.length ≤ 60 ∧ ∀ x ∈ l, x.size ≤ 300 := by
  unfold logB at h
  obtain ⟨h1, h2⟩ := Bool.and_eq_true_iff.1 h
  exact ⟨of_decide_eq_true h1, fun x hx => rd_size (List.all_eq_true.1 h2 x hx)⟩
theorem RpOk.te5 {r : Rp} (h : RpOk r) : r.te.length ≤ 5 ∧ ∀ m ∈ r.te, m.l.length ≤ 60 ∧ ∀ x ∈ m.l, x.size ≤ 300 := by
  cases hn : r.n with
  | true => rw [(h.ch0 hn).2]; exact ⟨Nat.zero_le _, fun m hm => nomatch hm⟩
  | false =>
    obtain ⟨h1, h2⟩ := h.te1 hn
    refine ⟨?_, fun m hm => logB_sm (h1 m hm).ok.l⟩
    have h3 := rising_len (r.te.map (·.f)) 0 r.p (List.pairwise_map.2 h2) (fun x hx => by
      obtain ⟨m, hm, rfl⟩ := List.mem_map.1 hx
      exact (h1 m hm).ok.f)
    rw [List.length_map] at h3
    rcases h.p with e | e | e <;> omega
theorem RpOk.fit {r : Rp} (h : RpOk r) : Fit r := by
  have h1 := logB_sm h.l
  have h2 := h.te5
  have h3 := h.ok5
  have h4 := h.ch5
  exact ⟨⟨by omega, fun x hx => by have := h1.2 x hx; omega⟩, by omega, by omega, ⟨by omega, fun m hm => ⟨by have := (h2.2 m hm).1; omega, fun x hx => by have := (h2.2 m hm).2 x hx; omega⟩⟩⟩
theorem sum_le_mul (l : List Nat) (k : Nat) (h : ∀ x ∈ l, x ≤ k) : l.sum ≤ l.length * k := by
  induction l with
  | nil => simp
  | cons a t ih =>
    have h1 := h a (List.mem_cons_self ..)
    have h2 := ih fun x hx => h x (List.mem_cons_of_mem _ hx)
    simp only [List.sum_cons, List.length_cons, Nat.succ_mul]
    omega
theorem RpOk.cR {r : Rp} (h : RpOk r) : 1 + cR r ≤ 50000000 := by
  have h1 := logB_sm h.l
  have h2 := h.te5
  have h3 := h.ok5
  have h4 := h.ch5
  have h5 := sum_le_mul (r.te.map fun m => m.l.length) 60 (fun x hx => by obtain ⟨m, hm, rfl⟩ := List.mem_map.1 hx; exact (h2.2 m hm).1)
  rw [List.length_map] at h5
  have h6 : r.te.length * 60 ≤ 5 * 60 := Nat.mul_le_mul_right _ h2.1
  unfold Rl.cR
  omega
theorem noRp_fit : Fit noRp ∧ 1 + cR noRp ≤ 50000000 := ⟨⟨⟨Nat.zero_le _, fun x hx => nomatch hx⟩, Nat.zero_le _, Nat.zero_le _, ⟨Nat.zero_le _, fun x hx => nomatch hx⟩⟩, by decide⟩
theorem RpAns.open {R : Rp} {w w' : World} {e : Ending} (h : RpAns R w e w') : ∃ pl0 ql0 po0 qo0 pc0 qc0 pt0 qt0 M0, e = .returned (.agg #[.int .i64 R.id, .int .i64 R.p, .int .i64 R.v, .bool R.n, .int .i64 R.la, .slice pl0 R.l.length ql0, .int .i64 R.c, .slice po0 R.ok.length qo0, .slice pc0 R.ch.length qc0, .slice pt0 R.te.length qt0]) ∧ RpHas w' w.heap.size ⟨.slice pl0 R.l.length ql0, .slice po0 R.ok.length qo0, .slice pc0 R.ch.length qc0, .slice pt0 R.te.length qt0, M0⟩ R ∧ RpAp ⟨.slice pl0 R.l.length ql0, .slice po0 R.ok.length qo0, .slice pc0 R.ch.length qc0, .slice pt0 R.te.length qt0, M0⟩ ∧ Below w.heap.size w w' := by
  obtain ⟨u, h1, h2, h3, h4⟩ := h
  obtain ⟨a, b, c, d, e, f, g, i, T, rfl⟩ := h2.got.form
  exact ⟨a, b, c, d, e, f, g, i, T, h1, h2, h3, h4⟩
end Go.Proofs.YtdahfhkeeemdiaaGreat.Rl
namespace Go.Proofs.YtdahfhkeeemdiaaGreat
open Go.RowKit Go.Sort
set_option linter.unusedVariables false

theorem slotsNe {L : List Nat} (h : L.Nodup) {i j n : Nat} (hn : n = L.length) (hi : i < n) (hj : j < n) (hne : j ≠ i) : L.getD j (j + 5000) ≠ L.getD i (i + 5000) := by
  subst hn
  rw [List.getD_eq_getElem?_getD, List.getD_eq_getElem?_getD, List.getElem?_eq_getElem hi, List.getElem?_eq_getElem hj]
  simp only [Option.getD_some]
  intro e
  exact hne ((List.getElem_inj h).1 e)
end Go.Proofs.YtdahfhkeeemdiaaGreat
