/-
  The specification's Stop.
  What stays true of replicas, whatever they receive.
  How great the replicas are that both sides answer.
-/
import Derived.Test.YtdahfhkeeemdiaaGreatS37
import Derived.Test.YtdahfhkeeemdiaaGreatS10
import Derived.Test.YtdahfhkeeemdiaaGreatS36
import Derived.Test.YtdahfhkeeemdiaaGreatS32
namespace Go.Proofs.YtdahfhkeeemdiaaGreat.Rl
open Go.RowKit Go.Sort Go.Shelf
set_option linter.unusedVariables false
set_option linter.unusedSimpArgs false

set_option maxRecDepth 100000 in
set_option maxHeartbeats 8000000 in
theorem specStopR (r : Rp) (u : Rv) (w : World) (h : RpGot w u r) (hf : Fit r) : Calls Tryz.prog 25 #[rpA r u] w fun e w' => RpAns (stpA r) w e w' := by
  obtain ⟨la, lc, oa, oc, ca, cc, ta, tc, T, rfl⟩ := h.form
  obtain ⟨w1, hw1⟩ : ∃ w1, w1 = (w.alloc (.cells #[.int .i64 r.id, .int .i64 r.p, .int .i64 r.v, .bool r.n, .int .i64 r.la, .slice la r.l.length lc, .int .i64 r.c, .slice oa r.ok.length oc, .slice ca r.ch.length cc, .slice ta r.te.length tc] 28)).alloc (.cells #[.int .i64 0, .int .i64 0, .int .i64 0, .bool false, .int .i64 0, .slice none 0 0, .int .i64 0, .slice none 0 0, .slice none 0 0, .slice none 0 0] 28) := ⟨_, rfl⟩
  have XB : Hid (Bx w1 w.heap.size 28 #[.int .i64 r.id, .int .i64 r.p, .int .i64 r.v, .bool r.n, .int .i64 r.la, .slice la r.l.length lc, .int .i64 r.c, .slice oa r.ok.length oc, .slice ca r.ch.length cc, .slice ta r.te.length tc]) := (show Hid _ from by rw [hw1]; exact (Bx.new _ _ _).alloc _)
  have ZB : Hid (Bx w1 (w.heap.size + 1) 28 zR) := (show Hid _ from by rw [hw1]; exact Bx.at _ _ (by simp))
  have B1 : Hid (Below w.heap.size w w1) := (show Hid _ from by rw [hw1]; exact ((Below.refl _ w).alloc (Nat.le_refl _) _).alloc (by simp) _)
  have S1 : Hid (w1.heap.size = w.heap.size + 2) := (show _ = _ by rw [hw1]; simp)
  have HG : Hid (RpGot w ⟨.slice la r.l.length lc, .slice oa r.ok.length oc, .slice ca r.ch.length cc, .slice ta r.te.length tc, T⟩ r) := h
  have jo := fun W hW => specRok r _ W (HG.out.kept hW) hf
  have jn := fun W hW (hr : RpOk r) => specStpM r _ W (HG.out.kept hW) hr hf
  unfold rpA at *
  simp only at jo jn ⊢
  clear h hf
  go_enter Tryz.func25, Tryz.ntmps25
  go_upto_region 1 with fail
  rw [← hw1]
  clear hw1
  go_wp2_with (refine wpList_ldR rfl (.tmp 1) rfl w.heap.size rfl XB.out rfl ?_)
  refine (jo _ B1.out).mono ?_
  rintro e w2 ⟨rfl, hb⟩
  have XB2 : Hid (Bx w2 w.heap.size 28 #[.int .i64 r.id, .int .i64 r.p, .int .i64 r.v, .bool r.n, .int .i64 r.la, .slice la r.l.length lc, .int .i64 r.c, .slice oa r.ok.length oc, .slice ca r.ch.length cc, .slice ta r.te.length tc]) := (show Hid _ from XB.out.kept hb)
  have ZB2 : Hid (Bx w2 (w.heap.size + 1) 28 zR) := (show Hid _ from ZB.out.kept hb)
  have B2 : Hid (Below w.heap.size w w2) := (show Hid _ from B1.out.trans (hb.mono B1.out.size))
  have S2 : Hid (w.heap.size + 2 ≤ w2.heap.size) := (show _ ≤ _ by have := hb.size; have := S1.out; omega)
  clear hb jo XB ZB B1 S1
  cases hr : dB (RpOk r) with
  | false =>
    have HS : Hid (stpA r = noRp) := (show _ = _ by unfold stpA; exact if_neg (dB_not hr))
    go_wp2_with (refine wpList_stR rfl rfl (.tmp 2) (.tmp 6) rfl (w.heap.size + 1) zR rfl rfl ZB2.out rfl rfl zR_one ?_; intro w3 hz3 hc3)
    have B3 : Hid (Below w.heap.size w w3) := (show Hid _ from hc3.below B2.out B2.out.size (fun k hk => by omega))
    refine bodyPost_ret (v := .agg zR) (results_cell_row (p := 2) (ty := 28) rfl _ _ (w.heap.size + 1) 28 zR (0, 0) _ rfl hz3 Tryz.underlying28 rfl (by rw [Tryz.rszR]; rfl)) rfl ?_
    exact RpAns.no HS.out B3.out
  | true =>
    have HS : Hid (stpA r = stpF r) := (show _ = _ by unfold stpA; exact if_pos (dB_is hr))
    have jn2 := jn w2 B2.out (dB_is hr)
    clear jn hr
    go_wp2_with (refine wpList_ldR rfl (.tmp 1) rfl w.heap.size rfl XB2.out rfl ?_)
    refine jn2.mono ?_
    rintro e w3 ⟨u3, rfl, h3, a3, b3⟩
    have ZB3 : Hid (Bx w3 (w.heap.size + 1) 28 zR) := (show Hid _ from ZB2.out.kept b3)
    have B3 : Hid (Below w.heap.size w w3) := (show Hid _ from B2.out.trans (b3.mono B2.out.size))
    have H3 : Hid (RpHas w3 w2.heap.size u3 (stpF r)) := h3
    clear h3 b3 jn2 XB2 ZB2 B2
    unfold rpA
    go_wp2_with (refine wpList_stR rfl rfl (.tmp 2) (.tmp 8) rfl (w.heap.size + 1) (rpC (stpF r) u3) rfl rfl ZB3.out rfl rfl (rpC_one H3.out.got) ?_; intro w5 hz5 hc5)
    have B5 : Hid (Below w.heap.size w w5) := (show Hid _ from hc5.below B3.out B3.out.size (fun k hk => by omega))
    have HH : Hid (RpHas w5 w2.heap.size u3 (stpF r)) := (show Hid _ from H3.out.off (fun v hv k hk => hc5.block k (H3.out.under v hv k hk) (by have := H3.out.from v hv k hk; have := S2.out; omega)))
    refine bodyPost_ret (v := .agg (rpC (stpF r) u3)) (results_cell_row (p := 2) (ty := 28) rfl _ _ (w.heap.size + 1) 28 _ (0, 0) _ rfl hz5 Tryz.underlying28 rfl (by rw [Tryz.rszR]; rfl)) rfl ?_
    rw [HS.out]
    exact ⟨u3, rfl, HH.out.low (by have := S2.out; omega), a3, B5.out⟩
end Go.Proofs.YtdahfhkeeemdiaaGreat.Rl
namespace Go.Proofs.YtdahfhkeeemdiaaGreat.Rl
open Pg
set_option linter.unusedVariables false
set_option linter.unusedSimpArgs false

/-- One that leads, ahead of its counting. -/
structure Ld (r : Rp) : Prop where
  p : r.p = 1 ∨ r.p = 3 ∨ r.p = 5
  id : 0 ≤ r.id ∧ r.id < r.p
  v : 0 ≤ r.v ∧ r.v ≤ 10000
  l : logB r.l = true
  c : 0 ≤ r.c ∧ r.c ≤ (r.l.length : Int)
  la : r.la = r.v
  n : r.n = true
  ch : r.ch = []
  te : r.te = []
  m : mine r
  ok : (r.ok.length : Int) = r.p
  ok1 : ∀ x ∈ r.ok, 0 ≤ x ∧ x ≤ (r.l.length : Int)
theorem Ld.cntd {r : Rp} (h : Ld r) : RpOk (cntd r) ∧ r.c ≤ (cntd r).c := by
  have hb := cmF_bd (r.ok.set r.id.toNat (r.l.length : Int)) r.p r.c r.l.length h.c.2
  have hid := h.id
  have hok := h.ok
  refine ⟨⟨h.p, h.id, h.v, h.l, ⟨?_, hb.2⟩, ⟨?_, ?_⟩, ⟨fun _ => h.la, fun _ => h.n⟩, fun _ => ⟨h.ch, h.te⟩, fun _ _ => ⟨?_, ?_, ?_⟩, fun hh => absurd ⟨h.n, h.m⟩ hh, fun hh => ?_, fun hh => ?_, fun hh => ?_⟩, hb.1⟩
  · show 0 ≤ cmF _ _ _ _
    have := h.c.1
    omega
  · show 0 ≤ r.la
    rw [h.la]; exact h.v.1
  · show r.la ≤ r.v
    rw [h.la]; exact Int.le_refl _
  · show (((r.ok.set r.id.toNat (r.l.length : Int)).length : Nat) : Int) = r.p
    rw [List.length_set]; exact h.ok
  · show (r.ok.set r.id.toNat (r.l.length : Int))[r.id.toNat]? = some _
    rw [List.getElem?_set_self (by omega)]
    rfl
  · intro x hx
    rcases List.mem_or_eq_of_mem_set hx with hx | hx
    · exact h.ok1 x hx
    · rw [hx]; show 0 ≤ (r.l.length : Int) ∧ (r.l.length : Int) ≤ (r.l.length : Int); omega
  · have := h.n
    exact absurd (show r.n = false from hh) (by rw [this]; simp)
  · have := h.n
    exact absurd (show r.n = false from hh) (by rw [this]; simp)
  · have := h.n
    exact absurd (show r.n = false from hh) (by rw [this]; simp)
theorem RpOk.ld {r : Rp} (h : RpOk r) (hl : leads r) : Ld r :=
  ⟨h.p, h.id, h.v, h.l, h.c, h.n.1 hl.1, hl.1, (h.ch0 hl.1).1, (h.ch0 hl.1).2, hl.2, (h.ok1 hl.1 hl.2).1, (h.ok1 hl.1 hl.2).2.2⟩
/-- What is kept from r to x. -/
structure Kp (r x : Rp) : Prop where
  ok : RpOk x
  id : x.id = r.id
  p : x.p = r.p
  v : r.v ≤ x.v
  la : r.la ≤ x.la
  c : r.c ≤ x.c
  l : r.l.take r.c.toNat <+: x.l
theorem Kp.refl {r : Rp} (h : RpOk r) : Kp r r := ⟨h, rfl, rfl, Int.le_refl _, Int.le_refl _, Int.le_refl _, List.take_prefix _ _⟩
theorem Kp.trans {r x y : Rp} (h : Kp r x) (k : Kp x y) : Kp r y := by
  refine ⟨k.ok, k.id.trans h.id, k.p.trans h.p, Int.le_trans h.v k.v, Int.le_trans h.la k.la, Int.le_trans h.c k.c, ?_⟩
  refine List.IsPrefix.trans (List.prefix_take_iff.2 ⟨h.l, ?_⟩) k.l
  have := h.c
  rw [List.length_take]
  omega
/-! ### What is sent -/
/-! ### Whatever is received -/
/-! ### Submitted, suspected, stopped -/
theorem stp_ok {r : Rp} (h : RpOk r) : RpOk (stpF r) ∧ (stpF r).l = r.l ∧ (stpF r).v = r.v ∧ (stpF r).la = r.la := by
  have hp := h.p
  have hc0 : 0 ≤ (0 : Int) ∧ (0 : Int) ≤ (r.l.length : Int) := ⟨Int.le_refl _, by omega⟩
  unfold stpF
  split
  · rename_i hl
    have hd := h.ld hl
    have hL : Ld ⟨r.id, r.p, r.v, true, r.la, r.l, 0, List.replicate r.p.toNat 0, [], []⟩ := ⟨hd.p, hd.id, hd.v, hd.l, hc0, hd.la, rfl, rfl, rfl, hd.m, by show ((List.length (List.replicate _ _) : Nat) : Int) = r.p; rw [List.length_replicate]; omega, fun x hx => by rw [(List.mem_replicate.1 hx).2]; exact hc0⟩
    exact ⟨hL.cntd.1, rfl, rfl, rfl⟩
  · rename_i hl
    split
    · rename_i hn
      have hm : ¬ mine r := fun hm => hl ⟨hn, hm⟩
      exact ⟨⟨h.p, h.id, h.v, h.l, hc0, h.la, ⟨fun _ => h.n.1 hn, fun _ => rfl⟩, fun _ => ⟨rfl, rfl⟩, fun _ e => absurd e hm, fun _ => rfl, fun e => (by cases e), fun e => (by cases e), fun e => (by cases e)⟩, rfl, rfl, rfl⟩
    · rename_i hn
      exact ⟨⟨h.p, h.id, h.v, h.l, hc0, h.la, ⟨fun e => (by cases e), fun e => absurd (h.n.2 e) hn⟩, fun e => (by cases e), fun e => (by cases e), fun _ => rfl, fun _ => ⟨List.mem_singleton.2 rfl, List.pairwise_singleton _ _, fun x hx => by rw [List.mem_singleton.1 hx]; exact h.id⟩, fun _ _ => rfl, fun _ => ⟨fun m hm => (by cases hm), List.Pairwise.nil⟩⟩, rfl, rfl, rfl⟩
end Go.Proofs.YtdahfhkeeemdiaaGreat.Rl
namespace Go.Proofs.YtdahfhkeeemdiaaGreat.Rl
open Go.RowKit Go.Sort Pg
set_option linter.unusedVariables false
set_option linter.unusedSimpArgs false

theorem rd_size {s : ByteArray} (h : rdB s = true) : s.size ≤ 300 := by
  obtain ⟨h1, h2⟩ := rd_ok h
  rw [← h2]
  unfold shoP
  split
  · decide
  · rename_i hk
    unfold pgOk at h1
    rw [if_neg hk] at h1
    have h3 := (Bool.and_eq_true_iff.1 h1).2
    have h4 : (rdP s).2.size ≤ 200 := by
      unfold txOk at h3
      simp at h3
      omega
    have h5 : (wrd (rdP s).1).size ≤ 10 := by
      unfold wrd
      split
      · decide
      · split <;> decide
    rw [ByteArray.size_append]
    omega
theorem logB_sm {l : List ByteArray} (h : logB l = true) : l.length ≤ 60 ∧ ∀ x ∈ l, x.size ≤ 300 := by
  unfold logB at h
  obtain ⟨h1, h2⟩ := Bool.and_eq_true_iff.1 h
  exact ⟨of_decide_eq_true h1, fun x hx => rd_size (List.all_eq_true.1 h2 x hx)⟩
theorem RpOk.te5 {r : Rp} (h : RpOk r) : r.te.length ≤ 5 ∧ ∀ m ∈ r.te, m.l.length ≤ 60 ∧ ∀ x ∈ m.l, x.size ≤ 300 := by
  cases hn : r.n with
  | true => rw [(h.ch0 hn).2]; exact ⟨Nat.zero_le _, fun m hm => nomatch hm⟩
  | false =>
    obtain ⟨h1, h2⟩ := h.te1 hn
    refine ⟨?_, fun m hm => logB_sm (h1 m hm).ok.l⟩
    have h3 := rising_len (r.te.map (·.f)) 0 r.p (List.pairwise_map.2 h2) (fun x hx => by
      obtain ⟨m, hm, rfl⟩ := List.mem_map.1 hx
      exact (h1 m hm).ok.f)
    rw [List.length_map] at h3
    rcases h.p with e | e | e <;> omega
theorem RpOk.fit {r : Rp} (h : RpOk r) : Fit r := by
  have h1 := logB_sm h.l
  have h2 := h.te5
  have h3 := h.ok5
  have h4 := h.ch5
  exact ⟨⟨by omega, fun x hx => by have := h1.2 x hx; omega⟩, by omega, by omega, ⟨by omega, fun m hm => ⟨by have := (h2.2 m hm).1; omega, fun x hx => by have := (h2.2 m hm).2 x hx; omega⟩⟩⟩
theorem sum_le_mul (l : List Nat) (k : Nat) (h : ∀ x ∈ l, x ≤ k) : l.sum ≤ l.length * k := by
  induction l with
  | nil => simp
  | cons a t ih =>
    have h1 := h a (List.mem_cons_self ..)
    have h2 := ih fun x hx => h x (List.mem_cons_of_mem _ hx)
    simp only [List.sum_cons, List.length_cons, Nat.succ_mul]
    omega
theorem RpOk.cR {r : Rp} (h : RpOk r) : 1 + cR r ≤ 50000000 := by
  have h1 := logB_sm h.l
  have h2 := h.te5
  have h3 := h.ok5
  have h4 := h.ch5
  have h5 := sum_le_mul (r.te.map fun m => m.l.length) 60 (fun x hx => by obtain ⟨m, hm, rfl⟩ := List.mem_map.1 hx; exact (h2.2 m hm).1)
  rw [List.length_map] at h5
  have h6 : r.te.length * 60 ≤ 5 * 60 := Nat.mul_le_mul_right _ h2.1
  unfold Rl.cR
  omega
theorem noRp_fit : Fit noRp ∧ 1 + cR noRp ≤ 50000000 := ⟨⟨⟨Nat.zero_le _, fun x hx => nomatch hx⟩, Nat.zero_le _, Nat.zero_le _, ⟨Nat.zero_le _, fun x hx => nomatch hx⟩⟩, by decide⟩
theorem stpA_fit (r : Rp) : Fit (stpA r) ∧ 1 + cR (stpA r) ≤ 50000000 := by
  by_cases h : RpOk r
  · have e : stpA r = stpF r := by unfold stpA; exact if_pos h
    rw [e]
    exact ⟨(stp_ok h).1.fit, (stp_ok h).1.cR⟩
  · have e : stpA r = noRp := by unfold stpA; exact if_neg h
    rw [e]
    exact noRp_fit
theorem RpAns.open {R : Rp} {w w' : World} {e : Ending} (h : RpAns R w e w') : ∃ pl0 ql0 po0 qo0 pc0 qc0 pt0 qt0 M0, e = .returned (.agg #[.int .i64 R.id, .int .i64 R.p, .int .i64 R.v, .bool R.n, .int .i64 R.la, .slice pl0 R.l.length ql0, .int .i64 R.c, .slice po0 R.ok.length qo0, .slice pc0 R.ch.length qc0, .slice pt0 R.te.length qt0]) ∧ RpHas w' w.heap.size ⟨.slice pl0 R.l.length ql0, .slice po0 R.ok.length qo0, .slice pc0 R.ch.length qc0, .slice pt0 R.te.length qt0, M0⟩ R ∧ RpAp ⟨.slice pl0 R.l.length ql0, .slice po0 R.ok.length qo0, .slice pc0 R.ch.length qc0, .slice pt0 R.te.length qt0, M0⟩ ∧ Below w.heap.size w w' := by
  obtain ⟨u, h1, h2, h3, h4⟩ := h
  obtain ⟨a, b, c, d, e, f, g, i, T, rfl⟩ := h2.got.form
  exact ⟨a, b, c, d, e, f, g, i, T, h1, h2, h3, h4⟩
end Go.Proofs.YtdahfhkeeemdiaaGreat.Rl
