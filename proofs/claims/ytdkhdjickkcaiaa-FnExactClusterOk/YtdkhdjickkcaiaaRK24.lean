/-
  The specification's shelf of what is recent.
  The program's checks of traces; the library's Index and Contains over numbers.
  The program's counts and changes, by contract.
-/
import Derived.Test.YtdkhdjickkcaiaaRK07
import Derived.Deep.DeepCutAuto
import Derived.Lib.QuietBelow
import Derived.Test.YtdkhdjickkcaiaaRK23
namespace Go.Proofs.Ytdkhdjickkcaiaa
open Go.RowKit Go.Sort Rom
set_option linter.unusedVariables false
set_option linter.unusedSimpArgs false

theorem mem_next {S : List Int} {j : Nat} {x : Int} (h : j < S.length) : decide (x ∈ S.take (j + 1)) = (decide (x ∈ S.take j) || decide (S[j] = x)) := by
  rw [List.take_succ_eq_append_getElem h]
  by_cases h1 : x ∈ S.take j
  · rw [decide_eq_true h1, decide_eq_true (List.mem_append.2 (.inl h1))]; rfl
  · by_cases h2 : S[j] = x
    · rw [decide_eq_false h1, decide_eq_true h2, decide_eq_true (List.mem_append.2 (.inr (List.mem_singleton.2 h2.symm)))]; rfl
    · have h3 : ¬ x ∈ S.take j ++ [S[j]] := fun hm => by
        rcases List.mem_append.1 hm with e | e
        · exact h1 e
        · exact h2 (List.mem_singleton.1 e).symm
      rw [decide_eq_false h1, decide_eq_false h2, decide_eq_false h3]; rfl
end Go.Proofs.Ytdkhdjickkcaiaa
namespace Go.Proofs.Ytdkhdjickkcaiaa
open Go.RowKit Go.Sort Rom
set_option linter.unusedVariables false
set_option linter.unusedSimpArgs false

def idxA (l : List Int) (x : Int) : Int := if x ∈ l then (l.idxOf x : Int) else -1
theorem idx_at {x : Int} : ∀ (l : List Int) (k : Nat) (h : k < l.length), l[k] = x → x ∉ l.take k → l.idxOf x = k
  | [], k, h, _, _ => by simp at h
  | y :: l, 0, h, e, _ => by
    have e' : y = x := e
    rw [e', List.idxOf_cons_self]
  | y :: l, k + 1, h, e, hn => by
    have hy : y ≠ x := fun e2 => hn (by rw [List.take_succ_cons, e2]; exact List.mem_cons_self ..)
    rw [idx_ne l hy, idx_at l k (by simpa using h) (by simpa using e) (fun hm => hn (by rw [List.take_succ_cons]; exact List.mem_cons_of_mem _ hm))]
theorem idxA_at {l : List Int} {x : Int} {k : Nat} (h : k < l.length) (e : l[k] = x) (hn : x ∉ l.take k) : idxA l x = (k : Int) := by
  unfold idxA
  rw [if_pos (by rw [← e]; exact List.getElem_mem h), idx_at l k h e hn]
theorem idxA_no {l : List Int} {x : Int} (h : x ∉ l) : idxA l x = -1 := by unfold idxA; rw [if_neg h]
theorem idxA_in {l : List Int} {x : Int} (h : x ∈ l) : idxA l x = (l.idxOf x : Int) ∧ l.idxOf x < l.length := by unfold idxA; rw [if_pos h]; exact ⟨rfl, List.idxOf_lt_length_of_mem h⟩
theorem idxN (v : Value) (l : List Int) (x : Int) (w : World) (h : Sls intE w v l) :
    Calls Try.prog 89 #[v, .int .i64 x] w fun e w' => e = .returned (.int .i64 (idxA l x)) ∧ w = w' := by
  obtain ⟨a, cap, rfl, h1, h2, h3⟩ := h.one
  unfold maxLen at h2
  clear h
  go_enter Try.func89, Try.ntmps89
  go_wp2
  go_loop [8] (fun i => ∃ k : Nat, k ≤ l.length ∧ i = .int .i64 k ∧ Hid (x ∉ l.take k)) (fun i => l.length - (intOf i).toNat)
  case atStart => exact ⟨0, Nat.zero_le _, rfl, (show Hid _ from (by simp : x ∉ l.take 0))⟩
  case round =>
    obtain ⟨k, hk, rfl, hno⟩ := hrel
    by_cases hlt : k < l.length
    · obtain ⟨g, o, rfl, hg, hc⟩ := h3 (by omega)
      have c1 := hc k hlt
      have HA := fun e => idxA_at hlt e hno.out
      have HN : Hid (x ∉ l.take k ++ [l[k]] → x ∉ l.take (k + 1)) := by
        show _ → _
        rw [List.take_succ_eq_append_getElem hlt]
        exact id
      generalize l[k] = y at c1 HA HN
      by_cases e : y = x
      · have HE : Hid ((k : Int) = idxA l x) := (HA e).symm
        subst e
        clear HA HN hc h3
        go_wp2
        go_ret
        exact ⟨congrArg (fun b => Ending.returned (.int .i64 b)) HE.out, rfl⟩
      · have e1 : (x == y) = false := by simpa using fun e2 : x = y => e e2.symm
        have HM : Hid (x ∉ l.take (k + 1)) := HN.out (fun hm => by
          rcases List.mem_append.1 hm with q | q
          · exact hno.out q
          · exact e (List.mem_singleton.1 q).symm)
        clear HA HN hc h3
        go_wp2
        go_round
        case rel => exact ⟨k + 1, by omega, by go_num, HM⟩
        case measure => simp [intOf]; omega
    · obtain rfl : k = l.length := by omega
      have HE : Hid (-1 = idxA l x) := by
        have := hno.out
        rw [List.take_of_length_le (Nat.le_refl _)] at this
        exact (idxA_no this).symm
      go_wp2
      go_ret
      exact ⟨congrArg (fun b => Ending.returned (.int .i64 b)) HE.out, rfl⟩
theorem conN (v : Value) (l : List Int) (x : Int) (w : World) (h : Sls intE w v l) :
    Calls Try.prog 81 #[v, .int .i64 x] w fun e w' => e = .returned (.bool (decide (x ∈ l))) ∧ w = w' := by
  have hI := idxN v l x w h
  obtain ⟨a, cap, rfl, _⟩ := h.one
  clear h
  by_cases hm : x ∈ l
  · rw [(idxA_in hm).1] at hI
    rw [decide_eq_true hm]
    go_enter Try.func81, Try.ntmps81
    go_wp2_with (go_at_call 89; refine hI.mono ?_; rintro e w' ⟨rfl, rfl⟩)
    go_ret
    exact ⟨rfl, rfl⟩
  · rw [idxA_no hm] at hI
    rw [decide_eq_false hm]
    go_enter Try.func81, Try.ntmps81
    go_wp2_with (go_at_call 89; refine hI.mono ?_; rintro e w' ⟨rfl, rfl⟩)
    go_ret
    exact ⟨rfl, rfl⟩
end Go.Proofs.Ytdkhdjickkcaiaa
namespace Go.Proofs.Ytdkhdjickkcaiaa.Rl
open Go.RowKit Go.Sort Pg
set_option linter.unusedVariables false
set_option linter.unusedSimpArgs false

theorem all_in {P : Int → Prop} {l : List Int} {k : Nat} (hk : k < l.length) (h : ∀ x ∈ l.take k, P x) (hx : P l[k]) : ∀ x ∈ l.take (k + 1), P x := fun x hx' => by
  rw [List.take_succ_eq_append_getElem hk] at hx'
  rcases List.mem_append.1 hx' with h1 | h1
  · exact h x h1
  · rw [List.mem_singleton.1 h1]; exact hx
theorem RpB.cells {w : World} {b : Nat} {r : Rp} {u : Rv} (h : RpB w b r u) : w.cell? ⟨b, 0, none⟩ = some (.int .i64 r.id) ∧ w.cell? ⟨b, 1, none⟩ = some (.int .i64 r.p) ∧ w.cell? ⟨b, 2, none⟩ = some (.int .i64 r.v) ∧ w.cell? ⟨b, 3, none⟩ = some (.bool r.n) ∧ w.cell? ⟨b, 4, none⟩ = some (.int .i64 r.la) ∧ w.cell? ⟨b, 5, none⟩ = some u.l ∧ w.cell? ⟨b, 6, none⟩ = some (.int .i64 r.c) ∧ w.cell? ⟨b, 7, none⟩ = some u.ok ∧ w.cell? ⟨b, 8, none⟩ = some u.ch ∧ w.cell? ⟨b, 9, none⟩ = some u.te :=
  ⟨Bx.cell h 0, Bx.cell h 1, Bx.cell h 2, Bx.cell h 3, Bx.cell h 4, Bx.cell h 5, Bx.cell h 6, Bx.cell h 7, Bx.cell h 8, Bx.cell h 9⟩
set_option maxRecDepth 100000 in
set_option maxHeartbeats 4000000 in
theorem implOks17 (r : Rp) (u : Rv) (b : Nat) (w : World) (h : RpB w b r u) (hv : 0 ≤ r.v ∧ r.v ≤ 20000) (hp : pOk r.p) (hid : 0 ≤ r.id ∧ r.id < r.p) (hl : Sls txtE w u.l r.l) (ho : Sls intE w u.ok r.ok) (hlen : r.l.length ≤ 1048576) :
    Calls Try.prog 59 #[.pointer (some ⟨b, 0, none⟩)] w fun e w' => e = .returned (.bool (dB (OkP r))) ∧ Below w.heap.size w w' := by
  have jl := implLeads r u b w h hv hp
  have HF : Hid (¬ OkP r → ∀ b, b = false → Ending.returned (.bool b) = .returned (.bool (dB (OkP r)))) := (show _ → ∀ _, _ from fun h1 b h2 => by rw [h2, dB_no h1])
  have HE : Hid (∀ b, (OkP r ↔ b = true) → Ending.returned (.bool b) = .returned (.bool (dB (OkP r)))) := (show ∀ _, _ from fun b h1 => by rw [dB_iff h1])
  obtain ⟨la, lc, hvl⟩ := Sls.slen0 hl
  obtain ⟨oa, oc, hvo, o1, o2, o3⟩ := ho.one
  unfold maxLen at o2
  have HB : Hid (RpB w b r u) := h
  have O3 : Hid (0 < r.ok.length → ∃ g o, oa = some ⟨g, o, none⟩ ∧ g < w.heap.size ∧ ∀ j (hj : j < r.ok.length), w.cell? ⟨g, o + j, none⟩ = some (.int .i64 r.ok[j])) := o3
  have VL : Hid (u.l = .slice la r.l.length lc) := hvl
  have VO : Hid (u.ok = .slice oa r.ok.length oc) := hvo
  clear h hl ho hvl hvo o3
  by_cases hld : leads r
  · have HL : Hid (leads r) := hld
    rw [dB_yes hld] at jl
    clear hld
    go_enter Try.func59, Try.ntmps59
    go_wp2_with fail
    refine jl.mono ?_
    rintro e w1 ⟨rfl, hb⟩
    have B1 : Hid (Below w.heap.size w w1) := hb
    have HB1 : Hid (RpB w1 b r u) := HB.out.kept hb
    clear hb jl
    obtain ⟨c0, c1, c2, c3, c4, c5, c6, c7, c8, c9⟩ := HB1.out.cells
    rw [VL.out] at c5
    rw [VO.out] at c7
    clear c2 c3 c4 c6 c8 c9
    by_cases hn : (r.ok.length : Int) = r.p
    · have dn : ((r.ok.length : Int) != r.p) = false := by simpa using hn

      go_upto_region 3 with fail
      go_quiet (fail)
      have BN : Hid (Below w1.heap.size w1 (w1.drewN nq)) := (show Hid _ from ⟨rfl, rfl, rfl, Nat.le_refl _, fun _ _ => rfl⟩)
      generalize w1.drewN nq = w2 at BN ⊢
      have B2 : Hid (Below w.heap.size w w2) := (show Hid _ from B1.out.trans (BN.out.mono B1.out.size))
      have HB2 : Hid (RpB w2 b r u) := HB1.out.kept BN.out
      clear c0 c1 c5 c7 BN
      obtain ⟨c0, c1, c2, c3, c4, c5, c6, c7, c8, c9⟩ := HB2.out.cells
      rw [VL.out] at c5
      rw [VO.out] at c7
      clear c2 c3 c4 c6 c8 c9
      go_wp2_with fail
      go_loop [35] (fun i => ∃ k : Nat, k ≤ r.ok.length ∧ i = .int .i64 k ∧ Hid (∀ x ∈ r.ok.take k, 0 ≤ x ∧ x ≤ (r.l.length : Int))) (fun i => r.ok.length - (intOf i).toNat)
      case atStart => exact ⟨0, Nat.zero_le _, rfl, (show Hid _ from fun x hx => (by cases hx))⟩
      case round =>
        obtain ⟨k, hk, rfl, hall⟩ := hrel
        by_cases hlt : k < r.ok.length
        · obtain ⟨g, o, rfl, hg, hc⟩ := O3.out (by omega)
          have cx := (B2.out.cell (p := ⟨g, o + k, none⟩) hg).trans (hc k hlt)
          have HA : Hid (0 ≤ r.ok[k] ∧ r.ok[k] ≤ (r.l.length : Int) → ∀ x ∈ r.ok.take (k + 1), 0 ≤ x ∧ x ≤ (r.l.length : Int)) := (show _ → _ from fun hx => all_in hlt hall.out hx)
          have HN : Hid (¬ (0 ≤ r.ok[k] ∧ r.ok[k] ≤ (r.l.length : Int)) → ¬ OkP r) := (show _ → ¬ _ from fun hx hok => hx ((hok.1 HL.out).2.2 _ (List.getElem_mem hlt)))
          have hki : (k : Int) < (r.ok.length : Int) := by omega
          generalize r.ok[k] = x at cx HA HN
          clear hc
          by_cases d1 : x < 0
          · go_wp2
            go_ret
            exact ⟨HF.out (HN.out (by omega)) _ rfl, B2.out⟩
          by_cases d2 : (r.l.length : Int) < x
          · go_wp2
            go_ret
            exact ⟨HF.out (HN.out (by omega)) _ rfl, B2.out⟩
          have HA2 : Hid _ := HA.out ⟨by omega, by omega⟩
          go_wp2
          go_round
          case rel => exact ⟨k + 1, by omega, by go_num, HA2⟩
          case measure => simp [intOf]; omega
        · obtain rfl : k = r.ok.length := by omega
          have hall2 : ∀ x ∈ r.ok, 0 ≤ x ∧ x ≤ (r.l.length : Int) := fun x hx => hall.out x (by rw [List.take_of_length_le (Nat.le_refl _)]; exact hx)
          have hin : r.id.toNat < r.ok.length := by omega
          obtain ⟨g, o, rfl, hg, hc⟩ := O3.out (by omega)
          have cx := (B2.out.cell (p := ⟨g, o + r.id.toNat, none⟩) hg).trans (hc _ hin)
          have HV : Hid (OkP r ↔ (r.ok[r.id.toNat] == (r.l.length : Int)) = true) := (show _ ↔ _ from ⟨fun h => by
            have := (h.1 HL.out).2.1
            rw [List.getElem?_eq_getElem hin] at this
            have := Option.some.inj this
            simpa using this, fun h => ⟨fun _ => ⟨hn, by rw [List.getElem?_eq_getElem hin]; congr 1; simpa using h, hall2⟩, fun hnl => absurd HL.out hnl⟩⟩)
          generalize r.ok[r.id.toNat] = x at cx HV
          have hid1 := hid.1
          have hid2 : r.id < (r.ok.length : Int) := by omega
          clear hc hall hall2

          go_upto_region 12 with fail
          go_quiet (fail)
          have BN : Hid (Below w2.heap.size w2 (w2.drewN nq)) := (show Hid _ from ⟨rfl, rfl, rfl, Nat.le_refl _, fun _ _ => rfl⟩)
          generalize w2.drewN nq = w3 at BN ⊢
          have B3 : Hid (Below w.heap.size w w3) := (show Hid _ from B2.out.trans (BN.out.mono B2.out.size))
          go_wp2
          go_ret
          exact ⟨HE.out _ HV.out, B3.out⟩
    · have dn : ((r.ok.length : Int) != r.p) = true := by simpa using hn
      have HV : Hid (¬ OkP r) := (show ¬ _ from fun h => hn (h.1 HL.out).1)

      go_upto_region 3 with fail
      go_quiet (fail)
      have BN : Hid (Below w1.heap.size w1 (w1.drewN nq)) := (show Hid _ from ⟨rfl, rfl, rfl, Nat.le_refl _, fun _ _ => rfl⟩)
      generalize w1.drewN nq = w2 at BN ⊢
      have B2 : Hid (Below w.heap.size w w2) := (show Hid _ from B1.out.trans (BN.out.mono B1.out.size))
      go_wp2
      go_ret
      exact ⟨HF.out HV.out _ rfl, B2.out⟩
  · have HV : Hid (OkP r ↔ ((r.ok.length : Int) == 0) = true) := (show _ ↔ _ from ⟨fun h => by rw [h.2 hld]; rfl, fun h => ⟨fun hl => absurd hl hld, fun _ => List.eq_nil_of_length_eq_zero (by have hz : (r.ok.length : Int) = 0 := (by simpa using h); omega)⟩⟩)
    rw [dB_no hld] at jl
    clear hld
    go_enter Try.func59, Try.ntmps59
    go_wp2_with fail
    refine jl.mono ?_
    rintro e w1 ⟨rfl, hb⟩
    have B1 : Hid (Below w.heap.size w w1) := hb
    have HB1 : Hid (RpB w1 b r u) := HB.out.kept hb
    clear hb jl
    obtain ⟨c0, c1, c2, c3, c4, c5, c6, c7, c8, c9⟩ := HB1.out.cells
    rw [VO.out] at c7
    clear c0 c1 c2 c3 c4 c5 c6 c8 c9
    go_wp2
    go_ret
    exact ⟨HE.out _ HV.out, B1.out⟩

/-- The last of those before the k-th, or -1. -/
def bef1 (l : List Int) (k : Nat) : Int := if k = 0 then -1 else l.getD (k - 1) (-1)
structure ChS1 (l : List Int) (p : Int) (k : Nat) : Prop where
  s : (l.take k).Pairwise (· < ·)
  b : ∀ x ∈ l.take k, 0 ≤ x ∧ x < p
  t : ∀ x ∈ l.take k, x ≤ bef1 l k
  g : -1 ≤ bef1 l k
theorem ChS1.zero (l : List Int) (p : Int) : ChS1 l p 0 := ⟨by simp, by simp, by simp, by simp [bef1]⟩
theorem ChS1.next {l : List Int} {p : Int} {k : Nat} (h : ChS1 l p k) (hk : k < l.length) (h1 : bef1 l k < l[k]) (h2 : 0 ≤ l[k] ∧ l[k] < p) : ChS1 l p (k + 1) := by
  have e : bef1 l (k + 1) = l[k] := by unfold bef1; rw [if_neg (by omega), Nat.add_sub_cancel, List.getD_eq_getElem?_getD, List.getElem?_eq_getElem hk]; rfl
  have h3 : ∀ x ∈ l.take k, x < l[k] := fun x hx => by have := h.t x hx; omega
  refine ⟨?_, all_in (P := fun x => 0 ≤ x ∧ x < p) hk h.b h2, ?_, by rw [e]; omega⟩
  · rw [List.take_succ_eq_append_getElem hk, List.pairwise_append]
    exact ⟨h.s, List.pairwise_singleton _ _, fun x hx y hy => by rw [List.mem_singleton.1 hy]; exact h3 x hx⟩
  · rw [e]
    exact all_in (P := fun x => x ≤ l[k]) hk (fun x hx => Int.le_of_lt (h3 x hx)) (Int.le_refl _)
theorem ChS1.bad {l : List Int} {p : Int} {k : Nat} (h : ChS1 l p k) (hk : k < l.length) (hb : ¬ (bef1 l k < l[k] ∧ (0 ≤ l[k] ∧ l[k] < p))) : ¬ (l.Pairwise (· < ·) ∧ ∀ x ∈ l, 0 ≤ x ∧ x < p) := by
  rintro ⟨h1, h2⟩
  refine hb ⟨?_, h2 _ (List.getElem_mem hk)⟩
  unfold bef1
  split
  · have := (h2 _ (List.getElem_mem hk)).1; omega
  · rename_i h0
    rw [List.getD_eq_getElem?_getD, List.getElem?_eq_getElem (by omega : k - 1 < l.length)]
    exact List.pairwise_iff_getElem.1 h1 (k - 1) k (by omega) hk (by omega)
theorem ChS1.all {l : List Int} {p : Int} (h : ChS1 l p l.length) : l.Pairwise (· < ·) ∧ ∀ x ∈ l, 0 ≤ x ∧ x < p := by
  have h1 := h.s
  have h2 := h.b
  rw [List.take_length] at h1 h2
  exact ⟨h1, h2⟩
theorem bef1_next {l : List Int} {k : Nat} (hk : k < l.length) : bef1 l (k + 1) = l[k] := by unfold bef1; rw [if_neg (by omega), Nat.add_sub_cancel, List.getD_eq_getElem?_getD, List.getElem?_eq_getElem hk]; rfl
set_option maxRecDepth 100000 in
set_option maxHeartbeats 4000000 in
theorem implCh (r : Rp) (u : Rv) (b : Nat) (w : World) (h : RpB w b r u) (hc : Sls intE w u.ch r.ch) :
    Calls Try.prog 60 #[.pointer (some ⟨b, 0, none⟩)] w fun e w' => e = .returned (.bool (dB (ChP r))) ∧ Below w.heap.size w w' := by
  have HF : Hid (¬ ChP r → ∀ b, b = false → Ending.returned (.bool b) = .returned (.bool (dB (ChP r)))) := (show _ → ∀ _, _ from fun h1 b h2 => by rw [h2, dB_no h1])
  have HE : Hid (∀ b, (ChP r ↔ b = true) → Ending.returned (.bool b) = .returned (.bool (dB (ChP r)))) := (show ∀ _, _ from fun b h1 => by rw [dB_iff h1])
  obtain ⟨oa, oc, hvo, o1, o2, o3⟩ := hc.one
  unfold maxLen at o2
  have HB : Hid (RpB w b r u) := h
  have HC : Hid (Sls intE w u.ch r.ch) := hc
  have O3 : Hid (0 < r.ch.length → ∃ g o, oa = some ⟨g, o, none⟩ ∧ g < w.heap.size ∧ ∀ j (hj : j < r.ch.length), w.cell? ⟨g, o + j, none⟩ = some (.int .i64 r.ch[j])) := o3
  obtain ⟨c0, c1, c2, c3, c4, c5, c6, c7, c8, c9⟩ := HB.out.cells
  have VO : Hid (u.ch = .slice oa r.ch.length oc) := hvo
  rw [hvo] at c8
  clear h hc o3 hvo c2 c4 c5 c6 c7 c9
  cases hn : r.n with
  | true =>
    rw [hn] at c3
    have HV : Hid (ChP r ↔ ((r.ch.length : Int) == 0) = true) := (show _ ↔ _ from ⟨fun h => by rw [h.1 hn]; rfl, fun h => ⟨fun _ => List.eq_nil_of_length_eq_zero (by have hz : (r.ch.length : Int) = 0 := (by simpa using h); omega), fun e => (by rw [hn] at e; cases e)⟩⟩)
    clear hn
    go_enter Try.func60, Try.ntmps60
    go_wp2
    go_ret
    exact ⟨HE.out _ HV.out, Below.refl _ _⟩
  | false =>
    rw [hn] at c3
    have HN : Hid (r.n = false) := hn
    clear hn
    go_enter Try.func60, Try.ntmps60
    go_wp2_with fail
    go_loop [3, 21] (fun m i => ∃ k : Nat, k ≤ r.ch.length ∧ i = .int .i64 k ∧ m = .int .i64 (bef1 r.ch k) ∧ Hid (ChS1 r.ch r.p k)) (fun _ i => r.ch.length - (intOf i).toNat)
    case atStart => exact ⟨0, Nat.zero_le _, rfl, rfl, (show Hid _ from ChS1.zero _ _)⟩
    case round =>
      obtain ⟨k, hk, rfl, rfl, hst⟩ := hrel
      by_cases hlt : k < r.ch.length
      · obtain ⟨g, o, rfl, hg, hcc⟩ := O3.out (by omega)
        have cx := hcc k hlt
        have HX := fun h1 h2 => hst.out.next hlt h1 h2
        have HNo : Hid (¬ (bef1 r.ch k < r.ch[k] ∧ (0 ≤ r.ch[k] ∧ r.ch[k] < r.p)) → ¬ ChP r) := (show _ → ¬ _ from fun hb hch => hst.out.bad hlt hb (hch.2 HN.out).2)
        have HXX : Hid (bef1 r.ch k < r.ch[k] → (0 ≤ r.ch[k] ∧ r.ch[k] < r.p) → ChS1 r.ch r.p (k + 1)) := HX
        have HBN : Hid (bef1 r.ch (k + 1) = r.ch[k]) := bef1_next hlt
        have hki : (k : Int) < (r.ch.length : Int) := by omega
        generalize r.ch[k] = x at cx HNo HXX HBN
        clear hcc HX
        by_cases d1 : x ≤ bef1 r.ch k
        · go_wp2
          go_ret
          exact ⟨HF.out (HNo.out (by omega)) _ rfl, Below.refl _ _⟩
        have j1 := fun W => implIp x r.p W
        cases bi : ipB x r.p with
        | false =>
          rw [bi] at j1
          have hnb := ipB_no bi
          clear bi
          go_wp2_with fail
          refine (j1 _).mono ?_
          rintro e w1 ⟨rfl, rfl⟩
          go_wp2
          go_ret
          exact ⟨HF.out (HNo.out (fun hh => hnb hh.2)) _ rfl, Below.refl _ _⟩
        | true =>
          rw [bi] at j1
          have HS : Hid _ := HXX.out (by omega) (ipB_yes bi)
          clear bi
          go_wp2_with fail
          refine (j1 _).mono ?_
          rintro e w1 ⟨rfl, rfl⟩
          go_wp2_with fail
          go_round
          case rel => exact ⟨k + 1, by omega, by go_num, by rw [HBN.out], HS⟩
          case measure => simp [intOf]; omega
      · obtain rfl : k = r.ch.length := by omega
        have ha := hst.out.all
        have HV : Hid (ChP r ↔ decide (r.id ∈ r.ch) = true) := (show _ ↔ _ from ⟨fun h => decide_eq_true (h.2 HN.out).1, fun h => ⟨fun e => (by have := HN.out; rw [this] at e; cases e), fun _ => ⟨of_decide_eq_true h, ha.1, ha.2⟩⟩⟩)
        have jc := fun W (hW : Below w.heap.size w W) => conN u.ch r.ch r.id W (HC.out.kept hW)
        rw [VO.out] at jc
        have j1 : ∀ d os, Calls Try.prog 81 #[.slice oa r.ch.length oc, .int .i64 r.id] (grow (redrawn w d) os) fun e w'' => e = .returned (.bool (decide (r.id ∈ r.ch))) ∧ ∃ p : Regrown, w'' = grow (redrawn w p.d) p.os := fun d os => Calls.regrown_of ((jc _ (below_regrown w d os)).mono fun e w' ⟨h1, h2⟩ => ⟨h1, h2 ▸ Below.refl _ _⟩)
        generalize decide (r.id ∈ r.ch) = B at j1 HV
        have k0 := cell_regrown c0
        have k8 := cell_regrown c8
        clear c0 c1 c3 c8 jc ha

        go_upto_region 11 with fail
        refine wp_region_quiet_below (by kernel_rfl) (by kernel_rfl) ?_
        repeat (go_big_quiet_step (first | (with_reducible exact j1 _ _)))
        refine wpQuiet_nil ?_
        intro _ hw'
        obtain ⟨⟨dq, osq⟩, hw''⟩ := hw'
        subst hw''
        have BN : Hid (Below w.heap.size w (grow (redrawn w dq) osq)) := (show Hid _ from below_regrown w dq osq)
        generalize grow (redrawn w dq) osq = w3 at BN ⊢
        have B3 : Hid (Below w.heap.size w w3) := BN
        go_wp2
        go_ret
        exact ⟨HE.out _ HV.out, B3.out⟩
end Go.Proofs.Ytdkhdjickkcaiaa.Rl
