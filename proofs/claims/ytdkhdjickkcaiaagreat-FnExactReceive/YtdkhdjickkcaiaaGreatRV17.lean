/-
  The specification's shelf of what is recent.
  The program's checks of traces; the library's Index and Contains over numbers.
  The program's counts and changes, by contract.
  What tells are right; the program's ReplicaOk, by contract.
  A region that draws its order: its first n operations whichever way, by what each of them leaves; the others wait for them and come one behind the other.
  Calls as steps of a region that draws its order, also behind a guard.
-/
import Derived.Test.YtdkhdjickkcaiaaGreatRVS
import Derived.Test.YtdkhdjickkcaiaaGreatRV12
import Derived.Deep.DeepCutAuto
import Derived.Lib.QuietBelow
import Derived.Test.YtdkhdjickkcaiaaGreatRV16
import Derived.Test.YtdkhdjickkcaiaaGreatRows
import Derived.StillTail
import Derived.Deep.QuietTactic
import Derived.BigQuiet
set_option linter.unusedVariables false
set_option linter.unusedSimpArgs false
set_option maxRecDepth 100000
set_option maxHeartbeats 64000000
namespace Go.Proofs.YtdkhdjickkcaiaaGreat
open Go.RowKit Go.Sort Rom

theorem mem_next {S : List Int} {j : Nat} {x : Int} (h : j < S.length) : decide (x ∈ S.take (j + 1)) = (decide (x ∈ S.take j) || decide (S[j] = x)) := by
 rw [List.take_succ_eq_append_getElem h]
 by_cases h1 : x ∈ S.take j
 ·
  rw [decide_eq_true h1, decide_eq_true (List.mem_append.2 (.inl h1))]; rfl
 ·
  by_cases h2 : S[j] = x
  ·
   rw [decide_eq_false h1, decide_eq_true h2, decide_eq_true (List.mem_append.2 (.inr (List.mem_singleton.2 h2.symm)))]; rfl
  ·
   have h3 : ¬ x ∈ S.take j ++ [S[j]] := fun hm => by
    rcases List.mem_append.1 hm with e | e
    ·
     exact h1 e
    ·
     exact h2 (List.mem_singleton.1 e).symm
   rw [decide_eq_false h1, decide_eq_false h2, decide_eq_false h3]; rfl
theorem ownsN_some {w : World} {B n sc : Nat} {sa : Option Addr} {S : List Int} (h : OwnsN w B (.slice sa n sc) S) (h0 : 0 < S.length) : ∃ sg, sa = some ⟨sg, 0, none⟩ := by
 rcases h.2 with ⟨_, e⟩ | ⟨g, cap, cur, e, _⟩
 ·
  omega
 ·
  injection e with e1 _ _
  exact ⟨g, e1⟩
open Go.RowKit Go.Sort Rom

def idxA (l : List Int) (x : Int) : Int := if x ∈ l then (l.idxOf x : Int) else -1
theorem idx_at {x : Int} : ∀ (l : List Int) (k : Nat) (h : k < l.length), l[k] = x → x ∉ l.take k → l.idxOf x = k
 | [], k, h, _, _ => by simp at h
 | y :: l, 0, h, e, _ => by
  have e' : y = x := e
  rw [e', List.idxOf_cons_self]
 | y :: l, k + 1, h, e, hn => by
  have hy : y ≠ x := fun e2 => hn (by rw [List.take_succ_cons, e2]; exact List.mem_cons_self ..)
  rw [idx_ne l hy, idx_at l k (by simpa using h) (by simpa using e) (fun hm => hn (by rw [List.take_succ_cons]; exact List.mem_cons_of_mem _ hm))]
theorem idxA_at {l : List Int} {x : Int} {k : Nat} (h : k < l.length) (e : l[k] = x) (hn : x ∉ l.take k) : idxA l x = (k : Int) := by
 unfold idxA
 rw [if_pos (by rw [← e]; exact List.getElem_mem h), idx_at l k h e hn]
theorem idxA_no {l : List Int} {x : Int} (h : x ∉ l) : idxA l x = -1 := by unfold idxA; rw [if_neg h]
theorem idxA_in {l : List Int} {x : Int} (h : x ∈ l) : idxA l x = (l.idxOf x : Int) ∧ l.idxOf x < l.length := by unfold idxA; rw [if_pos h]; exact ⟨rfl, List.idxOf_lt_length_of_mem h⟩
theorem idxN (v : Value) (l : List Int) (x : Int) (w : World) (h : Sls intE w v l) :
  Calls Tryz.prog 143 #[v, .int .i64 x] w fun e w' => e = .returned (.int .i64 (idxA l x)) ∧ w = w' := by
 obtain ⟨a, cap, rfl, h1, h2, h3⟩ := h.one
 unfold maxLen at h2
 clear h
 go_enter Tryz.func143, Tryz.ntmps143
 go_wp2
 go_loop [8] (fun i => ∃ k : Nat, k ≤ l.length ∧ i = .int .i64 k ∧ Hid (x ∉ l.take k)) (fun i => l.length - (intOf i).toNat)
 case atStart => exact ⟨0, Nat.zero_le _, rfl, (show Hid _ from (by simp : x ∉ l.take 0))⟩
 case round =>
  obtain ⟨k, hk, rfl, hno⟩ := hrel
  by_cases hlt : k < l.length
  ·
   obtain ⟨g, o, rfl, hg, hc⟩ := h3 (by omega)
   have c1 := hc k hlt
   have HA := fun e => idxA_at hlt e hno.out
   have HN : Hid (x ∉ l.take k ++ [l[k]] → x ∉ l.take (k + 1)) := by
    show _ → _
    rw [List.take_succ_eq_append_getElem hlt]
    exact id
   generalize l[k] = y at c1 HA HN
   by_cases e : y = x
   ·
    have HE : Hid ((k : Int) = idxA l x) := (HA e).symm
    subst e
    clear HA HN hc h3
    go_wp2
    go_ret
    exact ⟨congrArg (fun b => Ending.returned (.int .i64 b)) HE.out, rfl⟩
   ·
    have e1 : (x == y) = false := by simpa using fun e2 : x = y => e e2.symm
    have HM : Hid (x ∉ l.take (k + 1)) := HN.out (fun hm => by
     rcases List.mem_append.1 hm with q | q
     ·
      exact hno.out q
     ·
      exact e (List.mem_singleton.1 q).symm)
    clear HA HN hc h3
    go_wp2
    go_round
    case rel => exact ⟨k + 1, by omega, by go_num, HM⟩
    case measure => simp [intOf]; omega
  ·
   obtain rfl : k = l.length := by omega
   have HE : Hid (-1 = idxA l x) := by
    have := hno.out
    rw [List.take_of_length_le (Nat.le_refl _)] at this
    exact (idxA_no this).symm
   go_wp2
   go_ret
   exact ⟨congrArg (fun b => Ending.returned (.int .i64 b)) HE.out, rfl⟩
theorem conN (v : Value) (l : List Int) (x : Int) (w : World) (h : Sls intE w v l) :
  Calls Tryz.prog 115 #[v, .int .i64 x] w fun e w' => e = .returned (.bool (decide (x ∈ l))) ∧ w = w' := by
 have hI := idxN v l x w h
 obtain ⟨a, cap, rfl, _⟩ := h.one
 clear h
 by_cases hm : x ∈ l
 ·
  rw [(idxA_in hm).1] at hI
  rw [decide_eq_true hm]
  go_enter Tryz.func115, Tryz.ntmps115
  go_wp2_with (go_at_call 143; refine hI.mono ?_; rintro e w' ⟨rfl, rfl⟩)
  go_ret
  exact ⟨rfl, rfl⟩
 ·
  rw [idxA_no hm] at hI
  rw [decide_eq_false hm]
  go_enter Tryz.func115, Tryz.ntmps115
  go_wp2_with (go_at_call 143; refine hI.mono ?_; rintro e w' ⟨rfl, rfl⟩)
  go_ret
  exact ⟨rfl, rfl⟩
end Go.Proofs.YtdkhdjickkcaiaaGreat
namespace Go.Proofs.YtdkhdjickkcaiaaGreat.Rl
open Go.RowKit Go.Sort Pg

theorem all_in {P : Int → Prop} {l : List Int} {k : Nat} (hk : k < l.length) (h : ∀ x ∈ l.take k, P x) (hx : P l[k]) : ∀ x ∈ l.take (k + 1), P x := fun x hx' => by
 rw [List.take_succ_eq_append_getElem hk] at hx'
 rcases List.mem_append.1 hx' with h1 | h1
 ·
  exact h x h1
 ·
  rw [List.mem_singleton.1 h1]; exact hx
theorem RpB.cells {w : World} {b : Nat} {r : Rp} {u : Rv} (h : RpB w b r u) : w.cell? ⟨b, 0, none⟩ = some (.int .i64 r.id) ∧ w.cell? ⟨b, 1, none⟩ = some (.int .i64 r.p) ∧ w.cell? ⟨b, 2, none⟩ = some (.int .i64 r.v) ∧ w.cell? ⟨b, 3, none⟩ = some (.bool r.n) ∧ w.cell? ⟨b, 4, none⟩ = some (.int .i64 r.la) ∧ w.cell? ⟨b, 5, none⟩ = some u.l ∧ w.cell? ⟨b, 6, none⟩ = some (.int .i64 r.c) ∧ w.cell? ⟨b, 7, none⟩ = some u.ok ∧ w.cell? ⟨b, 8, none⟩ = some u.ch ∧ w.cell? ⟨b, 9, none⟩ = some u.te :=
 ⟨Bx.cell h 0, Bx.cell h 1, Bx.cell h 2, Bx.cell h 3, Bx.cell h 4, Bx.cell h 5, Bx.cell h 6, Bx.cell h 7, Bx.cell h 8, Bx.cell h 9⟩
theorem implOks17 (r : Rp) (u : Rv) (b : Nat) (w : World) (h : RpB w b r u) (hv : 0 ≤ r.v ∧ r.v ≤ 20000) (hp : pOk r.p) (hid : 0 ≤ r.id ∧ r.id < r.p) (hl : Sls txtE w u.l r.l) (ho : Sls intE w u.ok r.ok) (hlen : r.l.length ≤ 1048576) :
  Calls Tryz.prog 56 #[.pointer (some ⟨b, 0, none⟩)] w fun e w' => e = .returned (.bool (dB (OkP r))) ∧ Below w.heap.size w w' := by
 have jl := implLeads r u b w h hv hp
 have HF : Hid (¬ OkP r → ∀ b, b = false → Ending.returned (.bool b) = .returned (.bool (dB (OkP r)))) := hH_ (fun h1 b h2 => by rw [h2, dB_no h1])
 have HE : Hid (∀ b, (OkP r ↔ b = true) → Ending.returned (.bool b) = .returned (.bool (dB (OkP r)))) := hH_ (fun b h1 => by rw [dB_iff h1])
 obtain ⟨la, lc, hvl⟩ := Sls.slen0 hl
 obtain ⟨oa, oc, hvo, o1, o2, o3⟩ := ho.one
 unfold maxLen at o2
 have HB : Hid (RpB w b r u) := h
 have O3 : Hid (0 < r.ok.length → ∃ g o, oa = some ⟨g, o, none⟩ ∧ g < w.heap.size ∧ ∀ j (hj : j < r.ok.length), w.cell? ⟨g, o + j, none⟩ = some (.int .i64 r.ok[j])) := o3
 have VL : Hid (u.l = .slice la r.l.length lc) := hvl
 have VO : Hid (u.ok = .slice oa r.ok.length oc) := hvo
 clear h hl ho hvl hvo o3
 by_cases hld : leads r
 ·
  have HL : Hid (leads r) := hld
  rw [dB_yes hld] at jl
  clear hld
  go_enter Tryz.func56, Tryz.ntmps56
  go_wp2_with fail
  refine jl.mono ?_
  rintro e w1 ⟨rfl, hb⟩
  have B1 : Hid (Below w.heap.size w w1) := hb
  have HB1 := hH_ (HB.out.kept hb)
  clear hb jl
  obtain ⟨c0, c1, c2, c3, c4, c5, c6, c7, c8, c9⟩ := HB1.out.cells
  rw [VL.out] at c5
  rw [VO.out] at c7
  clear c2 c3 c4 c6 c8 c9
  by_cases hn : (r.ok.length : Int) = r.p
  ·
   have dn : ((r.ok.length : Int) != r.p) = false := by simpa using hn

   go_upto_region 3 with fail
   go_quiet (fail)
   have BN := hH_ (dwNB w1 nq)
   generalize w1.drewN nq = w2 at BN ⊢
   have B2 := hH_ (B1.out.trans (BN.out.mono B1.out.size))
   have HB2 := hH_ (HB1.out.kept BN.out)
   clear c0 c1 c5 c7 BN
   obtain ⟨c0, c1, c2, c3, c4, c5, c6, c7, c8, c9⟩ := HB2.out.cells
   rw [VL.out] at c5
   rw [VO.out] at c7
   clear c2 c3 c4 c6 c8 c9
   go_wp2_with fail
   go_loop [35] (fun i => ∃ k : Nat, k ≤ r.ok.length ∧ i = .int .i64 k ∧ Hid (∀ x ∈ r.ok.take k, 0 ≤ x ∧ x ≤ (r.l.length : Int))) (fun i => r.ok.length - (intOf i).toNat)
   case atStart => exact ⟨0, Nat.zero_le _, rfl, (show Hid _ from fun x hx => (by cases hx))⟩
   case round =>
    obtain ⟨k, hk, rfl, hall⟩ := hrel
    by_cases hlt : k < r.ok.length
    ·
     obtain ⟨g, o, rfl, hg, hc⟩ := O3.out (by omega)
     have cx := (B2.out.cell (p := ⟨g, o + k, none⟩) hg).trans (hc k hlt)
     have HA : Hid (0 ≤ r.ok[k] ∧ r.ok[k] ≤ (r.l.length : Int) → ∀ x ∈ r.ok.take (k + 1), 0 ≤ x ∧ x ≤ (r.l.length : Int)) := hH_ (fun hx => all_in hlt hall.out hx)
     have HN : Hid (¬ (0 ≤ r.ok[k] ∧ r.ok[k] ≤ (r.l.length : Int)) → ¬ OkP r) := hH_ (fun hx hok => hx ((hok.1 HL.out).2.2 _ (List.getElem_mem hlt)))
     have hki : (k : Int) < (r.ok.length : Int) := by omega
     generalize r.ok[k] = x at cx HA HN
     clear hc
     by_cases d1 : x < 0
     ·
      go_wp2
      go_ret
      exact ⟨HF.out (HN.out (by omega)) _ rfl, B2.out⟩
     by_cases d2 : (r.l.length : Int) < x
     ·
      go_wp2
      go_ret
      exact ⟨HF.out (HN.out (by omega)) _ rfl, B2.out⟩
     have HA2 : Hid _ := HA.out ⟨by omega, by omega⟩
     go_wp2
     go_round
     case rel => exact ⟨k + 1, by omega, by go_num, HA2⟩
     case measure => simp [intOf]; omega
    ·
     obtain rfl : k = r.ok.length := by omega
     have hall2 : ∀ x ∈ r.ok, 0 ≤ x ∧ x ≤ (r.l.length : Int) := fun x hx => hall.out x (by rw [List.take_of_length_le (Nat.le_refl _)]; exact hx)
     have hin : r.id.toNat < r.ok.length := by omega
     obtain ⟨g, o, rfl, hg, hc⟩ := O3.out (by omega)
     have cx := (B2.out.cell (p := ⟨g, o + r.id.toNat, none⟩) hg).trans (hc _ hin)
     have HV : Hid (OkP r ↔ (r.ok[r.id.toNat] == (r.l.length : Int)) = true) := (show _ ↔ _ from ⟨fun h => by
      have := (h.1 HL.out).2.1
      rw [List.getElem?_eq_getElem hin] at this
      have := Option.some.inj this
      simpa using this, fun h => ⟨fun _ => ⟨hn, by rw [List.getElem?_eq_getElem hin]; congr 1; simpa using h, hall2⟩, fun hnl => absurd HL.out hnl⟩⟩)
     generalize r.ok[r.id.toNat] = x at cx HV
     have hid1 := hid.1
     have hid2 : r.id < (r.ok.length : Int) := by omega
     clear hc hall hall2

     go_upto_region 12 with fail
     go_quiet (fail)
     have BN := hH_ (dwNB w2 nq)
     generalize w2.drewN nq = w3 at BN ⊢
     have B3 := hH_ (B2.out.trans (BN.out.mono B2.out.size))
     go_wp2
     go_ret
     exact ⟨HE.out _ HV.out, B3.out⟩
  ·
   have dn : ((r.ok.length : Int) != r.p) = true := by simpa using hn
   have HV : Hid (¬ OkP r) := hH_ (fun h => hn (h.1 HL.out).1)

   go_upto_region 3 with fail
   go_quiet (fail)
   have BN := hH_ (dwNB w1 nq)
   generalize w1.drewN nq = w2 at BN ⊢
   have B2 := hH_ (B1.out.trans (BN.out.mono B1.out.size))
   go_wp2
   go_ret
   exact ⟨HF.out HV.out _ rfl, B2.out⟩
 ·
  have HV : Hid (OkP r ↔ ((r.ok.length : Int) == 0) = true) := hH_ (⟨fun h => by rw [h.2 hld]; rfl, fun h => ⟨fun hl => absurd hl hld, fun _ => List.eq_nil_of_length_eq_zero (by have hz : (r.ok.length : Int) = 0 := (by simpa using h); omega)⟩⟩)
  rw [dB_no hld] at jl
  clear hld
  go_enter Tryz.func56, Tryz.ntmps56
  go_wp2_with fail
  refine jl.mono ?_
  rintro e w1 ⟨rfl, hb⟩
  have B1 : Hid (Below w.heap.size w w1) := hb
  have HB1 := hH_ (HB.out.kept hb)
  clear hb jl
  obtain ⟨c0, c1, c2, c3, c4, c5, c6, c7, c8, c9⟩ := HB1.out.cells
  rw [VO.out] at c7
  clear c0 c1 c2 c3 c4 c5 c6 c8 c9
  go_wp2
  go_ret
  exact ⟨HE.out _ HV.out, B1.out⟩

def bef1 (l : List Int) (k : Nat) : Int := if k = 0 then -1 else l.getD (k - 1) (-1)
structure ChS1 (l : List Int) (p : Int) (k : Nat) : Prop where
 s : (l.take k).Pairwise (· < ·)
 b : ∀ x ∈ l.take k, 0 ≤ x ∧ x < p
 t : ∀ x ∈ l.take k, x ≤ bef1 l k
 g : -1 ≤ bef1 l k
theorem ChS1.zero (l : List Int) (p : Int) : ChS1 l p 0 := ⟨by simp, by simp, by simp, by simp [bef1]⟩
theorem ChS1.next {l : List Int} {p : Int} {k : Nat} (h : ChS1 l p k) (hk : k < l.length) (h1 : bef1 l k < l[k]) (h2 : 0 ≤ l[k] ∧ l[k] < p) : ChS1 l p (k + 1) := by
 have e : bef1 l (k + 1) = l[k] := by unfold bef1; rw [if_neg (by omega), Nat.add_sub_cancel, List.getD_eq_getElem?_getD, List.getElem?_eq_getElem hk]; rfl
 have h3 : ∀ x ∈ l.take k, x < l[k] := fun x hx => by have := h.t x hx; omega
 refine ⟨?_, all_in (P := fun x => 0 ≤ x ∧ x < p) hk h.b h2, ?_, by rw [e]; omega⟩
 ·
  rw [List.take_succ_eq_append_getElem hk, List.pairwise_append]
  exact ⟨h.s, List.pairwise_singleton _ _, fun x hx y hy => by rw [List.mem_singleton.1 hy]; exact h3 x hx⟩
 ·
  rw [e]
  exact all_in (P := fun x => x ≤ l[k]) hk (fun x hx => Int.le_of_lt (h3 x hx)) (Int.le_refl _)
theorem ChS1.bad {l : List Int} {p : Int} {k : Nat} (h : ChS1 l p k) (hk : k < l.length) (hb : ¬ (bef1 l k < l[k] ∧ (0 ≤ l[k] ∧ l[k] < p))) : ¬ (l.Pairwise (· < ·) ∧ ∀ x ∈ l, 0 ≤ x ∧ x < p) := by
 rintro ⟨h1, h2⟩
 refine hb ⟨?_, h2 _ (List.getElem_mem hk)⟩
 unfold bef1
 split
 ·
  have := (h2 _ (List.getElem_mem hk)).1; omega
 ·
  rename_i h0
  rw [List.getD_eq_getElem?_getD, List.getElem?_eq_getElem (by omega : k - 1 < l.length)]
  exact List.pairwise_iff_getElem.1 h1 (k - 1) k (by omega) hk (by omega)
theorem ChS1.all {l : List Int} {p : Int} (h : ChS1 l p l.length) : l.Pairwise (· < ·) ∧ ∀ x ∈ l, 0 ≤ x ∧ x < p := by
 have h1 := h.s
 have h2 := h.b
 rw [List.take_length] at h1 h2
 exact ⟨h1, h2⟩
theorem bef1_next {l : List Int} {k : Nat} (hk : k < l.length) : bef1 l (k + 1) = l[k] := by unfold bef1; rw [if_neg (by omega), Nat.add_sub_cancel, List.getD_eq_getElem?_getD, List.getElem?_eq_getElem hk]; rfl
theorem implCh (r : Rp) (u : Rv) (b : Nat) (w : World) (h : RpB w b r u) (hc : Sls intE w u.ch r.ch) :
  Calls Tryz.prog 57 #[.pointer (some ⟨b, 0, none⟩)] w fun e w' => e = .returned (.bool (dB (ChP r))) ∧ Below w.heap.size w w' := by
 have HF : Hid (¬ ChP r → ∀ b, b = false → Ending.returned (.bool b) = .returned (.bool (dB (ChP r)))) := hH_ (fun h1 b h2 => by rw [h2, dB_no h1])
 have HE : Hid (∀ b, (ChP r ↔ b = true) → Ending.returned (.bool b) = .returned (.bool (dB (ChP r)))) := hH_ (fun b h1 => by rw [dB_iff h1])
 obtain ⟨oa, oc, hvo, o1, o2, o3⟩ := hc.one
 unfold maxLen at o2
 have HB : Hid (RpB w b r u) := h
 have HC : Hid (Sls intE w u.ch r.ch) := hc
 have O3 : Hid (0 < r.ch.length → ∃ g o, oa = some ⟨g, o, none⟩ ∧ g < w.heap.size ∧ ∀ j (hj : j < r.ch.length), w.cell? ⟨g, o + j, none⟩ = some (.int .i64 r.ch[j])) := o3
 obtain ⟨c0, c1, c2, c3, c4, c5, c6, c7, c8, c9⟩ := HB.out.cells
 have VO : Hid (u.ch = .slice oa r.ch.length oc) := hvo
 rw [hvo] at c8
 clear h hc o3 hvo c2 c4 c5 c6 c7 c9
 cases hn : r.n with
 | true =>
  rw [hn] at c3
  have HV : Hid (ChP r ↔ ((r.ch.length : Int) == 0) = true) := hH_ (⟨fun h => by rw [h.1 hn]; rfl, fun h => ⟨fun _ => List.eq_nil_of_length_eq_zero (by have hz : (r.ch.length : Int) = 0 := (by simpa using h); omega), fun e => (by rw [hn] at e; cases e)⟩⟩)
  clear hn
  go_enter Tryz.func57, Tryz.ntmps57
  go_wp2
  go_ret
  exact ⟨HE.out _ HV.out, Below.refl _ _⟩
 | false =>
  rw [hn] at c3
  have HN : Hid (r.n = false) := hn
  clear hn
  go_enter Tryz.func57, Tryz.ntmps57
  go_wp2_with fail
  go_loop [3, 21] (fun m i => ∃ k : Nat, k ≤ r.ch.length ∧ i = .int .i64 k ∧ m = .int .i64 (bef1 r.ch k) ∧ Hid (ChS1 r.ch r.p k)) (fun _ i => r.ch.length - (intOf i).toNat)
  case atStart => exact ⟨0, Nat.zero_le _, rfl, rfl, (show Hid _ from ChS1.zero _ _)⟩
  case round =>
   obtain ⟨k, hk, rfl, rfl, hst⟩ := hrel
   by_cases hlt : k < r.ch.length
   ·
    obtain ⟨g, o, rfl, hg, hcc⟩ := O3.out (by omega)
    have cx := hcc k hlt
    have HX := fun h1 h2 => hst.out.next hlt h1 h2
    have HNo : Hid (¬ (bef1 r.ch k < r.ch[k] ∧ (0 ≤ r.ch[k] ∧ r.ch[k] < r.p)) → ¬ ChP r) := hH_ (fun hb hch => hst.out.bad hlt hb (hch.2 HN.out).2)
    have HXX : Hid (bef1 r.ch k < r.ch[k] → (0 ≤ r.ch[k] ∧ r.ch[k] < r.p) → ChS1 r.ch r.p (k + 1)) := HX
    have HBN : Hid (bef1 r.ch (k + 1) = r.ch[k]) := bef1_next hlt
    have hki : (k : Int) < (r.ch.length : Int) := by omega
    generalize r.ch[k] = x at cx HNo HXX HBN
    clear hcc HX
    by_cases d1 : x ≤ bef1 r.ch k
    ·
     go_wp2
     go_ret
     exact ⟨HF.out (HNo.out (by omega)) _ rfl, Below.refl _ _⟩
    have j1 := fun W => implIp x r.p W
    cases bi : ipB x r.p with
    | false =>
     rw [bi] at j1
     have hnb := ipB_no bi
     clear bi
     go_wp2_with fail
     refine (j1 _).mono ?_
     rintro e w1 ⟨rfl, rfl⟩
     go_wp2
     go_ret
     exact ⟨HF.out (HNo.out (fun hh => hnb hh.2)) _ rfl, Below.refl _ _⟩
    | true =>
     rw [bi] at j1
     have HS : Hid _ := HXX.out (by omega) (ipB_yes bi)
     clear bi
     go_wp2_with fail
     refine (j1 _).mono ?_
     rintro e w1 ⟨rfl, rfl⟩
     go_wp2_with fail
     go_round
     case rel => exact ⟨k + 1, by omega, by go_num, by rw [HBN.out], HS⟩
     case measure => simp [intOf]; omega
   ·
    obtain rfl : k = r.ch.length := by omega
    have ha := hst.out.all
    have HV : Hid (ChP r ↔ decide (r.id ∈ r.ch) = true) := hH_ (⟨fun h => decide_eq_true (h.2 HN.out).1, fun h => ⟨fun e => (by have:=HN.out;rw [this] at e; cases e), fun _ => ⟨of_decide_eq_true h, ha.1, ha.2⟩⟩⟩)
    have jc := fun W (hW : Below w.heap.size w W) => conN u.ch r.ch r.id W (HC.out.kept hW)
    rw [VO.out] at jc
    have j1 : ∀ d os, Calls Tryz.prog 115 #[.slice oa r.ch.length oc, .int .i64 r.id] (grow (redrawn w d) os) fun e w'' => e = .returned (.bool (decide (r.id ∈ r.ch))) ∧ ∃ p : Regrown, w'' = grow (redrawn w p.d) p.os := fun d os => Calls.regrown_of ((jc _ (below_regrown w d os)).mono fun e w' ⟨h1, h2⟩ => ⟨h1, h2 ▸ Below.refl _ _⟩)
    generalize decide (r.id ∈ r.ch) = B at j1 HV
    have k0 := cell_regrown c0
    have k8 := cell_regrown c8
    clear c0 c1 c3 c8 jc ha

    go_upto_region 11 with fail
    refine wp_region_quiet_below (by kernel_rfl) (by kernel_rfl) ?_
    repeat (go_big_quiet_step (first | (with_reducible exact j1 _ _)))
    refine wpQuiet_nil ?_
    intro _ hw'
    obtain ⟨⟨dq, osq⟩, hw''⟩ := hw'
    subst hw''
    have BN : Hid (Below w.heap.size w (grow (redrawn w dq) osq)) := hH_ (below_regrown w dq osq)
    generalize grow (redrawn w dq) osq = w3 at BN ⊢
    have B3 : Hid (Below w.heap.size w w3) := BN
    go_wp2
    go_ret
    exact ⟨HE.out _ HV.out, B3.out⟩
open Go.RowKit Go.Sort Pg

open Classical in
theorem msB_is {m : Ms} {p : Int} (h : msB m p = true) : MsOk m p := by
 unfold msB at h
 exact of_decide_eq_true h
structure TeS (r : Rp) (k : Nat) : Prop where
 s : ChS1 (r.te.map (·.f)) r.p k
 o : ∀ m ∈ r.te.take k, TeOk m r
theorem TeS.zero (r : Rp) : TeS r 0 := ⟨ChS1.zero _ _, by simp⟩
theorem TeS.next {r : Rp} {k : Nat} (h : TeS r k) (hk : k < r.te.length) (h1 : bef1 (r.te.map (·.f)) k < r.te[k].f) (h2 : TeOk r.te[k] r) : TeS r (k + 1) where
 s := h.s.next (by simpa using hk) (by simpa using h1) (by simpa using h2.ok.f)
 o := fun m hm => by
  rw [List.take_succ_eq_append_getElem hk] at hm
  rcases List.mem_append.1 hm with h3 | h3
  ·
   exact h.o m h3
  ·
   rw [List.mem_singleton.1 h3]; exact h2
theorem TeS.bad {r : Rp} {k : Nat} (h : TeS r k) (hk : k < r.te.length) (hb : ¬ (bef1 (r.te.map (·.f)) k < r.te[k].f ∧ TeOk r.te[k] r)) : ¬ ((∀ m ∈ r.te, TeOk m r) ∧ r.te.Pairwise (fun a b => a.f < b.f)) := by
 rintro ⟨h1, h2⟩
 have h0 := h1 _ (List.getElem_mem hk)
 refine h.s.bad (k := k) (by simpa using hk) (fun hh => hb ⟨by simpa using hh.1, h0⟩) ⟨?_, ?_⟩
 ·
  rw [List.pairwise_map]; exact h2
 ·
  intro x hx
  obtain ⟨m, hm, rfl⟩ := List.mem_map.1 hx
  exact (h1 m hm).ok.f
theorem TeS.all {r : Rp} (h : TeS r r.te.length) : (∀ m ∈ r.te, TeOk m r) ∧ r.te.Pairwise (fun a b => a.f < b.f) := by
 have h1 := h.o
 rw [List.take_length] at h1
 have h2 := h.s
 rw [show r.te.length = (r.te.map (·.f)).length by simp] at h2
 have h3 := h2.all.1
 rw [List.pairwise_map] at h3
 exact ⟨h1, h3⟩
theorem bef1_map {r : Rp} {k : Nat} (hk : k < r.te.length) : bef1 (r.te.map (·.f)) (k + 1) = r.te[k].f := by
 rw [bef1_next (by simpa using hk)]
 simp
theorem RpGot.at {w : World} {u : Rv} {r : Rp} (h : RpGot w u r) {k : Nat} (hk : k < r.te.length) : ∃ (x : Mx) (hx : x ∈ u.T), x.m = r.te[k] ∧ k < u.T.length ∧ ∀ hk', u.T[k]'hk' = x := by
 have hl := h.tlen
 have hk' : k < u.T.length := by omega
 refine ⟨u.T[k], List.getElem_mem hk', ?_, hk', fun _ => rfl⟩
 have := congrArg (fun l => l[k]?) h.t
 simp [hk, hk'] at this
 exact this
theorem implTe (r : Rp) (u : Rv) (b : Nat) (w : World) (h : RpB w b r u) (hv : 0 ≤ r.v ∧ r.v ≤ 20000) (hp : pOk r.p) (hg : RpGot w u r) (hs : ∀ m ∈ r.te, ∀ x ∈ m.l, x.size ≤ 1048576) :
  Calls Tryz.prog 58 #[.pointer (some ⟨b, 0, none⟩)] w fun e w' => e = .returned (.bool (dB (TeP r))) ∧ Below w.heap.size w w' := by
 have HF : Hid (¬ TeP r → ∀ b, b = false → Ending.returned (.bool b) = .returned (.bool (dB (TeP r)))) := hH_ (fun h1 b h2 => by rw [h2, dB_no h1])
 have HE : Hid (∀ b, (TeP r ↔ b = true) → Ending.returned (.bool b) = .returned (.bool (dB (TeP r)))) := hH_ (fun b h1 => by rw [dB_iff h1])
 have hln : r.te.length ≤ maxLen := by
  have htl := hg.tlen
  obtain ⟨_, _, _, q1, q2, _⟩ := hg.te.1
  omega
 unfold maxLen at hln
 obtain ⟨oa, oc, hvo⟩ := Sls.slen0 hg.te.1
 have htl := hg.tlen
 rw [htl] at hvo
 have HB : Hid (RpB w b r u) := h
 have HG : Hid (RpGot w u r) := hg
 have HS : Hid (∀ m ∈ r.te, ∀ x ∈ m.l, x.size ≤ 1048576) := hs
 obtain ⟨c0, c1, c2, c3, c4, c5, c6, c7, c8, c9⟩ := HB.out.cells
 have VO : Hid (u.te = .slice oa r.te.length oc) := hvo
 have jn := implNx r u b w h hv hp
 rw [hvo] at c9
 have LE : Hid (((r.te.length : Int) == 0) = true → r.te = []) := hH_ (fun h => List.eq_nil_of_length_eq_zero (by have hz : (r.te.length : Int) = 0 := (by simpa using h); omega))
 have E0 : Hid (r.te = [] → ((r.te.length : Int) == 0) = true) := hH_ (fun h => by rw [h]; rfl)
 clear h hg hs hvo c4 c5 c6 c7 c8
 cases hn : r.n with
 | true =>
  rw [hn] at c3
  have HV : Hid (TeP r ↔ ((r.te.length : Int) == 0) = true) := hH_ (⟨fun h => E0.out (h.1 (.inl hn)), fun h => ⟨fun _ => LE.out h, fun e => (by rw [hn] at e; cases e)⟩⟩)
  clear hn jn
  go_enter Tryz.func58, Tryz.ntmps58
  go_wp2
  go_ret
  exact ⟨HE.out _ HV.out, Below.refl _ _⟩
 | false =>
 rw [hn] at c3
 have HN : Hid (r.n = false) := hn
 clear hn
 by_cases hm : mine r
 ·
  rw [dB_yes hm] at jn
  have HM : Hid (mine r) := hm
  clear hm
  go_enter Tryz.func58, Tryz.ntmps58
  go_wp2_with fail
  refine jn.mono ?_
  rintro e w1 ⟨rfl, hb⟩
  have B1 : Hid (Below w.heap.size w w1) := hb
  have HB1 := hH_ (HB.out.kept hb)
  clear hb jn c0 c1 c2 c3 c9
  obtain ⟨c0, c1, c2, c3, c4, c5, c6, c7, c8, c9⟩ := HB1.out.cells
  rw [VO.out] at c9
  clear c0 c1 c2 c3 c4 c5 c6 c7 c8
  go_wp2_with fail
  clear c9
  go_loopw [3, 26] (fun m i wr => ∃ k : Nat, k ≤ r.te.length ∧ i = .int .i64 k ∧ m = .int .i64 (bef1 (r.te.map (·.f)) k) ∧ Hid (TeS r k) ∧ Hid (Below w.heap.size w wr)) (fun _ i _ => r.te.length - (intOf i).toNat)
  case atStart => exact ⟨0, Nat.zero_le _, rfl, rfl, (show Hid _ from TeS.zero _), B1⟩
  case round =>
   obtain ⟨k, hk, rfl, rfl, hst, hb⟩ := hrel
   by_cases hlt : k < r.te.length
   ·
    have HG2 := HG.out.kept hb.out
    have HB2 := HB.out.kept hb.out
    obtain ⟨x, hxT, hxm, hkT, hxk⟩ := HG2.at hlt
    have hxk := hxk hkT
    have HT2 := HG2.te.1
    rw [VO.out, ← HG2.tlen] at HT2
    obtain ⟨g, q, rfl⟩ := mxAt HT2 (by omega)
    have CK := mxCells HT2 hkT
    rw [hxk] at CK
    have ml := HG2.te.2 x hxT
    have HXX : Hid (bef1 (r.te.map (·.f)) k < r.te[k].f → TeOk r.te[k] r → TeS r (k + 1)) := hH_ (fun h1 h2 => hst.out.next hlt h1 h2)
    have HNo : Hid (¬ (bef1 (r.te.map (·.f)) k < r.te[k].f ∧ TeOk r.te[k] r) → ¬ TeP r) := hH_ (fun hb hte => hst.out.bad hlt hb (hte.2 HN.out HM.out))
    have HBN : Hid (bef1 (r.te.map (·.f)) (k + 1) = r.te[k].f) := bef1_map hlt
    have hsx := HS.out _ (List.getElem_mem hlt)
    have hki : (k : Int) < (r.te.length : Int) := by omega
    rw [← hxm] at HXX HNo HBN hsx
    obtain ⟨mm, px, cx⟩ := x
    unfold Mx.u at CK
    unfold Mx.u MsGot at ml
    simp only at CK ml HXX HNo HBN hsx
    obtain ⟨k0, k1, k2, k3, k4, k5, k6⟩ := CK
    have HM2 : Hid (Sls txtE wr (.slice px mm.l.length cx) mm.l) := ml
    have HB3 : Hid (RpB wr b r u) := HB2
    clear HG2 HB2 HT2 ml hxT hxm hkT hxk
    go_upto_region 7 with fail
    clear k0 k1 k2 k3 k4 k5 k6
    have XB : Hid (Bx (wr.alloc (.cells #[.int .i64 mm.k, .int .i64 mm.f, .int .i64 mm.t, .int .i64 mm.v, .int .i64 mm.la, .slice px mm.l.length cx, .int .i64 mm.c] 30)) wr.heap.size 30 #[.int .i64 mm.k, .int .i64 mm.f, .int .i64 mm.t, .int .i64 mm.v, .int .i64 mm.la, .slice px mm.l.length cx, .int .i64 mm.c]) := hH_ (Bx.new _ _ _)
    have HB4 : Hid (RpB (wr.alloc (.cells #[.int .i64 mm.k, .int .i64 mm.f, .int .i64 mm.t, .int .i64 mm.v, .int .i64 mm.la, .slice px mm.l.length cx, .int .i64 mm.c] 30)) b r u) := hH_ (Bx.alloc HB3.out _)
    have HM4 : Hid (Sls txtE (wr.alloc (.cells #[.int .i64 mm.k, .int .i64 mm.f, .int .i64 mm.t, .int .i64 mm.v, .int .i64 mm.la, .slice px mm.l.length cx, .int .i64 mm.c] 30)) (.slice px mm.l.length cx) mm.l) := hH_ (Sls.kept HM2.out ((Below.refl _ wr).alloc (Nat.le_refl _) _))
    have B4 : Hid (Below w.heap.size w (wr.alloc (.cells #[.int .i64 mm.k, .int .i64 mm.f, .int .i64 mm.t, .int .i64 mm.v, .int .i64 mm.la, .slice px mm.l.length cx, .int .i64 mm.c] 30))) := hH_ (hb.out.alloc hb.out.size _)
    generalize (wr.alloc (.cells #[.int .i64 mm.k, .int .i64 mm.f, .int .i64 mm.t, .int .i64 mm.v, .int .i64 mm.la, .slice px mm.l.length cx, .int .i64 mm.c] 30)) = wz at XB HB4 HM4 B4 ⊢
    have n0 := cell_regrown (XB.out.cell 0)
    have n1 := cell_regrown (XB.out.cell 1)
    have n2 := cell_regrown (XB.out.cell 2)
    have n3 := cell_regrown (XB.out.cell 3)
    have n4 := cell_regrown (XB.out.cell 4)
    have n5 := cell_regrown (XB.out.cell 5)
    have n6 := cell_regrown (XB.out.cell 6)
    have r0 := cell_regrown HB4.out.cells.1
    have r1 := cell_regrown HB4.out.cells.2.1
    have r2 := cell_regrown HB4.out.cells.2.2.1
    have jm := fun W (hW : Below wz.heap.size wz W) => implMok mm (.slice px mm.l.length cx) r.p W (Sls.kept HM4.out hW) hsx
    unfold msA at jm
    have j1 : ∀ d os, Calls Tryz.prog 102 #[.agg #[.int .i64 mm.k, .int .i64 mm.f, .int .i64 mm.t, .int .i64 mm.v, .int .i64 mm.la, .slice px mm.l.length cx, .int .i64 mm.c], .int .i64 r.p] (grow (redrawn wz d) os) fun e w'' => e = .returned (.bool (msB mm r.p)) ∧ ∃ p : Regrown, w'' = grow (redrawn wz p.d) p.os := fun d os => Calls.regrown_of (jm _ (below_regrown wz d os))
    clear jm hsx
    generalize hbf : bef1 (r.te.map (·.f)) k = bf at *

    by_cases d1 : ¬ mm.k = 4
    ·
     have e1 : (mm.k != 4) = true := by simpa using d1
     go_upto_region 7 with fail
     refine wp_region_quiet_below (by kernel_rfl) (by kernel_rfl) ?_
     repeat (go_big_quiet_step (first | (with_reducible exact j1 _ _)))
     refine wpQuiet_nil ?_
     intro _ hw'
     obtain ⟨⟨dq, osq⟩, hw''⟩ := hw'
     subst hw''
     have BN : Hid (Below wz.heap.size wz (grow (redrawn wz dq) osq)) := hH_ (below_regrown wz dq osq)
     generalize grow (redrawn wz dq) osq = w5 at BN ⊢
     have B5 := hH_ (B4.out.trans (BN.out.mono B4.out.size))
     go_wp2
     go_ret
     exact ⟨HF.out (HNo.out (fun hh => d1 hh.2.k)) _ rfl, B5.out⟩
    replace d1 : mm.k = 4 := Decidable.not_not.1 d1
    have e1 : (mm.k != 4) = false := by simpa using d1
    by_cases d2 : ¬ mm.t = r.id
    ·
     have e2 : (mm.t != r.id) = true := by simpa using d2
     go_upto_region 7 with fail
     refine wp_region_quiet_below (by kernel_rfl) (by kernel_rfl) ?_
     repeat (go_big_quiet_step (first | (with_reducible exact j1 _ _)))
     refine wpQuiet_nil ?_
     intro _ hw'
     obtain ⟨⟨dq, osq⟩, hw''⟩ := hw'
     subst hw''
     have BN : Hid (Below wz.heap.size wz (grow (redrawn wz dq) osq)) := hH_ (below_regrown wz dq osq)
     generalize grow (redrawn wz dq) osq = w5 at BN ⊢
     have B5 := hH_ (B4.out.trans (BN.out.mono B4.out.size))
     go_wp2
     go_ret
     exact ⟨HF.out (HNo.out (fun hh => d2 hh.2.t)) _ rfl, B5.out⟩
    replace d2 : mm.t = r.id := Decidable.not_not.1 d2
    have e2 : (mm.t != r.id) = false := by simpa using d2
    by_cases d3 : ¬ mm.v = r.v
    ·
     have e3 : (mm.v != r.v) = true := by simpa using d3
     go_upto_region 7 with fail
     refine wp_region_quiet_below (by kernel_rfl) (by kernel_rfl) ?_
     repeat (go_big_quiet_step (first | (with_reducible exact j1 _ _)))
     refine wpQuiet_nil ?_
     intro _ hw'
     obtain ⟨⟨dq, osq⟩, hw''⟩ := hw'
     subst hw''
     have BN : Hid (Below wz.heap.size wz (grow (redrawn wz dq) osq)) := hH_ (below_regrown wz dq osq)
     generalize grow (redrawn wz dq) osq = w5 at BN ⊢
     have B5 := hH_ (B4.out.trans (BN.out.mono B4.out.size))
     go_wp2
     go_ret
     exact ⟨HF.out (HNo.out (fun hh => d3 hh.2.v)) _ rfl, B5.out⟩
    replace d3 : mm.v = r.v := Decidable.not_not.1 d3
    have e3 : (mm.v != r.v) = false := by simpa using d3
    by_cases d4 : mm.f ≤ bf
    ·
     have e4 : decide (mm.f ≤ bf) = true := decide_eq_true d4
     go_upto_region 7 with fail
     refine wp_region_quiet_below (by kernel_rfl) (by kernel_rfl) ?_
     repeat (go_big_quiet_step (first | (with_reducible exact j1 _ _)))
     refine wpQuiet_nil ?_
     intro _ hw'
     obtain ⟨⟨dq, osq⟩, hw''⟩ := hw'
     subst hw''
     have BN : Hid (Below wz.heap.size wz (grow (redrawn wz dq) osq)) := hH_ (below_regrown wz dq osq)
     generalize grow (redrawn wz dq) osq = w5 at BN ⊢
     have B5 := hH_ (B4.out.trans (BN.out.mono B4.out.size))
     go_wp2
     go_ret
     exact ⟨HF.out (HNo.out (fun hh => by have := hh.1; omega)) _ rfl, B5.out⟩
    have e4 : decide (mm.f ≤ bf) = false := decide_eq_false d4
    have D4 : Hid (bf < mm.f) := (show bf < mm.f by omega)
    have D1 : Hid (mm.k = 4 ∧ mm.t = r.id ∧ mm.v = r.v) := ⟨d1, d2, d3⟩
    clear d1 d2 d3
    cases hb5 : msB mm r.p with
    | false =>
     rw [hb5] at j1
     have HNM : Hid (¬ MsOk mm r.p) := hH_ (fun hh => by rw [msB_yes hh] at hb5; cases hb5)
     clear hb5
     go_upto_region 7 with fail
     refine wp_region_quiet_below (by kernel_rfl) (by kernel_rfl) ?_
     repeat (go_big_quiet_step (first | (with_reducible exact j1 _ _)))
     refine wpQuiet_nil ?_
     intro _ hw'
     obtain ⟨⟨dq, osq⟩, hw''⟩ := hw'
     subst hw''
     have BN : Hid (Below wz.heap.size wz (grow (redrawn wz dq) osq)) := hH_ (below_regrown wz dq osq)
     generalize grow (redrawn wz dq) osq = w5 at BN ⊢
     have B5 := hH_ (B4.out.trans (BN.out.mono B4.out.size))
     go_wp2
     go_ret
     exact ⟨HF.out (HNo.out (fun hh => HNM.out hh.2.ok)) _ rfl, B5.out⟩
    | true =>
     rw [hb5] at j1
     have HYM : Hid (MsOk mm r.p) := hH_ (msB_is hb5)
     clear hb5
     go_upto_region 7 with fail
     refine wp_region_quiet_below (by kernel_rfl) (by kernel_rfl) ?_
     repeat (go_big_quiet_step (first | (with_reducible exact j1 _ _)))
     refine wpQuiet_nil ?_
     intro _ hw'
     obtain ⟨⟨dq, osq⟩, hw''⟩ := hw'
     subst hw''
     have BN : Hid (Below wz.heap.size wz (grow (redrawn wz dq) osq)) := hH_ (below_regrown wz dq osq)
     generalize grow (redrawn wz dq) osq = w5 at BN ⊢
     have B5 := hH_ (B4.out.trans (BN.out.mono B4.out.size))
     have f1 := (XB.out.kept BN.out).cell 1
     clear n0 n1 n2 n3 n4 n5 n6 r0 r1 r2 j1 e1 e2 e3 e4 d4
     go_wp2_with fail
     go_roundw
     case rel => exact ⟨k + 1, by omega, by go_num, by rw [HBN.out], HXX.out D4.out ⟨D1.out.1, D1.out.2.1, D1.out.2.2, HYM.out⟩, B5⟩
     case measure => simp [intOf]; omega
   ·
    obtain rfl : k = r.te.length := by omega
    have ha := hst.out.all
    have HV : Hid (TeP r) := (show TeP r from ⟨fun h => by
     rcases h with h | h
     ·
      rw [HN.out] at h; cases h
     ·
      exact absurd HM.out h, fun _ _ => ha⟩)
    clear ha
    go_wp2
    go_ret
    exact ⟨HE.out _ ⟨fun _ => rfl, fun _ => HV.out⟩, hb.out⟩
 ·
  rw [dB_no hm] at jn
  have HV : Hid (TeP r ↔ ((r.te.length : Int) == 0) = true) := hH_ (⟨fun h => E0.out (h.1 (.inr hm)), fun h => ⟨fun _ => LE.out h, fun _ hmm => absurd hmm hm⟩⟩)
  clear hm
  go_enter Tryz.func58, Tryz.ntmps58
  go_wp2_with fail
  refine jn.mono ?_
  rintro e w1 ⟨rfl, hb⟩
  have B1 : Hid (Below w.heap.size w w1) := hb
  have HB1 := hH_ (HB.out.kept hb)
  clear hb jn c0 c1 c2 c3 c9
  obtain ⟨c0, c1, c2, c3, c4, c5, c6, c7, c8, c9⟩ := HB1.out.cells
  rw [VO.out] at c9
  clear c0 c1 c2 c3 c4 c5 c6 c7 c8
  go_wp2
  go_ret
  exact ⟨HE.out _ HV.out, B1.out⟩
theorem implRok (r : Rp) (u : Rv) (w : World) (h : RpGot w u r) (hf : Fit r) :
  Calls Tryz.prog 12 #[rpA r u] w fun e w' => e = .returned (.bool (dB (RpOk r))) ∧ Below w.heap.size w w' := by
 have HF : Hid (¬ RpOk r → ∀ b, b = false → Ending.returned (.bool b) = .returned (.bool (dB (RpOk r)))) := hH_ (fun h1 b h2 => by rw [h2, dB_no h1])
 have HT : Hid (RpOk r → ∀ b, b = true → Ending.returned (.bool b) = .returned (.bool (dB (RpOk r)))) := hH_ (fun h1 b h2 => by rw [h2, dB_yes h1])
 have RP : Hid (RpOk r ↔ _) := rp_parts r
 have j1 := fun W => implPrs r.p W
 have j2 := fun W => implIp r.id r.p W
 have j3 := fun W (hB : RpB W w.heap.size r u) => implVw r u w.heap.size W hB
 have j4 := fun W (hB : RpB W w.heap.size r u) (hW : Below w.heap.size w W) => implLg r u w.heap.size W hB (h.l.kept hW) hf.l.2 hf.l.1
 have j5 := fun (hv : VwP r) (hp : pOk r.p) (hid : 0 ≤ r.id ∧ r.id < r.p) W (hB : RpB W w.heap.size r u) (hW : Below w.heap.size w W) => implOks17 r u w.heap.size W hB ⟨hv.1, by have := hv.2.1; omega⟩ hp hid (h.l.kept hW) (h.ok.kept hW) hf.l.1
 have j6 := fun W (hB : RpB W w.heap.size r u) (hW : Below w.heap.size w W) => implCh r u w.heap.size W hB (h.ch.kept hW)
 have j7 := fun (hv : VwP r) (hp : pOk r.p) W (hB : RpB W w.heap.size r u) (hW : Below w.heap.size w W) => implTe r u w.heap.size W hB ⟨hv.1, by have := hv.2.1; omega⟩ hp (h.kept hW) (fun m hm => (hf.te.2 m hm).2)
 have HB : Hid (RpB (w.alloc (.cells #[.int .i64 r.id, .int .i64 r.p, .int .i64 r.v, .bool r.n, .int .i64 r.la, u.l, .int .i64 r.c, u.ok, u.ch, u.te] 28)) w.heap.size r u) := hH_ (Bx.new _ _ _)
 have B0 : Hid (Below w.heap.size w (w.alloc (.cells #[.int .i64 r.id, .int .i64 r.p, .int .i64 r.v, .bool r.n, .int .i64 r.la, u.l, .int .i64 r.c, u.ok, u.ch, u.te] 28))) := hH_ ((Below.refl _ w).alloc (Nat.le_refl _) _)
 have xp : (w.alloc (.cells #[.int .i64 r.id, .int .i64 r.p, .int .i64 r.v, .bool r.n, .int .i64 r.la, u.l, .int .i64 r.c, u.ok, u.ch, u.te] 28)).cell? ⟨w.heap.size, 1, none⟩ = some (.int .i64 r.p) := HB.out.cells.2.1
 have xi : (w.alloc (.cells #[.int .i64 r.id, .int .i64 r.p, .int .i64 r.v, .bool r.n, .int .i64 r.la, u.l, .int .i64 r.c, u.ok, u.ch, u.te] 28)).cell? ⟨w.heap.size, 0, none⟩ = some (.int .i64 r.id) := HB.out.cells.1
 unfold rpA
 clear h hf
 go_enter Tryz.func12, Tryz.ntmps12
 go_wp2_with fail
 refine (j1 _).mono ?_
 rintro e w1 ⟨rfl, rfl⟩
 cases b1 : decide (pOk r.p) with
 | false =>
  go_wp2
  go_ret
  exact ⟨HF.out (fun h => of_decide_eq_false b1 (RP.out.1 h).1) _ rfl, B0.out⟩
 | true =>
 have hp : pOk r.p := of_decide_eq_true b1
 have HP : Hid (pOk r.p) := hp
 clear hp
 go_wp2_with fail
 refine (j2 _).mono ?_
 rintro e w1 ⟨rfl, rfl⟩
 cases b2 : ipB r.id r.p with
 | false =>
  go_wp2
  go_ret
  exact ⟨HF.out (fun h => ipB_no b2 (RP.out.1 h).2.1) _ rfl, B0.out⟩
 | true =>
 have HI : Hid (0 ≤ r.id ∧ r.id < r.p) := ipB_yes b2
 clear b1 b2
 go_wp2_with fail
 refine (j3 _ HB.out).mono ?_
 rintro e w1 ⟨rfl, hb⟩
 have B1 := hH_ (B0.out.trans (hb.mono B0.out.size))
 have HB1 := hH_ (HB.out.kept hb)
 clear hb HB B0 xp xi
 cases b3 : dB (VwP r) with
 | false =>
  go_wp2
  go_ret
  exact ⟨HF.out (fun h => dB_not b3 (RP.out.1 h).2.2.1) _ rfl, B1.out⟩
 | true =>
 have HV : Hid (VwP r) := dB_is b3
 clear b3
 go_wp2_with fail
 refine (j4 _ HB1.out B1.out).mono ?_
 rintro e w2 ⟨rfl, hb⟩
 have B2 := hH_ (B1.out.trans (hb.mono B1.out.size))
 have HB2 := hH_ (HB1.out.kept hb)
 clear hb HB1 B1
 cases b3 : dB (LgP r) with
 | false =>
  go_wp2
  go_ret
  exact ⟨HF.out (fun h => dB_not b3 (RP.out.1 h).2.2.2.1) _ rfl, B2.out⟩
 | true =>
 have HL : Hid (LgP r) := dB_is b3
 clear b3
 go_wp2_with fail
 refine (j5 HV.out HP.out HI.out _ HB2.out B2.out).mono ?_
 rintro e w3 ⟨rfl, hb⟩
 have B3 := hH_ (B2.out.trans (hb.mono B2.out.size))
 have HB3 := hH_ (HB2.out.kept hb)
 clear hb HB2 B2
 cases b3 : dB (OkP r) with
 | false =>
  go_wp2
  go_ret
  exact ⟨HF.out (fun h => dB_not b3 (RP.out.1 h).2.2.2.2.1) _ rfl, B3.out⟩
 | true =>
 have HO : Hid (OkP r) := dB_is b3
 clear b3
 go_wp2_with fail
 refine (j6 _ HB3.out B3.out).mono ?_
 rintro e w4 ⟨rfl, hb⟩
 have B4 := hH_ (B3.out.trans (hb.mono B3.out.size))
 have HB4 := hH_ (HB3.out.kept hb)
 clear hb HB3 B3
 cases b3 : dB (ChP r) with
 | false =>
  go_wp2
  go_ret
  exact ⟨HF.out (fun h => dB_not b3 (RP.out.1 h).2.2.2.2.2.1) _ rfl, B4.out⟩
 | true =>
 have HC : Hid (ChP r) := dB_is b3
 clear b3
 go_wp2_with fail
 refine (j7 HV.out HP.out _ HB4.out B4.out).mono ?_
 rintro e w5 ⟨rfl, hb⟩
 have B5 := hH_ (B4.out.trans (hb.mono B4.out.size))
 clear hb HB4 B4
 cases b3 : dB (TeP r) with
 | false =>
  go_wp2
  go_ret
  exact ⟨HF.out (fun h => dB_not b3 (RP.out.1 h).2.2.2.2.2.2) _ rfl, B5.out⟩
 | true =>
 have HX : Hid (TeP r) := dB_is b3
 clear b3
 go_wp2
 go_ret
 exact ⟨HT.out (RP.out.2 ⟨HP.out, HI.out, HV.out, HL.out, HO.out, HC.out, HX.out⟩) _ rfl, B5.out⟩
end Go.Proofs.YtdkhdjickkcaiaaGreat.Rl
namespace Go.Proofs.YtdkhdjickkcaiaaGreat
open Go Go.RowKit Go.Sort

def updH {α : Type} (f : Nat → α) (i : Nat) (x : α) : Nat → α := fun j => if j = i then x else f j
theorem updH_same {α : Type} (f : Nat → α) (i : Nat) (x : α) : updH f i x i = x := if_pos rfl
theorem updH_other {α : Type} (f : Nat → α) {i j : Nat} (x : α) (h : j ≠ i) : updH f i x j = f j := if_neg h
def leftH (listed : Array Bool) : Nat := listed.toList.count false
theorem leftH_set {listed : Array Bool} {i : Nat} (hi : listed.getD i true = false) : leftH (listed.setIfInBounds i true) + 1 = leftH listed := by
 have hlt : i < listed.size := by
  rcases Nat.lt_or_ge i listed.size with h | h
  ·
   exact h
  ·
   simp [Array.getElem?_eq_none h] at hi
 have he : listed.toList[i]'(by simpa using hlt) = false := by
  simp [hlt] at hi
  simpa using hi
 unfold leftH
 rw [Array.toList_setIfInBounds, List.count_set (by simpa using hlt)]
 have hp : 0 < listed.toList.count false := List.count_pos_iff.2 (by rw [← he]; exact List.getElem_mem _)
 rw [he]
 show listed.toList.count false - 1 + 0 + 1 = listed.toList.count false
 omega
def backB (ops : Array Oper) (n : Nat) : Bool := (List.range n).all fun i => match ops[i]? with
 | some o => o.after.all fun e => !Region.binds .any e || decide (e.on < i)
 | none => true
theorem backB_spec {ops : Array Oper} {n : Nat} (h : backB ops n = true) {i : Nat} {o : Oper} (hi : i < n) (ho : ops[i]? = some o) : ∀ e ∈ o.after, Region.binds .any e = true → e.on < i := by
 intro e he hb
 have h1 := List.all_eq_true.1 h i (List.mem_range.2 hi)
 simp only [ho] at h1
 have h2 := Array.all_eq_true'.1 h1 e he
 rw [hb] at h2
 simpa using h2
theorem firsts {ops : Array Oper} {n : Nat} {listed : Array Bool} (hs : listed.size = ops.size) (hn : n < ops.size) (hb : backB ops n = true) (hr : Region.ready .any ops listed = []) : ∀ i, i < n → listed.getD i false = true := by
 intro i
 induction i using Nat.strongRecOn with
 | _ i ih =>
  intro hi
  cases h : listed.getD i false with
  | true => rfl
  | false =>
   have hlt : i < ops.size := by omega
   have hm : i ∈ Region.ready .any ops listed := mem_ready.2 ⟨getD_in (by omega) h, ops[i], by simp [hlt], fun e he hbd => by
    have h2 := backB_spec hb hi (o := ops[i]) (by simp [hlt]) e he hbd
    exact ih e.on h2 (by omega)⟩
   rw [hr] at hm
   cases hm
theorem allListed {n m : Nat} {listed : Array Bool} (hs : listed.size = n + m) (h1 : ∀ i, i < n → listed.getD i false = true) (h2 : ∀ t, n ≤ t → t < n + m → listed.getD t true = false) : listed = Array.replicate n true ++ Array.replicate m false := by
 apply Array.ext
 ·
  simp [hs]
 ·
  intro i hi1 hi2
  rcases Nat.lt_or_ge i n with h | h
  ·
   have := h1 i h
   simp [hi1] at this
   rw [this, Array.getElem_append_left (by simpa using h)]
   simp
  ·
   have := h2 i h (by omega)
   simp [hi1] at this
   rw [this, Array.getElem_append_right (by simpa using h)]
   simp
section
variable {P : Program}
theorem any_heads {l : List Oper} {Q : Exit → Act → World → Prop} (n : Nat) (hn : n < l.length) (hs : Region.sinkB .any l.toArray n = true) (hc : Region.chainB .any l.toArray n = true)
  (hq : Region.seqB .any l.toArray (l.length - n) n (Array.replicate n true ++ Array.replicate (l.length - n) false) = true) (hb : backB l.toArray n = true)
  (F : (Nat → Value) → Act) (d : Nat → Nat) (S : World → Prop) (G : Nat → World → Value → Prop) (hinj : ∀ i j, i < n → j < n → j ≠ i → d j ≠ d i) (hput : ∀ (i : Nat) (o : Oper), i < n → l[i]? = some o → ∀ (t : Nat → Value) (v : Value), (F t).put o.dst v = F (updH t (d i) v))
  (hstep : ∀ (i : Nat) (o : Oper), i < n → l[i]? = some o → ∀ (t : Nat → Value) (x : World), S x → (∀ e ∈ o.after, Region.binds .any e = true → G e.on x (t (d e.on))) → ∀ K : Act → World → Prop,
   (∀ v y, S y → (∀ j u, j < n → j ≠ i → G j x u → G j y u) → G i y v → K ((F t).put o.dst v) y) →
   if Region.wanted o (yielded l.toArray (F t).tmps) = true then Oper.wp P o (F t) x K Q else K ((F t).put o.dst undef) x)
  (hdone : ∀ (t : Nat → Value) (x : World), S x → (∀ j, j < n → G j x (t (d j))) → wpList P l.toArray Q (l.drop n) (F t) x) :
  ∀ (f : Nat) (listed : Array Bool) (t : Nat → Value) (x : World), leftH listed = f → HeadInv .any l.toArray n listed → S x → (∀ j, j < n → listed.getD j false = true → G j x (t (d j))) → wpAny P .any l.toArray Q f listed (F t) x := by
 have hsz : l.toArray.size = n + (l.length - n) := by simp; omega
 have hn2 : n < l.toArray.size := by simpa using hn
 intro f
 induction f with
 | zero =>
  intro listed t x hf inv hS hG
  have h1 := inv.tail n (Nat.le_refl _) hn2
  have := leftH_set h1
  omega
 | succ f ih =>
  intro listed t x hf inv hS hG
  by_cases hall : ∀ i, i < n → listed.getD i false = true
  ·
   have e := allListed (inv.size.trans hsz) hall (fun u h1 h2 => inv.tail u h1 (by omega))
   have hl : leftH listed = l.length - n := by rw [e]; unfold leftH; simp [List.count_replicate]
   have hf2 : f + 1 = (l.drop n).length := by rw [List.length_drop]; omega
   rw [hf2]
   refine wpAny_of_seq (md := .any) (Q' := Q) (l.drop n) n listed (F t) x (fun j => by simp [List.getElem?_drop]) ?_ (hdone t x hS fun j hj => hG j hj (hall j hj))
   rw [List.length_drop, e]
   exact hq
  ·
   obtain ⟨i0, hi0, hu0⟩ : ∃ i, i < n ∧ listed.getD i false = false := by
    refine Classical.byContradiction fun hno => hall fun i hi => ?_
    cases h : listed.getD i false with
    | true => rfl
    | false => exact absurd ⟨i, hi, h⟩ hno
   have hu0' : listed.getD i0 true = false := getD_in (by rw [inv.size]; omega) hu0
   refine ⟨fun hr => absurd (firsts inv.size hn2 hb hr) hall, fun i hi => ?_⟩
   have hin : i < n := by
    rcases Nat.lt_or_ge i n with h | h
    ·
     exact h
    ·
     exact absurd hi (tail_waits hs hc hn2 inv _ i0 rfl hi0 hu0' i h)
   obtain ⟨h1, o, ho, hdep⟩ := mem_ready.1 hi
   have hdn : ∀ e ∈ o.after, Region.binds .any e = true → e.on < i := backB_spec hb hin ho
   have ho2 : l[i]? = some o := by simpa using ho
   have hc1 := leftH_set h1
   have key := hstep i o hin ho2 t x hS (fun e he hbd => hG e.on (by have := hdn e he hbd; omega) (hdep e he hbd)) (wpAny P .any l.toArray Q f (listed.setIfInBounds i true)) (fun v y hSy hkeep hGi => by
    rw [hput i o hin ho2 t v]
    refine ih _ _ y (by omega) (inv.set hi hin) hSy fun j hj hl => ?_
    by_cases hji : j = i
    ·
     subst hji
     rw [updH_same]
     exact hGi
    ·
     rw [updH_other _ _ (hinj i j hin hj hji)]
     rw [getD_set_ne false (Ne.symm hji)] at hl
     exact hkeep j _ hj hji (hG j hj hl))
   unfold wpOp
   rw [ho]
   show if Region.wanted o (yielded l.toArray (F t).tmps) = true then _ else _
   split
   ·
    rename_i hw
    rw [if_pos hw] at key
    exact Or.inl key
   ·
    rename_i hw
    rw [if_neg hw] at key
    exact key
theorem region_heads {l : List Oper} {Q : Exit → Act → World → Prop} {id : Nat} {a : Act} {w : World} (n : Nat) (hm : P.follows .mixedOrders = true) (hn : n < l.length) (hs : Region.sinkB .any l.toArray n = true) (hc : Region.chainB .any l.toArray n = true)
  (hq : Region.seqB .any l.toArray (l.length - n) n (Array.replicate n true ++ Array.replicate (l.length - n) false) = true) (hb : backB l.toArray n = true)
  (F : (Nat → Value) → Act) (d : Nat → Nat) (S : World → Prop) (G : Nat → World → Value → Prop) (hinj : ∀ i j, i < n → j < n → j ≠ i → d j ≠ d i) (hput : ∀ (i : Nat) (o : Oper), i < n → l[i]? = some o → ∀ (t : Nat → Value) (v : Value), (F t).put o.dst v = F (updH t (d i) v)) (t0 : Nat → Value) (h0 : a = F t0) (hS : S w.drew)
  (hstep : ∀ (i : Nat) (o : Oper), i < n → l[i]? = some o → ∀ (t : Nat → Value) (x : World), S x → (∀ e ∈ o.after, Region.binds .any e = true → G e.on x (t (d e.on))) → ∀ K : Act → World → Prop,
   (∀ v y, S y → (∀ j u, j < n → j ≠ i → G j x u → G j y u) → G i y v → K ((F t).put o.dst v) y) →
   if Region.wanted o (yielded l.toArray (F t).tmps) = true then Oper.wp P o (F t) x K Q else K ((F t).put o.dst undef) x)
  (hdone : ∀ (t : Nat → Value) (x : World), S x → (∀ j, j < n → G j x (t (d j))) → wpList P l.toArray Q (l.drop n) (F t) x) : (Code.region id l.toArray true).wp P Q a w := by
 subst h0
 refine wp_region_any hm ?_
 have inv0 : HeadInv .any l.toArray n (Array.replicate l.toArray.size false) := ⟨by simp, fun j oj _ hl => (by rw [getD_replicate_false] at hl; cases hl), fun t _ ht => getD_in (by simpa using ht) (getD_replicate_false _ _)⟩
 exact any_heads n hn hs hc hq hb F d S G hinj hput hstep hdone _ _ t0 _ (by unfold leftH; simp) inv0 hS (fun j _ hl => by rw [getD_replicate_false] at hl; cases hl)
end
open Go.RowKit Go.Sort

theorem wantG {ops : Array Oper} {o : Oper} {a : Act} (j : Nat) (b : Bool) (hg : o.guard = some (j, b)) (o2 : Oper) (h1 : ops[j]? = some o2) (d : Nat) (h2 : o2.dst = some d) (h3 : a.tmps[d]? = some (.bool b)) : Region.wanted o (yielded ops a.tmps) = true := by
 simp [Region.wanted, yielded, hg, h1, h2, h3]
theorem callG {ops : Array Oper} {o : Oper} {a : Act} {w : World} {K : Act → World → Prop} {Q : Exit → Act → World → Prop} {E : Prop} (hw : Region.wanted o (yielded ops a.tmps) = true) (f : FuncId) (xs : Array Operand) (ts : Array TypeId)
  (ho : o.op = .call { callee := .value (.func f), args := xs, argTypes := ts }) (vals : Array Value) (hv : xs.map a.eval = vals) (hent : ∀ w, (callFunc f vals).run Tryz.prog w = .ok (.enter f vals) w) (R : Value → World → Prop)
  (hc : Calls Tryz.prog f vals w fun e w' => ∃ v, e = .returned v ∧ R v w') (h : ∀ v w', R v w' → K (a.put o.dst v) w') :
  if Region.wanted o (yielded ops a.tmps) = true then Oper.wp Tryz.prog o a w K Q else E := by
 rw [if_pos hw]
 unfold Oper.wp
 have he : (execOp a.eval o).run Tryz.prog w = .ok (.enter f vals) w := by
  simp [execOp, ho, resolve, invoke, hv]
  rw [show a.eval (Operand.func f) = _ from rfl]
  simp [Act.eval, Deferred.ofValue, hent]
 rw [he, Oper.upon_enter]
 refine hc.mono ?_
 rintro e w' ⟨v, rfl, hr⟩
 exact h v w' hr
theorem callG2 {ops : Array Oper} {o : Oper} {a : Act} {w : World} {K : Act → World → Prop} {Q : Exit → Act → World → Prop} {E : Prop} (hw : Region.wanted o (yielded ops a.tmps) = true) (f : FuncId) (x0 x1 : Operand) (ts : Array TypeId)
  (ho : o.op = .call { callee := .value (.func f), args := #[x0, x1], argTypes := ts }) (v0 v1 : Value) (h0 : a.eval x0 = v0) (h1 : a.eval x1 = v1) (hent : ∀ w, (callFunc f #[v0, v1]).run Tryz.prog w = .ok (.enter f #[v0, v1]) w) (R : Value → World → Prop)
  (hc : Calls Tryz.prog f #[v0, v1] w fun e w' => ∃ v, e = .returned v ∧ R v w') (h : ∀ v w', R v w' → K (a.put o.dst v) w') :
  if Region.wanted o (yielded ops a.tmps) = true then Oper.wp Tryz.prog o a w K Q else E :=
 callG hw f #[x0, x1] ts ho #[v0, v1] (by simp [h0, h1]) hent R hc h
theorem callG1 {ops : Array Oper} {o : Oper} {a : Act} {w : World} {K : Act → World → Prop} {Q : Exit → Act → World → Prop} {E : Prop} (hw : Region.wanted o (yielded ops a.tmps) = true) (f : FuncId) (x0 : Operand) (ts : Array TypeId)
  (ho : o.op = .call { callee := .value (.func f), args := #[x0], argTypes := ts }) (v0 : Value) (h0 : a.eval x0 = v0) (hent : ∀ w, (callFunc f #[v0]).run Tryz.prog w = .ok (.enter f #[v0]) w) (R : Value → World → Prop)
  (hc : Calls Tryz.prog f #[v0] w fun e w' => ∃ v, e = .returned v ∧ R v w') (h : ∀ v w', R v w' → K (a.put o.dst v) w') :
  if Region.wanted o (yielded ops a.tmps) = true then Oper.wp Tryz.prog o a w K Q else E :=
 callG hw f #[x0] ts ho #[v0] (by simp [h0]) hent R hc h
end Go.Proofs.YtdkhdjickkcaiaaGreat
