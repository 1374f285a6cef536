/-
  The program's views, logs, and who leads, by contract.
  The program's counts and changes, by contract.
  What tells are right; the program's ReplicaOk, by contract.
-/
import Derived.Test.YtdahfhkeeemdiaaK18
import Derived.Lib.QuietBelow
import Derived.BigQuiet
import Derived.Test.YtdahfhkeeemdiaaK12
import Derived.Deep.DeepCutAuto
namespace Go.Proofs.Ytdahfhkeeemdiaa.Rl
open Go.RowKit Go.Sort Pg
set_option linter.unusedVariables false
set_option linter.unusedSimpArgs false

/-- A replica in block b. -/
def RpB (w : World) (b : Nat) (r : Rp) (u : Rv) : Prop := Bx w b 31 #[.int .i64 r.id, .int .i64 r.p, .int .i64 r.v, .bool r.n, .int .i64 r.la, u.l, .int .i64 r.c, u.ok, u.ch, u.te]
theorem RpB.kept {w w' : World} {b : Nat} {r : Rp} {u : Rv} (h : RpB w b r u) (hb : Below w.heap.size w w') : RpB w' b r u := Bx.kept h hb
theorem dB_mine {r : Rp} : (decide (r.v % r.p = r.id)) = dB (mine r) := by
  by_cases h : r.v % r.p = r.id
  · rw [decide_eq_true h]; exact (dB_yes (P := mine r) h).symm
  · rw [decide_eq_false h]; exact (dB_no (P := mine r) h).symm
set_option maxRecDepth 100000 in
set_option maxHeartbeats 4000000 in
theorem implNx (r : Rp) (u : Rv) (b : Nat) (w : World) (h : RpB w b r u) (hv : 0 ≤ r.v ∧ r.v ≤ 20000) (hp : pOk r.p) :
    Calls Try.prog 55 #[.pointer (some ⟨b, 0, none⟩)] w fun e w' => e = .returned (.bool (dB (mine r))) ∧ Below w.heap.size w w' := by
  have j1 : ∀ d os, Calls Try.prog 69 #[.int .i64 r.v, .int .i64 r.p] (grow (redrawn w d) os) fun e w'' => e = .returned (.int .i64 (r.v % r.p)) ∧ ∃ p : Regrown, w'' = grow (redrawn w p.d) p.os := fun d os => Calls.regrown_of ((implLd r.v r.p _ hv hp).mono fun e w' ⟨h1, h2⟩ => ⟨h1, h2 ▸ Below.refl _ _⟩)
  have HM : Hid ((r.v % r.p == r.id) = dB (mine r)) := (show _ = _ by rw [← dB_mine]; by_cases hh : r.v % r.p = r.id <;> simp [hh])
  have k0 := cell_regrown (Bx.cell h 0)
  have k1 := cell_regrown (Bx.cell h 1)
  have k2 := cell_regrown (Bx.cell h 2)
  clear h
  generalize r.v % r.p = q at j1 HM
  generalize dB (mine r) = B at HM ⊢
  go_enter Try.func55, Try.ntmps55
  go_upto_region 1 with fail
  refine wp_region_quiet_below (by kernel_rfl) (by kernel_rfl) ?_
  repeat (go_big_quiet_step (first | (with_reducible exact j1 _ _)))
  refine wpQuiet_nil ?_
  intro _ hw'
  obtain ⟨⟨dq, osq⟩, hw''⟩ := hw'
  subst hw''
  have BN : Hid (Below w.heap.size w (grow (redrawn w dq) osq)) := (show Hid _ from below_regrown w dq osq)
  generalize grow (redrawn w dq) osq = wn at BN ⊢
  go_wp2
  go_ret
  exact ⟨congrArg (fun b => Ending.returned (.bool b)) HM.out, BN.out⟩
set_option maxRecDepth 100000 in
set_option maxHeartbeats 4000000 in
theorem implLeads (r : Rp) (u : Rv) (b : Nat) (w : World) (h : RpB w b r u) (hv : 0 ≤ r.v ∧ r.v ≤ 20000) (hp : pOk r.p) :
    Calls Try.prog 53 #[.pointer (some ⟨b, 0, none⟩)] w fun e w' => e = .returned (.bool (dB (leads r))) ∧ Below w.heap.size w w' := by
  have j1 := implNx r u b w h hv hp
  have c3 := Bx.cell h 3
  cases hn : r.n with
  | false =>
    have HL : Hid (false = dB (leads r)) := (show _ = _ from (dB_no (fun hl => by have := hl.1; rw [hn] at this; cases this)).symm)
    change w.cell? ⟨b, 3, none⟩ = some (.bool r.n) at c3
    rw [hn] at c3
    clear h j1 hn
    go_enter Try.func53, Try.ntmps53
    go_wp2
    go_ret
    exact ⟨congrArg (fun b => Ending.returned (.bool b)) HL.out, Below.refl _ _⟩
  | true =>
    have HL : Hid (dB (mine r) = dB (leads r)) := (show _ = _ by
      by_cases hm : mine r
      · rw [dB_yes hm, dB_yes (show leads r from ⟨hn, hm⟩)]
      · rw [dB_no hm, dB_no (fun hl : leads r => hm hl.2)])
    change w.cell? ⟨b, 3, none⟩ = some (.bool r.n) at c3
    rw [hn] at c3
    clear h hn
    go_enter Try.func53, Try.ntmps53
    go_wp2_with fail
    refine j1.mono ?_
    rintro e w1 ⟨rfl, hb⟩
    go_wp2
    go_ret
    exact ⟨congrArg (fun b => Ending.returned (.bool b)) HL.out, hb⟩
end Go.Proofs.Ytdahfhkeeemdiaa.Rl
namespace Go.Proofs.Ytdahfhkeeemdiaa.Rl
open Go.RowKit Go.Sort Pg
set_option linter.unusedVariables false
set_option linter.unusedSimpArgs false

theorem all_in {P : Int → Prop} {l : List Int} {k : Nat} (hk : k < l.length) (h : ∀ x ∈ l.take k, P x) (hx : P l[k]) : ∀ x ∈ l.take (k + 1), P x := fun x hx' => by
  rw [List.take_succ_eq_append_getElem hk] at hx'
  rcases List.mem_append.1 hx' with h1 | h1
  · exact h x h1
  · rw [List.mem_singleton.1 h1]; exact hx
theorem RpB.cells {w : World} {b : Nat} {r : Rp} {u : Rv} (h : RpB w b r u) : w.cell? ⟨b, 0, none⟩ = some (.int .i64 r.id) ∧ w.cell? ⟨b, 1, none⟩ = some (.int .i64 r.p) ∧ w.cell? ⟨b, 2, none⟩ = some (.int .i64 r.v) ∧ w.cell? ⟨b, 3, none⟩ = some (.bool r.n) ∧ w.cell? ⟨b, 4, none⟩ = some (.int .i64 r.la) ∧ w.cell? ⟨b, 5, none⟩ = some u.l ∧ w.cell? ⟨b, 6, none⟩ = some (.int .i64 r.c) ∧ w.cell? ⟨b, 7, none⟩ = some u.ok ∧ w.cell? ⟨b, 8, none⟩ = some u.ch ∧ w.cell? ⟨b, 9, none⟩ = some u.te :=
  ⟨Bx.cell h 0, Bx.cell h 1, Bx.cell h 2, Bx.cell h 3, Bx.cell h 4, Bx.cell h 5, Bx.cell h 6, Bx.cell h 7, Bx.cell h 8, Bx.cell h 9⟩
/-- The last of those before the k-th, or -1. -/
def bef1 (l : List Int) (k : Nat) : Int := if k = 0 then -1 else l.getD (k - 1) (-1)
structure ChS1 (l : List Int) (p : Int) (k : Nat) : Prop where
  s : (l.take k).Pairwise (· < ·)
  b : ∀ x ∈ l.take k, 0 ≤ x ∧ x < p
  t : ∀ x ∈ l.take k, x ≤ bef1 l k
  g : -1 ≤ bef1 l k
theorem ChS1.zero (l : List Int) (p : Int) : ChS1 l p 0 := ⟨by simp, by simp, by simp, by simp [bef1]⟩
theorem ChS1.next {l : List Int} {p : Int} {k : Nat} (h : ChS1 l p k) (hk : k < l.length) (h1 : bef1 l k < l[k]) (h2 : 0 ≤ l[k] ∧ l[k] < p) : ChS1 l p (k + 1) := by
  have e : bef1 l (k + 1) = l[k] := by unfold bef1; rw [if_neg (by omega), Nat.add_sub_cancel, List.getD_eq_getElem?_getD, List.getElem?_eq_getElem hk]; rfl
  have h3 : ∀ x ∈ l.take k, x < l[k] := fun x hx => by have := h.t x hx; omega
  refine ⟨?_, all_in (P := fun x => 0 ≤ x ∧ x < p) hk h.b h2, ?_, by rw [e]; omega⟩
  · rw [List.take_succ_eq_append_getElem hk, List.pairwise_append]
    exact ⟨h.s, List.pairwise_singleton _ _, fun x hx y hy => by rw [List.mem_singleton.1 hy]; exact h3 x hx⟩
  · rw [e]
    exact all_in (P := fun x => x ≤ l[k]) hk (fun x hx => Int.le_of_lt (h3 x hx)) (Int.le_refl _)
theorem ChS1.all {l : List Int} {p : Int} (h : ChS1 l p l.length) : l.Pairwise (· < ·) ∧ ∀ x ∈ l, 0 ≤ x ∧ x < p := by
  have h1 := h.s
  have h2 := h.b
  rw [List.take_length] at h1 h2
  exact ⟨h1, h2⟩
end Go.Proofs.Ytdahfhkeeemdiaa.Rl
namespace Go.Proofs.Ytdahfhkeeemdiaa.Rl
open Go.RowKit Go.Sort Pg
set_option linter.unusedVariables false
set_option linter.unusedSimpArgs false

/-- The first k of the tells are right. -/
structure TeS (r : Rp) (k : Nat) : Prop where
  s : ChS1 (r.te.map (·.f)) r.p k
  o : ∀ m ∈ r.te.take k, TeOk m r
theorem TeS.zero (r : Rp) : TeS r 0 := ⟨ChS1.zero _ _, by simp⟩
theorem TeS.next {r : Rp} {k : Nat} (h : TeS r k) (hk : k < r.te.length) (h1 : bef1 (r.te.map (·.f)) k < r.te[k].f) (h2 : TeOk r.te[k] r) : TeS r (k + 1) where
  s := h.s.next (by simpa using hk) (by simpa using h1) (by simpa using h2.ok.f)
  o := fun m hm => by
    rw [List.take_succ_eq_append_getElem hk] at hm
    rcases List.mem_append.1 hm with h3 | h3
    · exact h.o m h3
    · rw [List.mem_singleton.1 h3]; exact h2
theorem TeS.all {r : Rp} (h : TeS r r.te.length) : (∀ m ∈ r.te, TeOk m r) ∧ r.te.Pairwise (fun a b => a.f < b.f) := by
  have h1 := h.o
  rw [List.take_length] at h1
  have h2 := h.s
  rw [show r.te.length = (r.te.map (·.f)).length by simp] at h2
  have h3 := h2.all.1
  rw [List.pairwise_map] at h3
  exact ⟨h1, h3⟩
theorem RpGot.at {w : World} {u : Rv} {r : Rp} (h : RpGot w u r) {k : Nat} (hk : k < r.te.length) : ∃ (x : Mx) (hx : x ∈ u.T), x.m = r.te[k] ∧ k < u.T.length ∧ ∀ hk', u.T[k]'hk' = x := by
  have hl := h.tlen
  have hk' : k < u.T.length := by omega
  refine ⟨u.T[k], List.getElem_mem hk', ?_, hk', fun _ => rfl⟩
  have := congrArg (fun l => l[k]?) h.t
  simp [hk, hk'] at this
  exact this
end Go.Proofs.Ytdahfhkeeemdiaa.Rl
