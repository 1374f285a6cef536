/-
  What is a right message, and so many servers: the program's, by contract.
  A right replica, part by part, as plain data.
  The program's views, logs, and who leads, by contract.
-/
import Derived.Test.YtdkhdjickkcaiaaRK21
import Derived.Test.YtdkhdjickkcaiaaRK22
import Derived.Test.YtdkhdjickkcaiaaRK13
import Derived.Lib.QuietBelow
import Derived.BigQuiet
namespace Go.Proofs.Ytdkhdjickkcaiaa.Rl
open Go.RowKit Go.Sort Pg
set_option linter.unusedVariables false
set_option linter.unusedSimpArgs false

theorem implPrs (p : Int) (w : World) : Calls Try.prog 27 #[.int .i64 p] w fun e w' => e = .returned (.bool (decide (pOk p))) ∧ w = w' := by
  by_cases h1 : p = 1
  · subst h1
    have hd : Hid (decide (pOk 1) = true) := (show _ = _ from decide_eq_true (.inl rfl))
    go_enter Try.func27, Try.ntmps27
    go_wp2
    go_ret
    exact ⟨congrArg (fun b => Ending.returned (.bool b)) hd.out.symm, rfl⟩
  by_cases h3 : p = 3
  · subst h3
    have hd : Hid (decide (pOk 3) = true) := (show _ = _ from decide_eq_true (.inr (.inl rfl)))
    go_enter Try.func27, Try.ntmps27
    go_wp2
    go_ret
    exact ⟨congrArg (fun b => Ending.returned (.bool b)) hd.out.symm, rfl⟩
  have e1 : (p == 1) = false := by simpa using h1
  have e3 : (p == 3) = false := by simpa using h3
  by_cases h5 : p = 5
  · subst h5
    have hd : Hid (decide (pOk 5) = true) := (show _ = _ from decide_eq_true (.inr (.inr rfl)))
    go_enter Try.func27, Try.ntmps27
    go_wp2
    go_ret
    exact ⟨congrArg (fun b => Ending.returned (.bool b)) hd.out.symm, rfl⟩
  have e5 : (p == 5) = false := by simpa using h5
  have hd : Hid (decide (pOk p) = false) := (show _ = _ from decide_eq_false (fun h => by rcases h with h | h | h <;> contradiction))
  go_enter Try.func27, Try.ntmps27
  go_wp2
  go_ret
  exact ⟨congrArg (fun b => Ending.returned (.bool b)) hd.out.symm, rfl⟩
def ipB (s p : Int) : Bool := decide (0 ≤ s ∧ s < p)
theorem implIp (s p : Int) (w : World) : Calls Try.prog 29 #[.int .i64 s, .int .i64 p] w fun e w' => e = .returned (.bool (ipB s p)) ∧ w = w' := by
  unfold ipB
  by_cases h1 : 0 ≤ s
  · by_cases h2 : s < p
    · rw [decide_eq_true (p := 0 ≤ s ∧ s < p) ⟨h1, h2⟩]
      go_enter Try.func29, Try.ntmps29
      go_wp2
      go_ret
      exact ⟨rfl, rfl⟩
    · rw [decide_eq_false (p := 0 ≤ s ∧ s < p) (fun h => h2 h.2)]
      go_enter Try.func29, Try.ntmps29
      go_wp2
      go_ret
      exact ⟨rfl, rfl⟩
  · rw [decide_eq_false (p := 0 ≤ s ∧ s < p) (fun h => h1 h.1)]
    go_enter Try.func29, Try.ntmps29
    go_wp2
    go_ret
    exact ⟨rfl, rfl⟩
theorem ipB_yes {s p : Int} (h : ipB s p = true) : 0 ≤ s ∧ s < p := of_decide_eq_true h
theorem ipB_no {s p : Int} (h : ipB s p = false) : ¬ (0 ≤ s ∧ s < p) := of_decide_eq_false h
theorem modE {v p : Int} (hv : 0 ≤ v) : Int.tmod v p = v % p := Int.tmod_eq_emod_of_nonneg hv
theorem implLd (v p : Int) (w : World) (hv : 0 ≤ v ∧ v ≤ 20000) (hp : pOk p) : Calls Try.prog 90 #[.int .i64 v, .int .i64 p] w fun e w' => e = .returned (.int .i64 (v % p)) ∧ w = w' := by
  have hp0 : (p == 0) = false := by rcases hp with rfl | rfl | rfl <;> rfl
  have hpz : ¬ p = 0 := by rcases hp with rfl | rfl | rfl <;> decide
  have hb : 0 ≤ v % p ∧ v % p < 20001 := by rcases hp with rfl | rfl | rfl <;> omega
  have em : Int.tmod v p = v % p := modE hv.1
  have ew : wrap64 (v % p) = v % p := by unfold wrap64; omega
  have HR : Hid (Int.tmod v p = v % p) := em
  go_enter Try.func90, Try.ntmps90
  go_wp2
  go_ret
  first | exact ⟨rfl, rfl⟩ | exact ⟨by simp [em, ew], rfl⟩ | (trace_state; sorry)
set_option maxRecDepth 100000 in
set_option maxHeartbeats 4000000 in
theorem implMok (m : Ms) (u : Value) (p : Int) (w : World) (h : Sls txtE w u m.l) (hs : ∀ x ∈ m.l, x.size ≤ 1048576) :
    Calls Try.prog 83 #[msA m u, .int .i64 p] w fun e w' => e = .returned (.bool (msB m p)) ∧ Below w.heap.size w w' := by
  have j2 := fun W => implIp m.f p W
  have j3 := fun W => implIp m.t p W
  have j6 := fun W (hW : Below w.heap.size w W) => implLog u m.l W (h.kept hW) hs
  have HF : Hid (∀ b, (¬ MsOk m p) → b = false → Ending.returned (.bool b) = .returned (.bool (msB m p))) := (show ∀ _, _ from fun b h1 h2 => by rw [h2, msB_no h1])
  have HE : Hid (∀ b, (MsOk m p ↔ b = true) → Ending.returned (.bool b) = .returned (.bool (msB m p))) := (show ∀ _, _ from fun b h1 => by
    cases b with
    | true => rw [msB_yes (h1.2 rfl)]
    | false => rw [msB_no (fun hh => by have := h1.1 hh; cases this)])
  obtain ⟨a, cap, hv⟩ := Sls.slen0 h
  have hl60 : Hid (logB m.l = true → m.l.length ≤ 60) := (show _ → _ from fun hh => logB_len hh)
  subst hv
  unfold msA
  have B0 : Hid (Below w.heap.size w (w.alloc (.cells #[.int .i64 m.k, .int .i64 m.f, .int .i64 m.t, .int .i64 m.v, .int .i64 m.la, .slice a m.l.length cap, .int .i64 m.c] 57))) := (show Hid _ from (Below.refl _ w).alloc (Nat.le_refl _) _)
  clear h hs
  go_enter Try.func83, Try.ntmps83
  by_cases c1 : m.k < 1
  · go_wp2
    go_ret
    exact ⟨HF.out _ (fun h => by have := h.k; omega) rfl, B0.out⟩
  by_cases c2 : 4 < m.k
  · go_wp2
    go_ret
    exact ⟨HF.out _ (fun h => by have := h.k; omega) rfl, B0.out⟩
  go_wp2_with fail
  refine (j2 _).mono ?_
  rintro e w1 ⟨rfl, rfl⟩
  cases b2 : ipB m.f p with
  | false =>
    go_wp2
    go_ret
    exact ⟨HF.out _ (fun h => ipB_no b2 h.f) rfl, B0.out⟩
  | true =>
  go_wp2_with fail
  refine (j3 _).mono ?_
  rintro e w1 ⟨rfl, rfl⟩
  cases b3 : ipB m.t p with
  | false =>
    go_wp2
    go_ret
    exact ⟨HF.out _ (fun h => ipB_no b3 h.t) rfl, B0.out⟩
  | true =>
  by_cases c4 : m.v < 0
  · go_wp2
    go_ret
    exact ⟨HF.out _ (fun h => by have := h.v; omega) rfl, B0.out⟩
  by_cases c5 : 10000 < m.v
  · go_wp2
    go_ret
    exact ⟨HF.out _ (fun h => by have := h.v; omega) rfl, B0.out⟩
  by_cases c6 : m.la < 0
  · go_wp2
    go_ret
    exact ⟨HF.out _ (fun h => by have := h.la; omega) rfl, B0.out⟩
  by_cases c7 : m.v < m.la
  · go_wp2
    go_ret
    exact ⟨HF.out _ (fun h => by have := h.la; omega) rfl, B0.out⟩
  go_wp2_with fail
  refine (j6 _ B0.out).mono ?_
  rintro e w1 ⟨rfl, hb⟩
  have XA : Hid (Bx w1 w.heap.size 57 #[.int .i64 m.k, .int .i64 m.f, .int .i64 m.t, .int .i64 m.v, .int .i64 m.la, .slice a m.l.length cap, .int .i64 m.c]) := (show Hid _ from Bx.kept (Bx.new _ _ _) hb)
  have B1 : Hid (Below w.heap.size w w1) := (show Hid _ from B0.out.trans (hb.mono B0.out.size))
  clear hb B0
  cases b6 : logB m.l with
  | false =>
    go_wp2
    go_ret
    exact ⟨HF.out _ (fun h => by have := h.l; rw [b6] at this; cases this) rfl, B1.out⟩
  | true =>
  have x0 := XA.out.cell 0
  have x5 := XA.out.cell 5
  have x6 := XA.out.cell 6
  have HA : Hid (m.l.length ≤ 60) := hl60.out b6
  have hll := HA.out
  have OK : Hid (∀ hc, MsOk m p) := (show ∀ _ : (if m.k = 2 then 0 ≤ m.c ∧ m.c ≤ 60 else 0 ≤ m.c ∧ m.c ≤ (m.l.length : Int)), MsOk m p from fun hc => ⟨by omega, ipB_yes b2, ipB_yes b3, by omega, by omega, b6, hc⟩)
  clear j2 j3 j6 b2 b3 b6
  by_cases hk : m.k = 2
  · have HK : Hid (m.k = 2) := hk
    rw [hk] at x0
    clear hk
    by_cases d1 : 0 ≤ m.c
    · by_cases d2 : m.c ≤ 60
      · go_wp2
        go_ret
        exact ⟨HE.out _ ⟨fun h => by first | rfl | exact decide_eq_true d2, fun h => OK.out (by rw [if_pos HK.out]; exact ⟨d1, d2⟩)⟩, B1.out⟩
      · go_wp2
        go_ret
        exact ⟨HF.out _ (fun h => by have := h.c; rw [if_pos HK.out] at this; omega) (by first | rfl | exact decide_eq_false (by omega)), B1.out⟩
    · go_wp2
      go_ret
      exact ⟨HF.out _ (fun h => by have := h.c; rw [if_pos HK.out] at this; omega) (by first | rfl | exact decide_eq_false (by omega)), B1.out⟩
  · have hkb : (m.k == 2) = false := by simpa using hk
    have HK : Hid (¬ m.k = 2) := hk
    by_cases d1 : 0 ≤ m.c
    · by_cases d2 : m.c ≤ (m.l.length : Int)
      · go_wp2
        go_ret
        exact ⟨HE.out _ ⟨fun h => by first | rfl | exact decide_eq_true d2, fun h => OK.out (by rw [if_neg HK.out]; exact ⟨d1, d2⟩)⟩, B1.out⟩
      · go_wp2
        go_ret
        exact ⟨HF.out _ (fun h => by have := h.c; rw [if_neg HK.out] at this; omega) (by first | rfl | exact decide_eq_false (by omega)), B1.out⟩
    · go_wp2
      go_ret
      exact ⟨HF.out _ (fun h => by have := h.c; rw [if_neg HK.out] at this; omega) (by first | rfl | exact decide_eq_false (by omega)), B1.out⟩
end Go.Proofs.Ytdkhdjickkcaiaa.Rl
namespace Go.Proofs.Ytdkhdjickkcaiaa.Rl
open Pg
set_option linter.unusedVariables false
set_option linter.unusedSimpArgs false

open Classical in
/-- Whether it holds, as a Bool. -/
noncomputable def dB (P : Prop) : Bool := decide P
open Classical in
theorem dB_yes {P : Prop} (h : P) : dB P = true := by unfold dB; exact decide_eq_true h
open Classical in
theorem dB_no {P : Prop} (h : ¬ P) : dB P = false := by unfold dB; exact decide_eq_false h
theorem dB_iff {P : Prop} {b : Bool} (h : P ↔ b = true) : dB P = b := by
  cases b with
  | true => exact dB_yes (h.2 rfl)
  | false => exact dB_no (fun hp => by have := h.1 hp; cases this)
open Classical in
theorem dB_is {P : Prop} (h : dB P = true) : P := by
  unfold dB at h
  exact of_decide_eq_true h
open Classical in
theorem dB_not {P : Prop} (h : dB P = false) : ¬ P := by
  unfold dB at h
  exact of_decide_eq_false h
def VwP (r : Rp) : Prop := 0 ≤ r.v ∧ r.v ≤ 10000 ∧ 0 ≤ r.la ∧ (r.n = true → r.la = r.v) ∧ (r.n = false → r.la < r.v)
def LgP (r : Rp) : Prop := logB r.l = true ∧ 0 ≤ r.c ∧ r.c ≤ (r.l.length : Int)
def OkP (r : Rp) : Prop := (leads r → (r.ok.length : Int) = r.p ∧ r.ok[r.id.toNat]? = some (r.l.length : Int) ∧ ∀ x ∈ r.ok, 0 ≤ x ∧ x ≤ (r.l.length : Int)) ∧ (¬ leads r → r.ok = [])
def ChP (r : Rp) : Prop := (r.n = true → r.ch = []) ∧ (r.n = false → r.id ∈ r.ch ∧ r.ch.Pairwise (· < ·) ∧ ∀ x ∈ r.ch, 0 ≤ x ∧ x < r.p)
def TeP (r : Rp) : Prop := (r.n = true ∨ ¬ mine r → r.te = []) ∧ (r.n = false → mine r → (∀ m ∈ r.te, TeOk m r) ∧ r.te.Pairwise (fun a b => a.f < b.f))
theorem rp_parts (r : Rp) : RpOk r ↔ (r.p = 1 ∨ r.p = 3 ∨ r.p = 5) ∧ (0 ≤ r.id ∧ r.id < r.p) ∧ VwP r ∧ LgP r ∧ OkP r ∧ ChP r ∧ TeP r := by
  constructor
  · intro h
    refine ⟨h.p, h.id, ⟨h.v.1, h.v.2, h.la.1, fun hn => h.n.1 hn, fun hn => ?_⟩, ⟨h.l, h.c⟩, ⟨fun hl => h.ok1 hl.1 hl.2, h.ok0⟩, ⟨fun hn => (h.ch0 hn).1, h.ch1⟩, ⟨fun hn => ?_, fun hn _ => h.te1 hn⟩⟩
    · have h1 := h.la.2
      have h2 : ¬ r.la = r.v := fun e => by have := h.n.2 e; rw [hn] at this; cases this
      omega
    · rcases hn with hn | hn
      · exact (h.ch0 hn).2
      · cases e : r.n with
        | true => exact (h.ch0 e).2
        | false => exact h.te0 e hn
  · rintro ⟨hp, hid, ⟨v1, v2, v3, v4, v5⟩, ⟨l1, l2, l3⟩, ⟨o1, o2⟩, ⟨c1, c2⟩, ⟨t1, t2⟩⟩
    have hla : r.la ≤ r.v := by
      cases e : r.n with
      | true => have := v4 e; omega
      | false => have := v5 e; omega
    refine ⟨hp, hid, ⟨v1, v2⟩, l1, ⟨l2, l3⟩, ⟨v3, hla⟩, ⟨v4, fun e => ?_⟩, fun hn => ⟨c1 hn, t1 (.inl hn)⟩, fun hn hm => o1 ⟨hn, hm⟩, o2, c2, fun hn hm => t1 (.inr hm), fun hn => ?_⟩
    · cases en : r.n with
      | true => rfl
      | false => have := v5 en; omega
    · by_cases hm : mine r
      · exact t2 hn hm
      · rw [t1 (.inr hm)]
        exact ⟨fun m hm => (by cases hm), List.Pairwise.nil⟩
end Go.Proofs.Ytdkhdjickkcaiaa.Rl
namespace Go.Proofs.Ytdkhdjickkcaiaa.Rl
open Go.RowKit Go.Sort Pg
set_option linter.unusedVariables false
set_option linter.unusedSimpArgs false

/-- A replica in block b. -/
def RpB (w : World) (b : Nat) (r : Rp) (u : Rv) : Prop := Bx w b 53 #[.int .i64 r.id, .int .i64 r.p, .int .i64 r.v, .bool r.n, .int .i64 r.la, u.l, .int .i64 r.c, u.ok, u.ch, u.te]
theorem RpB.kept {w w' : World} {b : Nat} {r : Rp} {u : Rv} (h : RpB w b r u) (hb : Below w.heap.size w w') : RpB w' b r u := Bx.kept h hb
theorem dB_mine {r : Rp} : (decide (r.v % r.p = r.id)) = dB (mine r) := by
  by_cases h : r.v % r.p = r.id
  · rw [decide_eq_true h]; exact (dB_yes (P := mine r) h).symm
  · rw [decide_eq_false h]; exact (dB_no (P := mine r) h).symm
set_option maxRecDepth 100000 in
set_option maxHeartbeats 4000000 in
theorem implNx (r : Rp) (u : Rv) (b : Nat) (w : World) (h : RpB w b r u) (hv : 0 ≤ r.v ∧ r.v ≤ 20000) (hp : pOk r.p) :
    Calls Try.prog 82 #[.pointer (some ⟨b, 0, none⟩)] w fun e w' => e = .returned (.bool (dB (mine r))) ∧ Below w.heap.size w w' := by
  have j1 : ∀ d os, Calls Try.prog 90 #[.int .i64 r.v, .int .i64 r.p] (grow (redrawn w d) os) fun e w'' => e = .returned (.int .i64 (r.v % r.p)) ∧ ∃ p : Regrown, w'' = grow (redrawn w p.d) p.os := fun d os => Calls.regrown_of ((implLd r.v r.p _ hv hp).mono fun e w' ⟨h1, h2⟩ => ⟨h1, h2 ▸ Below.refl _ _⟩)
  have HM : Hid ((r.v % r.p == r.id) = dB (mine r)) := (show _ = _ by rw [← dB_mine]; by_cases hh : r.v % r.p = r.id <;> simp [hh])
  have k0 := cell_regrown (Bx.cell h 0)
  have k1 := cell_regrown (Bx.cell h 1)
  have k2 := cell_regrown (Bx.cell h 2)
  clear h
  generalize r.v % r.p = q at j1 HM
  generalize dB (mine r) = B at HM ⊢
  go_enter Try.func82, Try.ntmps82
  go_upto_region 1 with fail
  refine wp_region_quiet_below (by kernel_rfl) (by kernel_rfl) ?_
  repeat (go_big_quiet_step (first | (with_reducible exact j1 _ _)))
  refine wpQuiet_nil ?_
  intro _ hw'
  obtain ⟨⟨dq, osq⟩, hw''⟩ := hw'
  subst hw''
  have BN : Hid (Below w.heap.size w (grow (redrawn w dq) osq)) := (show Hid _ from below_regrown w dq osq)
  generalize grow (redrawn w dq) osq = wn at BN ⊢
  go_wp2
  go_ret
  exact ⟨congrArg (fun b => Ending.returned (.bool b)) HM.out, BN.out⟩
set_option maxRecDepth 100000 in
set_option maxHeartbeats 4000000 in
theorem implLeads (r : Rp) (u : Rv) (b : Nat) (w : World) (h : RpB w b r u) (hv : 0 ≤ r.v ∧ r.v ≤ 20000) (hp : pOk r.p) :
    Calls Try.prog 80 #[.pointer (some ⟨b, 0, none⟩)] w fun e w' => e = .returned (.bool (dB (leads r))) ∧ Below w.heap.size w w' := by
  have j1 := implNx r u b w h hv hp
  have c3 := Bx.cell h 3
  cases hn : r.n with
  | false =>
    have HL : Hid (false = dB (leads r)) := (show _ = _ from (dB_no (fun hl => by have := hl.1; rw [hn] at this; cases this)).symm)
    change w.cell? ⟨b, 3, none⟩ = some (.bool r.n) at c3
    rw [hn] at c3
    clear h j1 hn
    go_enter Try.func80, Try.ntmps80
    go_wp2
    go_ret
    exact ⟨congrArg (fun b => Ending.returned (.bool b)) HL.out, Below.refl _ _⟩
  | true =>
    have HL : Hid (dB (mine r) = dB (leads r)) := (show _ = _ by
      by_cases hm : mine r
      · rw [dB_yes hm, dB_yes (show leads r from ⟨hn, hm⟩)]
      · rw [dB_no hm, dB_no (fun hl : leads r => hm hl.2)])
    change w.cell? ⟨b, 3, none⟩ = some (.bool r.n) at c3
    rw [hn] at c3
    clear h hn
    go_enter Try.func80, Try.ntmps80
    go_wp2_with fail
    refine j1.mono ?_
    rintro e w1 ⟨rfl, hb⟩
    go_wp2
    go_ret
    exact ⟨congrArg (fun b => Ending.returned (.bool b)) HL.out, hb⟩
set_option maxRecDepth 100000 in
set_option maxHeartbeats 4000000 in
theorem implVw (r : Rp) (u : Rv) (b : Nat) (w : World) (h : RpB w b r u) :
    Calls Try.prog 57 #[.pointer (some ⟨b, 0, none⟩)] w fun e w' => e = .returned (.bool (dB (VwP r))) ∧ Below w.heap.size w w' := by
  have c2 := Bx.cell h 2
  have c3 := Bx.cell h 3
  have c4 := Bx.cell h 4
  change w.cell? ⟨b, 2, none⟩ = some (.int .i64 r.v) at c2
  change w.cell? ⟨b, 3, none⟩ = some (.bool r.n) at c3
  change w.cell? ⟨b, 4, none⟩ = some (.int .i64 r.la) at c4
  have HF : Hid (¬ VwP r → ∀ b, b = false → Ending.returned (.bool b) = .returned (.bool (dB (VwP r)))) := (show _ → ∀ _, _ from fun h1 b h2 => by rw [h2, dB_no h1])
  have HE : Hid (∀ b, (VwP r ↔ b = true) → Ending.returned (.bool b) = .returned (.bool (dB (VwP r)))) := (show ∀ _, _ from fun b h1 => by rw [dB_iff h1])
  clear h
  go_enter Try.func57, Try.ntmps57
  by_cases d1 : r.v < 0
  · go_wp2
    go_ret
    exact ⟨HF.out (fun h => by have := h.1; omega) _ rfl, Below.refl _ _⟩
  by_cases d2 : 10000 < r.v
  · go_wp2
    go_ret
    exact ⟨HF.out (fun h => by have := h.2.1; omega) _ rfl, Below.refl _ _⟩
  by_cases d3 : r.la < 0
  · go_wp2
    go_ret
    exact ⟨HF.out (fun h => by have := h.2.2.1; omega) _ rfl, Below.refl _ _⟩
  cases hn : r.n with
  | true =>
    rw [hn] at c3
    have HV : Hid (VwP r ↔ (r.la == r.v) = true) := (show _ ↔ _ from ⟨fun h => by simpa using h.2.2.2.1 hn, fun h => ⟨by omega, by omega, by omega, fun _ => (by simpa using h), fun e => (by rw [hn] at e; cases e)⟩⟩)
    go_upto_region 4 with fail
    go_quiet (fail)
    have BN : Hid (Below w.heap.size w (w.drewN nq)) := (show Hid _ from ⟨rfl, rfl, rfl, Nat.le_refl _, fun _ _ => rfl⟩)
    generalize w.drewN nq = wn at BN ⊢
    go_wp2
    go_ret
    exact ⟨HE.out _ HV.out, BN.out⟩
  | false =>
    rw [hn] at c3
    have HV : Hid (VwP r ↔ decide (r.la < r.v) = true) := (show _ ↔ _ from ⟨fun h => decide_eq_true (h.2.2.2.2 hn), fun h => ⟨by omega, by omega, by omega, fun e => (by rw [hn] at e; cases e), fun _ => of_decide_eq_true h⟩⟩)
    go_upto_region 5 with fail
    go_quiet (fail)
    have BN : Hid (Below w.heap.size w (w.drewN nq)) := (show Hid _ from ⟨rfl, rfl, rfl, Nat.le_refl _, fun _ _ => rfl⟩)
    generalize w.drewN nq = wn at BN ⊢
    go_wp2
    go_ret
    exact ⟨HE.out _ HV.out, BN.out⟩
set_option maxRecDepth 100000 in
set_option maxHeartbeats 4000000 in
theorem implLg (r : Rp) (u : Rv) (b : Nat) (w : World) (h : RpB w b r u) (hl : Sls txtE w u.l r.l) (hs : ∀ x ∈ r.l, x.size ≤ 1048576) (hlen : r.l.length ≤ 1048576) :
    Calls Try.prog 58 #[.pointer (some ⟨b, 0, none⟩)] w fun e w' => e = .returned (.bool (dB (LgP r))) ∧ Below w.heap.size w w' := by
  have jl := fun W (hW : Below w.heap.size w W) => implLog u.l r.l W (hl.kept hW) hs
  have HF : Hid (¬ LgP r → ∀ b, b = false → Ending.returned (.bool b) = .returned (.bool (dB (LgP r)))) := (show _ → ∀ _, _ from fun h1 b h2 => by rw [h2, dB_no h1])
  have HT : Hid (LgP r → ∀ b, b = true → Ending.returned (.bool b) = .returned (.bool (dB (LgP r)))) := (show _ → ∀ _, _ from fun h1 b h2 => by rw [h2, dB_yes h1])
  obtain ⟨la, lc, hv⟩ := Sls.slen0 hl
  have h5 : w.cell? ⟨b, 5, none⟩ = some u.l := Bx.cell h 5
  have h6 : w.cell? ⟨b, 6, none⟩ = some (.int .i64 r.c) := Bx.cell h 6
  rw [hv] at jl h5
  have k5 := cell_regrown h5
  have k6 := cell_regrown h6
  clear h h5 h6 hl hs hv
  have end1 : True := trivial
  cases hb : logB r.l with
  | false =>
    have HV : Hid (¬ LgP r) := (show ¬ _ from fun h => by have := h.1; rw [hb] at this; cases this)
    rw [hb] at jl
    have j1 : ∀ d os, Calls Try.prog 79 #[.slice la r.l.length lc] (grow (redrawn w d) os) fun e w'' => e = .returned (.bool false) ∧ ∃ p : Regrown, w'' = grow (redrawn w p.d) p.os := fun d os => Calls.regrown_of (jl _ (below_regrown w d os))
    clear jl
    go_enter Try.func58, Try.ntmps58
    go_upto_region 1 with fail
    refine wp_region_quiet_below (by kernel_rfl) (by kernel_rfl) ?_
    repeat (go_big_quiet_step (first | (with_reducible exact j1 _ _)))
    refine wpQuiet_nil ?_
    intro _ hw'
    obtain ⟨⟨dq, osq⟩, hw''⟩ := hw'
    subst hw''
    have BN : Hid (Below w.heap.size w (grow (redrawn w dq) osq)) := (show Hid _ from below_regrown w dq osq)
    generalize grow (redrawn w dq) osq = wn at BN ⊢
    go_wp2
    go_ret
    exact ⟨HF.out HV.out _ rfl, BN.out⟩
  | true =>
    rw [hb] at jl
    have j1 : ∀ d os, Calls Try.prog 79 #[.slice la r.l.length lc] (grow (redrawn w d) os) fun e w'' => e = .returned (.bool true) ∧ ∃ p : Regrown, w'' = grow (redrawn w p.d) p.os := fun d os => Calls.regrown_of (jl _ (below_regrown w d os))
    clear jl
    by_cases d1 : 0 ≤ r.c
    · by_cases d2 : r.c ≤ (r.l.length : Int)
      · have HV : Hid (LgP r) := (show LgP r from ⟨hb, d1, d2⟩)
        clear hb
        go_enter Try.func58, Try.ntmps58
        go_upto_region 1 with fail
        refine wp_region_quiet_below (by kernel_rfl) (by kernel_rfl) ?_
        repeat (go_big_quiet_step (first | (with_reducible exact j1 _ _)))
        refine wpQuiet_nil ?_
        intro _ hw'
        obtain ⟨⟨dq, osq⟩, hw''⟩ := hw'
        subst hw''
        have BN : Hid (Below w.heap.size w (grow (redrawn w dq) osq)) := (show Hid _ from below_regrown w dq osq)
        generalize grow (redrawn w dq) osq = wn at BN ⊢
        go_wp2
        go_ret
        exact ⟨HT.out HV.out _ (by first | rfl | exact decide_eq_true d2), BN.out⟩
      · have HV : Hid (¬ LgP r) := (show ¬ _ from fun h => d2 h.2.2)
        clear hb
        go_enter Try.func58, Try.ntmps58
        go_upto_region 1 with fail
        refine wp_region_quiet_below (by kernel_rfl) (by kernel_rfl) ?_
        repeat (go_big_quiet_step (first | (with_reducible exact j1 _ _)))
        refine wpQuiet_nil ?_
        intro _ hw'
        obtain ⟨⟨dq, osq⟩, hw''⟩ := hw'
        subst hw''
        have BN : Hid (Below w.heap.size w (grow (redrawn w dq) osq)) := (show Hid _ from below_regrown w dq osq)
        generalize grow (redrawn w dq) osq = wn at BN ⊢
        go_wp2
        go_ret
        exact ⟨HF.out HV.out _ (by first | rfl | exact decide_eq_false (by omega)), BN.out⟩
    · have HV : Hid (¬ LgP r) := (show ¬ _ from fun h => d1 h.2.1)
      clear hb
      go_enter Try.func58, Try.ntmps58
      go_upto_region 1 with fail
      refine wp_region_quiet_below (by kernel_rfl) (by kernel_rfl) ?_
      repeat (go_big_quiet_step (first | (with_reducible exact j1 _ _)))
      refine wpQuiet_nil ?_
      intro _ hw'
      obtain ⟨⟨dq, osq⟩, hw''⟩ := hw'
      subst hw''
      have BN : Hid (Below w.heap.size w (grow (redrawn w dq) osq)) := (show Hid _ from below_regrown w dq osq)
      generalize grow (redrawn w dq) osq = wn at BN ⊢
      go_wp2
      go_ret
      exact ⟨HF.out HV.out _ rfl, BN.out⟩
end Go.Proofs.Ytdkhdjickkcaiaa.Rl
