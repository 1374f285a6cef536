/-
  The program's views, logs, and who leads, by contract.
  The program's counts and changes, by contract.
  Numbers gathered and put in order by the library; the middle of an odd many.
-/
import Derived.Test.YtdkhdjickkcaiaaRN15
import Derived.Lib.QuietBelow
import Derived.BigQuiet
import Derived.Test.YtdkhdjickkcaiaaRN03
import Derived.Deep.DeepCutAuto
import Derived.Test.YtdkhdjickkcaiaaRN14
import Derived.Test.YtdkhdjickkcaiaaShelfN
import Derived.Test.YtdkhdjickkcaiaaRN10
import Derived.Test.YtdkhdjickkcaiaaRN02
import Derived.Tactics
import Derived.Deep.RegionWith
import Derived.Test.YtdkhdjickkcaiaaRN11
import Derived.Lib.ItoaNum
import Derived.WalkKit
import Derived.WalkSpells
import Derived.Lib.SmallJoins
import Derived.Test.YtdkhdjickkcaiaaRows
import Derived.StillTail
import Derived.Deep.QuietTactic
import Derived.Test.YtdkhdjickkcaiaaRN05
import Derived.Test.YtdkhdjickkcaiaaRN09
import Derived.Sort.OwnSortedInts
namespace Go.Proofs.Ytdkhdjickkcaiaa.Rl
open Go.RowKit Go.Sort
set_option linter.unusedVariables false
set_option linter.unusedSimpArgs false

/-- A replica in block b. -/
def RpB (w : World) (b : Nat) (r : Rp) (u : Rv) : Prop := Bx w b 53 #[.int .i64 r.id, .int .i64 r.p, .int .i64 r.v, .bool r.n, .int .i64 r.la, u.l, .int .i64 r.c, u.ok, u.ch, u.te]
theorem dB_mine {r : Rp} : (decide (r.v % r.p = r.id)) = dB (mine r) := by
  by_cases h : r.v % r.p = r.id
  · rw [decide_eq_true h]; exact (dB_yes (P := mine r) h).symm
  · rw [decide_eq_false h]; exact (dB_no (P := mine r) h).symm
set_option maxRecDepth 100000 in
set_option maxHeartbeats 4000000 in
theorem implNx (r : Rp) (u : Rv) (b : Nat) (w : World) (h : RpB w b r u) (hv : 0 ≤ r.v ∧ r.v ≤ 20000) (hp : pOk r.p) :
    Calls Try.prog 82 #[.pointer (some ⟨b, 0, none⟩)] w fun e w' => e = .returned (.bool (dB (mine r))) ∧ Below w.heap.size w w' := by
  have j1 : ∀ d os, Calls Try.prog 90 #[.int .i64 r.v, .int .i64 r.p] (grow (redrawn w d) os) fun e w'' => e = .returned (.int .i64 (r.v % r.p)) ∧ ∃ p : Regrown, w'' = grow (redrawn w p.d) p.os := fun d os => Calls.regrown_of ((implLd r.v r.p _ hv hp).mono fun e w' ⟨h1, h2⟩ => ⟨h1, h2 ▸ Below.refl _ _⟩)
  have HM : Hid ((r.v % r.p == r.id) = dB (mine r)) := (show _ = _ by rw [← dB_mine]; by_cases hh : r.v % r.p = r.id <;> simp [hh])
  have k0 := cell_regrown (Bx.cell h 0)
  have k1 := cell_regrown (Bx.cell h 1)
  have k2 := cell_regrown (Bx.cell h 2)
  clear h
  generalize r.v % r.p = q at j1 HM
  generalize dB (mine r) = B at HM ⊢
  go_enter Try.func82, Try.ntmps82
  go_upto_region 1 with fail
  refine wp_region_quiet_below (by kernel_rfl) (by kernel_rfl) ?_
  repeat (go_big_quiet_step (first | (with_reducible exact j1 _ _)))
  refine wpQuiet_nil ?_
  intro _ hw'
  obtain ⟨⟨dq, osq⟩, hw''⟩ := hw'
  subst hw''
  have BN : Hid (Below w.heap.size w (grow (redrawn w dq) osq)) := (show Hid _ from below_regrown w dq osq)
  generalize grow (redrawn w dq) osq = wn at BN ⊢
  go_wp2
  go_ret
  exact ⟨congrArg (fun b => Ending.returned (.bool b)) HM.out, BN.out⟩
set_option maxRecDepth 100000 in
set_option maxHeartbeats 4000000 in
theorem implLeads (r : Rp) (u : Rv) (b : Nat) (w : World) (h : RpB w b r u) (hv : 0 ≤ r.v ∧ r.v ≤ 20000) (hp : pOk r.p) :
    Calls Try.prog 80 #[.pointer (some ⟨b, 0, none⟩)] w fun e w' => e = .returned (.bool (dB (leads r))) ∧ Below w.heap.size w w' := by
  have j1 := implNx r u b w h hv hp
  have c3 := Bx.cell h 3
  cases hn : r.n with
  | false =>
    have HL : Hid (false = dB (leads r)) := (show _ = _ from (dB_no (fun hl => by have := hl.1; rw [hn] at this; cases this)).symm)
    change w.cell? ⟨b, 3, none⟩ = some (.bool r.n) at c3
    rw [hn] at c3
    clear h j1 hn
    go_enter Try.func80, Try.ntmps80
    go_wp2
    go_ret
    exact ⟨congrArg (fun b => Ending.returned (.bool b)) HL.out, Below.refl _ _⟩
  | true =>
    have HL : Hid (dB (mine r) = dB (leads r)) := (show _ = _ by
      by_cases hm : mine r
      · rw [dB_yes hm, dB_yes (show leads r from ⟨hn, hm⟩)]
      · rw [dB_no hm, dB_no (fun hl : leads r => hm hl.2)])
    change w.cell? ⟨b, 3, none⟩ = some (.bool r.n) at c3
    rw [hn] at c3
    clear h hn
    go_enter Try.func80, Try.ntmps80
    go_wp2_with fail
    refine j1.mono ?_
    rintro e w1 ⟨rfl, hb⟩
    go_wp2
    go_ret
    exact ⟨congrArg (fun b => Ending.returned (.bool b)) HL.out, hb⟩
end Go.Proofs.Ytdkhdjickkcaiaa.Rl
namespace Go.Proofs.Ytdkhdjickkcaiaa.Rl
open Go.RowKit Go.Sort
set_option linter.unusedVariables false
set_option linter.unusedSimpArgs false

theorem RpB.cells {w : World} {b : Nat} {r : Rp} {u : Rv} (h : RpB w b r u) : w.cell? ⟨b, 0, none⟩ = some (.int .i64 r.id) ∧ w.cell? ⟨b, 1, none⟩ = some (.int .i64 r.p) ∧ w.cell? ⟨b, 2, none⟩ = some (.int .i64 r.v) ∧ w.cell? ⟨b, 3, none⟩ = some (.bool r.n) ∧ w.cell? ⟨b, 4, none⟩ = some (.int .i64 r.la) ∧ w.cell? ⟨b, 5, none⟩ = some u.l ∧ w.cell? ⟨b, 6, none⟩ = some (.int .i64 r.c) ∧ w.cell? ⟨b, 7, none⟩ = some u.ok ∧ w.cell? ⟨b, 8, none⟩ = some u.ch ∧ w.cell? ⟨b, 9, none⟩ = some u.te :=
  ⟨Bx.cell h 0, Bx.cell h 1, Bx.cell h 2, Bx.cell h 3, Bx.cell h 4, Bx.cell h 5, Bx.cell h 6, Bx.cell h 7, Bx.cell h 8, Bx.cell h 9⟩
end Go.Proofs.Ytdkhdjickkcaiaa.Rl
namespace Go.Proofs.Ytdkhdjickkcaiaa.Rl
open Go.RowKit Go.Sort Go.Shelf
set_option linter.unusedVariables false
set_option linter.unusedSimpArgs false

/-- Numbers in order. -/
def srtI (L : List Int) : List Int := L.mergeSort fun x y => decide (x ≤ y)
theorem srtI_len (L : List Int) : (srtI L).length = L.length := by unfold srtI; rw [List.length_mergeSort]
theorem srtI_perm (L : List Int) : (srtI L).Perm L := List.mergeSort_perm _ _
theorem srtI_up (L : List Int) : (srtI L).Pairwise (· ≤ ·) := by
  have h := List.pairwise_mergeSort (le := fun x y : Int => decide (x ≤ y)) (fun a b c h1 h2 => by simp at *; omega) (fun a b => by simp; omega) L
  unfold srtI
  simpa using h
theorem cntF_srt (L : List Int) (n : Int) : cntF (srtI L) n = cntF L n := by
  unfold cntF
  exact ((srtI_perm L).filter _).length_eq
/-- The one in the middle. -/
def midI (L : List Int) : Int := (srtI L).getD (L.length / 2) 0
theorem mid_maj {L : List Int} {p : Int} (hp : pOk p) (hl : (L.length : Int) = p) (n : Int) : maj (cntF L n) p ↔ n ≤ midI L := by
  have hs := srtI_len L
  have hu := srtI_up L
  rw [← cntF_srt]
  unfold midI
  generalize srtI L = s at hs hu
  rw [← hs]
  rw [← hs] at hl
  unfold maj cntF
  clear hs
  rcases hp with h | h | h
  · obtain ⟨a, rfl⟩ : ∃ a, s = [a] := by
      match s, (show s.length = 1 by omega) with
      | [a], _ => exact ⟨a, rfl⟩
    subst h
    by_cases h1 : n ≤ a <;> simp [List.filter, h1]
  · obtain ⟨a, b, c, rfl⟩ : ∃ a b c, s = [a, b, c] := by
      match s, (show s.length = 3 by omega) with
      | [a, b, c], _ => exact ⟨a, b, c, rfl⟩
    subst h
    simp at hu
    by_cases h1 : n ≤ a <;> by_cases h2 : n ≤ b <;> by_cases h3 : n ≤ c <;> simp [List.filter, h1, h2, h3] <;> omega
  · obtain ⟨a, b, c, d, e, rfl⟩ : ∃ a b c d e, s = [a, b, c, d, e] := by
      match s, (show s.length = 5 by omega) with
      | [a, b, c, d, e], _ => exact ⟨a, b, c, d, e, rfl⟩
    subst h
    simp at hu
    by_cases h1 : n ≤ a <;> by_cases h2 : n ≤ b <;> by_cases h3 : n ≤ c <;> by_cases h4 : n ≤ d <;> by_cases h5 : n ≤ e <;> simp [List.filter, h1, h2, h3, h4, h5] <;> omega
theorem mid_mem {L : List Int} (h : 0 < L.length) : midI L ∈ L := by
  have hs := srtI_len L
  have hj : L.length / 2 < (srtI L).length := by rw [hs]; omega
  unfold midI
  rw [List.getD_eq_getElem?_getD, List.getElem?_eq_getElem hj]
  exact (srtI_perm L).subset (List.getElem_mem hj)
theorem cmF_mid {L : List Int} {p c : Int} (hp : pOk p) (hl : (L.length : Int) = p) (hc : 0 ≤ c) : ∀ N : Nat, cmF L p c N = max c (min (midI L) N)
  | 0 => by unfold cmF; omega
  | N + 1 => by
    have ih := cmF_mid hp hl hc N
    unfold cmF
    rw [mid_maj hp hl]
    split
    · rename_i hh
      omega
    · rename_i hh
      rw [ih]
      omega
theorem cmF_is {L : List Int} {p c : Int} {N : Nat} (hp : pOk p) (hl : (L.length : Int) = p) (hc : 0 ≤ c) (hx : ∀ x ∈ L, x ≤ (N : Int)) : cmF L p c N = max c (midI L) := by
  rw [cmF_mid hp hl hc]
  have : midI L ≤ (N : Int) := hx _ (mid_mem (by rcases hp with h | h | h <;> omega))
  omega
set_option maxRecDepth 100000 in
set_option maxHeartbeats 4000000 in
/-- Gathered anew and put in order. -/
theorem implSorted (g cap : Nat) (L : List Int) (Bv : Nat) (w : World) (hg : g < w.heap.size) (hBv : Bv < w.heap.size) (h0 : 0 < L.length) (hlen : L.length ≤ 1048576)
    (hv : w.cell? ⟨Bv, 0, none⟩ = some (.slice (some ⟨g, 0, none⟩) L.length cap)) (hc : ∀ j (h : j < L.length), w.cell? ⟨g, j, none⟩ = some (.int .i64 L[j])) :
    Calls Try.prog 91 #[.func (.func 99) #[] #[.pointer (some ⟨Bv, 0, none⟩)]] w fun e w' => ∃ a c, e = .returned (.slice a L.length c) ∧ OwnsN w' w.heap.size (.slice a L.length c) (srtI L) ∧ Below w.heap.size w w' := by
  have j1 := implColl g cap L Bv w hg hBv hlen hv hc
  clear hv hc
  go_enter Try.func91, Try.ntmps91
  go_wp2_with fail
  refine j1.mono ?_
  rintro e w2 ⟨v, rfl, ho, hb⟩
  rcases ho.2 with ⟨e0, e1⟩ | ⟨g2, c2, cur, rfl, hbase, hgb, r1, r2, r3, r4⟩
  · omega
  have ht : cur.toList.take L.length = L.map (Value.int .i64) := by rw [← cellsN_is]; have e : L.length * intE.k = L.length := Nat.mul_one _; rw [e] at r4; exact r4
  have HH : Holds (Value.int .i64) w2 g2 0 L.toArray := holds_of_blockI hgb ht
  have j2 := Try.slices_Sort_int g2 0 c2 L w2 HH (Array.getElem?_eq_some_iff.1 hgb).1 (by omega)
  have HR : Hid (∀ n os, OwnsN (grow (putRow (Value.int .i64) (Sort.ahead w2 n) g2 0 (srtI L).toArray) os) w.heap.size (.slice (some ⟨g2, 0, none⟩) L.length c2) (srtI L)) := (show ∀ _ _, _ from fun n os => by
    have := ownsRow_sortedI (n := n) (os := os) (ts := srtI L) (srtI_len L) hbase hgb r1 r2 r3
    unfold OwnsN OwnsE
    rw [cellsN_is, srtI_len]
    exact this)
  have HB : Hid (∀ n os, Below w.heap.size w (grow (putRow (Value.int .i64) (Sort.ahead w2 n) g2 0 (srtI L).toArray) os)) := (show ∀ _ _, _ from fun n os => hb.grown (grownBy_sortedI _) hb.size (fun j hj => by cases hj; exact hbase))
  clear ho hb j1 HH ht hgb r1 r2 r3 r4
  go_wp2_with fail
  refine j2.mono ?_
  rintro e w3 ⟨rfl, n, os, rfl⟩
  have h1 := HR.out n os
  have h2 := HB.out n os
  unfold srtI at h1 h2
  generalize grow (putRow (Value.int .i64) (Sort.ahead w2 n) g2 0 (L.mergeSort fun x y => decide (x ≤ y)).toArray) os = w4 at h1 h2 ⊢
  clear j2 HR HB
  go_wp2
  go_ret
  exact ⟨_, _, rfl, h1, h2⟩
end Go.Proofs.Ytdkhdjickkcaiaa.Rl
