/-
  The program's count.
  The program's countAnew: who leads counts, who does not counts nothing.
  Both sides' NewReplica.
-/
import Derived.Test.YtdkhdjickkcaiaaRN16
import Derived.Test.YtdkhdjickkcaiaaRN03
import Derived.Test.YtdkhdjickkcaiaaRN02
import Derived.Lib.ItoaNum
import Derived.WalkKit
import Derived.WalkSpells
import Derived.Lib.SmallJoins
import Derived.Test.YtdkhdjickkcaiaaRows
import Derived.StillTail
import Derived.Deep.QuietTactic
import Derived.Lib.QuietBelow
import Derived.BigQuiet
import Derived.Deep.DeepCutAuto
import Derived.Test.YtdkhdjickkcaiaaRN05
import Derived.Test.YtdkhdjickkcaiaaRN09
import Derived.Test.YtdkhdjickkcaiaaRN10
namespace Go.Proofs.Ytdkhdjickkcaiaa.Rl
open Go.RowKit Go.Sort Go.Shelf
set_option linter.unusedVariables false
set_option linter.unusedSimpArgs false

theorem then_gen {K : Act → World → Prop} {Q : Exit → Act → World → Prop} {x : Exit} {a : Act} {w : World} (h : ∀ W, W = w → Exit.then K Q x a W) : Exit.then K Q x a w := h _ rfl
theorem cntd_ok (r : Rp) : (cntd r).ok = r.ok.set r.id.toNat (r.l.length : Int) := rfl
set_option maxRecDepth 100000 in
set_option maxHeartbeats 8000000 in
/-- What is agreed on, counted. -/
theorem implCnt (r : Rp) (u : Rv) (b B : Nat) (w : World) (hB : RpB w b r u) (hO : HasN w B u.ok r.ok) (hl : ∃ a c, u.l = .slice a r.l.length c) (hne : ∀ k, u.ok.ownBlock = some k → k ≠ b) (hp : pOk r.p) (hol : (r.ok.length : Int) = r.p) (hid : 0 ≤ r.id ∧ r.id < r.p) (hc : 0 ≤ r.c) (hx : ∀ x ∈ r.ok, x ≤ (r.l.length : Int)) (hlen : r.l.length ≤ 1048576) :
    Calls Try.prog 84 #[.pointer (some ⟨b, 0, none⟩)] w fun e w' => e = .returned (.tuple #[]) ∧ RpB w' b (cntd r) u ∧ HasN w' B u.ok (cntd r).ok ∧ ChS (fun k => k = b ∨ u.ok.ownBlock = some k) w w' := by
  obtain ⟨la, lc, hul⟩ := hl
  have h0 : 0 < r.ok.length := by rcases hp with h | h | h <;> omega
  obtain ⟨g, cap, huo, hgB, hgz⟩ : ∃ g cap, u.ok = .slice (some ⟨g, 0, none⟩) r.ok.length cap ∧ B ≤ g ∧ g < w.heap.size := by
    rcases hO with ⟨_, h1⟩ | ⟨g, cap, cur, h1, h2, h3, _⟩
    · rw [h1] at h0; exact absurd h0 (by simp)
    · exact ⟨g, cap, h1, h2, (Array.getElem?_eq_some_iff.1 h3).1⟩
  have hgb : g ≠ b := hne g (by rw [huo]; rfl)
  have HB : Hid (RpB w b r u) := hB
  rw [huo] at hO
  have HO : Hid (HasN w B (.slice (some ⟨g, 0, none⟩) r.ok.length cap) r.ok) := hO
  obtain ⟨i, hi⟩ : ∃ i : Nat, (i : Int) = r.id := ⟨r.id.toNat, by omega⟩
  have hit : r.id.toNat = i := by omega
  have hil : i < r.ok.length := by omega
  have HW1 : Hid (RpB (w.setCell ⟨g, i, none⟩ (.int .i64 (r.l.length : Int))) b r u) := (show Bx _ _ _ _ from Bx.other HB.out _ _ (fun e => hgb (by first | exact e | exact e.symm)))
  have HO1 : Hid (HasN (w.setCell ⟨g, i, none⟩ (.int .i64 (r.l.length : Int))) B (.slice (some ⟨g, 0, none⟩) r.ok.length cap) (r.ok.set i (r.l.length : Int))) := (show Hid _ from by
    have := HasE.put HO.out hil (i := 0) (by decide) (.int .i64 (r.l.length : Int)) (r.l.length : Int) rfl
    rw [show i * intE.k + 0 = i from by show i * 1 + 0 = i; omega] at this
    exact this)
  have C1 : Hid (ChS (fun k => k = b ∨ u.ok.ownBlock = some k) w (w.setCell ⟨g, i, none⟩ (.int .i64 (r.l.length : Int)))) := (show Hid _ from (ChS.refl _ _).set _ _ (.inr (by rw [huo]; rfl)))
  have q0 := HB.out.cells.1
  have q5 := HB.out.cells.2.2.2.2.2.1
  have q7 := HB.out.cells.2.2.2.2.2.2.2.1
  rw [hul] at q5
  rw [huo] at q7
  rw [← hi] at q0
  have qf : w.frozen? ⟨g, i, none⟩ = false := by
    rcases HO.out with ⟨e, _⟩ | ⟨g', cap', cur, e, _, hh, _⟩
    · cases e
    · obtain rfl : g = g' := by injection e with e; injection e with e; injection e with e
      simp [World.frozen?, hh]
  have qi := hasN_at HO.out i hil
  obtain ⟨m, hm⟩ : ∃ m : Nat, m = r.ok.length / 2 := ⟨_, rfl⟩
  have HM : Hid (Int.tdiv r.p 2 = (m : Int) ∧ wrap64 (m : Int) = (m : Int) ∧ m < r.ok.length) := (show _ ∧ _ ∧ _ from by
    have h2 : m ≤ 2 := by rcases hp with h | h | h <;> omega
    refine ⟨?_, by unfold wrap64; omega, by omega⟩
    rcases hp with h | h | h
    · obtain rfl : m = 0 := by omega
      rw [h]; decide
    · obtain rfl : m = 1 := by omega
      rw [h]; decide
    · obtain rfl : m = 2 := by omega
      rw [h]; decide)
  have HMM : Hid (m = r.ok.length / 2) := hm
  have HP : Hid (pOk r.p ∧ (r.ok.length : Int) = r.p ∧ 0 ≤ r.c ∧ r.l.length ≤ 1048576 ∧ ∀ x ∈ r.ok, x ≤ (r.l.length : Int)) := ⟨hp, hol, hc, hlen, hx⟩
  clear hB hO hm hp hol hc hx hlen
  go_enter Try.func84, Try.ntmps84
  go_upto_region 0 with fail
  go_region
  clear q0 q5 q7 qf qi
  refine then_gen ?_
  intro W1 hW1
  have hl : Below (w.setCell ⟨g, i, none⟩ (.int .i64 (r.l.length : Int))).heap.size (w.setCell ⟨g, i, none⟩ (.int .i64 (r.l.length : Int))) W1 := by
    rw [hW1]
    exact ⟨rfl, rfl, rfl, Nat.le_refl _, fun _ _ => rfl⟩
  have hz1 : w.heap.size ≤ W1.heap.size := by have := hl.size; simpa using this
  have HB2 : Hid (RpB W1 b r u) := (show Hid _ from Bx.kept HW1.out hl)
  have HO2 : Hid (HasN W1 B (.slice (some ⟨g, 0, none⟩) r.ok.length cap) (r.ok.set i (r.l.length : Int))) := (show Hid _ from HO1.out.kept hl)
  have C2 : Hid (ChS (fun k => k = b ∨ u.ok.ownBlock = some k) w W1) := (show Hid _ from C1.out.trans (ChS.of_below hl))
  clear hW1 hl HW1 HO1 C1 HB HO
  have q7 := HB2.out.cells.2.2.2.2.2.2.2.1
  rw [huo] at q7
  have j2 := implSorted g cap (r.ok.set i (r.l.length : Int)) W1.heap.size (W1.alloc (.cells #[.slice (some ⟨g, 0, none⟩) r.ok.length cap] 41)) (by simp; omega) (by simp) (by rw [List.length_set]; exact h0) (by rw [List.length_set]; have := HP.out.1; have := HP.out.2.1; rcases HP.out.1 with h | h | h <;> omega) (by rw [List.length_set]; exact (Boxed.new W1 41 _).cell) (fun j h => by rw [World.cell?_alloc_old _ _ _ (by show g ≠ W1.heap.size; omega)]; exact hasN_at HO2.out j h)
  rw [List.length_set] at j2
  go_wp2_with fail
  refine (implVals _ _ _ _).mono ?_
  rintro e w2 ⟨rfl, rfl⟩
  go_wp2_with fail
  refine j2.mono ?_
  rintro e w3 ⟨a3, c3, rfl, ho, hb⟩
  have hb3 : Below W1.heap.size W1 w3 := ((Below.refl _ W1).alloc (Nat.le_refl _) _).trans (hb.mono (by simp))
  rcases ho.2 with ⟨e0, e1⟩ | ⟨g3, c3', cur, e0, hbase, hgb3, r1, r2, r3, r4⟩
  · rw [srtI_len, List.length_set] at e1; omega
  obtain ⟨rfl⟩ : a3 = some ⟨g3, 0, none⟩ := by injection e0
  have hmi : m < (srtI (r.ok.set i (r.l.length : Int))).length := by rw [srtI_len, List.length_set]; exact HM.out.2.2
  have HMD : Hid (midI (r.ok.set i (r.l.length : Int)) = (srtI (r.ok.set i (r.l.length : Int)))[m]) := (show _ = _ by
    unfold midI
    rw [List.length_set, ← HMM.out, List.getD_eq_getElem?_getD, List.getElem?_eq_getElem hmi]
    rfl)
  have q3 := ownsN_at ho m hmi
  have HB4 : Hid (RpB w3 b r u) := (show Hid _ from Bx.kept HB2.out hb3)
  have HO4 : Hid (HasN w3 B (.slice (some ⟨g, 0, none⟩) r.ok.length cap) (r.ok.set i (r.l.length : Int))) := (show Hid _ from HO2.out.kept hb3)
  have C4 : Hid (ChS (fun k => k = b ∨ u.ok.ownBlock = some k) w w3) := (show Hid _ from C2.out.trans (ChS.of_below hb3))
  clear q7 j2 ho hb hb3 e0 hgb3 r1 r2 r3 r4 hbase HB2 HO2 C2
  rw [← HMD.out] at q3
  have hmd : (cntd r).c = max r.c (midI (r.ok.set i (r.l.length : Int))) := by
    unfold cntd
    simp only
    rw [hit]
    refine cmF_is HP.out.1 (by rw [List.length_set]; exact HP.out.2.1) HP.out.2.2.1 (fun x hx => ?_)
    rcases List.mem_or_eq_of_mem_set hx with h | h
    · exact HP.out.2.2.2.2 x h
    · rw [h]; exact Int.le_refl _
  generalize midI (r.ok.set i (r.l.length : Int)) = md at q3 hmd HMD
  have HCC : Hid ((cntd r).c = max r.c md) := hmd
  clear hmd HMD
  have q6 := HB4.out.cells.2.2.2.2.2.2.1
  have q1 := HB4.out.cells.2.1
  have qf := HB4.out.free 6
  have hq := HM.out.1
  have hqw := HM.out.2.1
  have hml := HM.out.2.2
  go_upto_region 2 with fail
  go_region
  clear q3 q6 q1 qf hq hqw hml
  have hbb : Below (w3.setCell ⟨b, 6, none⟩ (.int .i64 (max r.c md))).heap.size (w3.setCell ⟨b, 6, none⟩ (.int .i64 (max r.c md))) (w3.setCell ⟨b, 6, none⟩ (.int .i64 (max r.c md))).drew := ⟨rfl, rfl, rfl, Nat.le_refl _, fun _ _ => rfl⟩
  have HB5 : Hid (RpB (w3.setCell ⟨b, 6, none⟩ (.int .i64 (max r.c md))).drew b (cntd r) u) := (show Bx _ b 53 #[.int .i64 r.id, .int .i64 r.p, .int .i64 r.v, .bool r.n, .int .i64 r.la, u.l, .int .i64 (cntd r).c, u.ok, u.ch, u.te] from by
    rw [HCC.out]
    exact Bx.kept (Bx.put HB4.out 6 _) hbb)
  have HO5 : Hid (HasN (w3.setCell ⟨b, 6, none⟩ (.int .i64 (max r.c md))).drew B u.ok (cntd r).ok) := (show Hid _ from by
    rw [cntd_ok, hit, huo]
    exact HasE.kept (HasE.oth HO4.out _ _ (fun k hk => by
      obtain rfl : g = k := by simpa [Value.ownBlock] using hk
      exact hgb)) hbb)
  have C5 : Hid (ChS (fun k => k = b ∨ u.ok.ownBlock = some k) w (w3.setCell ⟨b, 6, none⟩ (.int .i64 (max r.c md))).drew) := (show Hid _ from (C4.out.set _ _ (.inl rfl)).trans (ChS.of_below hbb))
  generalize (w3.setCell ⟨b, 6, none⟩ (.int .i64 (max r.c md))).drew = w5 at HB5 HO5 C5 ⊢
  clear hbb
  go_end0
  exact ⟨rfl, HB5.out, HO5.out, C5.out⟩
end Go.Proofs.Ytdkhdjickkcaiaa.Rl
namespace Go.Proofs.Ytdkhdjickkcaiaa.Rl
open Go.RowKit Go.Sort Go.Shelf
set_option linter.unusedVariables false
set_option linter.unusedSimpArgs false

/-- Counted anew. -/
noncomputable def anew (r : Rp) : Rp := @ite _ (leads r) (Classical.propDecidable _) (cntd { r with ok := List.replicate r.p.toNat 0 }) { r with ok := [] }
set_option maxRecDepth 100000 in
set_option maxHeartbeats 8000000 in
theorem implAnew (r : Rp) (u : Rv) (b : Nat) (w : World) (hB : RpB w b r u) (hl : ∃ a c, u.l = .slice a r.l.length c) (hp : pOk r.p) (hid : 0 ≤ r.id ∧ r.id < r.p) (hv : 0 ≤ r.v ∧ r.v ≤ 20000) (hc : 0 ≤ r.c) (hlen : r.l.length ≤ 1048576) :
    Calls Try.prog 64 #[.pointer (some ⟨b, 0, none⟩)] w fun e w' => e = .returned (.tuple #[]) ∧ ∃ v, RpB w' b (anew r) { u with ok := v } ∧ HasN w' w.heap.size v (anew r).ok ∧ ChS (fun k => k = b) w w' := by
  obtain ⟨i0, hi, hz0, hz1, hz2⟩ := info_parts Try.infoN2
  have HB : Hid (RpB w b r u) := hB
  have hbz : b < w.heap.size := Bx.lt hB
  have W1B : Hid (RpB ((w.setCell ⟨b, 7, none⟩ (.slice (some ⟨w.heap.size, 0, none⟩) 0 0)).alloc (.cells #[] 2)) b { r with ok := [] } { u with ok := .slice (some ⟨w.heap.size, 0, none⟩) 0 0 }) := (show Hid _ from Bx.alloc (Bx.put HB.out 7 _) _)
  have O1 : Hid (OwnsN ((w.setCell ⟨b, 7, none⟩ (.slice (some ⟨w.heap.size, 0, none⟩) 0 0)).alloc (.cells #[] 2)) w.heap.size (.slice (some ⟨w.heap.size, 0, none⟩) 0 0) []) := (show Hid _ from by
    have := OwnsE.born (E := intE) (ty := 2) (w.setCell ⟨b, 7, none⟩ (.slice (some ⟨w.heap.size, 0, none⟩) 0 0))
    rw [show (w.setCell ⟨b, 7, none⟩ (.slice (some ⟨w.heap.size, 0, none⟩) 0 0)).heap.size = w.heap.size from by simp] at this
    exact this)
  have C1 : Hid (ChS (fun k => k = b) w ((w.setCell ⟨b, 7, none⟩ (.slice (some ⟨w.heap.size, 0, none⟩) 0 0)).alloc (.cells #[] 2))) := (show Hid _ from ((ChS.refl (fun k => k = b) w).set ⟨b, 7, none⟩ _ rfl).trans (ChS.of_below ((Below.refl _ _).alloc (Nat.le_refl _) _)))
  have q7 := Bx.cell (Bx.alloc HB.out (.cells #[] 2)) 7
  have qf := Bx.free (Bx.alloc HB.out (.cells #[] 2)) 7
  have jL := fun W hW => implLeads { r with ok := [] } { u with ok := .slice (some ⟨w.heap.size, 0, none⟩) 0 0 } b W hW hv hp
  have Z1 : Hid (w.heap.size ≤ ((w.setCell ⟨b, 7, none⟩ (.slice (some ⟨w.heap.size, 0, none⟩) 0 0)).alloc (.cells #[] 2)).heap.size) := C1.out.size
  obtain ⟨n, hn⟩ : ∃ n : Nat, (n : Int) = r.p := ⟨r.p.toNat, by rcases hp with h | h | h <;> omega⟩
  have hn5 : n ≤ 5 := by rcases hp with h | h | h <;> omega
  have hnn : r.p.toNat = n := by omega
  have jc := fun W (hW : RpB W b { r with ok := List.replicate n 0 } { u with ok := .slice (some ⟨W.heap.size, 0, none⟩) n n }) => hW
  clear jc hB
  have HX : Hid (pOk r.p ∧ (0 ≤ r.id ∧ r.id < r.p) ∧ 0 ≤ r.c ∧ r.l.length ≤ 1048576 ∧ ∃ a c, u.l = .slice a r.l.length c) := ⟨hp, hid, hc, hlen, hl⟩
  clear hp hid hc hlen hl hv
  change (w.alloc (.cells #[] 2)).cell? ⟨b, 7, none⟩ = some u.ok at q7
  change (w.alloc (.cells #[] 2)).frozen? ⟨b, 7, none⟩ = false at qf
  go_enter Try.func64, Try.ntmps64
  go_wp2_with fail
  clear q7 qf
  generalize (w.setCell ⟨b, 7, none⟩ (.slice (some ⟨w.heap.size, 0, none⟩) 0 0)).alloc (.cells #[] 2) = w1 at W1B O1 C1 Z1 ⊢
  refine (jL _ W1B.out).mono ?_
  rintro e w2 ⟨rfl, hb⟩
  have W2B : Hid (RpB w2 b { r with ok := [] } { u with ok := .slice (some ⟨w.heap.size, 0, none⟩) 0 0 }) := (show Hid _ from Bx.kept W1B.out hb)
  have O2 : Hid (OwnsN w2 w.heap.size (.slice (some ⟨w.heap.size, 0, none⟩) 0 0) []) := (show Hid _ from O1.out.kept hb)
  have C2 : Hid (ChS (fun k => k = b) w w2) := (show Hid _ from C1.out.trans (ChS.of_below hb))
  have Z2 : Hid (w.heap.size ≤ w2.heap.size) := (show _ ≤ _ from Nat.le_trans Z1.out hb.size)
  clear hb W1B O1 C1 Z1 jL
  cases hld : dB (leads { r with ok := [] }) with
  | false =>
    have HA : Hid (anew r = { r with ok := [] }) := (show _ = _ by unfold anew; exact if_neg (dB_not hld))
    go_wp2
    go_end0
    refine ⟨rfl, .slice (some ⟨w.heap.size, 0, none⟩) 0 0, ?_, ?_, C2.out⟩
    · rw [HA.out]; exact W2B.out
    · rw [HA.out]; exact O2.out.has
  | true =>
    have HA : Hid (anew r = cntd { r with ok := List.replicate n 0 }) := (show _ = _ by unfold anew; rw [hnn]; exact if_pos (dB_is hld))
    obtain ⟨w3, hrun, hown, hgr⟩ := run_make_full (P := Try.prog) w2 w.heap.size 41 2 i0 (.int .i64 0) 1 Try.underlying41 hi hz0 hz1 .i64 .i64 n (by rw [hz2]; omega) (by unfold maxLen; omega) Z2.out
    rw [madeN] at hown
    have hb3 : Below w2.heap.size w2 w3 := (Below.refl _ w2).grown hgr (Nat.le_refl _) (fun j hj => by cases hj)
    have hbz2 : b < w2.heap.size := Bx.lt W2B.out
    have O3 : Hid (OwnsN w3 w.heap.size (.slice (some ⟨w2.heap.size, 0, none⟩) n n) (List.replicate n 0)) := (show w3.ownsRow _ _ 1 _ _ _ from by rw [List.length_replicate]; exact hown)
    have W3B : Hid (RpB (w3.setCell ⟨b, 7, none⟩ (.slice (some ⟨w2.heap.size, 0, none⟩) n n)) b { r with ok := List.replicate n 0 } { u with ok := .slice (some ⟨w2.heap.size, 0, none⟩) n n }) := (show Hid _ from Bx.put (Bx.kept W2B.out hb3) 7 _)
    have O4 : Hid (OwnsN (w3.setCell ⟨b, 7, none⟩ (.slice (some ⟨w2.heap.size, 0, none⟩) n n)) w.heap.size (.slice (some ⟨w2.heap.size, 0, none⟩) n n) (List.replicate n 0)) := (show Hid _ from OwnsE.other O3.out _ _ (fun k hk => by
      have : w2.heap.size = k := by simpa [Value.ownBlock] using hk
      show k ≠ b
      omega))
    have C3 : Hid (ChS (fun k => k = b) w (w3.setCell ⟨b, 7, none⟩ (.slice (some ⟨w2.heap.size, 0, none⟩) n n))) := (show Hid _ from (C2.out.trans (ChS.of_below hb3)).set _ _ rfl)
    have q1 := Bx.cell W2B.out 1
    change w2.cell? ⟨b, 1, none⟩ = some (.int .i64 r.p) at q1
    rw [hn] at hrun
    have q7 := Bx.cell (Bx.kept W2B.out hb3) 7
    have qf := Bx.free (Bx.kept W2B.out hb3) 7
    change w3.cell? ⟨b, 7, none⟩ = some (.slice (some ⟨w.heap.size, 0, none⟩) 0 0) at q7
    change w3.frozen? ⟨b, 7, none⟩ = false at qf
    have j3 := implCnt { r with ok := List.replicate n 0 } { u with ok := .slice (some ⟨w2.heap.size, 0, none⟩) n n } b w.heap.size _ W3B.out O4.out.has HX.out.2.2.2.2 (fun k hk => by
      have : w2.heap.size = k := by simpa [Value.ownBlock] using hk
      omega) HX.out.1 (by rw [List.length_replicate]; exact hn) HX.out.2.1 HX.out.2.2.1 (fun x hx => by rw [(List.mem_replicate.1 hx).2]; show (0 : Int) ≤ (r.l.length : Int); omega) HX.out.2.2.2.1
    clear O3 hown hgr W2B O2 C2 hi hz0 hz1 hz2 hld hb3
    go_wp2_with fail
    clear q1 q7 qf hrun
    refine j3.mono ?_
    rintro e w5 ⟨rfl, h1, h2, h3⟩
    have HB5 : Hid (RpB w5 b (anew r) { u with ok := .slice (some ⟨w2.heap.size, 0, none⟩) n n }) := (show Hid _ from by rw [HA.out]; exact h1)
    have HO5 : Hid (HasN w5 w.heap.size (.slice (some ⟨w2.heap.size, 0, none⟩) n n) (anew r).ok) := (show Hid _ from by rw [HA.out]; exact h2)
    have C5 : Hid (ChS (fun k => k = b) w w5) := ⟨h3.os.trans C3.out.os, h3.tape.trans C3.out.tape, h3.output.trans C3.out.output, Nat.le_trans C3.out.size h3.size, fun k hk hn => by
      rw [h3.block k (Nat.lt_of_lt_of_le hk C3.out.size) (fun e => by
        rcases e with e | e
        · exact hn e
        · have : w2.heap.size = k := by simpa [Value.ownBlock] using e
          have := Z2.out
          omega)]
      exact C3.out.block k hk hn⟩
    clear h1 h2 h3 j3
    go_wp2
    go_end0
    exact ⟨rfl, _, HB5.out, HO5.out, C5.out⟩
end Go.Proofs.Ytdkhdjickkcaiaa.Rl
namespace Go.Proofs.Ytdkhdjickkcaiaa.Rl
open Go.RowKit Go.Sort Go.Shelf
set_option linter.unusedVariables false
set_option linter.unusedSimpArgs false

/-- Whether there is such a replica, and it. -/
def newB (id p : Int) : Bool := decide (pOk p) && ipB id p
def newZ (id p : Int) : List Int := if id = 0 then List.replicate p.toNat 0 else []
def newA (id p : Int) : Rp := if newB id p = true then ⟨id, p, 0, true, 0, [], 0, newZ id p, [], []⟩ else noRp
def newU (v : Value) : Rv := ⟨.slice none 0 0, v, .slice none 0 0, .slice none 0 0, []⟩
def NewAns (id p : Int) (w : World) (e : Ending) (w' : World) : Prop := ∃ a c, e = .returned (.tuple #[rpA (newA id p) (newU (.slice a (newA id p).ok.length c)), .bool (newB id p)]) ∧ HasN w' w.heap.size (.slice a (newA id p).ok.length c) (newA id p).ok ∧ Below w.heap.size w w'
theorem newA_no {id p : Int} (h : newB id p = false) : newA id p = noRp := by unfold newA; rw [h]; rfl
theorem newA_yes {id p : Int} (h : newB id p = true) : newA id p = ⟨id, p, 0, true, 0, [], 0, newZ id p, [], []⟩ := by unfold newA; rw [h]; rfl
theorem NewAns.no {id p : Int} {w w' : World} (h : newB id p = false) (hb : Below w.heap.size w w') : NewAns id p w (.returned (.tuple #[.agg #[.int .i64 0, .int .i64 0, .int .i64 0, .bool false, .int .i64 0, .slice none 0 0, .int .i64 0, .slice none 0 0, .slice none 0 0, .slice none 0 0], .bool false])) w' := by
  refine ⟨none, 0, ?_, ?_, hb⟩
  · rw [h, newA_no h]; rfl
  · rw [newA_no h]; exact .inl ⟨rfl, rfl⟩
theorem NewAns.yes {id p : Int} {w w' : World} {a : Option Addr} {n c : Nat} {l : List Int} (h : newB id p = true) (hl : newZ id p = l) (hn : n = l.length) (ho : HasN w' w.heap.size (.slice a n c) l) (hb : Below w.heap.size w w') :
    NewAns id p w (.returned (.tuple #[.agg #[.int .i64 id, .int .i64 p, .int .i64 0, .bool true, .int .i64 0, .slice none 0 0, .int .i64 0, .slice a n c, .slice none 0 0, .slice none 0 0], .bool true])) w' := by
  subst hn hl
  refine ⟨a, c, ?_, ?_, hb⟩
  · rw [h, newA_yes h]; rfl
  · rw [newA_yes h]; exact ho
theorem newB_yes {id p : Int} (h1 : pOk p) (h2 : ipB id p = true) : newB id p = true := by unfold newB; rw [decide_eq_true h1, h2]; rfl
theorem calls_gen {P : Program} {f : FuncId} {args : Array Value} {w : World} {Q : Ending → World → Prop} (h : ∀ W, W = w → Calls P f args W Q) : Calls P f args w Q := h w rfl
theorem newZ_no {id p : Int} (h : ¬ id = 0) : newZ id p = [] := by unfold newZ; rw [if_neg h]
theorem newZ_yes {id p : Int} {n : Nat} (h : id = 0) (hn : p.toNat = n) : newZ id p = List.replicate n 0 := by unfold newZ; rw [if_pos h, hn]
end Go.Proofs.Ytdkhdjickkcaiaa.Rl
