/-
  The program's beginsLike.
  The program's agreed.
  The program's mostAgreed.
-/
import Derived.Test.YtlngleinegkoeaaGreatT43
import Derived.Test.YtlngleinegkoeaaGreatT45
namespace Go.Proofs.YtlngleinegkoeaaGreat.Rl
open Go.RowKit Go.Sort Go.Shelf
set_option linter.unusedVariables false
set_option linter.unusedSimpArgs false

set_option maxRecDepth 100000 in
set_option maxHeartbeats 4000000 in
theorem implBegL (v1 v2 : Value) (L P : List ByteArray) (w : World) (h1 : Sls txtE w v1 L) (h2 : Sls txtE w v2 P) (hl : L.length ≤ 1048576) (hp : P.length ≤ 1048576) :
    Calls Tryz.prog 131 #[v1, v2] w fun e w' => e = .returned (.bool (dB (P <+: L))) ∧ Below w.heap.size w w' := by
  have H1 : Hid (Sls txtE w v1 L) := h1
  have H2 : Hid (Sls txtE w v2 P) := h2
  obtain ⟨a, ca, rfl, k1, k2, _⟩ := h1
  obtain ⟨c, cc, rfl, _, _, _⟩ := h2
  unfold maxLen at k2
  by_cases hlt : P.length ≤ L.length
  · have hlti : (P.length : Int) ≤ (L.length : Int) := by omega
    have HB : Hid (dB (L.take P.length = P) = dB (P <+: L)) := (show _ = _ from by
      by_cases h : P <+: L
      · rw [dB_yes h, dB_yes (List.prefix_iff_eq_take.1 h).symm]
      · rw [dB_no h, dB_no (fun e => h (List.prefix_iff_eq_take.2 e.symm))])
    have jq := implEqX _ _ _ _ w (Sls.take H1.out hlt) H2.out (by rw [List.length_take]; omega) hp
    have hpc : P.length ≤ ca := by omega
    go_enter Tryz.func131, Tryz.ntmps131
    go_wp2_with (go_at_call 195; refine jq.mono ?_; rintro e w1 ⟨rfl, hb1⟩)
    go_ret
    exact ⟨by rw [HB.out]; rfl, hb1⟩
  · have hlti : ¬ (P.length : Int) ≤ (L.length : Int) := by omega
    have HN : Hid (dB (P <+: L) = false) := (show _ = _ from dB_no (fun h => by have := h.length_le; omega))
    go_enter Tryz.func131, Tryz.ntmps131
    go_wp2
    go_ret
    exact ⟨by rw [HN.out]; rfl, Below.refl _ _⟩
end Go.Proofs.YtlngleinegkoeaaGreat.Rl
namespace Go.Proofs.YtlngleinegkoeaaGreat.Rl
open Go.RowKit Go.Sort Go.Shelf
set_option linter.unusedVariables false
set_option linter.unusedSimpArgs false

set_option maxRecDepth 100000 in
set_option maxHeartbeats 4000000 in
theorem implAgr (r : Rp) (u : Rv) (b cN lc : Nat) (la : Option Addr) (w : World) (hB : RpB w b r u) (hl : u.l = .slice la r.l.length lc) (hs : Sls txtE w u.l r.l) (hc : (cN : Int) = r.c) (hcl : cN ≤ r.l.length) :
    Calls Tryz.prog 192 #[.pointer (some ⟨b, 0, none⟩)] w fun e w' => e = .returned (.slice la cN lc) ∧ Sls txtE w' (.slice la cN lc) (r.l.take cN) ∧ Below w.heap.size w w' := by
  rw [hl] at hs
  have HS : Hid (Sls txtE w (.slice la cN lc) (r.l.take cN)) := (show Sls _ _ _ _ from Sls.take hs hcl)
  have hcl2 : cN ≤ lc := by
    obtain ⟨_, c', e, k1, k2, _⟩ := hs
    injection e with _ _ e3
    subst e3
    omega
  have hcl3 : lc ≤ 9223372036854775807 := by
    obtain ⟨_, c', e, k1, k2, _⟩ := hs
    injection e with _ _ e3
    subst e3
    exact k2
  have c5 := hB.cells.2.2.2.2.2.1
  have c6 := hB.cells.2.2.2.2.2.2.1
  rw [hl] at c5
  rw [← hc] at c6
  clear hB hs hl hc
  go_enter Tryz.func192, Tryz.ntmps192
  go_upto_region 1 with fail
  go_quiet (fail)
  have BN : Hid (Below w.heap.size w (w.drewN nq)) := (show Hid _ from ⟨rfl, rfl, rfl, Nat.le_refl _, fun _ _ => rfl⟩)
  generalize w.drewN nq = wn at BN ⊢
  go_wp2
  go_ret
  exact ⟨rfl, HS.out.kept BN.out, BN.out⟩
end Go.Proofs.YtlngleinegkoeaaGreat.Rl
namespace Go.Proofs.YtlngleinegkoeaaGreat.Rl
open Go.RowKit Go.Sort Go.Shelf
set_option linter.unusedVariables false
set_option linter.unusedSimpArgs false

set_option maxRecDepth 100000 in
set_option maxHeartbeats 4000000 in
theorem implMost (v : Value) (T : List Mx) (w : World) (h : Sls mxE w v T) (hl : T.length ≤ 1000) :
    Calls Tryz.prog 213 #[v] w fun e w' => e = .returned (.int .i64 (cmtM (T.map (·.m)))) ∧ Below w.heap.size w w' := by
  have HS : Hid (Sls mxE w v T) := h
  obtain ⟨a, c, rfl, _, _, _⟩ := h
  have B0 : Hid (Below w.heap.size w w) := (show Hid _ from Below.refl _ _)
  go_enter Tryz.func213, Tryz.ntmps213
  go_wp2_with fail
  go_loopw [3, 8] (fun m i wr => ∃ k : Nat, k ≤ T.length ∧ i = .int .i64 k ∧ m = .int .i64 (cmtM ((T.map (·.m)).take k)) ∧ Hid (Below w.heap.size w wr)) (fun _ i _ => T.length - (intOf i).toNat)
  case atStart => exact ⟨0, Nat.zero_le _, rfl, by simp [cmtM], B0⟩
  case round =>
    clear B0
    obtain ⟨k, hk, rfl, rfl, hB⟩ := hrel
    by_cases hlt : k < T.length
    · have HA := HS.out.kept hB.out
      obtain ⟨g, q, rfl⟩ := mxAt HA (by omega)
      have CK := mxCells HA hlt
      have HXK : Hid (∃ h : k < (T.map (·.m)).length, (T.map (·.m))[k] = T[k].m) := (show ∃ _, _ from ⟨by rw [List.length_map]; exact hlt, by simp⟩)
      generalize T[k] = x at CK HXK
      unfold Mx.u at CK
      obtain ⟨y0, y1, y2, y3, y4, y5, y6⟩ := CK
      clear HA
      have hlti : (k : Int) < (T.length : Int) := by omega
      go_upto_region 5 with (refine wpList_stM rfl rfl (.tmp 5) (.tmp 11) rfl wr.heap.size (mxV x) rfl rfl (Bx.new _ _ _) rfl rfl (by simp [mxV, Value.oneCell']) ?_; intro w7 hz7 hc7)
      clear y0 y1 y2 y3 y4 y5 y6 hlti
      have B7 : Hid (Below w.heap.size w w7) := (show Hid _ from hc7.below (hB.out.alloc hB.out.size _) (by have := hB.out.size; simp; omega) (fun k hk => by have := hB.out.size; omega))
      generalize wr.heap.size = g2 at hz7 ⊢
      have a6 : w7.cell? ⟨g2, 6, none⟩ = some (.int .i64 x.m.c) := hz7.cell 6
      have hmx : max (cmtM ((T.map (·.m)).take k)) x.m.c = cmtM ((T.map (·.m)).take (k + 1)) := by
        obtain ⟨h1, h2⟩ := HXK.out
        rw [cmtM_take _ k h1, h2]
      clear hz7 hc7 hB
      generalize cmtM ((T.map (·.m)).take k) = m0 at hmx ⊢
      generalize x.m.c = xc at hmx a6
      have HMX : Hid (max m0 xc = cmtM ((T.map (·.m)).take (k + 1))) := hmx
      clear hmx
      go_wp2_with fail
      go_roundw
      case rel => exact ⟨k + 1, hlt, by go_num, by rw [← HMX.out], B7⟩
      case measure => simp [intOf]; omega
    · have hlti : ¬ (k : Int) < (T.length : Int) := by omega
      have hkk : (T.map (·.m)).take k = T.map (·.m) := List.take_of_length_le (by rw [List.length_map]; omega)
      rw [hkk]
      go_wp2
      go_ret
      exact ⟨rfl, hB.out⟩
end Go.Proofs.YtlngleinegkoeaaGreat.Rl
