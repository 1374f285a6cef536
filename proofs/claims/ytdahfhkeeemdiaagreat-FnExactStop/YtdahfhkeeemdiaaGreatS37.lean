/-
  Regions that draw their order: slots of any numbers; operations that are guarded away.
  The specification's count.
  The specification's l17Stop and Stop.
-/
import Derived.Test.YtdahfhkeeemdiaaGreatS28
import Derived.Test.YtdahfhkeeemdiaaGreatS19
import Derived.Test.YtdahfhkeeemdiaaGreatS33
import Derived.Test.YtdahfhkeeemdiaaGreatS36
import Derived.Test.YtdahfhkeeemdiaaGreatS30
namespace Go.Proofs.YtdahfhkeeemdiaaGreat
open Go.RowKit Go.Sort
set_option linter.unusedVariables false

theorem slotsNe {L : List Nat} (h : L.Nodup) {i j n : Nat} (hn : n = L.length) (hi : i < n) (hj : j < n) (hne : j ≠ i) : L.getD j (j + 5000) ≠ L.getD i (i + 5000) := by
  subst hn
  rw [List.getD_eq_getElem?_getD, List.getD_eq_getElem?_getD, List.getElem?_eq_getElem hi, List.getElem?_eq_getElem hj]
  simp only [Option.getD_some]
  intro e
  exact hne ((List.getElem_inj h).1 e)
end Go.Proofs.YtdahfhkeeemdiaaGreat
namespace Go.Proofs.YtdahfhkeeemdiaaGreat.Rl
open Go.RowKit Go.Sort Go.Shelf
set_option linter.unusedVariables false
set_option linter.unusedSimpArgs false

theorem cmF_low {ok : List Int} {p c : Int} : ∀ N : Nat, (N : Int) ≤ c → cmF ok p c N = c
  | 0, _ => rfl
  | N + 1, h => by
    unfold cmF
    rw [if_neg (fun hh => by omega)]
    exact cmF_low N (by omega)
theorem cmF_up {ok : List Int} {p c : Int} {N : Nat} (h : c ≤ (N : Int)) (hm : maj (cntF ok ((N + 1 : Nat) : Int)) p) : cmF ok p c (N + 1) = ((N + 1 : Nat) : Int) := by
  unfold cmF
  exact if_pos ⟨by omega, hm⟩
theorem cmF_same {ok : List Int} {p c : Int} {N : Nat} (hm : ¬ maj (cntF ok ((N + 1 : Nat) : Int)) p) : cmF ok p c (N + 1) = cmF ok p c N := by
  conv => lhs; unfold cmF
  exact if_neg (fun hh => hm hh.2)
theorem cntF_next {ok : List Int} {n : Int} {k : Nat} (h : k < ok.length) : cntF (ok.take (k + 1)) n = cntF (ok.take k) n + (if n ≤ ok[k] then 1 else 0) := by
  unfold cntF
  rw [List.take_succ_eq_append_getElem h, List.filter_append, List.length_append]
  by_cases h1 : n ≤ ok[k] <;> simp [List.filter, h1]
theorem cntF_le (ok : List Int) (n : Int) : cntF ok n ≤ ok.length := by
  unfold cntF
  exact List.length_filter_le _ _
set_option maxRecDepth 100000 in
set_option maxHeartbeats 8000000 in
/-- What is agreed on, counted by the specification. -/
theorem specCnt (r : Rp) (u : Rv) (b B : Nat) (w : World) (hB : RpB w b r u) (hO : HasN w B u.ok r.ok) (hl : ∃ a c, u.l = .slice a r.l.length c) (hne : ∀ k, u.ok.ownBlock = some k → k ≠ b) (hp : pOk r.p) (hol : (r.ok.length : Int) = r.p) (hid : 0 ≤ r.id ∧ r.id < r.p) (hc : 0 ≤ r.c ∧ r.c ≤ (r.l.length : Int)) (hlen : r.l.length ≤ 1048576) :
    Calls Tryz.prog 75 #[.pointer (some ⟨b, 0, none⟩)] w fun e w' => e = .returned (.tuple #[]) ∧ RpB w' b (cntd r) u ∧ HasN w' B u.ok (cntd r).ok ∧ ChS (fun k => k = b ∨ u.ok.ownBlock = some k) w w' := by
  obtain ⟨la, lc, hul⟩ := hl
  have h0 : 0 < r.ok.length := by rcases hp with h | h | h <;> omega
  obtain ⟨g, cap, huo, hgB, hgz⟩ : ∃ g cap, u.ok = .slice (some ⟨g, 0, none⟩) r.ok.length cap ∧ B ≤ g ∧ g < w.heap.size := by
    rcases hO with ⟨_, h1⟩ | ⟨g, cap, cur, h1, h2, h3, _⟩
    · rw [h1] at h0; exact absurd h0 (by simp)
    · exact ⟨g, cap, h1, h2, (Array.getElem?_eq_some_iff.1 h3).1⟩
  have hgb : g ≠ b := hne g (by rw [huo]; rfl)
  have HB : Hid (RpB w b r u) := hB
  rw [huo] at hO
  have HO : Hid (HasN w B (.slice (some ⟨g, 0, none⟩) r.ok.length cap) r.ok) := hO
  obtain ⟨i, hi⟩ : ∃ i : Nat, (i : Int) = r.id := ⟨r.id.toNat, by omega⟩
  have hit : r.id.toNat = i := by omega
  have hil : i < r.ok.length := by omega
  have HW1 : Hid (RpB (w.setCell ⟨g, i, none⟩ (.int .i64 (r.l.length : Int))) b r u) := (show Bx _ _ _ _ from Bx.other HB.out _ _ (fun e => hgb (by first | exact e | exact e.symm)))
  have HO1 : Hid (HasN (w.setCell ⟨g, i, none⟩ (.int .i64 (r.l.length : Int))) B (.slice (some ⟨g, 0, none⟩) r.ok.length cap) (r.ok.set i (r.l.length : Int))) := (show Hid _ from by
    have := HasE.put HO.out hil (i := 0) (by decide) (.int .i64 (r.l.length : Int)) (r.l.length : Int) rfl
    rw [show i * intE.k + 0 = i from by show i * 1 + 0 = i; omega] at this
    exact this)
  have C1 : Hid (ChS (fun k => k = b ∨ u.ok.ownBlock = some k) w (w.setCell ⟨g, i, none⟩ (.int .i64 (r.l.length : Int)))) := (show Hid _ from (ChS.refl _ _).set _ _ (.inr (by rw [huo]; rfl)))
  have q0 := HB.out.cells.1
  have q5 := HB.out.cells.2.2.2.2.2.1
  have q7 := HB.out.cells.2.2.2.2.2.2.2.1
  rw [hul] at q5
  rw [huo] at q7
  rw [← hi] at q0
  have qf : w.frozen? ⟨g, i, none⟩ = false := HasE.free HO.out i
  have qi := hasN_at HO.out i hil
  have HP : Hid (pOk r.p ∧ (r.ok.length : Int) = r.p ∧ (0 ≤ r.c ∧ r.c ≤ (r.l.length : Int)) ∧ r.l.length ≤ 1048576) := ⟨hp, hol, hc, hlen⟩
  clear hB hO hp hol hc hlen
  go_enter Tryz.func75, Tryz.ntmps75
  go_upto_region 0 with fail
  go_region
  clear q0 q5 q7 qf qi
  refine then_gen ?_
  intro W1 hW1
  have hl : Below (w.setCell ⟨g, i, none⟩ (.int .i64 (r.l.length : Int))).heap.size (w.setCell ⟨g, i, none⟩ (.int .i64 (r.l.length : Int))) W1 := by
    rw [hW1]
    exact ⟨rfl, rfl, rfl, Nat.le_refl _, fun _ _ => rfl⟩
  obtain ⟨ok, hok⟩ : ∃ ok, ok = r.ok.set i (r.l.length : Int) := ⟨_, rfl⟩
  have HOK : Hid (ok = r.ok.set i (r.l.length : Int)) := hok
  have hkl : ok.length = r.ok.length := by rw [hok, List.length_set]
  rw [← hok] at HO1
  obtain ⟨c, hc⟩ : ∃ c : Nat, (c : Int) = r.c := ⟨r.c.toNat, by have := HP.out.2.2.1; omega⟩
  have HC : Hid ((c : Int) = r.c) := hc
  have HB2 : Hid (RpB W1 b { r with c := cmF ok r.p r.c c } u) := (show Bx _ b 28 #[.int .i64 r.id, .int .i64 r.p, .int .i64 r.v, .bool r.n, .int .i64 r.la, u.l, .int .i64 (cmF ok r.p r.c c), u.ok, u.ch, u.te] from by
    rw [cmF_low c (by omega)]
    exact Bx.kept HW1.out hl)
  have HO2 : Hid (HasN W1 B (.slice (some ⟨g, 0, none⟩) r.ok.length cap) ok) := (show Hid _ from HasE.kept HO1.out hl)
  have C2 : Hid (ChS (fun k => k = b ∨ u.ok.ownBlock = some k) w W1) := (show Hid _ from C1.out.trans (ChS.of_below hl))
  have q6 : W1.cell? ⟨b, 6, none⟩ = some (.int .i64 r.c) := by
    have := Bx.cell HB2.out 6
    rw [← cmF_low (ok := ok) (p := r.p) c (show (c : Int) ≤ r.c by omega)]
    exact this
  rw [← hc] at q6
  clear hW1 hl HW1 HO1 C1 HB HO hok hc
  have ew : wrap64 ((c : Int) + 1) = ((c + 1 : Nat) : Int) := by have := HP.out.2.2; have := HC.out; unfold wrap64; omega
  go_wp2_with fail
  have HKL : Hid (ok.length = r.ok.length ∧ r.ok.length ≤ 5) := (show _ ∧ _ from ⟨hkl, by have := HP.out.2.1; rcases HP.out.1 with h | h | h <;> omega⟩)
  have EW : Hid (wrap64 ((c : Int) + 1) = ((c + 1 : Nat) : Int)) := ew
  clear q6 ew
  go_loopw [2] (fun v wr => ∃ N : Nat, c ≤ N ∧ N ≤ r.l.length ∧ v = .int .i64 ((N + 1 : Nat) : Int) ∧ Hid (RpB wr b { r with c := cmF ok r.p r.c N } u) ∧ Hid (HasN wr B (.slice (some ⟨g, 0, none⟩) r.ok.length cap) ok) ∧ Hid (ChS (fun k => k = b ∨ u.ok.ownBlock = some k) w wr)) (fun v _ => r.l.length + 2 - (intOf v).toNat)
  case atStart => exact ⟨c, Nat.le_refl _, by have := HC.out; have := HP.out.2.2.1; omega, congrArg (Value.int .i64) EW.out, HB2, HO2, C2⟩
  case round =>
    clear HB2 HO2 C2
    obtain ⟨N, hN1, hN2, rfl, hR, hO, hC⟩ := hrel
    obtain ⟨w4, rfl⟩ : ∃ x, x = wr := ⟨wr, rfl⟩
    have q5 := hR.out.cells.2.2.2.2.2.1
    have q7 := hR.out.cells.2.2.2.2.2.2.2.1
    change w4.cell? ⟨b, 5, none⟩ = some u.l at q5
    rw [hul] at q5
    rw [huo] at q7
    have hL : r.l.length ≤ 1048576 := HP.out.2.2.2
    by_cases hlt : N + 1 ≤ r.l.length
    · have hli : ((N + 1 : Nat) : Int) ≤ (r.l.length : Int) := by omega
      go_wp2_with fail
      clear q5 q7 hli
      go_loopw [3, 4] (fun k i wr => ∃ K : Nat, K ≤ ok.length ∧ k = .int .i64 ((cntF (ok.take K) ((N + 1 : Nat) : Int) : Nat) : Int) ∧ i = .int .i64 (K : Int) ∧ Hid (RpB wr b { r with c := cmF ok r.p r.c N } u) ∧ Hid (HasN wr B (.slice (some ⟨g, 0, none⟩) r.ok.length cap) ok) ∧ Hid (ChS (fun k => k = b ∨ u.ok.ownBlock = some k) w wr)) (fun _ i _ => ok.length - (intOf i).toNat)
      case atStart => exact ⟨0, Nat.zero_le _, rfl, rfl, hR, hO, hC⟩
      case round =>
        clear hR hO hC
        obtain ⟨K, hK, rfl, rfl, hR, hO, hC⟩ := hrel
        obtain ⟨w5, rfl⟩ : ∃ x, x = wr := ⟨wr, rfl⟩
        have q1 := hR.out.cells.2.1
        have q7 := hR.out.cells.2.2.2.2.2.2.2.1
        change w5.cell? ⟨b, 1, none⟩ = some (.int .i64 r.p) at q1
        rw [huo] at q7
        have hcl : cntF (ok.take K) ((N + 1 : Nat) : Int) ≤ 5 := Nat.le_trans (cntF_le _ _) (by rw [List.length_take]; have := HKL.out; omega)
        by_cases hkt : K < ok.length
        · have hk2 : (K : Int) < (r.ok.length : Int) := by have := HKL.out.1; omega
          have hk3 : K < r.ok.length := by have := HKL.out.1; omega
          have qk := hasN_at hO.out K hkt
          have hk5 : K < 5 := by have := HKL.out; omega
          have hnx := cntF_next (n := ((N + 1 : Nat) : Int)) hkt
          by_cases hge : ((N + 1 : Nat) : Int) ≤ ok[K]
          · rw [if_pos hge] at hnx
            have HNX : Hid _ := hnx
            generalize ok[K] = z at qk hge
            clear hnx
            generalize cntF (ok.take K) ((N + 1 : Nat) : Int) = q at hcl HNX
            go_wp2_with fail
            go_roundw
            case rel => exact ⟨K + 1, hkt, by rw [HNX.out]; go_num, by go_num, hR, hO, hC⟩
            case measure => simp [intOf]; omega
          · rw [if_neg hge] at hnx
            have HNX : Hid _ := hnx
            generalize ok[K] = z at qk hge
            clear hnx
            generalize cntF (ok.take K) ((N + 1 : Nat) : Int) = q at hcl HNX
            go_wp2_with fail
            go_roundw
            case rel => exact ⟨K + 1, hkt, by rw [HNX.out]; rfl, by go_num, hR, hO, hC⟩
            case measure => simp [intOf]; omega
        · obtain rfl : K = ok.length := by omega
          have hk2 : ¬ (ok.length : Int) < (r.ok.length : Int) := by have := HKL.out.1; omega
          rw [List.take_of_length_le (Nat.le_refl _)] at hcl ⊢
          have jm := fun W => specMaj (cntF ok ((N + 1 : Nat) : Int)) r.p W (by omega)
          have q6 := Bx.cell hR.out 6
          have qf := Bx.free hR.out 6
          generalize hm : dB (maj (cntF ok ((N + 1 : Nat) : Int)) r.p) = mb at jm
          cases mb with
          | true =>
            have HR2 : Hid (RpB (w5.setCell ⟨b, 6, none⟩ (.int .i64 ((N : Int) + 1))) b { r with c := cmF ok r.p r.c (N + 1) } u) := (show Bx _ b 28 #[.int .i64 r.id, .int .i64 r.p, .int .i64 r.v, .bool r.n, .int .i64 r.la, u.l, .int .i64 (cmF ok r.p r.c (N + 1)), u.ok, u.ch, u.te] from by
              rw [cmF_up (by have := HC.out; omega) (dB_is hm)]
              exact Bx.put hR.out 6 _)
            have HO2 : Hid (HasN (w5.setCell ⟨b, 6, none⟩ (.int .i64 ((N : Int) + 1))) B (.slice (some ⟨g, 0, none⟩) r.ok.length cap) ok) := (show Hid _ from HasE.oth hO.out _ _ (fun k hk => by
              obtain rfl : g = k := by simpa [Value.ownBlock] using hk
              exact hgb))
            have HC2 : Hid (ChS (fun k => k = b ∨ u.ok.ownBlock = some k) w (w5.setCell ⟨b, 6, none⟩ (.int .i64 ((N : Int) + 1)))) := (show Hid _ from hC.out.set _ _ (.inl rfl))
            go_wp2_with fail
            refine (jm _).mono ?_
            rintro e w6 ⟨rfl, rfl⟩
            clear jm
            go_wp2_with fail
            go_roundw
            case rel => exact ⟨N + 1, by omega, hlt, by go_num, HR2, HO2, HC2⟩
            case measure => simp [intOf]; omega
          | false =>
            have HR2 : Hid (RpB w5 b { r with c := cmF ok r.p r.c (N + 1) } u) := (show Hid _ from by rw [cmF_same (dB_not hm)]; exact hR.out)
            go_wp2_with fail
            refine (jm _).mono ?_
            rintro e w6 ⟨rfl, rfl⟩
            clear jm
            go_wp2_with fail
            go_roundw
            case rel => exact ⟨N + 1, by omega, hlt, by go_num, HR2, hO, hC⟩
            case measure => simp [intOf]; omega
    · obtain rfl : N = r.l.length := by omega
      have hli : ¬ ((r.l.length + 1 : Nat) : Int) ≤ (r.l.length : Int) := by omega
      have HR9 : Hid (RpB w4 b (cntd r) u) := (show Bx _ b 28 #[.int .i64 r.id, .int .i64 r.p, .int .i64 r.v, .bool r.n, .int .i64 r.la, u.l, .int .i64 (cntd r).c, u.ok, u.ch, u.te] from by
        unfold cntd
        simp only [hit]
        rw [← HOK.out]
        exact hR.out)
      have HO9 : Hid (HasN w4 B (.slice (some ⟨g, 0, none⟩) r.ok.length cap) (cntd r).ok) := (show Hid _ from by
        rw [cntd_ok, hit, ← HOK.out]
        exact hO.out)
      go_wp2
      go_end0
      exact ⟨rfl, HR9.out, HO9.out, by rw [← huo]; exact hC.out⟩
end Go.Proofs.YtdahfhkeeemdiaaGreat.Rl
namespace Go.Proofs.YtdahfhkeeemdiaaGreat.Rl
open Go.RowKit Go.Sort Go.Shelf
set_option linter.unusedVariables false
set_option linter.unusedSimpArgs false

def frLst (s t : Nat → Value) : Act := { tmps := #[s 0, s 1, s 2, t 3, t 4, t 5, t 6, t 7, t 8, t 9, t 10, t 11, t 12, t 13, t 14, t 15, t 16, t 17, s 18, s 19, s 20, s 21, s 22, s 23, s 24, s 25, s 26, s 27, s 28, s 29, s 30, s 31, s 32, s 33, s 34], defers := [] }
def LLst : List Nat := [4, 5, 6, 7, 8, 9, 10, 11, 12, 13, 14, 15, 16, 17, 3]
def dLst (i : Nat) : Nat := LLst.getD i (i + 5000)
theorem dLst_ne {i j : Nat} (hi : i < 15) (hj : j < 15) (h : j ≠ i) : dLst j ≠ dLst i := slotsNe (L := LLst) (by decide) rfl hi hj h
def GLst (r : Rp) (b lo : Nat) (la : Option Addr) (lc : Nat) (i : Nat) (x : World) (v : Value) : Prop := match i with
  | 0 => v = .pointer (some ⟨b, 0, none⟩)
  | 1 => v = .int .i64 r.id
  | 2 => v = .pointer (some ⟨b, 1, none⟩)
  | 3 => v = .int .i64 r.p
  | 4 => v = .pointer (some ⟨b, 2, none⟩)
  | 5 => v = .int .i64 r.v
  | 6 => v = .pointer (some ⟨b, 3, none⟩)
  | 7 => v = .bool r.n
  | 8 => v = .pointer (some ⟨b, 4, none⟩)
  | 9 => v = .int .i64 r.la
  | 10 => v = .pointer (some ⟨b, 5, none⟩)
  | 11 => v = .slice la r.l.length lc
  | 12 => ∃ (p1 : Option Addr) (d1 : Nat), v = .slice p1 r.l.length d1 ∧ OwnsX x lo (.slice p1 r.l.length d1) r.l
  | 13 => ∃ (p1 : Option Addr) (d1 : Nat), v = .agg #[.int .i64 r.id, .int .i64 r.p, .int .i64 r.v, .bool r.n, .int .i64 r.la, .slice p1 r.l.length d1, .int .i64 0, .slice none 0 0, .slice none 0 0, .slice none 0 0] ∧ OwnsX x lo (.slice p1 r.l.length d1) r.l
  | 14 => ∃ (gb : Nat), v = .pointer (some ⟨gb, 0, none⟩) ∧ (lo ≤ gb ∧ Bx x gb 28 zR)
  | _ => True
theorem GLst.keep {r : Rp} {b lo : Nat} {la : Option Addr} {lc : Nat} {x y : World} (hb : Below x.heap.size x y) (j : Nat) (v : Value) (hj : j < 15) (h : GLst r b lo la lc j x v) : GLst r b lo la lc j y v := by
  rcases (show j = 0 ∨ j = 1 ∨ j = 2 ∨ j = 3 ∨ j = 4 ∨ j = 5 ∨ j = 6 ∨ j = 7 ∨ j = 8 ∨ j = 9 ∨ j = 10 ∨ j = 11 ∨ j = 12 ∨ j = 13 ∨ j = 14 by omega) with rfl | rfl | rfl | rfl | rfl | rfl | rfl | rfl | rfl | rfl | rfl | rfl | rfl | rfl | rfl
  · exact h
  · exact h
  · exact h
  · exact h
  · exact h
  · exact h
  · exact h
  · exact h
  · exact h
  · exact h
  · exact h
  · exact h
  · obtain ⟨p1, d1, h1, h2⟩ := h; exact ⟨p1, d1, h1, h2.kept hb⟩
  · obtain ⟨p1, d1, h1, h2⟩ := h; exact ⟨p1, d1, h1, h2.kept hb⟩
  · obtain ⟨gb, h1, h2⟩ := h; exact ⟨gb, h1, h2.1, h2.2.kept hb⟩
set_option maxRecDepth 100000 in
set_option maxHeartbeats 8000000 in
theorem specStpM (r : Rp) (u : Rv) (w : World) (h : RpGot w u r) (hr : RpOk r) (hf : Fit r) : Calls Tryz.prog 79 #[rpA r u] w fun e w' => RpAns (stpF r) w e w' := by
  obtain ⟨la, lc, oa, oc, ca, cc, ta, tc, T, rfl⟩ := h.form
  obtain ⟨b, hb⟩ : ∃ b, b = w.heap.size := ⟨_, rfl⟩
  obtain ⟨w1, hw1⟩ : ∃ w1, w1 = (w.alloc (.cells #[.int .i64 r.id, .int .i64 r.p, .int .i64 r.v, .bool r.n, .int .i64 r.la, .slice la r.l.length lc, .int .i64 r.c, .slice oa r.ok.length oc, .slice ca r.ch.length cc, .slice ta r.te.length tc] 28)).alloc (.cells zR 28) := ⟨_, rfl⟩
  have BX : Hid (RpB w1 b r ⟨.slice la r.l.length lc, .slice oa r.ok.length oc, .slice ca r.ch.length cc, .slice ta r.te.length tc, T⟩) := (show Hid _ from by rw [hw1, hb]; exact Bx.alloc (Bx.new _ _ _) _)
  have ZB : Hid (Bx w1 (b + 1) 28 zR) := (show Hid _ from by rw [hw1, hb]; exact Bx.at _ _ (by simp))
  have B1 : Hid (Below b w w1) := (show Hid _ from by rw [hw1, hb]; exact ((Below.refl _ w).alloc (Nat.le_refl _) _).alloc (by simp) _)
  have S1 : Hid (w1.heap.size = b + 2) := (show _ = _ by rw [hw1, hb]; simp)
  have HB : Hid (b = w.heap.size) := hb
  have HG : Hid (RpGot w ⟨.slice la r.l.length lc, .slice oa r.ok.length oc, .slice ca r.ch.length cc, .slice ta r.te.length tc, T⟩ r) := h
  have HR : Hid (RpOk r) := hr
  have HF : Hid (Fit r) := hf
  have HP : Hid (∀ x, Below w1.heap.size w1 x → Below w.heap.size w x) := (show ∀ _, _ from fun x hx => by rw [← HB.out]; exact B1.out.trans (hx.mono (by have := S1.out; omega)))
  have jT := fun x (hS : Below w1.heap.size w1 x) => specTxs (.slice la r.l.length lc) r.l x (HG.out.l.kept (HP.out x hS)) hf.l.1
  have jL := fun W => specLds r ⟨.slice la r.l.length lc, .slice oa r.ok.length oc, .slice ca r.ch.length cc, .slice ta r.te.length tc, T⟩ W ⟨hr.v.1, by have := hr.v; omega⟩ hr.p
  unfold rpA at *
  simp only at jL ⊢
  clear h hr hf
  go_enter Tryz.func79, Tryz.ntmps79
  go_upto_region 1 with fail
  unfold zR at hw1
  rw [← hb, ← hw1]
  clear hw1 hb
  have CB := fun x (hS : Below w1.heap.size w1 x) => RpB.cells (show RpB x b r ⟨.slice la r.l.length lc, .slice oa r.ok.length oc, .slice ca r.ch.length cc, .slice ta r.te.length tc, T⟩ from Bx.kept BX.out hS)
  simp only at CB
  have S0 : Below w1.heap.size w1 w1.drew := ⟨rfl, rfl, rfl, Nat.le_refl _, fun _ _ => rfl⟩
  obtain ⟨lo, hlo⟩ : ∃ lo, lo = w1.heap.size := ⟨_, rfl⟩
  generalize hA : Act.mk _ _ = A
  obtain ⟨s, hs, s1_, s2_⟩ : ∃ s : Nat → Value, A = frLst s (fun _ => undef) ∧ s 1 = .pointer (some ⟨b, 0, none⟩) ∧ s 2 = .pointer (some ⟨b + 1, 0, none⟩) := by
    refine ⟨fun i => A.tmps.getD i undef, ?_, ?_, ?_⟩ <;> rw [← hA] <;> rfl
  rw [hs]
  clear hs hA
  refine region_heads 15 mixed (by decide) (by kernel_rfl) (by kernel_rfl) (by kernel_rfl) (by kernel_rfl) (frLst s) dLst (fun x => Below w1.heap.size w1 x) (GLst r b lo la lc) (fun i j hi hj h => dLst_ne hi hj h) ?put (fun _ => undef) rfl S0 ?step ?done
  case put =>
    intro i o hi ho t v
    rcases (show i = 0 ∨ i = 1 ∨ i = 2 ∨ i = 3 ∨ i = 4 ∨ i = 5 ∨ i = 6 ∨ i = 7 ∨ i = 8 ∨ i = 9 ∨ i = 10 ∨ i = 11 ∨ i = 12 ∨ i = 13 ∨ i = 14 by omega) with rfl | rfl | rfl | rfl | rfl | rfl | rfl | rfl | rfl | rfl | rfl | rfl | rfl | rfl | rfl
    all_goals
      obtain rfl := Option.some.inj ho
      rfl
  case step =>
    intro i o hi ho t x hS hdep K hK
    rcases (show i = 0 ∨ i = 1 ∨ i = 2 ∨ i = 3 ∨ i = 4 ∨ i = 5 ∨ i = 6 ∨ i = 7 ∨ i = 8 ∨ i = 9 ∨ i = 10 ∨ i = 11 ∨ i = 12 ∨ i = 13 ∨ i = 14 by omega) with rfl | rfl | rfl | rfl | rfl | rfl | rfl | rfl | rfl | rfl | rfl | rfl | rfl | rfl | rfl
    all_goals obtain rfl := Option.some.inj ho
    · have h2 := hK (.pointer (some ⟨b, 0, none⟩)) x hS (fun j u hj hne h => h) rfl
      unfold frLst at h2 ⊢
      clear hK
      go_simp
      simpa [Act.put, s1_, s2_] using h2
    · have e0 : t 4 = .pointer (some ⟨b, 0, none⟩) := hdep { on := 0, ground := Ground.data } (by simp) rfl
      have y0 := (CB x hS).1
      have h2 := hK (.int .i64 r.id) x hS (fun j u hj hne h => h) rfl
      unfold frLst at h2 ⊢
      clear hK
      go_simp
      simpa [Act.put, e0, y0, s1_, s2_] using h2
    · have h2 := hK (.pointer (some ⟨b, 1, none⟩)) x hS (fun j u hj hne h => h) rfl
      unfold frLst at h2 ⊢
      clear hK
      go_simp
      simpa [Act.put, s1_, s2_] using h2
    · have e2 : t 6 = .pointer (some ⟨b, 1, none⟩) := hdep { on := 2, ground := Ground.data } (by simp) rfl
      have y0 := (CB x hS).2.1
      have h2 := hK (.int .i64 r.p) x hS (fun j u hj hne h => h) rfl
      unfold frLst at h2 ⊢
      clear hK
      go_simp
      simpa [Act.put, e2, y0, s1_, s2_] using h2
    · have h2 := hK (.pointer (some ⟨b, 2, none⟩)) x hS (fun j u hj hne h => h) rfl
      unfold frLst at h2 ⊢
      clear hK
      go_simp
      simpa [Act.put, s1_, s2_] using h2
    · have e4 : t 8 = .pointer (some ⟨b, 2, none⟩) := hdep { on := 4, ground := Ground.data } (by simp) rfl
      have y0 := (CB x hS).2.2.1
      have h2 := hK (.int .i64 r.v) x hS (fun j u hj hne h => h) rfl
      unfold frLst at h2 ⊢
      clear hK
      go_simp
      simpa [Act.put, e4, y0, s1_, s2_] using h2
    · have h2 := hK (.pointer (some ⟨b, 3, none⟩)) x hS (fun j u hj hne h => h) rfl
      unfold frLst at h2 ⊢
      clear hK
      go_simp
      simpa [Act.put, s1_, s2_] using h2
    · have e6 : t 10 = .pointer (some ⟨b, 3, none⟩) := hdep { on := 6, ground := Ground.data } (by simp) rfl
      have y0 := (CB x hS).2.2.2.1
      have h2 := hK (.bool r.n) x hS (fun j u hj hne h => h) rfl
      unfold frLst at h2 ⊢
      clear hK
      go_simp
      simpa [Act.put, e6, y0, s1_, s2_] using h2
    · have h2 := hK (.pointer (some ⟨b, 4, none⟩)) x hS (fun j u hj hne h => h) rfl
      unfold frLst at h2 ⊢
      clear hK
      go_simp
      simpa [Act.put, s1_, s2_] using h2
    · have e8 : t 12 = .pointer (some ⟨b, 4, none⟩) := hdep { on := 8, ground := Ground.data } (by simp) rfl
      have y0 := (CB x hS).2.2.2.2.1
      have h2 := hK (.int .i64 r.la) x hS (fun j u hj hne h => h) rfl
      unfold frLst at h2 ⊢
      clear hK
      go_simp
      simpa [Act.put, e8, y0, s1_, s2_] using h2
    · have h2 := hK (.pointer (some ⟨b, 5, none⟩)) x hS (fun j u hj hne h => h) rfl
      unfold frLst at h2 ⊢
      clear hK
      go_simp
      simpa [Act.put, s1_, s2_] using h2
    · have e10 : t 14 = .pointer (some ⟨b, 5, none⟩) := hdep { on := 10, ground := Ground.data } (by simp) rfl
      have y0 := (CB x hS).2.2.2.2.2.1
      have h2 := hK (.slice la r.l.length lc) x hS (fun j u hj hne h => h) rfl
      unfold frLst at h2 ⊢
      clear hK
      go_simp
      simpa [Act.put, e10, y0, s1_, s2_] using h2
    · have e11 : t 15 = .slice la r.l.length lc := hdep { on := 11, ground := Ground.data } (by simp) rfl
      refine callG1 (by rfl) 101 (.tmp 15) _ rfl (.slice la r.l.length lc) e11 (Go.Proofs.enters_of Tryz.func101 (by kernel_rfl) rfl _) (fun v y => (∃ (p1 : Option Addr) (d1 : Nat), v = .slice p1 r.l.length d1 ∧ OwnsX y lo (.slice p1 r.l.length d1) r.l) ∧ Below x.heap.size x y) ((jT x hS).mono ?_) ?_
      · rintro e0 y0 ⟨u0, h0, h1, h2⟩
        obtain ⟨q1, g1, rfl, _⟩ := h1.form
        exact ⟨_, h0, ⟨q1, g1, rfl, h1.low (by rw [hlo]; exact hS.size)⟩, h2⟩
      · rintro v y ⟨h0, hb2⟩
        exact hK v y (hS.trans (hb2.mono hS.size)) (fun j u hj hne h => GLst.keep hb2 j u hj h) h0
    · have e1 : t 5 = .int .i64 r.id := hdep { on := 1, ground := Ground.data } (by simp) rfl
      have e3 : t 7 = .int .i64 r.p := hdep { on := 3, ground := Ground.data } (by simp) rfl
      have e5 : t 9 = .int .i64 r.v := hdep { on := 5, ground := Ground.data } (by simp) rfl
      have e7 : t 11 = .bool r.n := hdep { on := 7, ground := Ground.data } (by simp) rfl
      have e9 : t 13 = .int .i64 r.la := hdep { on := 9, ground := Ground.data } (by simp) rfl
      obtain ⟨p1_12, d1_12, e12, k12⟩ : ∃ (p1 : Option Addr) (d1 : Nat), t 16 = .slice p1 r.l.length d1 ∧ OwnsX x lo (.slice p1 r.l.length d1) r.l := hdep { on := 12, ground := Ground.data } (by simp) rfl
      have h2 := hK (.agg #[.int .i64 r.id, .int .i64 r.p, .int .i64 r.v, .bool r.n, .int .i64 r.la, .slice p1_12 r.l.length d1_12, .int .i64 0, .slice none 0 0, .slice none 0 0, .slice none 0 0]) x hS (fun j u hj hne h => h) ⟨_, _, rfl, k12⟩
      unfold frLst at h2 ⊢
      clear hK
      go_simp
      simpa [Act.put, e1, e3, e5, e7, e9, e12, s1_, s2_] using h2
    · have hba := (Below.refl x.heap.size x).alloc (Nat.le_refl _) (.cells zR 28)
      have h2 := hK (.pointer (some ⟨x.heap.size, 0, none⟩)) (x.alloc (.cells zR 28)) (hS.trans (hba.mono hS.size)) (fun j u hj hne h => GLst.keep hba j u hj h) ⟨x.heap.size, rfl, by rw [hlo]; exact hS.size, Bx.new _ _ _⟩
      unfold frLst zR at h2
      unfold frLst
      clear hK
      go_simp
      simpa [Act.put, s1_, s2_] using h2
  case done =>
    intro t w2 hS hG
    obtain ⟨p1, d1, e13, k13⟩ : ∃ (p1 : Option Addr) (d1 : Nat), t 17 = .agg #[.int .i64 r.id, .int .i64 r.p, .int .i64 r.v, .bool r.n, .int .i64 r.la, .slice p1 r.l.length d1, .int .i64 0, .slice none 0 0, .slice none 0 0, .slice none 0 0] ∧ OwnsX w2 lo (.slice p1 r.l.length d1) r.l := hG 13 (by decide)
    obtain ⟨gb, e14, k14, z14⟩ : ∃ (gb : Nat), t 3 = .pointer (some ⟨gb, 0, none⟩) ∧ (lo ≤ gb ∧ Bx w2 gb 28 zR) := hG 14 (by decide)
    rw [hlo] at k13 k14
    clear jT CB hG S0 hlo
    show wpList Tryz.prog _ _ [_] _ w2
    unfold frLst
    simp only [e13, e14, s1_, s2_]
    clear e13 e14 s1_ s2_
    have HS : Hid (Below w1.heap.size w1 w2) := hS
    clear hS
    have S14 : Hid (w1.heap.size ≤ gb) := k14
    have Z14 : Hid (Bx w2 gb 28 zR) := z14
    have K13 : Hid (OwnsX w2 w1.heap.size (.slice p1 r.l.length d1) r.l) := k13
    clear k13 k14 z14
    go_upto_region 2 with (refine wpList_stR rfl rfl (.tmp 3) (.tmp 17) rfl gb #[.int .i64 r.id, .int .i64 r.p, .int .i64 r.v, .bool r.n, .int .i64 r.la, .slice p1 r.l.length d1, .int .i64 0, .slice none 0 0, .slice none 0 0, .slice none 0 0] rfl rfl Z14.out rfl rfl (by simp [Value.oneCell']) ?_; intro w3 hz3 hc3)
    have H3 : Hid (RpAt w3 (b + 2) gb ⟨.slice p1 r.l.length d1, .slice none 0 0, .slice none 0 0, .slice none 0 0, []⟩ ⟨r.id, r.p, r.v, r.n, r.la, r.l, 0, [], [], []⟩) := (show RpAt _ _ _ _ _ from by
      have hs1 := S1.out
      have hs14 := S14.out
      refine ⟨hz3, ⟨OwnsE.low (OwnsE.off K13.out (fun k hk => hc3.block k (K13.out.under k hk) (OwnsE.ne_of K13.out.has Z14.out (by decide) k hk))) (by omega), .inl ⟨rfl, rfl⟩, OwnsE.none _ _, rfl, OwnsE.none _ _, fun x hx => nomatch hx⟩, ?_, by omega⟩
      unfold RpAp Rv.rows
      simp [ap, Value.ownBlock])
    have BX3 : Hid (RpB w3 b r ⟨.slice la r.l.length lc, .slice oa r.ok.length oc, .slice ca r.ch.length cc, .slice ta r.te.length tc, T⟩) := (show w3.heap[b]? = _ from (hc3.block b (Bx.lt (Bx.kept BX.out HS.out)) (by have := S1.out; have := S14.out; omega)).trans (Bx.kept BX.out HS.out))
    have ZB3 : Hid (Bx w3 (b + 1) 28 zR) := (show w3.heap[b + 1]? = _ from (hc3.block (b + 1) (Bx.lt (Bx.kept ZB.out HS.out)) (by have := S1.out; have := S14.out; omega)).trans (Bx.kept ZB.out HS.out))
    have B3 : Hid (Below b w w3) := (show Hid _ from hc3.below (B1.out.trans (HS.out.mono (by have := S1.out; omega))) (by have := S1.out; have := HS.out.size; omega) (fun k hk => by have := S1.out; have := S14.out; omega))
    have S3 : Hid (b + 2 ≤ gb) := (show _ ≤ _ by have := S1.out; have := S14.out; omega)
    clear hz3 hc3 HS Z14 K13 S14 BX ZB B1 S1 HP
    go_wp2_with (refine wpList_ldR rfl (.tmp 1) rfl b rfl BX3.out rfl ?_)
    refine (jL _).mono ?_
    rintro e w4 ⟨rfl, hb4⟩
    have H4 : Hid (RpAt w4 (b + 2) gb ⟨.slice p1 r.l.length d1, .slice none 0 0, .slice none 0 0, .slice none 0 0, []⟩ ⟨r.id, r.p, r.v, r.n, r.la, r.l, 0, [], [], []⟩) := (show Hid _ from H3.out.kept hb4)
    have BX4 : Hid (RpB w4 b r ⟨.slice la r.l.length lc, .slice oa r.ok.length oc, .slice ca r.ch.length cc, .slice ta r.te.length tc, T⟩) := (show Hid _ from Bx.kept BX3.out hb4)
    have ZB4 : Hid (Bx w4 (b + 1) 28 zR) := (show Hid _ from Bx.kept ZB3.out hb4)
    have B4 : Hid (Below b w w4) := (show Hid _ from B3.out.trans (hb4.mono (by have := B3.out.size; have := HB.out; omega)))
    clear hb4 H3 BX3 ZB3 B3 jL
    have c0 := (RpB.cells BX4.out).1
    have c1 := (RpB.cells BX4.out).2.1
    have c3 := (RpB.cells BX4.out).2.2.2.1
    cases hld : dB (leads r) with
    | true =>
      obtain ⟨n, hn⟩ : ∃ n : Nat, (n : Int) = r.p := ⟨r.p.toNat, by rcases HR.out.p with h | h | h <;> omega⟩
      have hn5 : n ≤ 5 := by rcases HR.out.p with h | h | h <;> omega
      have hnn : r.p.toNat = n := by omega
      have hrn : r.n = true := (dB_is hld).1
      obtain ⟨i0, hi, hz0, hz1, hz2⟩ := info_parts Tryz.infoN2
      obtain ⟨w5, hrun, hown, hgr⟩ := run_make_full (P := Tryz.prog) w4 w4.heap.size 25 2 i0 (.int .i64 0) 1 Tryz.underlying25 hi hz0 hz1 .i64 .i64 n (by rw [hz2]; omega) (by unfold maxLen; omega) (Nat.le_refl _)
      rw [madeN] at hown
      have O5 : Hid (OwnsN w5 w4.heap.size (.slice (some ⟨w4.heap.size, 0, none⟩) n n) (List.replicate n 0)) := (show w5.ownsRow _ _ 1 _ _ _ from by rw [List.length_replicate]; exact hown)
      have B45 : Hid (Below w4.heap.size w4 w5) := (show Hid _ from (Below.refl _ w4).grown hgr (Nat.le_refl _) (fun j hj => by cases hj))
      rw [hn] at hrun
      have HE : Hid (stpF r = cntd ⟨r.id, r.p, r.v, true, r.la, r.l, 0, List.replicate n 0, [], []⟩) := (show _ = _ by unfold stpF; rw [if_pos (dB_is hld), hnn])
      have HN : Hid ((n : Int) = r.p ∧ r.n = true) := ⟨hn, hrn⟩
      clear hown hgr hi hz0 hz1 hz2 hld hn hnn hrn
      go_upto_region 4 with (refine wpList_rpOk H4.out B45.out rfl rfl (.tmp 24) (.tmp 23) rfl O5.out.has rfl rfl ?_; intro w6 h6 b6)
      have H6 : Hid (RpAt w6 (b + 2) gb ⟨.slice p1 r.l.length d1, .slice (some ⟨w4.heap.size, 0, none⟩) n n, .slice none 0 0, .slice none 0 0, []⟩ ⟨r.id, r.p, r.v, true, r.la, r.l, 0, List.replicate n 0, [], []⟩) := (show Hid _ from by rw [← HN.out.2]; exact h6)
      have ZB6 : Hid (Bx w6 (b + 1) 28 zR) := (show Hid _ from Bx.low ZB4.out b6 (by omega))
      have BX6 : Hid (RpB w6 b r ⟨.slice la r.l.length lc, .slice oa r.ok.length oc, .slice ca r.ch.length cc, .slice ta r.te.length tc, T⟩) := (show Hid _ from Bx.low BX4.out b6 (by omega))
      have B6 : Hid (Below b w w6) := (show Hid _ from B4.out.trans (b6.mono (by omega)))
      clear h6 b6 H4 B4 ZB4 BX4 B45 O5 hrun c0 c1 c3
      have jc := specCnt ⟨r.id, r.p, r.v, true, r.la, r.l, 0, List.replicate n 0, [], []⟩ ⟨.slice p1 r.l.length d1, .slice (some ⟨w4.heap.size, 0, none⟩) n n, .slice none 0 0, .slice none 0 0, []⟩ gb (b + 2) w6 H6.out.c H6.out.o.ok H6.out.lslice (H6.out.o.ne H6.out.c _ (rows_ok _)) HR.out.p (by simp only [List.length_replicate]; exact HN.out.1) HR.out.id ⟨Int.le_refl 0, by show (0 : Int) ≤ (r.l.length : Int); omega⟩ HF.out.l.1
      go_upto_region 7 with (go_at_call 75; refine jc.mono ?_; rintro e w7 ⟨rfl, k1, k2, k3⟩)
      obtain ⟨h7, b7⟩ := H6.out.counted k1 k2 k3
      have H7 : Hid (RpAt w7 (b + 2) gb ⟨.slice p1 r.l.length d1, .slice (some ⟨w4.heap.size, 0, none⟩) n n, .slice none 0 0, .slice none 0 0, []⟩ (cntd ⟨r.id, r.p, r.v, true, r.la, r.l, 0, List.replicate n 0, [], []⟩)) := (show Hid _ from h7)
      have ZB7 : Hid (Bx w7 (b + 1) 28 zR) := (show Hid _ from Bx.low ZB6.out b7 (by omega))
      have BX7 : Hid (RpB w7 b r ⟨.slice la r.l.length lc, .slice oa r.ok.length oc, .slice ca r.ch.length cc, .slice ta r.te.length tc, T⟩) := (show Hid _ from Bx.low BX6.out b7 (by omega))
      have B7 : Hid (Below b w w7) := (show Hid _ from B6.out.trans (b7.mono (by omega)))
      clear h7 b7 k1 k2 k3 jc H6 B6 ZB6 BX6
      go_wp2_with (first | (refine wpList_ldR rfl (.tmp 3) rfl gb rfl H7.out.c rfl ?_) | (refine wpList_stR rfl rfl (.tmp 2) (.tmp 34) rfl (b + 1) (rpC (cntd ⟨r.id, r.p, r.v, true, r.la, r.l, 0, List.replicate n 0, [], []⟩) ⟨.slice p1 r.l.length d1, .slice (some ⟨w4.heap.size, 0, none⟩) n n, .slice none 0 0, .slice none 0 0, []⟩) rfl rfl ZB7.out rfl rfl (rpC_one H7.out.got) ?_; intro w9 hz9 hc9))
      have B9 : Hid (Below b w w9) := (show Hid _ from hc9.below B7.out (by have := B7.out.size; have := HB.out; omega) (fun k hk => by omega))
      have HH : Hid (RpHas w9 (b + 2) ⟨.slice p1 r.l.length d1, .slice (some ⟨w4.heap.size, 0, none⟩) n n, .slice none 0 0, .slice none 0 0, []⟩ (cntd ⟨r.id, r.p, r.v, true, r.la, r.l, 0, List.replicate n 0, [], []⟩)) := (show Hid _ from H7.out.o.has.off (fun v hv k hk => hc9.block k (H7.out.under v hv k hk) (by have := H7.out.o.has.from v hv k hk; omega)))
      refine bodyPost_ret (v := .agg (rpC (cntd ⟨r.id, r.p, r.v, true, r.la, r.l, 0, List.replicate n 0, [], []⟩) ⟨.slice p1 r.l.length d1, .slice (some ⟨w4.heap.size, 0, none⟩) n n, .slice none 0 0, .slice none 0 0, []⟩)) (results_cell_row (p := 2) (ty := 28) rfl _ _ (b + 1) 28 _ (0, 0) _ rfl hz9 Tryz.underlying28 rfl (by rw [Tryz.rszR]; rfl)) rfl ?_
      rw [HE.out]
      exact ⟨_, rfl, HH.out.low (by have := HB.out; omega), H7.out.apt, by rw [← HB.out]; exact B9.out⟩
    | false =>
    have HNL : Hid (¬ leads r) := dB_not hld
    cases hn : r.n with
    | true =>
      have HE : Hid (stpF r = ⟨r.id, r.p, r.v, true, r.la, r.l, 0, [], [], []⟩) := (show _ = _ by unfold stpF; rw [if_neg HNL.out, if_pos hn])
      have H5 : Hid (RpAt w4 (b + 2) gb ⟨.slice p1 r.l.length d1, .slice none 0 0, .slice none 0 0, .slice none 0 0, []⟩ ⟨r.id, r.p, r.v, true, r.la, r.l, 0, [], [], []⟩) := (show Hid _ from by rw [← hn]; exact H4.out)
      have ZB5 : Hid (Bx w4 (b + 1) 28 zR) := ZB4
      have B5 : Hid (Below b w w4) := B4
      rw [hn] at c3
      clear hn hld H4 B4 ZB4
      go_wp2_with (first | (refine wpList_ldR rfl (.tmp 3) rfl gb rfl H5.out.c rfl ?_) | (refine wpList_stR rfl rfl (.tmp 2) (.tmp 34) rfl (b + 1) (rpC ⟨r.id, r.p, r.v, true, r.la, r.l, 0, [], [], []⟩ ⟨.slice p1 r.l.length d1, .slice none 0 0, .slice none 0 0, .slice none 0 0, []⟩) rfl rfl ZB5.out rfl rfl (rpC_one H5.out.got) ?_; intro w9 hz9 hc9))
      have B9 : Hid (Below b w w9) := (show Hid _ from hc9.below B5.out (by have := B5.out.size; have := HB.out; omega) (fun k hk => by omega))
      have HH : Hid (RpHas w9 (b + 2) ⟨.slice p1 r.l.length d1, .slice none 0 0, .slice none 0 0, .slice none 0 0, []⟩ ⟨r.id, r.p, r.v, true, r.la, r.l, 0, [], [], []⟩) := (show Hid _ from H5.out.o.has.off (fun v hv k hk => hc9.block k (H5.out.under v hv k hk) (by have := H5.out.o.has.from v hv k hk; omega)))
      refine bodyPost_ret (v := .agg (rpC ⟨r.id, r.p, r.v, true, r.la, r.l, 0, [], [], []⟩ ⟨.slice p1 r.l.length d1, .slice none 0 0, .slice none 0 0, .slice none 0 0, []⟩)) (results_cell_row (p := 2) (ty := 28) rfl _ _ (b + 1) 28 _ (0, 0) _ rfl hz9 Tryz.underlying28 rfl (by rw [Tryz.rszR]; rfl)) rfl ?_
      rw [HE.out]
      exact ⟨_, rfl, HH.out.low (by have := HB.out; omega), H5.out.apt, by rw [← HB.out]; exact B9.out⟩
    | false =>
      have HE : Hid (stpF r = ⟨r.id, r.p, r.v, false, r.la, r.l, 0, [], [r.id], []⟩) := (show _ = _ by unfold stpF; rw [if_neg HNL.out, if_neg (by rw [hn]; decide)])
      have HN : Hid (r.n = false) := hn
      rw [hn] at c3
      clear hn hld
      go_upto_region 7 with (refine wpList_rpCh H4.out ((Below.refl _ w4).alloc (Nat.le_refl _) _) rfl rfl (.tmp 33) (.tmp 32) rfl (ownsN_one w4 r.id) rfl rfl ?_; intro w6 h6 b6)
      have H6 : Hid (RpAt w6 (b + 2) gb ⟨.slice p1 r.l.length d1, .slice none 0 0, .slice (some ⟨w4.heap.size, 0, none⟩) 1 1, .slice none 0 0, []⟩ ⟨r.id, r.p, r.v, false, r.la, r.l, 0, [], [r.id], []⟩) := (show Hid _ from by rw [← HN.out]; exact h6)
      have ZB6 : Hid (Bx w6 (b + 1) 28 zR) := (show Hid _ from Bx.low ZB4.out b6 (by omega))
      have BX6 : Hid (RpB w6 b r ⟨.slice la r.l.length lc, .slice oa r.ok.length oc, .slice ca r.ch.length cc, .slice ta r.te.length tc, T⟩) := (show Hid _ from Bx.low BX4.out b6 (by omega))
      have B6 : Hid (Below b w w6) := (show Hid _ from B4.out.trans (b6.mono (by omega)))
      clear h6 b6 H4 B4 ZB4 BX4 c0 c1 c3
      go_wp2_with (first | (refine wpList_ldR rfl (.tmp 3) rfl gb rfl H6.out.c rfl ?_) | (refine wpList_stR rfl rfl (.tmp 2) (.tmp 34) rfl (b + 1) (rpC ⟨r.id, r.p, r.v, false, r.la, r.l, 0, [], [r.id], []⟩ ⟨.slice p1 r.l.length d1, .slice none 0 0, .slice (some ⟨w4.heap.size, 0, none⟩) 1 1, .slice none 0 0, []⟩) rfl rfl ZB6.out rfl rfl (rpC_one H6.out.got) ?_; intro w9 hz9 hc9))
      have B9 : Hid (Below b w w9) := (show Hid _ from hc9.below B6.out (by have := B6.out.size; have := HB.out; omega) (fun k hk => by omega))
      have HH : Hid (RpHas w9 (b + 2) ⟨.slice p1 r.l.length d1, .slice none 0 0, .slice (some ⟨w4.heap.size, 0, none⟩) 1 1, .slice none 0 0, []⟩ ⟨r.id, r.p, r.v, false, r.la, r.l, 0, [], [r.id], []⟩) := (show Hid _ from H6.out.o.has.off (fun v hv k hk => hc9.block k (H6.out.under v hv k hk) (by have := H6.out.o.has.from v hv k hk; omega)))
      refine bodyPost_ret (v := .agg (rpC ⟨r.id, r.p, r.v, false, r.la, r.l, 0, [], [r.id], []⟩ ⟨.slice p1 r.l.length d1, .slice none 0 0, .slice (some ⟨w4.heap.size, 0, none⟩) 1 1, .slice none 0 0, []⟩)) (results_cell_row (p := 2) (ty := 28) rfl _ _ (b + 1) 28 _ (0, 0) _ rfl hz9 Tryz.underlying28 rfl (by rw [Tryz.rszR]; rfl)) rfl ?_
      rw [HE.out]
      exact ⟨_, rfl, HH.out.low (by have := HB.out; omega), H6.out.apt, by rw [← HB.out]; exact B9.out⟩
end Go.Proofs.YtdahfhkeeemdiaaGreat.Rl
