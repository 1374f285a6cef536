/-
  The specification's count.
  The specification's l17Stop and Stop.
  The specification's Submit.
-/
import Derived.Test.YtlngleinegkoeaaGreatT34
import Derived.Test.YtlngleinegkoeaaGreatT37
import Derived.Test.YtlngleinegkoeaaGreatT38
import Derived.Test.YtlngleinegkoeaaGreatT30
import Derived.Test.YtlngleinegkoeaaGreatT31
namespace Go.Proofs.YtlngleinegkoeaaGreat.Rl
open Go.RowKit Go.Sort Go.Shelf
set_option linter.unusedVariables false
set_option linter.unusedSimpArgs false

theorem cmF_low {ok : List Int} {p c : Int} : ∀ N : Nat, (N : Int) ≤ c → cmF ok p c N = c
  | 0, _ => rfl
  | N + 1, h => by
    unfold cmF
    rw [if_neg (fun hh => by omega)]
    exact cmF_low N (by omega)
theorem cmF_up {ok : List Int} {p c : Int} {N : Nat} (h : c ≤ (N : Int)) (hm : maj (cntF ok ((N + 1 : Nat) : Int)) p) : cmF ok p c (N + 1) = ((N + 1 : Nat) : Int) := by
  unfold cmF
  exact if_pos ⟨by omega, hm⟩
theorem cmF_same {ok : List Int} {p c : Int} {N : Nat} (hm : ¬ maj (cntF ok ((N + 1 : Nat) : Int)) p) : cmF ok p c (N + 1) = cmF ok p c N := by
  conv => lhs; unfold cmF
  exact if_neg (fun hh => hm hh.2)
theorem cntF_next {ok : List Int} {n : Int} {k : Nat} (h : k < ok.length) : cntF (ok.take (k + 1)) n = cntF (ok.take k) n + (if n ≤ ok[k] then 1 else 0) := by
  unfold cntF
  rw [List.take_succ_eq_append_getElem h, List.filter_append, List.length_append]
  by_cases h1 : n ≤ ok[k] <;> simp [List.filter, h1]
theorem cntF_le (ok : List Int) (n : Int) : cntF ok n ≤ ok.length := by
  unfold cntF
  exact List.length_filter_le _ _
set_option maxRecDepth 100000 in
set_option maxHeartbeats 8000000 in
/-- What is agreed on, counted by the specification. -/
theorem specCnt (r : Rp) (u : Rv) (b B : Nat) (w : World) (hB : RpB w b r u) (hO : HasN w B u.ok r.ok) (hl : ∃ a c, u.l = .slice a r.l.length c) (hne : ∀ k, u.ok.ownBlock = some k → k ≠ b) (hp : pOk r.p) (hol : (r.ok.length : Int) = r.p) (hid : 0 ≤ r.id ∧ r.id < r.p) (hc : 0 ≤ r.c ∧ r.c ≤ (r.l.length : Int)) (hlen : r.l.length ≤ 1048576) :
    Calls Tryz.prog 111 #[.pointer (some ⟨b, 0, none⟩)] w fun e w' => e = .returned (.tuple #[]) ∧ RpB w' b (cntd r) u ∧ HasN w' B u.ok (cntd r).ok ∧ ChS (fun k => k = b ∨ u.ok.ownBlock = some k) w w' := by
  obtain ⟨la, lc, hul⟩ := hl
  have h0 : 0 < r.ok.length := by rcases hp with h | h | h <;> omega
  obtain ⟨g, cap, huo, hgB, hgz⟩ : ∃ g cap, u.ok = .slice (some ⟨g, 0, none⟩) r.ok.length cap ∧ B ≤ g ∧ g < w.heap.size := by
    rcases hO with ⟨_, h1⟩ | ⟨g, cap, cur, h1, h2, h3, _⟩
    · rw [h1] at h0; exact absurd h0 (by simp)
    · exact ⟨g, cap, h1, h2, (Array.getElem?_eq_some_iff.1 h3).1⟩
  have hgb : g ≠ b := hne g (by rw [huo]; rfl)
  have HB : Hid (RpB w b r u) := hB
  rw [huo] at hO
  have HO : Hid (HasN w B (.slice (some ⟨g, 0, none⟩) r.ok.length cap) r.ok) := hO
  obtain ⟨i, hi⟩ : ∃ i : Nat, (i : Int) = r.id := ⟨r.id.toNat, by omega⟩
  have hit : r.id.toNat = i := by omega
  have hil : i < r.ok.length := by omega
  have HW1 : Hid (RpB (w.setCell ⟨g, i, none⟩ (.int .i64 (r.l.length : Int))) b r u) := (show Bx _ _ _ _ from Bx.other HB.out _ _ (fun e => hgb (by first | exact e | exact e.symm)))
  have HO1 : Hid (HasN (w.setCell ⟨g, i, none⟩ (.int .i64 (r.l.length : Int))) B (.slice (some ⟨g, 0, none⟩) r.ok.length cap) (r.ok.set i (r.l.length : Int))) := (show Hid _ from by
    have := HasE.put HO.out hil (i := 0) (by decide) (.int .i64 (r.l.length : Int)) (r.l.length : Int) rfl
    rw [show i * intE.k + 0 = i from by show i * 1 + 0 = i; omega] at this
    exact this)
  have C1 : Hid (ChS (fun k => k = b ∨ u.ok.ownBlock = some k) w (w.setCell ⟨g, i, none⟩ (.int .i64 (r.l.length : Int)))) := (show Hid _ from (ChS.refl _ _).set _ _ (.inr (by rw [huo]; rfl)))
  have q0 := HB.out.cells.1
  have q5 := HB.out.cells.2.2.2.2.2.1
  have q7 := HB.out.cells.2.2.2.2.2.2.2.1
  rw [hul] at q5
  rw [huo] at q7
  rw [← hi] at q0
  have qf : w.frozen? ⟨g, i, none⟩ = false := HasE.free HO.out i
  have qi := hasN_at HO.out i hil
  have HP : Hid (pOk r.p ∧ (r.ok.length : Int) = r.p ∧ (0 ≤ r.c ∧ r.c ≤ (r.l.length : Int)) ∧ r.l.length ≤ 1048576) := ⟨hp, hol, hc, hlen⟩
  clear hB hO hp hol hc hlen
  go_enter Tryz.func111, Tryz.ntmps111
  go_upto_region 0 with fail
  go_region
  clear q0 q5 q7 qf qi
  refine then_gen ?_
  intro W1 hW1
  have hl : Below (w.setCell ⟨g, i, none⟩ (.int .i64 (r.l.length : Int))).heap.size (w.setCell ⟨g, i, none⟩ (.int .i64 (r.l.length : Int))) W1 := by
    rw [hW1]
    exact ⟨rfl, rfl, rfl, Nat.le_refl _, fun _ _ => rfl⟩
  obtain ⟨ok, hok⟩ : ∃ ok, ok = r.ok.set i (r.l.length : Int) := ⟨_, rfl⟩
  have HOK : Hid (ok = r.ok.set i (r.l.length : Int)) := hok
  have hkl : ok.length = r.ok.length := by rw [hok, List.length_set]
  rw [← hok] at HO1
  obtain ⟨c, hc⟩ : ∃ c : Nat, (c : Int) = r.c := ⟨r.c.toNat, by have := HP.out.2.2.1; omega⟩
  have HC : Hid ((c : Int) = r.c) := hc
  have HB2 : Hid (RpB W1 b { r with c := cmF ok r.p r.c c } u) := (show Bx _ b 28 #[.int .i64 r.id, .int .i64 r.p, .int .i64 r.v, .bool r.n, .int .i64 r.la, u.l, .int .i64 (cmF ok r.p r.c c), u.ok, u.ch, u.te] from by
    rw [cmF_low c (by omega)]
    exact Bx.kept HW1.out hl)
  have HO2 : Hid (HasN W1 B (.slice (some ⟨g, 0, none⟩) r.ok.length cap) ok) := (show Hid _ from HasE.kept HO1.out hl)
  have C2 : Hid (ChS (fun k => k = b ∨ u.ok.ownBlock = some k) w W1) := (show Hid _ from C1.out.trans (ChS.of_below hl))
  have q6 : W1.cell? ⟨b, 6, none⟩ = some (.int .i64 r.c) := by
    have := Bx.cell HB2.out 6
    rw [← cmF_low (ok := ok) (p := r.p) c (show (c : Int) ≤ r.c by omega)]
    exact this
  rw [← hc] at q6
  clear hW1 hl HW1 HO1 C1 HB HO hok hc
  have ew : wrap64 ((c : Int) + 1) = ((c + 1 : Nat) : Int) := by have := HP.out.2.2; have := HC.out; unfold wrap64; omega
  go_wp2_with fail
  have HKL : Hid (ok.length = r.ok.length ∧ r.ok.length ≤ 5) := (show _ ∧ _ from ⟨hkl, by have := HP.out.2.1; rcases HP.out.1 with h | h | h <;> omega⟩)
  have EW : Hid (wrap64 ((c : Int) + 1) = ((c + 1 : Nat) : Int)) := ew
  clear q6 ew
  go_loopw [2] (fun v wr => ∃ N : Nat, c ≤ N ∧ N ≤ r.l.length ∧ v = .int .i64 ((N + 1 : Nat) : Int) ∧ Hid (RpB wr b { r with c := cmF ok r.p r.c N } u) ∧ Hid (HasN wr B (.slice (some ⟨g, 0, none⟩) r.ok.length cap) ok) ∧ Hid (ChS (fun k => k = b ∨ u.ok.ownBlock = some k) w wr)) (fun v _ => r.l.length + 2 - (intOf v).toNat)
  case atStart => exact ⟨c, Nat.le_refl _, by have := HC.out; have := HP.out.2.2.1; omega, congrArg (Value.int .i64) EW.out, HB2, HO2, C2⟩
  case round =>
    clear HB2 HO2 C2
    obtain ⟨N, hN1, hN2, rfl, hR, hO, hC⟩ := hrel
    obtain ⟨w4, rfl⟩ : ∃ x, x = wr := ⟨wr, rfl⟩
    have q5 := hR.out.cells.2.2.2.2.2.1
    have q7 := hR.out.cells.2.2.2.2.2.2.2.1
    change w4.cell? ⟨b, 5, none⟩ = some u.l at q5
    rw [hul] at q5
    rw [huo] at q7
    have hL : r.l.length ≤ 1048576 := HP.out.2.2.2
    by_cases hlt : N + 1 ≤ r.l.length
    · have hli : ((N + 1 : Nat) : Int) ≤ (r.l.length : Int) := by omega
      go_wp2_with fail
      clear q5 q7 hli
      go_loopw [3, 4] (fun k i wr => ∃ K : Nat, K ≤ ok.length ∧ k = .int .i64 ((cntF (ok.take K) ((N + 1 : Nat) : Int) : Nat) : Int) ∧ i = .int .i64 (K : Int) ∧ Hid (RpB wr b { r with c := cmF ok r.p r.c N } u) ∧ Hid (HasN wr B (.slice (some ⟨g, 0, none⟩) r.ok.length cap) ok) ∧ Hid (ChS (fun k => k = b ∨ u.ok.ownBlock = some k) w wr)) (fun _ i _ => ok.length - (intOf i).toNat)
      case atStart => exact ⟨0, Nat.zero_le _, rfl, rfl, hR, hO, hC⟩
      case round =>
        clear hR hO hC
        obtain ⟨K, hK, rfl, rfl, hR, hO, hC⟩ := hrel
        obtain ⟨w5, rfl⟩ : ∃ x, x = wr := ⟨wr, rfl⟩
        have q1 := hR.out.cells.2.1
        have q7 := hR.out.cells.2.2.2.2.2.2.2.1
        change w5.cell? ⟨b, 1, none⟩ = some (.int .i64 r.p) at q1
        rw [huo] at q7
        have hcl : cntF (ok.take K) ((N + 1 : Nat) : Int) ≤ 5 := Nat.le_trans (cntF_le _ _) (by rw [List.length_take]; have := HKL.out; omega)
        by_cases hkt : K < ok.length
        · have hk2 : (K : Int) < (r.ok.length : Int) := by have := HKL.out.1; omega
          have hk3 : K < r.ok.length := by have := HKL.out.1; omega
          have qk := hasN_at hO.out K hkt
          have hk5 : K < 5 := by have := HKL.out; omega
          have hnx := cntF_next (n := ((N + 1 : Nat) : Int)) hkt
          by_cases hge : ((N + 1 : Nat) : Int) ≤ ok[K]
          · rw [if_pos hge] at hnx
            have HNX : Hid _ := hnx
            generalize ok[K] = z at qk hge
            clear hnx
            generalize cntF (ok.take K) ((N + 1 : Nat) : Int) = q at hcl HNX
            go_wp2_with fail
            go_roundw
            case rel => exact ⟨K + 1, hkt, by rw [HNX.out]; go_num, by go_num, hR, hO, hC⟩
            case measure => simp [intOf]; omega
          · rw [if_neg hge] at hnx
            have HNX : Hid _ := hnx
            generalize ok[K] = z at qk hge
            clear hnx
            generalize cntF (ok.take K) ((N + 1 : Nat) : Int) = q at hcl HNX
            go_wp2_with fail
            go_roundw
            case rel => exact ⟨K + 1, hkt, by rw [HNX.out]; rfl, by go_num, hR, hO, hC⟩
            case measure => simp [intOf]; omega
        · obtain rfl : K = ok.length := by omega
          have hk2 : ¬ (ok.length : Int) < (r.ok.length : Int) := by have := HKL.out.1; omega
          rw [List.take_of_length_le (Nat.le_refl _)] at hcl ⊢
          have jm := fun W => specMaj (cntF ok ((N + 1 : Nat) : Int)) r.p W (by omega)
          have q6 := Bx.cell hR.out 6
          have qf := Bx.free hR.out 6
          generalize hm : dB (maj (cntF ok ((N + 1 : Nat) : Int)) r.p) = mb at jm
          cases mb with
          | true =>
            have HR2 : Hid (RpB (w5.setCell ⟨b, 6, none⟩ (.int .i64 ((N : Int) + 1))) b { r with c := cmF ok r.p r.c (N + 1) } u) := (show Bx _ b 28 #[.int .i64 r.id, .int .i64 r.p, .int .i64 r.v, .bool r.n, .int .i64 r.la, u.l, .int .i64 (cmF ok r.p r.c (N + 1)), u.ok, u.ch, u.te] from by
              rw [cmF_up (by have := HC.out; omega) (dB_is hm)]
              exact Bx.put hR.out 6 _)
            have HO2 : Hid (HasN (w5.setCell ⟨b, 6, none⟩ (.int .i64 ((N : Int) + 1))) B (.slice (some ⟨g, 0, none⟩) r.ok.length cap) ok) := (show Hid _ from HasE.oth hO.out _ _ (fun k hk => by
              obtain rfl : g = k := by simpa [Value.ownBlock] using hk
              exact hgb))
            have HC2 : Hid (ChS (fun k => k = b ∨ u.ok.ownBlock = some k) w (w5.setCell ⟨b, 6, none⟩ (.int .i64 ((N : Int) + 1)))) := (show Hid _ from hC.out.set _ _ (.inl rfl))
            go_wp2_with fail
            refine (jm _).mono ?_
            rintro e w6 ⟨rfl, rfl⟩
            clear jm
            go_wp2_with fail
            go_roundw
            case rel => exact ⟨N + 1, by omega, hlt, by go_num, HR2, HO2, HC2⟩
            case measure => simp [intOf]; omega
          | false =>
            have HR2 : Hid (RpB w5 b { r with c := cmF ok r.p r.c (N + 1) } u) := (show Hid _ from by rw [cmF_same (dB_not hm)]; exact hR.out)
            go_wp2_with fail
            refine (jm _).mono ?_
            rintro e w6 ⟨rfl, rfl⟩
            clear jm
            go_wp2_with fail
            go_roundw
            case rel => exact ⟨N + 1, by omega, hlt, by go_num, HR2, hO, hC⟩
            case measure => simp [intOf]; omega
    · obtain rfl : N = r.l.length := by omega
      have hli : ¬ ((r.l.length + 1 : Nat) : Int) ≤ (r.l.length : Int) := by omega
      have HR9 : Hid (RpB w4 b (cntd r) u) := (show Bx _ b 28 #[.int .i64 r.id, .int .i64 r.p, .int .i64 r.v, .bool r.n, .int .i64 r.la, u.l, .int .i64 (cntd r).c, u.ok, u.ch, u.te] from by
        unfold cntd
        simp only [hit]
        rw [← HOK.out]
        exact hR.out)
      have HO9 : Hid (HasN w4 B (.slice (some ⟨g, 0, none⟩) r.ok.length cap) (cntd r).ok) := (show Hid _ from by
        rw [cntd_ok, hit, ← HOK.out]
        exact hO.out)
      go_wp2
      go_end0
      exact ⟨rfl, HR9.out, HO9.out, by rw [← huo]; exact hC.out⟩
end Go.Proofs.YtlngleinegkoeaaGreat.Rl
namespace Go.Proofs.YtlngleinegkoeaaGreat.Rl
open Go.RowKit Go.Sort Go.Shelf
set_option linter.unusedVariables false
set_option linter.unusedSimpArgs false

def GLst (r : Rp) (b lo : Nat) (la : Option Addr) (lc : Nat) (i : Nat) (x : World) (v : Value) : Prop := match i with
  | 0 => v = .pointer (some ⟨b, 0, none⟩)
  | 1 => v = .int .i64 r.id
  | 2 => v = .pointer (some ⟨b, 1, none⟩)
  | 3 => v = .int .i64 r.p
  | 4 => v = .pointer (some ⟨b, 2, none⟩)
  | 5 => v = .int .i64 r.v
  | 6 => v = .pointer (some ⟨b, 3, none⟩)
  | 7 => v = .bool r.n
  | 8 => v = .pointer (some ⟨b, 4, none⟩)
  | 9 => v = .int .i64 r.la
  | 10 => v = .pointer (some ⟨b, 5, none⟩)
  | 11 => v = .slice la r.l.length lc
  | 12 => ∃ (p1 : Option Addr) (d1 : Nat), v = .slice p1 r.l.length d1 ∧ OwnsX x lo (.slice p1 r.l.length d1) r.l
  | 13 => ∃ (p1 : Option Addr) (d1 : Nat), v = .agg #[.int .i64 r.id, .int .i64 r.p, .int .i64 r.v, .bool r.n, .int .i64 r.la, .slice p1 r.l.length d1, .int .i64 0, .slice none 0 0, .slice none 0 0, .slice none 0 0] ∧ OwnsX x lo (.slice p1 r.l.length d1) r.l
  | 14 => ∃ (gb : Nat), v = .pointer (some ⟨gb, 0, none⟩) ∧ (lo ≤ gb ∧ Bx x gb 28 zR)
  | _ => True
theorem GLst.keep {r : Rp} {b lo : Nat} {la : Option Addr} {lc : Nat} {x y : World} (hb : Below x.heap.size x y) (j : Nat) (v : Value) (hj : j < 15) (h : GLst r b lo la lc j x v) : GLst r b lo la lc j y v := by
  rcases (show j = 0 ∨ j = 1 ∨ j = 2 ∨ j = 3 ∨ j = 4 ∨ j = 5 ∨ j = 6 ∨ j = 7 ∨ j = 8 ∨ j = 9 ∨ j = 10 ∨ j = 11 ∨ j = 12 ∨ j = 13 ∨ j = 14 by omega) with rfl | rfl | rfl | rfl | rfl | rfl | rfl | rfl | rfl | rfl | rfl | rfl | rfl | rfl | rfl
  · exact h
  · exact h
  · exact h
  · exact h
  · exact h
  · exact h
  · exact h
  · exact h
  · exact h
  · exact h
  · exact h
  · exact h
  · obtain ⟨p1, d1, h1, h2⟩ := h; exact ⟨p1, d1, h1, h2.kept hb⟩
  · obtain ⟨p1, d1, h1, h2⟩ := h; exact ⟨p1, d1, h1, h2.kept hb⟩
  · obtain ⟨gb, h1, h2⟩ := h; exact ⟨gb, h1, h2.1, h2.2.kept hb⟩
end Go.Proofs.YtlngleinegkoeaaGreat.Rl
namespace Go.Proofs.YtlngleinegkoeaaGreat.Rl
open Go.RowKit Go.Sort Go.Shelf Pg
set_option linter.unusedVariables false
set_option linter.unusedSimpArgs false

/-- What both sides' Submit answers. -/
noncomputable def subA (r : Rp) (t : ByteArray) : Rp × List Ms × Int := @ite _ (RpOk r) (Classical.propDecidable _) (subF r t) (noRp, [], -1)
def SubAns (r : Rp) (t : ByteArray) (w : World) (e : Ending) (w' : World) : Prop := ∃ u' v T, e = .returned (.tuple #[rpA (subA r t).1 u', v, .int .i64 (subA r t).2.2]) ∧ RmAns (subA r t).1 (subA r t).2.1 w w' u' v T
def GSbs (R : Rp) (ux : Rv) (gb lo : Nat) (la : Option Addr) (lc : Nat) (b : Nat) (i : Nat) (x : World) (v : Value) : Prop := match i with
  | 0 => v = .agg (rpC R ux)
  | 1 => v = .agg (rpC R ux)
  | 2 => ∃ (C : Nat) (T : List Mx) (p1 : Option Addr) (d1 : Nat), v = .slice p1 T.length d1 ∧ (lo ≤ C ∧ C ≤ x.heap.size ∧ MsOwn x C (.slice p1 T.length d1) T (sprL R))
  | 3 => v = .pointer (some ⟨gb, 5, none⟩)
  | 4 => v = .slice la R.l.length lc
  | 5 => v = .int .i64 (R.l.length : Int)
  | 6 => (v = undef ∧ Bx x (b + 1) 28 (rpC R ux))
  | 7 => ∃ (C : Nat) (T : List Mx) (p1 : Option Addr) (d1 : Nat), v = .slice p1 T.length d1 ∧ (lo ≤ C ∧ C ≤ x.heap.size ∧ MsOwn x C (.slice p1 T.length d1) T (sprL R))
  | _ => True
theorem GSbs.keep {R : Rp} {ux : Rv} {gb lo : Nat} {la : Option Addr} {lc : Nat} {b : Nat} {x y : World} (hb : Below x.heap.size x y) (j : Nat) (v : Value) (hj : j < 8) (h : GSbs R ux gb lo la lc b j x v) : GSbs R ux gb lo la lc b j y v := by
  rcases (show j = 0 ∨ j = 1 ∨ j = 2 ∨ j = 3 ∨ j = 4 ∨ j = 5 ∨ j = 6 ∨ j = 7 by omega) with rfl | rfl | rfl | rfl | rfl | rfl | rfl | rfl
  · exact h
  · exact h
  · obtain ⟨C, T, p1, d1, h1, h2⟩ := h; exact ⟨C, T, p1, d1, h1, h2.1, Nat.le_trans h2.2.1 hb.size, h2.2.2.kept hb⟩
  · exact h
  · exact h
  · exact h
  · exact ⟨h.1, h.2.kept hb⟩
  · obtain ⟨C, T, p1, d1, h1, h2⟩ := h; exact ⟨C, T, p1, d1, h1, h2.1, Nat.le_trans h2.2.1 hb.size, h2.2.2.kept hb⟩
theorem GSbs.keepS {R : Rp} {ux : Rv} {gb lo : Nat} {la : Option Addr} {lc : Nat} {b : Nat} {x y : World} (hlc : b + 1 < lo) (hc : ChS (fun k => k = b + 1) x y) (j : Nat) (v : Value) (hj : j < 8) (hne : j ≠ 6) (h : GSbs R ux gb lo la lc b j x v) : GSbs R ux gb lo la lc b j y v := by
  rcases (show j = 0 ∨ j = 1 ∨ j = 2 ∨ j = 3 ∨ j = 4 ∨ j = 5 ∨ j = 6 ∨ j = 7 by omega) with rfl | rfl | rfl | rfl | rfl | rfl | rfl | rfl
  · exact h
  · exact h
  · obtain ⟨C, T, p1, d1, h1, h2⟩ := h; exact ⟨C, T, p1, d1, h1, h2.1, Nat.le_trans h2.2.1 hc.size, h2.2.2.off (fun k k1 k2 => hc.block k k2 (by have := h2.1; omega))⟩
  · exact h
  · exact h
  · exact h
  · exact absurd rfl hne
  · obtain ⟨C, T, p1, d1, h1, h2⟩ := h; exact ⟨C, T, p1, d1, h1, h2.1, Nat.le_trans h2.2.1 hc.size, h2.2.2.off (fun k k1 k2 => hc.block k k2 (by have := h2.1; omega))⟩
end Go.Proofs.YtlngleinegkoeaaGreat.Rl
