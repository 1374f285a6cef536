/-
  The walk of the law FnBelady, given what the program's Best answers.
-/
import Derived.Test.YtnnmbgenepfacaaRomI
import Derived.Lib.QuietBelow
namespace Go.Proofs.Ytnnmbgenepfacaa
open Go.RowKit Go.Sort Rom
set_option linter.unusedVariables false
set_option linter.unusedSimpArgs false

theorem ret_of12 {a b : Int} (h : a = b) : Ending.returned (.int .i64 a) = Ending.returned (.int .i64 b) := by rw [h]
set_option maxHeartbeats 400000 in
theorem pick12 (sa : Option Addr) (sl sc : Nat) (sd : Int) (h1 : 1 ≤ sd) (h2 : sd ≤ 100) (n : Nat) (hn1 : 1 ≤ n) (hn2 : n ≤ 10000) (w : World) (hc : Code8 w w.heap.size sa sl) (hl : sl ≤ 4096) :
    Calls Try.prog 26 #[.slice sa sl sc, .int .i64 sd, .int .i64 (n : Int)] w fun e w' => (∃ r : Nat, e = .returned (.int .i64 r) ∧ r < n) ∧ w = w' := by
  have hnz : ((n : Int) == 0) = false := by simp; omega
  go_enter Try.func26, Try.ntmps26
  go_wp2
  go_loop [7, 8] (fun x i => ∃ (k : Nat) (p : Int), k ≤ sl ∧ i = .int .i64 k ∧ x = .int .i64 p ∧ 0 ≤ p ∧ p ≤ 1000002) (fun _ i => sl - (intOf i).toNat)
  case atStart => exact ⟨0, _, Nat.zero_le _, rfl, rfl, by omega, by omega⟩
  case round =>
    obtain ⟨k, p, hk, rfl, rfl, b0, b1⟩ := hrel
    by_cases hlt : k < sl
    · obtain ⟨g, o, z, rfl, hg, hcell, hz0, hz1⟩ := hc k hlt
      clear hc
      have m1 := Int.emod_nonneg (p * 113 + z + sd) (show (1000003 : Int) ≠ 0 by decide)
      have m2 := Int.emod_lt_of_pos (p * 113 + z + sd) (show (0 : Int) < 1000003 by decide)
      have HM : Hid (0 ≤ (p * 113 + z + sd) % 1000003 ∧ (p * 113 + z + sd) % 1000003 < 1000003) := ⟨m1, m2⟩
      clear m1 m2
      go_wp2
      go_round
      case rel => exact ⟨k + 1, _, by omega, by go_num, rfl, HM.out.1, by have := HM.out.2; omega⟩
      case measure => simp [intOf]; omega
    · obtain rfl : k = sl := by omega
      have e0 : p.tmod (n : Int) = p % (n : Int) := Int.tmod_eq_emod_of_nonneg b0
      have e1 : 0 ≤ p % (n : Int) := Int.emod_nonneg p (by omega)
      have e2 : p % (n : Int) < (n : Int) := Int.emod_lt_of_pos p (by omega)
      obtain ⟨r, hr⟩ := Int.eq_ofNat_of_zero_le e1
      have hrn : r < n := by omega
      have hr2 : p.tmod (n : Int) = (r : Int) := e0.trans hr
      have hw : IntKind.i64.wrap (r : Int) = (r : Int) := by rw [IntKind.wrap_i64]; omega
      go_wp2
      go_ret
      exact ⟨⟨r, by first | rfl | exact ret_of12 hr | exact ret_of12 hr2 | (simp [hr2, hw, hr]), hrn⟩, rfl⟩
theorem bestA_told {t : List Int} {r : Nat} (h : toldB t (r : Int) = true) : bestA t (r : Int) = (opt r t [] : Int) := by unfold bestA; rw [if_pos h, Int.toNat_natCast]
theorem best_le {r : Nat} (hr : 0 < r) (t : List Int) : opt r t [] ≤ mis r t t.length := by
  rw [lru_is]
  exact opt_lru hr t [] List.nodup_nil (Nat.zero_le _)
theorem told_short {t : List Int} {r : Int} (hl : t.length ≤ 60) (hr : 1 ≤ r ∧ r ≤ 10) (h : ∀ x ∈ t, 0 ≤ x ∧ x ≤ 20) : toldB t r = true := by
  unfold toldB inM
  rw [Bool.and_eq_true, Bool.and_eq_true, List.all_eq_true]
  exact ⟨decide_eq_true hl, decide_eq_true hr, fun x hx => decide_eq_true (h x hx)⟩
set_option maxRecDepth 100000 in
set_option maxHeartbeats 8000000 in
theorem fnBel (hiB : ∀ (v : Value) (l : List Int) (r : Int) (w : World), Sls numE w v l → l.length ≤ 1048576 → Calls Try.prog 24 #[v, .int .i64 r] w fun e w' => e = .returned (.int .i64 (bestA l r)) ∧ Below w.heap.size w w')
    (sa : Option Addr) (sl sc : Nat) (zs : List Int) (w : World) (hw : IsRow w sa sl sc zs) :
    Calls Try.prog 4 #[.slice sa sl sc] w fun e w' => e = .returned (.bool true) ∧ Below w.heap.size w w' := by
  by_cases hbig : 4096 < sl
  · have hlen := hw.len
    clear hw
    go_enter Try.func4, Try.ntmps4
    go_wp2_with (go_at_call 13; refine (isBig sa sl sc _ hbig hlen).mono ?_; rintro e w1 ⟨rfl, rfl⟩)
    go_ret
    exact ⟨rfl, Below.refl _ _⟩
  · have hl : sl ≤ 4096 := by omega
    have h8 : Hid (Code8 w w.heap.size sa sl) := hw.code.code
    clear hw hbig
    go_enter Try.func4, Try.ntmps4
    go_wp2_with fail
    refine (notBig sa sl sc _ hl).mono ?_
    rintro e w0 ⟨rfl, rfl⟩
    go_wp2_with fail
    refine (drawBs sa sl sc _ h8.out hl).mono ?_
    rintro e w1 ⟨⟨u, l, r, rfl, ho1, hf, hr64⟩, hb1⟩
    obtain ⟨a1, c1, rfl, _, _, _⟩ := ho1.form
    have B1 : Hid (Below w.heap.size w w1) := hb1
    have L1 : Hid (Sls numE w1 (.slice a1 l.length c1) l) := ho1.sls
    have iB := fun W hW => hiB (.slice a1 l.length c1) l r W hW (by omega)
    have sB := fun W hW => specBest (.slice a1 l.length c1) l r W hW
    have sM := fun W hW => specMis (.slice a1 l.length c1) l r W hW
    obtain ⟨m, hm⟩ : ∃ m, m = bestA l r := ⟨_, rfl⟩
    have Hm : Hid (m = bestA l r) := hm
    rw [← hm] at iB sB
    have dm : (m != m) = false := by simp
    clear hb1 ho1 hm
    go_wp2_with fail
    refine (iB _ L1.out).mono ?_
    rintro e w2 ⟨rfl, hb2⟩
    have B2 : Hid (Below w.heap.size w w2) := past12 B1.out hb2
    have L2 : Hid (Sls numE w2 (.slice a1 l.length c1) l) := L1.out.kept hb2
    clear hb2 B1 L1
    go_wp2_with fail
    refine (sB _ L2.out).mono ?_
    rintro e w3 ⟨rfl, hb3⟩
    have B3 : Hid (Below w.heap.size w w3) := past12 B2.out hb3
    have L3 : Hid (Sls numE w3 (.slice a1 l.length c1) l) := L2.out.kept hb3
    clear hb3 B2 L2 iB sB
    cases hT : toldB l r with
    | false =>
      have e1 : m = -1 := by rw [Hm.out]; unfold bestA; rw [if_neg (by simp [hT])]
      subst e1
      go_wp2
      go_ret
      exact ⟨rfl, B3.out⟩
    | true =>
      have hp := toldB_parts hT
      have hp1 := hp.1
      have hp2 := hp.2.1
      obtain ⟨R, rfl⟩ : ∃ R : Nat, r = (R : Int) := ⟨r.toNat, by omega⟩
      have e1 : m = (opt R l [] : Int) := by rw [Hm.out, bestA_told hT]
      have hle := best_le (r := R) (by omega) l
      have hml := mis_le R l l.length
      rw [misA_told hT] at sM
      subst e1
      generalize opt R l [] = b at hle ⊢
      generalize mis R l l.length = mi at hle sM hml
      have hb0 : ¬ ((b : Int) < 0) := by omega
      clear Hm hp hT dm
      go_wp2_with fail
      go_loopw [6, 7] (fun s i wr => ∃ (k : Nat) (P : List Int) (g c : Nat), k ≤ 9 ∧ P.length = k ∧ i = .int .i64 k ∧ s = .slice (some ⟨g, 0, Option.none⟩) k c ∧ Hid (∀ x ∈ P, 0 ≤ x ∧ x ≤ 20) ∧ Hid (OwnsN wr w3.heap.size (.slice (some ⟨g, 0, Option.none⟩) k c) P) ∧ Hid (Below w3.heap.size w3 wr)) (fun _ i _ => 9 - (intOf i).toNat)
      case atStart => exact ⟨0, [], _, _, Nat.zero_le _, rfl, rfl, rfl, (show Hid _ from fun x hx => by cases hx), (show Hid _ from OwnsE.born w3), (show Hid _ from (Below.refl _ w3).alloc (Nat.le_refl _) _)⟩
      case round =>
        obtain ⟨k, P, g, c, hk, hPk, rfl, rfl, hin, ho, hb⟩ := hrel
        obtain ⟨wk, rfl⟩ : ∃ z, z = wr := ⟨wr, rfl⟩
        have BK : Hid (Below w.heap.size w wk) := past12 B3.out hb.out
        have CK : Hid (Code8 wk wk.heap.size sa sl) := (h8.out.kept BK.out (Nat.le_refl _)).upN BK.out.size
        by_cases hlt : k < 9
        · have hki : (k : Int) < 9 := by omega
          have ew : IntKind.i64.wrap (10 + (k : Int)) = 10 + (k : Int) := by rw [IntKind.wrap_i64]; omega
          have hz := hb.out.size
          have HP : Hid (P.length = k) := hPk
          clear hPk
          go_wp2_with fail
          refine (pick12 sa sl sc (10 + (k : Int)) (by omega) (by omega) 5 (by decide) (by decide) _ CK.out hl).mono ?_
          rintro e wj ⟨⟨p, rfl, hp5⟩, rfl⟩
          go_wp2_with (at_builtin; refine wpList_pushN _ rfl (.tmp 31) (.tmp 36) rfl w3.heap.size _ P (p : Int) rfl ho.out rfl (by have := HP.out; omega) hz ?_; intro v4 w4 ho4 hg4; obtain ⟨g4, c4, hv4⟩ := slN_of ho4 (by simp); have hv5 : v4 = .slice (some ⟨g4, 0, Option.none⟩) (k + 1) c4 := (by rw [hv4, List.length_append, HP.out]; rfl); subst hv5; have O4 : Hid (OwnsN w4 w3.heap.size (.slice (some ⟨g4, 0, Option.none⟩) (k + 1) c4) (P ++ [(p : Int)])) := ho4; have B4 : Hid (Below w3.heap.size w3 w4) := belowE hb.out hg4 hz (OwnsE.from ho.out); clear ho4 hg4 hv4)
          have IN4 : Hid (∀ x ∈ P ++ [(p : Int)], 0 ≤ x ∧ x ≤ 20) := fun x hx => by
            rcases List.mem_append.1 hx with e | e
            · exact hin.out x e
            · rw [List.mem_singleton.1 e]; omega
          go_roundw
          case rel => exact ⟨k + 1, P ++ [(p : Int)], g4, c4, by omega, by rw [List.length_append, HP.out]; rfl, by go_num, rfl, IN4, O4, B4⟩
          case measure => simp [intOf]; omega
        · obtain rfl : k = 9 := by omega
          have HP : Hid (P.length = 9) := hPk
          have LK : Hid (Sls numE wk (.slice a1 l.length c1) l) := L3.out.kept hb.out
          have PK : Hid (Sls numE wk (.slice (some ⟨g, 0, Option.none⟩) 9 c) P) := ho.out.sls
          clear hPk
          go_wp2_with fail
          refine (pick12 sa sl sc 1 (by decide) (by decide) 3 (by decide) (by decide) _ CK.out hl).mono ?_
          rintro e wj ⟨⟨p, rfl, hp3⟩, rfl⟩
          have ew : IntKind.i64.wrap (1 + (p : Int)) = 1 + (p : Int) := by rw [IntKind.wrap_i64]; omega
          have hbt := bestA_told (r := 1 + p) (told_short (t := P) (r := ((1 + p : Nat) : Int)) (by have := HP.out; omega) (by omega) hin.out)
          have iS : Hid (∀ W, Sls numE W (.slice (some ⟨g, 0, Option.none⟩) 9 c) P → Calls Try.prog 24 #[.slice (some ⟨g, 0, Option.none⟩) 9 c, .int .i64 (1 + (p : Int))] W fun e w' => e = .returned (.int .i64 (opt (1 + p) P [] : Int)) ∧ Below W.heap.size W w') := fun W hW => by
            have := hiB _ P ((1 + p : Nat) : Int) W hW (by have := HP.out; omega)
            rw [hbt] at this
            rw [show ((1 + p : Nat) : Int) = 1 + (p : Int) by omega] at this
            exact this
          have iL : Hid (∀ W, Sls numE W (.slice (some ⟨g, 0, Option.none⟩) 9 c) P → ∀ q, Sls numE W (.slice (some ⟨q, 0, Option.none⟩) 0 0) [] → Calls Try.prog 27 #[.slice (some ⟨g, 0, Option.none⟩) 9 c, .int .i64 0, .slice (some ⟨q, 0, Option.none⟩) 0 0, .int .i64 (1 + (p : Int))] W fun e w' => e = .returned (.int .i64 (opt (1 + p) P [] : Int)) ∧ Below W.heap.size W w') := fun W hW q hq => by
            have := lawLeast _ _ _ P [] 0 (1 + p) W rfl hW hq ⟨q, 0, 0, rfl⟩ (Nat.zero_le _) (by have := HP.out; omega) (Nat.zero_le _) (by omega)
            rw [show ((1 + p : Nat) : Int) = 1 + (p : Int) by omega, List.drop_zero] at this
            exact this
          have hbd : opt (1 + p) P [] ≤ 9 := by have := opt_bound (k := 1 + p) (by omega) P []; rw [HP.out] at this; exact this
          generalize opt (1 + p) P [] = T at iS iL hbd
          clear hbt ho hin hiB
          go_wp2_with fail
          refine (sM _ LK.out).mono ?_
          rintro e wa ⟨rfl, hba⟩
          have BA : Hid (Below w.heap.size w wa) := past12 BK.out hba
          have PA : Hid (Sls numE wa (.slice (some ⟨g, 0, Option.none⟩) 9 c) P) := PK.out.kept hba
          have dle : (b : Int) ≤ (mi : Int) := by omega
          clear hba
          go_wp2_with fail
          refine (iS.out _ PA.out).mono ?_
          rintro e wb ⟨rfl, hbb⟩
          have BB : Hid (Below w.heap.size w wb) := past12 BA.out hbb
          have PB : Hid (Sls numE wb (.slice (some ⟨g, 0, Option.none⟩) 9 c) P) := PA.out.kept hbb
          clear hbb
          go_wp2_with fail
          refine (iL.out _ (PB.out.kept ((Below.refl _ wb).alloc (Nat.le_refl _) _)) _ (OwnsE.born wb).sls).mono ?_
          rintro e wc ⟨rfl, hbc⟩
          have BC : Hid (Below w.heap.size w wc) := past12 (BB.out.alloc BB.out.size _) hbc
          clear hbc
          go_wp2
          go_ret
          exact ⟨rfl, BC.out⟩
end Go.Proofs.Ytnnmbgenepfacaa
