/-
  The program's purges by their contracts: what is read.
-/
import Derived.Test.YtkoikofaebfbjaaPiA
import Derived.Test.YtkoikofaebfbjaaPiP
import Derived.Test.YtkoikofaebfbjaaPgC
import Derived.Test.YtkoikofaebfbjaaShelfS
namespace Go.Proofs.Ytkoikofaebfbjaa
open Go.RowKit Pg
set_option linter.unusedVariables false
set_option linter.unusedSimpArgs false

set_option maxHeartbeats 1000000 in
theorem cutLiP (t : ByteArray) (w : World) (hs : t.size ≤ 1048576) :
    Calls Try.prog 27 #[.string t, .string ⟨#[32]⟩] w fun e w' => (∃ p b, e = .returned (.tuple #[.string p, .string (aft t), .bool b])) ∧ Below w.heap.size w w' := by
  have hi := Try.stringslite_Index_one t 32
  rw [← ixByte] at hi
  rcases Lib.indexB_cases t ⟨#[32]⟩ with hx | ⟨i, hx, hroom⟩
  · rw [aft_miss hx]
    rw [show Lib.index t.data.toList [32] = -1 from hx] at hi
    go_enter Try.func27, Try.ntmps27
    go_wp2_with (go_at_call 29; refine (hi _).mono ?_; rintro e w' ⟨rfl, rfl⟩)
    go_ret3
    exact ⟨⟨_, _, rfl⟩, Below.refl _ _⟩
  · rw [aft_hit hx]
    rw [show Lib.index t.data.toList [32] = i from hx] at hi
    have hr : i + 1 ≤ t.size := hroom
    have c1 : (0 : Int) ≤ (i : Int) := by omega
    have c2 : (i : Int) ≤ (t.size : Int) := by omega
    have c3 : (i : Int) + 1 ≤ (t.size : Int) := by omega
    have c4 : IntKind.i64.wrap ((i : Int) + 1) = (i : Int) + 1 := by rw [IntKind.wrap_i64]; omega
    have c5 : 0 ≤ (i : Int) + 1 := by omega
    have c6 : ((i : Int) + 1).toNat = i + 1 := by omega
    go_enter Try.func27, Try.ntmps27
    go_wp2_with (go_at_call 29; refine (hi _).mono ?_; rintro e w' ⟨rfl, rfl⟩)
    go_region
    all_goals
      go_wp2
      go_ret3
      exact ⟨⟨_, _, rfl⟩, ⟨rfl, rfl, rfl, Nat.le_refl _, fun _ _ => rfl⟩⟩
theorem cutP (t : ByteArray) (w : World) (hs : t.size ≤ 1048576) :
    Calls Try.prog 24 #[.string t, .string ⟨#[32]⟩] w fun e w' => (∃ p b, e = .returned (.tuple #[.string p, .string (aft t), .bool b])) ∧ Below w.heap.size w w' := by
  have k := cutLiP t
  generalize aft t = q at k
  go_enter Try.func24, Try.ntmps24
  go_wp2_with (go_at_call 27; refine (k _ hs).mono ?_; rintro e w' ⟨⟨p, b, rfl⟩, hb⟩)
  go_ret3
  exact ⟨⟨_, _, rfl⟩, hb⟩
theorem clonP (t : ByteArray) (w : World) (hs : t.size ≤ 1048576) :
    Calls Try.prog 25 #[.string t] w fun e w' => e = .returned (.string t) ∧ Below w.heap.size w w' := by
  have k := fun W => Try.stringslite_Clone t W (by omega)
  go_enter Try.func25, Try.ntmps25
  go_wp2_with (go_at_call 28; refine (k _).mono ?_; rintro e w' ⟨rfl, hb⟩)
  go_ret
  exact ⟨rfl, hb⟩
/-- Of the answer's box. -/
structure Rx (w W : World) : Prop where
  low : Below w.heap.size w W
  rx : Bx W w.heap.size 26 #[.int .i64 0, .string ⟨#[]⟩]
theorem Rx.kept {w W W' : World} (h : Rx w W) (hb : Below W.heap.size W W') : Rx w W' := ⟨h.low.trans (hb.mono h.low.size), h.rx.kept hb⟩
set_option maxRecDepth 100000 in
set_option maxHeartbeats 4000000 in
theorem implRdp (s : ByteArray) (w : World) (hs : s.size ≤ 1048576) :
    Calls Try.prog 14 #[.string s] w fun e w' => e = .returned (.tuple #[pgV (rdV s).1 (rdV s).2, .bool (rdB s)]) ∧ Below w.heap.size w w' := by
  have hz := aft_size s
  have hC := fun W => cutP s W hs
  have hO := fun k W => implPgo k (aft s) W (by omega)
  have hS := fun k W => implShp k (aft s) W (by omega)
  have hL := fun W => clonP (aft s) W (by omega)
  have HH : Hid (∀ k, pgOk k (aft s) = true → shwP k (aft s) = s → rdB s = true ∧ rdV s = (k, aft s)) := (show ∀ _, _ from fun k h1 h2 => hit_rd h1 h2)
  have HN : Hid ((∀ k : Int, 1 ≤ k → k < 5 → pgOk k (aft s) = true → shwP k (aft s) = s → False) → rdB s = false ∧ rdV s = (0, ⟨#[]⟩)) := (show _ → _ from fun h => no_rd h)
  generalize aft s = t at hC hO hS hL HH HN
  have R0 : Hid (Rx w (w.alloc (.cells #[.int .i64 0, .string ⟨#[]⟩] 26))) := (show Hid _ from ⟨(Below.refl _ w).alloc (Nat.le_refl _) _, Bx.new w _ _⟩)
  obtain ⟨V, hV⟩ : ∃ V, rdV s = V := ⟨_, rfl⟩
  obtain ⟨rb, hrb⟩ : ∃ rb, rdB s = rb := ⟨_, rfl⟩
  rw [hV, hrb] at HH HN ⊢
  clear hV hrb hz
  unfold pgV at *
  go_enter Try.func14, Try.ntmps14
  generalize hwA : w.alloc (.cells #[.int .i64 0, .string ⟨#[]⟩] 26) = wA at R0
  go_wp2_with fail
  refine (hC _).mono ?_
  rintro e w1 ⟨⟨p, b, rfl⟩, hb⟩
  have R1 : Hid (Rx w w1) := (show Rx w w1 from R0.out.kept hb)
  clear hb R0 hwA hC
  go_wp2_with fail
  go_loopw [7] (fun i wr => ∃ m : Nat, m ≤ 4 ∧ i = .int .i64 ((m : Int) + 1) ∧ Hid (Rx w wr) ∧ Hid (∀ k : Int, 1 ≤ k → k < (m : Int) + 1 → pgOk k t = true → shwP k t = s → False)) (fun i _ => 5 - (intOf i).toNat)
  case atStart => exact ⟨0, Nat.zero_le _, rfl, R1, (show ∀ _, _ from fun k h1 h2 => by omega)⟩
  case round =>
    clear R1
    obtain ⟨m, hm, rfl, hR, hno⟩ := hrel
    by_cases hlt : m < 4
    · have hmi : (m : Int) + 1 ≤ 4 := by omega
      have hOm := fun W => hO ((m : Int) + 1) W
      have hSm := fun W => hS ((m : Int) + 1) W
      have HHm : Hid (pgOk ((m : Int) + 1) t = true → shwP ((m : Int) + 1) t = s → rb = true ∧ V = ((m : Int) + 1, t)) := (show _ → _ from HH.out _)
      have HNm : Hid (¬ (pgOk ((m : Int) + 1) t = true ∧ shwP ((m : Int) + 1) t = s) → ∀ k : Int, 1 ≤ k → k < ((m : Int) + 1) + 1 → pgOk k t = true → shwP k t = s → False) := (show _ → _ from fun hn k h1 h2 h3 h4 => by
        by_cases e : k = (m : Int) + 1
        · subst e; exact hn ⟨h3, h4⟩
        · exact hno.out k h1 (by omega) h3 h4)
      have R2 : Hid (Rx w (wr.alloc (.cells #[.int .i64 ((m : Int) + 1), .string t] 26))) := (show Rx w _ from hR.out.kept ((Below.refl _ wr).alloc (Nat.le_refl _) _))
      have X2 : Hid (Bx (wr.alloc (.cells #[.int .i64 ((m : Int) + 1), .string t] 26)) wr.heap.size 26 #[.int .i64 ((m : Int) + 1), .string t]) := (show Hid _ from Bx.new wr _ _)
      obtain ⟨P, hP⟩ : ∃ P, pgOk ((m : Int) + 1) t = P := ⟨_, rfl⟩
      obtain ⟨S, hSS⟩ : ∃ S, shwP ((m : Int) + 1) t = S := ⟨_, rfl⟩
      rw [hP] at hOm
      rw [hSS] at hSm
      rw [hP, hSS] at HHm HNm
      clear hP hSS hO hS hno hR
      go_wp2_with fail
      generalize hwB : wr.alloc (.cells #[.int .i64 ((m : Int) + 1), .string t] 26) = wB at R2 X2 ⊢
      have x0 := X2.out.cell 0
      have x1 := X2.out.cell 1
      refine (hOm _).mono ?_
      rintro e w2 ⟨rfl, hb⟩
      have R3 : Hid (Rx w w2) := (show Rx w _ from R2.out.kept hb)
      have X3 : Hid (Bx w2 wr.heap.size 26 #[.int .i64 ((m : Int) + 1), .string t]) := (show Hid _ from X2.out.kept hb)
      clear hb R2 X2 x0 x1 hwB hOm
      cases P with
      | false =>
        have HA : Hid _ := HNm.out (fun h => by cases h.1)
        go_wp2
        go_roundw
        case rel => exact ⟨m + 1, by omega, by go_num, R3, (show ∀ _, _ from fun k h1 h2 h3 h4 => HA.out k h1 (by omega) h3 h4)⟩
        case measure => simp [intOf]; omega
      | true =>
        have x0 := X3.out.cell 0
        have x1 := X3.out.cell 1
        go_wp2_with fail
        refine (hSm _).mono ?_
        rintro e w3 ⟨rfl, hb⟩
        have R4 : Hid (Rx w w3) := (show Rx w _ from R3.out.kept hb)
        clear hb R3 X3 x0 x1 hSm
        by_cases he : S = s
        · obtain ⟨h1, h2⟩ := HHm.out (by first | exact rfl | trivial) he
          have hcm : (S.toList == s.toList) = true := by rw [same15, decide_eq_true he]
          clear HHm HNm he
          subst h1
          subst h2
          go_wp2_with fail
          refine (hL _).mono ?_
          rintro e w4 ⟨rfl, hb⟩
          have R5 : Hid (Rx w w4) := (show Rx w _ from R4.out.kept hb)
          clear hb R4
          have z0 := R5.out.rx.cell 0
          have z1 := R5.out.rx.cell 1
          have f0 := R5.out.rx.free 0
          have f1 := R5.out.rx.free 1
          have HL := R5.out.low
          go_wp2
          refine bodyPost_ret (v := .tuple #[.agg #[.int .i64 ((m : Int) + 1), .string t], .bool true]) (by simp [results, Try.results14, go_sem, z0, z1]) rfl ⟨rfl, (HL.setCell (Nat.le_refl _) _).setCell (Nat.le_refl _) _⟩
        · have hcm : (S.toList == s.toList) = false := by rw [same15, decide_eq_false he]
          have HA : Hid _ := HNm.out (fun h => he h.2)
          clear HHm HNm he
          go_wp2
          go_roundw
          case rel => exact ⟨m + 1, by omega, by go_num, R4, (show ∀ _, _ from fun k h1 h2 h3 h4 => HA.out k h1 (by omega) h3 h4)⟩
          case measure => simp [intOf]; omega
    · obtain rfl : m = 4 := by omega
      obtain ⟨h1, h2⟩ := HN.out (fun k h1 h2 h3 h4 => hno.out k h1 (by omega) h3 h4)
      clear HN HH hO hS hL hno
      subst h1
      subst h2
      have z0 := hR.out.rx.cell 0
      have z1 := hR.out.rx.cell 1
      have f0 := hR.out.rx.free 0
      have f1 := hR.out.rx.free 1
      have HL := hR.out.low
      go_wp2
      refine bodyPost_ret (v := .tuple #[.agg #[.int .i64 0, .string ⟨#[]⟩], .bool false]) (by simp [results, Try.results14, go_sem, z0, z1]) rfl ⟨rfl, (HL.setCell (Nat.le_refl _) _).setCell (Nat.le_refl _) _⟩
end Go.Proofs.Ytkoikofaebfbjaa
