/-
  The walk of the law FnCuts, given what the program's own functions answer.
-/
import Derived.Test.YtamfgjgmnnnjpaaDoorSpnH
import Derived.Test.YtamfgjgmnnnjpaaDoorSpnD
import Derived.Test.YtamfgjgmnnnjpaaDoorSpnE
import Derived.Test.YtamfgjgmnnnjpaaDoorSpnN
import Derived.Test.YtamfgjgmnnnjpaaDoorSpnO
import Derived.Test.YtamfgjgmnnnjpaaDoorPckB
import Derived.Lib.QuietBelow
import Derived.BigQuiet
namespace Go.Proofs.YtamfgjgmnnnjpaaDoor
open Go.RowKit Go.Sort
set_option linter.unusedVariables false

theorem past8q {w w1 w2 : World} (h : Below w.heap.size w w1) (hb : Below w1.heap.size w1 w2) : Below w.heap.size w w2 := h.trans (hb.mono h.size)
theorem code_up8 {w w' : World} {sa : Option Addr} {sl : Nat} (h : Code8 w w.heap.size sa sl) (hb : Below w.heap.size w w') : Code8 w' w'.heap.size sa sl := (h.kept hb (Nat.le_refl _)).up8 hb.size
theorem numV_nn (t : ByteArray) : 0 ≤ numV 10 15 t := (numV_bound t).1
theorem ext8 {a b : ByteArray} (h : a.data.toList = b.data.toList) : a = b := by
  cases a; cases b; simp at h; rw [h]
theorem cut_whole {b : ByteArray} {k : Nat} (h1 : 1 ≤ k) (h2 : k < b.size) : cutS b (0, (k : Int) - 1) ++ cutS b ((k : Int), (b.size : Int) - 1) = b := by
  rw [cutS_yes (spB_iff.2 ⟨by show (0 : Int) ≤ 0; omega, by show (0 : Int) ≤ (k : Int) - 1; omega⟩) (by show (k : Int) - 1 < b.size; omega), cutS_yes (spB_iff.2 ⟨by show (0 : Int) ≤ (k : Int); omega, by show (k : Int) ≤ (b.size : Int) - 1; omega⟩) (by show (b.size : Int) - 1 < b.size; omega)]
  have e1 : ((0 : Int), (k : Int) - 1).1.toNat = 0 := rfl
  have e2 : (((0 : Int), (k : Int) - 1).2 + 1).toNat = k := by show ((k : Int) - 1 + 1).toNat = k; omega
  have e3 : ((k : Int), (b.size : Int) - 1).1.toNat = k := by show (k : Int).toNat = k; omega
  have e4 : (((k : Int), (b.size : Int) - 1).2 + 1).toNat = b.size := by show ((b.size : Int) - 1 + 1).toNat = b.size; omega
  rw [e1, e2, e3, e4]
  have hl : b.data.toList.length = b.size := by simp
  have : (b.extract 0 k ++ b.extract k b.size).data.toList = b.data.toList := by
    simp only [ByteArray.data_append, ByteArray.data_extract, Array.toList_append, Array.toList_extract, List.extract_eq_take_drop]
    simp only [Nat.sub_zero, List.drop_zero]
    rw [List.take_of_length_le (l := b.data.toList.drop k) (by rw [List.length_drop]; omega), List.take_append_drop]
  exact ext8 this
theorem cut_last {b : ByteArray} {k : Nat} (h1 : 1 ≤ k) (h2 : k < b.size) : (cutS b ((b.size : Int) - (k : Int), (b.size : Int) - 1)).size = k := by
  rw [cutS_yes (spB_iff.2 ⟨by show (0 : Int) ≤ (b.size : Int) - (k : Int); omega, by show (b.size : Int) - (k : Int) ≤ (b.size : Int) - 1; omega⟩) (by show (b.size : Int) - 1 < b.size; omega), ByteArray.size_extract]
  show min (((b.size : Int) - 1 + 1).toNat) b.size - ((b.size : Int) - (k : Int)).toNat = k
  omega
theorem cut_size (b : ByteArray) (x : Sp) : (cutS b x).size ≤ b.size := by
  unfold cutS
  split
  · rw [ByteArray.size_extract]; omega
  · exact Nat.zero_le _
theorem like8 (va vb : Value) (l : List Sp) (w : World) (ha : Sls spnE w va l) (hb : Sls spnE w vb l) (hl : l.length ≤ 1048576) :
    Calls Tryd.prog 12 #[va, vb] w fun e w' => e = .returned (.bool true) ∧ Below w.heap.size w w' := (likeSp va vb l w ha hb hl).mono fun _ _ h => ⟨h.1, h.2.low⟩
set_option maxRecDepth 100000 in
set_option maxHeartbeats 8000000 in
theorem fnCt (X : World → Prop) (hX : ∀ w w', X w → Below w.heap.size w w' → X w')
    (hiR : ∀ (s : ByteArray) (n : Int) (w : World), X w → s.size ≤ 1048576 → -9223372036854775808 ≤ n → n ≤ 9223372036854775807 → Calls Tryd.prog 8 #[.string s, .int .i64 n] w fun e w' => ∃ u, e = .returned (.tuple #[u, .bool (decide (0 < (rdS s n).length))]) ∧ HasS8 w' w.heap.size u (rdS s n) ∧ Below w.heap.size w w')
    (hiC : ∀ (b : ByteArray) (x : Sp) (w : World), b.size ≤ 1048576 → InR x → Calls Tryd.prog 13 #[.string b, spV x] w fun e w' => e = .returned (.string (cutS b x)) ∧ Below w.heap.size w w')
    (hiS : ∀ (x : Sp) (n : Int) (w : World), X w → InR x → -9223372036854775808 ≤ n → n ≤ 9223372036854775807 → Calls Tryd.prog 15 #[spV x, .int .i64 n] w fun e w' => e = .returned (.string (shwS x n)) ∧ Below w.heap.size w w')
    (hiM : ∀ (v : Value) (l : List Sp) (w : World), Sls spnE w v l → l.length ≤ 1048576 → (∀ x ∈ l, InR x) → Calls Tryd.prog 19 #[v] w fun e w' => ∃ u, e = .returned u ∧ HasS8 w' w.heap.size u (mgd l) ∧ Below w.heap.size w w')
    (sa : Option Addr) (sl sc : Nat) (zs : List Int) (w : World) (hw : IsRow w sa sl sc zs) (hx : X w) :
    Calls Tryd.prog 3 #[.slice sa sl sc] w fun e w' => e = .returned (.bool true) ∧ Below w.heap.size w w' := by
  by_cases hbig : 4096 < sl
  · have hlen := hw.len
    clear hw
    go_enter Tryd.func3, Tryd.ntmps3
    go_wp2_with (go_at_call 6; refine (isBig sa sl sc _ hbig hlen).mono ?_; rintro e w1 ⟨rfl, rfl⟩)
    go_ret
    exact ⟨rfl, Below.refl _ _⟩
  · have hl : sl ≤ 4096 := by omega
    have h8 : Hid (Code8 w w.heap.size sa sl) := hw.code.code
    have XX : Hid (∀ W, Below w.heap.size w W → X W) := fun W hb => hX w W hx hb
    clear hw hbig hx hX
    go_enter Tryd.func3, Tryd.ntmps3
    go_wp2_with fail
    refine (notBig sa sl sc _ hl).mono ?_
    rintro e w0 ⟨rfl, rfl⟩
    go_wp2_with fail
    refine (drawRS sa sl sc _ h8.out hl).mono ?_
    rintro e w1 ⟨⟨s, n, rfl, hs, hn0, hn1⟩, hb1⟩
    have B1 : Hid (Below w.heap.size w w1) := hb1
    have iR := fun W (hb : Below w.heap.size w W) => hiR s n W (XX.out W hb) (by omega) (by omega) (by omega)
    have sR := fun W => specRS s n W (by unfold maxLen; omega) (by omega) (by omega)
    have hRl := rdS_length s n
    have hRin : Hid (∀ x ∈ rdS s n, 0 ≤ x.1 ∧ x.1 ≤ x.2 ∧ x.2 < n) := rdS_in numV_nn
    generalize rdS s n = R at iR sR hRl hRin
    generalize hB : decide (0 < R.length) = B at iR sR
    clear hb1
    go_wp2_with fail
    refine (iR _ B1.out).mono ?_
    rintro e w2 ⟨u5, rfl, hu5, hb2⟩
    have B2 : Hid (Below w.heap.size w w2) := past8q B1.out hb2
    have U2 : Hid (Sls spnE w2 u5 R) := hu5.sls
    obtain ⟨a5, c5, rfl, _, hc5, _⟩ := hu5.form
    clear hb2 hu5 B1 iR
    go_wp2_with fail
    refine (drawCut sa sl sc _ (code_up8 h8.out B2.out) hl).mono ?_
    rintro e w3 ⟨⟨t, c, rfl, ht, hc⟩, hb3⟩
    have B3' : Hid (Below w.heap.size w w3) := past8q B2.out hb3
    have B3 : Hid (Below w.heap.size w (w3.alloc (.cells #[.int .i64 c.1, .int .i64 c.2] 30))) := B3'.out.alloc B3'.out.size _
    have U3 : Hid (Sls spnE (w3.alloc (.cells #[.int .i64 c.1, .int .i64 c.2] 30)) (.slice a5 R.length c5) R) := (U2.out.kept hb3).kept ((Below.refl _ w3).alloc (Nat.le_refl _) _)
    have K3 : Hid (SpBk (w3.alloc (.cells #[.int .i64 c.1, .int .i64 c.2] 30)) w3.heap.size c) := SpBk.new w3 c 30
    unfold spV
    clear hb3 B2 U2 B3'
    go_wp2_with fail
    refine (drawShw sa sl sc _ (code_up8 h8.out B3.out) hl).mono ?_
    rintro e w4 ⟨⟨d, m, rfl, hd, hm0, hm1⟩, hb4⟩
    have B4' : Hid (Below w.heap.size w w4) := past8q B3.out hb4
    have B4 : Hid (Below w.heap.size w (w4.alloc (.cells #[.int .i64 d.1, .int .i64 d.2] 30))) := B4'.out.alloc B4'.out.size _
    have U4 : Hid (Sls spnE (w4.alloc (.cells #[.int .i64 d.1, .int .i64 d.2] 30)) (.slice a5 R.length c5) R) := (U3.out.kept hb4).kept ((Below.refl _ w4).alloc (Nat.le_refl _) _)
    have K4 : Hid (SpBk (w4.alloc (.cells #[.int .i64 d.1, .int .i64 d.2] 30)) w3.heap.size c) := (K3.out.kept hb4).alloc _
    have D4 : Hid (SpBk (w4.alloc (.cells #[.int .i64 d.1, .int .i64 d.2] 30)) w4.heap.size d) := SpBk.new w4 d 30
    unfold spV
    clear hb4 B3 U3 K3 B4'
    go_wp2_with fail
    refine (sR _).mono ?_
    rintro e w5 ⟨r0, rfl, hr0, hb5⟩
    have B5 : Hid (Below w.heap.size w w5) := past8q B4.out hb5
    have U5 : Hid (Sls spnE w5 (.slice a5 R.length c5) R) := U4.out.kept hb5
    have R5 : Hid (Sls spnE w5 r0 R) := hr0.sls
    have K5 : Hid (SpBk w5 w3.heap.size c) := K4.out.kept hb5
    have D5 : Hid (SpBk w5 w4.heap.size d) := D4.out.kept hb5
    have iC := fun W => hiC t c W (by omega) hc
    have sC := fun W => specCut t c W (by unfold maxLen; omega) hc
    have iS := fun W (hb : Below w.heap.size w W) => hiS d m W (XX.out W hb) hd (by omega) (by omega)
    have sS := fun W => specShw d m W hd (by omega)
    generalize cutS t c = C1 at iC sC
    generalize shwS d m = S1 at iS sS
    unfold spV at iC sC iS sS
    have dC : (C1.toList == C1.toList) = true := by simp
    have dS : (S1.toList == S1.toList) = true := by simp
    have dB : (B != B) = false := by simp
    clear hb5 hr0 B4 U4 K4 D4 sR
    go_wp2
    have k0 := cell_regrown K5.out.c0
    have k1 := cell_regrown K5.out.c1
    have l0 := cell_regrown D5.out.c0
    have l1 := cell_regrown D5.out.c1
    have cA : ∀ q os, Calls Tryd.prog 12 #[.slice a5 R.length c5, r0] (grow (redrawn w5 q) os) fun e w'' => e = .returned (.bool true) ∧ ∃ p : Regrown, w'' = grow (redrawn w5 p.d) p.os := fun q os => Calls.regrown_of (like8 _ _ R _ (U5.out.kept (below_regrown w5 q os)) (R5.out.kept (below_regrown w5 q os)) (by omega))
    have cB : ∀ q os, Calls Tryd.prog 13 #[.string t, .agg #[.int .i64 c.1, .int .i64 c.2]] (grow (redrawn w5 q) os) fun e w'' => e = .returned (.string C1) ∧ ∃ p : Regrown, w'' = grow (redrawn w5 p.d) p.os := fun q os => Calls.regrown_of (iC _)
    have cC : ∀ q os, Calls Tryd.prog 14 #[.string t, .agg #[.int .i64 c.1, .int .i64 c.2]] (grow (redrawn w5 q) os) fun e w'' => e = .returned (.string C1) ∧ ∃ p : Regrown, w'' = grow (redrawn w5 p.d) p.os := fun q os => Calls.regrown_of (sC _)
    have cD : ∀ q os, Calls Tryd.prog 15 #[.agg #[.int .i64 d.1, .int .i64 d.2], .int .i64 m] (grow (redrawn w5 q) os) fun e w'' => e = .returned (.string S1) ∧ ∃ p : Regrown, w'' = grow (redrawn w5 p.d) p.os := fun q os => Calls.regrown_of (iS _ (past8q B5.out (below_regrown w5 q os)))
    have cE : ∀ q os, Calls Tryd.prog 16 #[.agg #[.int .i64 d.1, .int .i64 d.2], .int .i64 m] (grow (redrawn w5 q) os) fun e w'' => e = .returned (.string S1) ∧ ∃ p : Regrown, w'' = grow (redrawn w5 p.d) p.os := fun q os => Calls.regrown_of (sS _)
    clear iC sC iS sS
    refine wp_region_quiet_below (by kernel_rfl) (by kernel_rfl) ?_
    repeat (go_big_quiet_step (first | (with_reducible exact cA _ _) | (with_reducible exact cB _ _) | (with_reducible exact cC _ _) | (with_reducible exact cD _ _) | (with_reducible exact cE _ _)))
    refine wpQuiet_nil ?_
    intro _ hw'
    obtain ⟨⟨dq, osq⟩, hw''⟩ := hw'
    subst hw''
    have B6 : Hid (Below w.heap.size w (grow (redrawn w5 dq) osq)) := past8q B5.out (below_regrown w5 dq osq)
    have U6 : Hid (Sls spnE (grow (redrawn w5 dq) osq) (.slice a5 R.length c5) R) := U5.out.kept (below_regrown w5 dq osq)
    generalize grow (redrawn w5 dq) osq = w6 at B6 U6 ⊢
    clear cA cB cC cD cE k0 k1 l0 l1 K5 D5 B5 U5 R5
    have HB : Hid (decide (0 < R.length) = B) := hB
    obtain ⟨_, _, eU, _, _, q5⟩ := U6.out.two
    injection eU with e51 e52 e53
    subst e51 e53
    have Q5 : Hid (∀ j (hj : j < R.length), ∃ g o, a5 = some ⟨g, o, Option.none⟩ ∧ g < w6.heap.size ∧ w6.cell? ⟨g, o + j * 2, Option.none⟩ = some (.int .i64 R[j].1) ∧ w6.cell? ⟨g, o + j * 2 + 1, Option.none⟩ = some (.int .i64 R[j].2)) := fun j hj => by
      obtain ⟨g, o, ha, hg, hc⟩ := q5 (by omega)
      exact ⟨g, o, ha, hg, hc j hj⟩
    clear q5 e52 U6 hB
    go_wp2
    go_loopw [13] (fun i wr => ∃ (j : Nat), j ≤ R.length ∧ i = .int .i64 j ∧ Hid (Below w6.heap.size w6 wr)) (fun i _ => R.length - (intOf i).toNat)
    case atStart => exact ⟨0, Nat.zero_le _, rfl, Below.refl _ _⟩
    case round =>
      obtain ⟨j, hj, rfl, hb⟩ := hrel
      by_cases hlt : j < R.length
      · obtain ⟨g, o, rfl, hg, e1, e2⟩ := Q5.out j hlt
        have e1 := (hb.out.cell (p := ⟨g, o + j * 2, Option.none⟩) hg).trans e1
        have e2 := (hb.out.cell (p := ⟨g, o + j * 2 + 1, Option.none⟩) hg).trans e2
        have hx := hRin.out R[j] (List.getElem_mem hlt)
        generalize R[j] = x at e1 e2 hx
        obtain ⟨x1, x2⟩ := x
        simp only at e1 e2 hx
        have f1 : decide (x1 < 0) = false := decide_eq_false (by omega)
        have f2 : decide (x2 < x1) = false := decide_eq_false (by omega)
        have f3 : decide (n ≤ x2) = false := decide_eq_false (by omega)
        go_wp2
        have k1 := cell_regrown e1
        have k2 := cell_regrown e2
        refine wp_region_quiet_below (by kernel_rfl) (by kernel_rfl) ?_
        repeat (go_big_quiet_step (fail))
        refine wpQuiet_nil ?_
        intro _ hw'
        obtain ⟨⟨dq, osq⟩, hw''⟩ := hw'
        subst hw''
        have b2 : Hid (Below w6.heap.size w6 (grow (redrawn wr dq) osq)) := past8q hb.out (below_regrown wr dq osq)
        generalize grow (redrawn wr dq) osq = w7 at b2 ⊢
        clear k1 k2 e1 e2 hb
        go_wp2
        go_roundw
        case rel => exact ⟨j + 1, by omega, by go_num, b2⟩
        case measure => simp [intOf]; omega
      · obtain ⟨w7, rfl⟩ : ∃ x, x = wr := ⟨wr, rfl⟩
        obtain rfl : j = R.length := by omega
        have B7 : Hid (Below w.heap.size w w7) := past8q B6.out hb.out
        clear hb B6 Q5 hRin
        obtain ⟨dR, hdR⟩ : ∃ b : Bool, decide ((0 : Int) < (R.length : Int)) = b := ⟨_, rfl⟩
        have hdN : decide (0 < R.length) = dR := by rw [← hdR, pos_len]
        obtain rfl : B = dR := by rw [← hdN]; exact HB.out.symm
        have hpos : (B = true ∧ 0 < R.length) ∨ (B = false ∧ ¬ 0 < R.length) := by
          cases B with
          | true => exact .inl ⟨rfl, of_decide_eq_true hdN⟩
          | false => exact .inr ⟨rfl, of_decide_eq_false hdN⟩
        clear HB hdN hdR
        have key : True := trivial
        rcases hpos with ⟨rfl, hR0⟩ | ⟨rfl, hR0⟩
        · have dR1 : decide ((0 : Int) < (R.length : Int)) = true := decide_eq_true (by omega)
          have dR2 : decide (0 < R.length) = true := decide_eq_true hR0
          by_cases hL : t.size < 2
          · have dL : decide ((t.size : Int) < 2) = true := decide_eq_true (by omega)
            go_wp2
            go_ret
            exact ⟨rfl, B7.out⟩
          · have dL : decide ((t.size : Int) < 2) = false := decide_eq_false (by omega)
            have eL : IntKind.i64.wrap ((t.size : Int) - 1) = (t.size : Int) - 1 := by rw [IntKind.wrap_i64]; omega
            have hp := fun W hW => pick8 sa sl sc (t.size - 1) (by omega) (by omega) W hW hl
            rw [show ((t.size - 1 : Nat) : Int) = (t.size : Int) - 1 by omega] at hp
            go_wp2_with fail
            refine (hp _ (code_up8 h8.out B7.out)).mono ?_
            rintro e w8 ⟨⟨r, rfl, hr⟩, rfl⟩
            clear hp
            have hin1 : InR (0, (r : Int)) := ⟨⟨by show (-9223372036854775808 : Int) ≤ 0; omega, by show (0 : Int) ≤ 9223372036854775807; omega⟩, by show _ ≤ (r : Int); omega, by show (r : Int) ≤ _; omega⟩
            have hin2 : InR (1 + (r : Int), (t.size : Int) - 1) := ⟨⟨by show _ ≤ 1 + (r : Int); omega, by show 1 + (r : Int) ≤ _; omega⟩, by show _ ≤ (t.size : Int) - 1; omega, by show (t.size : Int) - 1 ≤ _; omega⟩
            have hin3 : InR ((t.size : Int) - (1 + (r : Int)), (t.size : Int) - 1) := ⟨⟨by show _ ≤ (t.size : Int) - (1 + (r : Int)); omega, by show (t.size : Int) - (1 + (r : Int)) ≤ _; omega⟩, by show _ ≤ (t.size : Int) - 1; omega, by show (t.size : Int) - 1 ≤ _; omega⟩
            have iC1 := fun W => hiC t (0, (r : Int)) W (by omega) hin1
            have iC2 := fun W => hiC t (1 + (r : Int), (t.size : Int) - 1) W (by omega) hin2
            have iC3 := fun W => hiC t ((t.size : Int) - (1 + (r : Int)), (t.size : Int) - 1) W (by omega) hin3
            have ek : ((r + 1 : Nat) : Int) = 1 + (r : Int) := by omega
            have ek1 : ((r + 1 : Nat) : Int) - 1 = (r : Int) := by omega
            have hcw := cut_whole (b := t) (k := r + 1) (by omega) (by omega)
            have hcl := cut_last (b := t) (k := r + 1) (by omega) (by omega)
            rw [ek1, ek] at hcw
            rw [ek] at hcl
            have hz1 := cut_size t (0, (r : Int))
            have hz2 := cut_size t (1 + (r : Int), (t.size : Int) - 1)
            have hT1 : rdS ((⟨#[98, 121, 116, 101, 115, 61, 48, 45]⟩ : ByteArray) ++ itoS r ++ (⟨#[44, 32]⟩ : ByteArray) ++ itoS (r + 1) ++ (⟨#[45]⟩ : ByteArray)) (t.size : Int) = [(0, (r : Int)), (1 + (r : Int), (t.size : Int) - 1)] := by
              have := tx1_all ⟨r + 1, by omega⟩ ⟨t.size, by omega⟩ (by simp) (by simp; omega)
              unfold tx1 at this
              simp only [Nat.add_sub_cancel] at this
              rw [itoS_small (by omega), itoS_small (by omega), this, ek1, ek]
            have hT2 : rdS ((⟨#[98, 121, 116, 101, 115, 61, 45]⟩ : ByteArray) ++ itoS (r + 1)) (t.size : Int) = [((t.size : Int) - (1 + (r : Int)), (t.size : Int) - 1)] := by
              have := tx2_all ⟨r + 1, by omega⟩ ⟨t.size, by omega⟩ (by simp) (by simp; omega)
              unfold tx2 at this
              simp only at this
              rw [itoS_small (by omega), this, ek]
            have hMM : (mgd [(0, (r : Int)), (1 + (r : Int), (t.size : Int) - 1)]).length = 1 := by
              have := mg_all ⟨r + 1, by omega⟩ ⟨t.size, by omega⟩ (by simp) (by simp; omega)
              simp only [ek1] at this
              rw [ek] at this
              exact this
            have hd1 := fun W => lawDig r W (by omega)
            have hd2 := fun W => lawDig (r + 1) W (by omega)
            rw [ek] at hd2
            have y1 := itoS_size (n := r) (by omega)
            have y2 := itoS_size (n := r + 1) (by omega)
            have iR1 := fun W (hb : Below w.heap.size w W) => hiR ((⟨#[98, 121, 116, 101, 115, 61, 48, 45]⟩ : ByteArray) ++ itoS r ++ (⟨#[44, 32]⟩ : ByteArray) ++ itoS (r + 1) ++ (⟨#[45]⟩ : ByteArray)) (t.size : Int) W (XX.out W hb) (by simp only [ByteArray.size_append]; show 8 + _ + 2 + _ + 1 ≤ _; omega) (by omega) (by omega)
            have iR2 := fun W (hb : Below w.heap.size w W) => hiR ((⟨#[98, 121, 116, 101, 115, 61, 45]⟩ : ByteArray) ++ itoS (r + 1)) (t.size : Int) W (XX.out W hb) (by simp only [ByteArray.size_append]; show 7 + _ ≤ _; omega) (by omega) (by omega)
            rw [hT1] at iR1
            rw [hT2] at iR2
            have iM := fun v W hW => hiM v [(0, (r : Int)), (1 + (r : Int), (t.size : Int) - 1)] W hW (by simp) (by intro x hx; simp at hx; rcases hx with rfl | rfl; exact hin1; exact hin2)
            unfold spV at iC1 iC2 iC3
            generalize itoS r = s1 at hd1 y1 iR1
            generalize itoS (r + 1) = s2 at hd2 y2 iR1 iR2
            generalize cutS t (0, (r : Int)) = C2 at iC1 hcw hz1
            generalize cutS t (1 + (r : Int), (t.size : Int) - 1) = C3 at iC2 hcw hz2
            generalize cutS t ((t.size : Int) - (1 + (r : Int)), (t.size : Int) - 1) = C4 at iC3 hcl
            generalize mgd [(0, (r : Int)), (1 + (r : Int), (t.size : Int) - 1)] = MM at iM hMM
            have er : IntKind.i64.wrap (1 + (r : Int)) = 1 + (r : Int) := by rw [IntKind.wrap_i64]; omega
            have er2 : IntKind.i64.wrap (1 + (r : Int) - 1) = (r : Int) := by rw [IntKind.wrap_i64]; omega
            have u1 : ((⟨#[98, 121, 116, 101, 115, 61, 48, 45]⟩ : ByteArray) ++ s1).size = 8 + s1.size := by rw [ByteArray.size_append]; rfl
            have u2 : ((⟨#[98, 121, 116, 101, 115, 61, 48, 45]⟩ : ByteArray) ++ s1 ++ (⟨#[44, 32]⟩ : ByteArray)).size = 8 + s1.size + 2 := by rw [ByteArray.size_append, u1]; rfl
            have u3 : ((⟨#[98, 121, 116, 101, 115, 61, 48, 45]⟩ : ByteArray) ++ s1 ++ (⟨#[44, 32]⟩ : ByteArray) ++ s2).size = 8 + s1.size + 2 + s2.size := by rw [ByteArray.size_append, u2]
            have dxb : ((C2 ++ C3).toList == t.toList) = true := by rw [hcw]; simp
            have dC4 : ((C4.size : Int) == 1 + (r : Int)) = true := by rw [hcl]; simp; omega
            clear hcw hin1 hin2 hin3 hT1 hT2
            go_wp2_with fail
            refine (iC1 _).mono ?_
            rintro e w9 ⟨rfl, hb9⟩
            have B9 : Hid (Below w.heap.size w w9) := past8q B7.out hb9
            clear hb9 B7 iC1
            go_wp2_with fail
            refine (iC2 _).mono ?_
            rintro e wa ⟨rfl, hba⟩
            have BA : Hid (Below w.heap.size w wa) := past8q B9.out hba
            clear hba B9 iC2
            go_wp2_with fail
            refine (hd1 _).mono ?_
            rintro e wb ⟨rfl, hbb⟩
            have BB : Hid (Below w.heap.size w wb) := past8q BA.out hbb
            clear hbb BA hd1
            go_wp2_with fail
            refine (hd2 _).mono ?_
            rintro e wc ⟨rfl, hbc⟩
            have BC : Hid (Below w.heap.size w wc) := past8q BB.out hbc
            clear hbc BB
            go_wp2_with fail
            refine (iR1 _ BC.out).mono ?_
            rintro e wd ⟨ua, rfl, hua, hbd⟩
            have BD : Hid (Below w.heap.size w wd) := past8q BC.out hbd
            have UA : Hid (Sls spnE wd ua [(0, (r : Int)), (1 + (r : Int), (t.size : Int) - 1)]) := hua.sls
            clear hbd hua BC iR1
            go_wp2_with fail
            refine (hd2 _).mono ?_
            rintro e we ⟨rfl, hbe⟩
            have BE : Hid (Below w.heap.size w we) := past8q BD.out hbe
            have UE : Hid (Sls spnE we ua [(0, (r : Int)), (1 + (r : Int), (t.size : Int) - 1)]) := UA.out.kept hbe
            clear hbe BD UA hd2
            go_wp2_with fail
            refine (iR2 _ BE.out).mono ?_
            rintro e wf ⟨ub, rfl, hub, hbf⟩
            have BF : Hid (Below w.heap.size w wf) := past8q BE.out hbf
            have UF : Hid (Sls spnE wf ua [(0, (r : Int)), (1 + (r : Int), (t.size : Int) - 1)]) := UE.out.kept hbf
            have VF : Hid (HasS8 wf we.heap.size ub [((t.size : Int) - (1 + (r : Int)), (t.size : Int) - 1)]) := hub
            clear hbf hub BE UE iR2
            obtain ⟨ab, cb, rfl, _, _, hg⟩ := VF.out.form
            obtain ⟨gb, rfl⟩ := hg (by simp)
            clear hg
            simp only [List.length_cons, List.length_nil, Nat.zero_add] at VF ⊢
            go_wp2_with fail
            refine (iM _ _ UF.out).mono ?_
            rintro e wg ⟨um, rfl, hum, hbg⟩
            have BG : Hid (Below w.heap.size w wg) := past8q BF.out hbg
            obtain ⟨e1, e2⟩ := hasS_at (VF.out.kept hbg) 0 (by simp)
            simp only [Nat.zero_mul, Nat.zero_add, List.getElem_cons_zero] at e1 e2
            obtain ⟨am, cm, rfl, _, _, _⟩ := hum.form
            rw [hMM]
            clear hbg hum BF UF VF iM
            go_wp2_with fail
            refine (iC3 _).mono ?_
            rintro e wh ⟨rfl, hbh⟩
            have BH : Hid (Below w.heap.size w wh) := past8q BG.out hbh
            clear hbh BG e1 e2
            go_wp2
            go_ret
            exact ⟨rfl, BH.out⟩
        · have dR1 : decide ((0 : Int) < (R.length : Int)) = false := decide_eq_false (by omega)
          have dR2 : decide (0 < R.length) = false := decide_eq_false hR0
          by_cases hL : t.size < 2
          · have dL : decide ((t.size : Int) < 2) = true := decide_eq_true (by omega)
            go_wp2
            go_ret
            exact ⟨rfl, B7.out⟩
          · have dL : decide ((t.size : Int) < 2) = false := decide_eq_false (by omega)
            have eL : IntKind.i64.wrap ((t.size : Int) - 1) = (t.size : Int) - 1 := by rw [IntKind.wrap_i64]; omega
            have hp := fun W hW => pick8 sa sl sc (t.size - 1) (by omega) (by omega) W hW hl
            rw [show ((t.size - 1 : Nat) : Int) = (t.size : Int) - 1 by omega] at hp
            go_wp2_with fail
            refine (hp _ (code_up8 h8.out B7.out)).mono ?_
            rintro e w8 ⟨⟨r, rfl, hr⟩, rfl⟩
            clear hp
            have hin1 : InR (0, (r : Int)) := ⟨⟨by show (-9223372036854775808 : Int) ≤ 0; omega, by show (0 : Int) ≤ 9223372036854775807; omega⟩, by show _ ≤ (r : Int); omega, by show (r : Int) ≤ _; omega⟩
            have hin2 : InR (1 + (r : Int), (t.size : Int) - 1) := ⟨⟨by show _ ≤ 1 + (r : Int); omega, by show 1 + (r : Int) ≤ _; omega⟩, by show _ ≤ (t.size : Int) - 1; omega, by show (t.size : Int) - 1 ≤ _; omega⟩
            have hin3 : InR ((t.size : Int) - (1 + (r : Int)), (t.size : Int) - 1) := ⟨⟨by show _ ≤ (t.size : Int) - (1 + (r : Int)); omega, by show (t.size : Int) - (1 + (r : Int)) ≤ _; omega⟩, by show _ ≤ (t.size : Int) - 1; omega, by show (t.size : Int) - 1 ≤ _; omega⟩
            have iC1 := fun W => hiC t (0, (r : Int)) W (by omega) hin1
            have iC2 := fun W => hiC t (1 + (r : Int), (t.size : Int) - 1) W (by omega) hin2
            have iC3 := fun W => hiC t ((t.size : Int) - (1 + (r : Int)), (t.size : Int) - 1) W (by omega) hin3
            have ek : ((r + 1 : Nat) : Int) = 1 + (r : Int) := by omega
            have ek1 : ((r + 1 : Nat) : Int) - 1 = (r : Int) := by omega
            have hcw := cut_whole (b := t) (k := r + 1) (by omega) (by omega)
            have hcl := cut_last (b := t) (k := r + 1) (by omega) (by omega)
            rw [ek1, ek] at hcw
            rw [ek] at hcl
            have hz1 := cut_size t (0, (r : Int))
            have hz2 := cut_size t (1 + (r : Int), (t.size : Int) - 1)
            have hT1 : rdS ((⟨#[98, 121, 116, 101, 115, 61, 48, 45]⟩ : ByteArray) ++ itoS r ++ (⟨#[44, 32]⟩ : ByteArray) ++ itoS (r + 1) ++ (⟨#[45]⟩ : ByteArray)) (t.size : Int) = [(0, (r : Int)), (1 + (r : Int), (t.size : Int) - 1)] := by
              have := tx1_all ⟨r + 1, by omega⟩ ⟨t.size, by omega⟩ (by simp) (by simp; omega)
              unfold tx1 at this
              simp only [Nat.add_sub_cancel] at this
              rw [itoS_small (by omega), itoS_small (by omega), this, ek1, ek]
            have hT2 : rdS ((⟨#[98, 121, 116, 101, 115, 61, 45]⟩ : ByteArray) ++ itoS (r + 1)) (t.size : Int) = [((t.size : Int) - (1 + (r : Int)), (t.size : Int) - 1)] := by
              have := tx2_all ⟨r + 1, by omega⟩ ⟨t.size, by omega⟩ (by simp) (by simp; omega)
              unfold tx2 at this
              simp only at this
              rw [itoS_small (by omega), this, ek]
            have hMM : (mgd [(0, (r : Int)), (1 + (r : Int), (t.size : Int) - 1)]).length = 1 := by
              have := mg_all ⟨r + 1, by omega⟩ ⟨t.size, by omega⟩ (by simp) (by simp; omega)
              simp only [ek1] at this
              rw [ek] at this
              exact this
            have hd1 := fun W => lawDig r W (by omega)
            have hd2 := fun W => lawDig (r + 1) W (by omega)
            rw [ek] at hd2
            have y1 := itoS_size (n := r) (by omega)
            have y2 := itoS_size (n := r + 1) (by omega)
            have iR1 := fun W (hb : Below w.heap.size w W) => hiR ((⟨#[98, 121, 116, 101, 115, 61, 48, 45]⟩ : ByteArray) ++ itoS r ++ (⟨#[44, 32]⟩ : ByteArray) ++ itoS (r + 1) ++ (⟨#[45]⟩ : ByteArray)) (t.size : Int) W (XX.out W hb) (by simp only [ByteArray.size_append]; show 8 + _ + 2 + _ + 1 ≤ _; omega) (by omega) (by omega)
            have iR2 := fun W (hb : Below w.heap.size w W) => hiR ((⟨#[98, 121, 116, 101, 115, 61, 45]⟩ : ByteArray) ++ itoS (r + 1)) (t.size : Int) W (XX.out W hb) (by simp only [ByteArray.size_append]; show 7 + _ ≤ _; omega) (by omega) (by omega)
            rw [hT1] at iR1
            rw [hT2] at iR2
            have iM := fun v W hW => hiM v [(0, (r : Int)), (1 + (r : Int), (t.size : Int) - 1)] W hW (by simp) (by intro x hx; simp at hx; rcases hx with rfl | rfl; exact hin1; exact hin2)
            unfold spV at iC1 iC2 iC3
            generalize itoS r = s1 at hd1 y1 iR1
            generalize itoS (r + 1) = s2 at hd2 y2 iR1 iR2
            generalize cutS t (0, (r : Int)) = C2 at iC1 hcw hz1
            generalize cutS t (1 + (r : Int), (t.size : Int) - 1) = C3 at iC2 hcw hz2
            generalize cutS t ((t.size : Int) - (1 + (r : Int)), (t.size : Int) - 1) = C4 at iC3 hcl
            generalize mgd [(0, (r : Int)), (1 + (r : Int), (t.size : Int) - 1)] = MM at iM hMM
            have er : IntKind.i64.wrap (1 + (r : Int)) = 1 + (r : Int) := by rw [IntKind.wrap_i64]; omega
            have er2 : IntKind.i64.wrap (1 + (r : Int) - 1) = (r : Int) := by rw [IntKind.wrap_i64]; omega
            have u1 : ((⟨#[98, 121, 116, 101, 115, 61, 48, 45]⟩ : ByteArray) ++ s1).size = 8 + s1.size := by rw [ByteArray.size_append]; rfl
            have u2 : ((⟨#[98, 121, 116, 101, 115, 61, 48, 45]⟩ : ByteArray) ++ s1 ++ (⟨#[44, 32]⟩ : ByteArray)).size = 8 + s1.size + 2 := by rw [ByteArray.size_append, u1]; rfl
            have u3 : ((⟨#[98, 121, 116, 101, 115, 61, 48, 45]⟩ : ByteArray) ++ s1 ++ (⟨#[44, 32]⟩ : ByteArray) ++ s2).size = 8 + s1.size + 2 + s2.size := by rw [ByteArray.size_append, u2]
            have dxb : ((C2 ++ C3).toList == t.toList) = true := by rw [hcw]; simp
            have dC4 : ((C4.size : Int) == 1 + (r : Int)) = true := by rw [hcl]; simp; omega
            clear hcw hin1 hin2 hin3 hT1 hT2
            go_wp2_with fail
            refine (iC1 _).mono ?_
            rintro e w9 ⟨rfl, hb9⟩
            have B9 : Hid (Below w.heap.size w w9) := past8q B7.out hb9
            clear hb9 B7 iC1
            go_wp2_with fail
            refine (iC2 _).mono ?_
            rintro e wa ⟨rfl, hba⟩
            have BA : Hid (Below w.heap.size w wa) := past8q B9.out hba
            clear hba B9 iC2
            go_wp2_with fail
            refine (hd1 _).mono ?_
            rintro e wb ⟨rfl, hbb⟩
            have BB : Hid (Below w.heap.size w wb) := past8q BA.out hbb
            clear hbb BA hd1
            go_wp2_with fail
            refine (hd2 _).mono ?_
            rintro e wc ⟨rfl, hbc⟩
            have BC : Hid (Below w.heap.size w wc) := past8q BB.out hbc
            clear hbc BB
            go_wp2_with fail
            refine (iR1 _ BC.out).mono ?_
            rintro e wd ⟨ua, rfl, hua, hbd⟩
            have BD : Hid (Below w.heap.size w wd) := past8q BC.out hbd
            have UA : Hid (Sls spnE wd ua [(0, (r : Int)), (1 + (r : Int), (t.size : Int) - 1)]) := hua.sls
            clear hbd hua BC iR1
            go_wp2_with fail
            refine (hd2 _).mono ?_
            rintro e we ⟨rfl, hbe⟩
            have BE : Hid (Below w.heap.size w we) := past8q BD.out hbe
            have UE : Hid (Sls spnE we ua [(0, (r : Int)), (1 + (r : Int), (t.size : Int) - 1)]) := UA.out.kept hbe
            clear hbe BD UA hd2
            go_wp2_with fail
            refine (iR2 _ BE.out).mono ?_
            rintro e wf ⟨ub, rfl, hub, hbf⟩
            have BF : Hid (Below w.heap.size w wf) := past8q BE.out hbf
            have UF : Hid (Sls spnE wf ua [(0, (r : Int)), (1 + (r : Int), (t.size : Int) - 1)]) := UE.out.kept hbf
            have VF : Hid (HasS8 wf we.heap.size ub [((t.size : Int) - (1 + (r : Int)), (t.size : Int) - 1)]) := hub
            clear hbf hub BE UE iR2
            obtain ⟨ab, cb, rfl, _, _, hg⟩ := VF.out.form
            obtain ⟨gb, rfl⟩ := hg (by simp)
            clear hg
            simp only [List.length_cons, List.length_nil, Nat.zero_add] at VF ⊢
            go_wp2_with fail
            refine (iM _ _ UF.out).mono ?_
            rintro e wg ⟨um, rfl, hum, hbg⟩
            have BG : Hid (Below w.heap.size w wg) := past8q BF.out hbg
            obtain ⟨e1, e2⟩ := hasS_at (VF.out.kept hbg) 0 (by simp)
            simp only [Nat.zero_mul, Nat.zero_add, List.getElem_cons_zero] at e1 e2
            obtain ⟨am, cm, rfl, _, _, _⟩ := hum.form
            rw [hMM]
            clear hbg hum BF UF VF iM
            go_wp2_with fail
            refine (iC3 _).mono ?_
            rintro e wh ⟨rfl, hbh⟩
            have BH : Hid (Below w.heap.size w wh) := past8q BG.out hbh
            clear hbh BG e1 e2
            go_wp2
            go_ret
            exact ⟨rfl, BH.out⟩
end Go.Proofs.YtamfgjgmnnnjpaaDoor
